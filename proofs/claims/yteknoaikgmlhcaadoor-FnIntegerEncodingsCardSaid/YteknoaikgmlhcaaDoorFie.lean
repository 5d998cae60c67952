/-
  FnIntegerEncodings: the calls of the law, each by what the law needs of it.
-/
import Derived.Test.YteknoaikgmlhcaaDoorFieP
namespace Go.Proofs.YteknoaikgmlhcaaDoor
open Go.RowKit

theorem big_any (w : World) (a : Option Addr) (len cap : Nat) (hl : len ≤ 9223372036854775807) :
    Calls Tryd.prog 6 #[.slice a len cap] w fun e w' => e = .returned (.bool (decide (1048576 < (len : Int)))) ∧ w = w' := by
  go_enter Tryd.func6, Tryd.ntmps6
  go_wp2
  go_ret
  exact ⟨rfl, rfl⟩

theorem encv_y (m : Nat) (w : World) (h : m ≤ 562949953421311) :
    Calls Tryd.prog 9 #[.int .i64 m] w fun e w' => ∃ s : ByteArray, e = .returned (.string s) ∧ s.data.toList = vb m ∧ Below w.heap.size w w' :=
  (encvi_yes m w h).mono fun e w' ⟨he, hb⟩ => ⟨_, he, by simp, hb⟩

/-- Width and number fit. -/
def FOk (v m : Int) : Prop := 1 ≤ m ∧ m ≤ 7 ∧ 0 ≤ v ∧ v.toNat / 256 ^ m.toNat = 0
theorem encf_y (v m : Nat) (w : World) (hv : v ≤ 9223372036854775807) (h1 : 1 ≤ m) (h7 : m ≤ 7) (h : v / 256 ^ m = 0) :
    Calls Tryd.prog 12 #[.int .i64 v, .int .i64 m] w fun e w' => ∃ s : ByteArray, e = .returned (.string s) ∧ s.data.toList = lb v m ∧ Below w.heap.size w w' :=
  (encfi_yes v m w hv h1 h7 h).mono fun e w' ⟨he, hb⟩ => ⟨_, he, by simp, hb⟩
theorem encfs_y (v m : Nat) (w : World) (hv : v ≤ 9223372036854775807) (h1 : 1 ≤ m) (h7 : m ≤ 7) (h : v / 256 ^ m = 0) :
    Calls Tryd.prog 14 #[.int .i64 v, .int .i64 m] w fun e w' => ∃ s : ByteArray, e = .returned (.string s) ∧ s.data.toList = lb v m ∧ Below w.heap.size w w' :=
  (encfs_yes v m w hv h1 h7).mono fun e w' ⟨he, hb⟩ => ⟨_, he, by simp [fixE, h], hb⟩
theorem encf_n (v m : Int) (w : World) (hv : isI64 v) (h : ¬ FOk v m) :
    Calls Tryd.prog 12 #[.int .i64 v, .int .i64 m] w fun e w' => e = .returned (.string ⟨#[]⟩) ∧ w = w' := by
  by_cases hm : 1 ≤ m ∧ m ≤ 7
  · by_cases hn : v < 0
    · exact encfi_neg v m w hm.1 hm.2 hn
    · obtain ⟨a, rfl⟩ := Int.eq_ofNat_of_zero_le (show 0 ≤ v by omega)
      obtain ⟨b, rfl⟩ := Int.eq_ofNat_of_zero_le (show 0 ≤ m by omega)
      refine encfi_big a b w (by unfold isI64 at hv; omega) (by omega) (by omega) (fun e => h ⟨hm.1, hm.2, by omega, by simpa using e⟩)
  · exact encfi_no v m w hm
theorem encfs_n (v m : Int) (w : World) (hv : isI64 v) (h : ¬ FOk v m) :
    Calls Tryd.prog 14 #[.int .i64 v, .int .i64 m] w fun e w' => e = .returned (.string ⟨#[]⟩) ∧ Below w.heap.size w w' := by
  by_cases hm : 1 ≤ m ∧ m ≤ 7
  · by_cases hn : v < 0
    · exact (encfs_neg v m w hm.1 hm.2 hn).mono fun e w' ⟨he, hw⟩ => ⟨he, by rw [hw]; exact Below.refl _ _⟩
    · obtain ⟨a, rfl⟩ := Int.eq_ofNat_of_zero_le (show 0 ≤ v by omega)
      obtain ⟨b, rfl⟩ := Int.eq_ofNat_of_zero_le (show 0 ≤ m by omega)
      have hne : ¬ a / 256 ^ b = 0 := fun e => h ⟨hm.1, hm.2, by omega, by simpa using e⟩
      exact (encfs_yes a b w (by unfold isI64 at hv; omega) (by omega) (by omega)).mono fun e w' ⟨he, hb⟩ => ⟨by rw [he]; unfold fixE; rw [if_neg hne], hb⟩
  · exact (encfs_no v m w hm).mono fun e w' ⟨he, hw⟩ => ⟨he, by rw [hw]; exact Below.refl _ _⟩
theorem decf_some (s : ByteArray) (m : Int) (w : World) (hs : s.size ≤ maxLen) :
    Calls Tryd.prog 13 #[.string s, .int .i64 m] w fun e w' => ∃ (y : Int) (b : Bool), e = .returned (.tuple #[.int .i64 y, .bool b]) ∧ w = w' := by
  by_cases hm : 1 ≤ m ∧ m ≤ 7
  · by_cases hz : m ≤ (s.size : Int)
    · obtain ⟨b, rfl⟩ := Int.eq_ofNat_of_zero_le (show 0 ≤ m by omega)
      exact (deci_yes s b w hs (by omega) (by omega) (by omega)).mono fun e w' ⟨he, hw⟩ => ⟨_, _, he, hw⟩
    · exact (deci_short s m w hs hm.1 hm.2 (by omega)).mono fun e w' ⟨he, hw⟩ => ⟨_, _, he, hw⟩
  · exact (deci_no s m w hs hm).mono fun e w' ⟨he, hw⟩ => ⟨_, _, he, hw⟩
theorem decf_back {v m : Nat} {f t : ByteArray} (w : World) (hz : (f ++ t).size ≤ maxLen) (h1 : 1 ≤ m) (h7 : m ≤ 7) (hf : f.data.toList = lb v m) (h : v / 256 ^ m = 0) :
    Calls Tryd.prog 13 #[.string (f ++ t), .int .i64 m] w fun e w' => e = .returned (.tuple #[.int .i64 v, .bool true]) ∧ w = w' := by
  have hfz : f.size = m := by have := congrArg List.length hf; rw [lb_len] at this; simpa using this
  have hsz : m ≤ (f ++ t).size := by rw [ByteArray.size_append]; omega
  refine (deci_yes (f ++ t) m w hz h1 h7 hsz).mono fun e w' ⟨he, hw⟩ => ⟨?_, hw⟩
  rw [he, str_app, hf, fix_back h]
theorem ench_y (t : ByteArray) (w : World) (ht : t.size ≤ 40) :
    Calls Tryd.prog 15 #[.string t] w fun e w' => ∃ h : ByteArray, e = .returned (.string h) ∧ h.data.toList = hexE t.data.toList ∧ Below w.heap.size w w' :=
  (enchi_any t w (by omega)).mono fun e w' ⟨he, hb⟩ => ⟨_, he, by simp, hb⟩
theorem dech_y (h t : ByteArray) (w : World) (ht : t.size ≤ 40) (hh : h.data.toList = hexE t.data.toList) :
    Calls Tryd.prog 16 #[.string h] w fun e w' => e = .returned (.tuple #[.string t, .bool true]) ∧ Below w.heap.size w w' := by
  obtain ⟨h1, h2, h3⟩ := hex_back hh
  refine (dechi_any h w (by omega)).mono fun e w' ⟨he, hb⟩ => ⟨?_, hb⟩
  rcases he with ⟨_, he⟩ | ⟨hn, _⟩
  · rw [he, h3]
  · exact absurd ⟨by omega, h2⟩ hn
theorem fmti_y (v : Int) (w : World) (hv : isI64 v) (htab : Lib.TabIs Tryd.prog w "internal/strconv.uint64pow10" .u64 Lib.pow10Tab) :
    Calls Tryd.prog 17 #[.int .i64 v] w fun e w' => ∃ d : ByteArray, e = .returned (.string d) ∧ d.data.toList = Lib.itoa v ∧ Below w.heap.size w w' :=
  (fmti_any v w hv.1 hv.2 htab).mono fun e w' ⟨he, hb⟩ => ⟨_, he, by simp, hb⟩
theorem fmts_y (v : Int) (w : World) (hv : isI64 v) (d : ByteArray) (hd : d.data.toList = Lib.itoa v) :
    Calls Tryd.prog 19 #[.int .i64 v] w fun e w' => e = .returned (.string d) ∧ Below w.heap.size w w' :=
  (fmts_any v w hv.1 hv.2).mono fun e w' ⟨he, hb⟩ => ⟨by rw [he, ← hd], hb⟩
theorem par_small (v : Int) (d : ByteArray) (w : World) (hd : d.data.toList = Lib.itoa v) (hz : d.size ≤ maxLen) (hs : -1000000000 < v ∧ v < 1000000000) (htab : Lib.TabIs Tryd.prog w "internal/strconv.uint64pow10" .u64 Lib.pow10Tab) :
    Calls Tryd.prog 18 #[.string d] w fun e w' => e = .returned (.tuple #[.int .i64 v, .bool true]) ∧ Below w.heap.size w w' := by
  have hp := (pok_itoa v).2 hs
  refine (pari_any d w hz htab).mono fun e w' ⟨he, hb⟩ => ⟨?_, hb⟩
  rcases he with ⟨_, he⟩ | ⟨hn, _⟩
  · rw [he, hd, pv_itoa hp]
  · rw [hd] at hn; exact absurd hp hn
theorem par_large (v : Int) (d : ByteArray) (w : World) (hd : d.data.toList = Lib.itoa v) (hz : d.size ≤ maxLen) (hs : ¬ (-1000000000 < v ∧ v < 1000000000)) (htab : Lib.TabIs Tryd.prog w "internal/strconv.uint64pow10" .u64 Lib.pow10Tab) :
    Calls Tryd.prog 18 #[.string d] w fun e w' => e = .returned (.tuple #[.int .i64 0, .bool false]) ∧ Below w.heap.size w w' := by
  refine (pari_any d w hz htab).mono fun e w' ⟨he, hb⟩ => ⟨?_, hb⟩
  rcases he with ⟨hp, _⟩ | ⟨_, he⟩
  · rw [hd] at hp; exact absurd ((pok_itoa v).1 hp) hs
  · exact he

theorem len_size (s : ByteArray) : s.data.toList.length = s.size := by simp
theorem nonempty {s : ByteArray} (h : 1 ≤ s.size) : s.toList.isEmpty = false := by
  rw [ByteArray.toList_eq]
  have h2 := len_size s
  cases hl : s.data.toList with
  | nil => rw [hl, List.length_nil] at h2; omega
  | cons a r => rfl
theorem isempty {s : ByteArray} (h : s.size = 0) : s.toList.isEmpty = true := by
  rw [ByteArray.toList_eq]
  have h2 := len_size s
  cases hl : s.data.toList with
  | nil => rfl
  | cons a r => rw [hl, List.length_cons] at h2; omega
theorem vb_size {s : ByteArray} {n : Nat} (hn : n ≤ 562949953421311) (hs : s.data.toList = vb n) : 1 ≤ s.size ∧ s.size ≤ 7 := by
  have h := congrArg List.length hs
  have h1 := vb_len7 hn
  have h2 := vb_pos n
  simp at h; omega
theorem encv_n (n : Int) (w : World) (h : ¬ (0 ≤ n ∧ n ≤ 562949953421311)) :
    Calls Tryd.prog 9 #[.int .i64 n] w fun e w' => ∃ s : ByteArray, e = .returned (.string s) ∧ s.size = 0 ∧ w = w' :=
  (encvi_no n w h).mono fun e w' ⟨he, hw⟩ => ⟨_, he, rfl, hw⟩
theorem encf_yi (v m : Int) (w : World) (hv : isI64 v) (h : FOk v m) :
    Calls Tryd.prog 12 #[.int .i64 v, .int .i64 m] w fun e w' => ∃ s : ByteArray, e = .returned (.string s) ∧ s.data.toList = lb v.toNat m.toNat ∧ Below w.heap.size w w' := by
  obtain ⟨h1, h2, h3, h4⟩ := h
  obtain ⟨a, rfl⟩ := Int.eq_ofNat_of_zero_le h3
  obtain ⟨b, rfl⟩ := Int.eq_ofNat_of_zero_le (show 0 ≤ m by omega)
  exact encf_y a b w (by unfold isI64 at hv; omega) (by omega) (by omega) (by simpa using h4)
theorem encfs_yi (v m : Int) (w : World) (hv : isI64 v) (h : FOk v m) :
    Calls Tryd.prog 14 #[.int .i64 v, .int .i64 m] w fun e w' => ∃ s : ByteArray, e = .returned (.string s) ∧ s.data.toList = lb v.toNat m.toNat ∧ Below w.heap.size w w' := by
  obtain ⟨h1, h2, h3, h4⟩ := h
  obtain ⟨a, rfl⟩ := Int.eq_ofNat_of_zero_le h3
  obtain ⟨b, rfl⟩ := Int.eq_ofNat_of_zero_le (show 0 ≤ m by omega)
  exact encfs_y a b w (by unfold isI64 at hv; omega) (by omega) (by omega) (by simpa using h4)
theorem lb_size {v m : Int} {f : ByteArray} (h : FOk v m) (hf : f.data.toList = lb v.toNat m.toNat) : (f.size : Int) = m := by
  have e := congrArg List.length hf
  rw [lb_len] at e
  have := h.1
  simp at e; omega
theorem decf_backi {v m : Int} {f t : ByteArray} (w : World) (ht : t.size ≤ 40) (h : FOk v m) (hf : f.data.toList = lb v.toNat m.toNat) :
    Calls Tryd.prog 13 #[.string (f ++ t), .int .i64 m] w fun e w' => e = .returned (.tuple #[.int .i64 v, .bool true]) ∧ w = w' := by
  have hz := lb_size h hf
  obtain ⟨h1, h2, h3, h4⟩ := h
  obtain ⟨a, rfl⟩ := Int.eq_ofNat_of_zero_le h3
  obtain ⟨b, rfl⟩ := Int.eq_ofNat_of_zero_le (show 0 ≤ m by omega)
  exact decf_back w (by rw [ByteArray.size_append]; unfold maxLen; omega) (by omega) (by omega) (by simpa using hf) (by simpa using h4)
theorem encf_ni (v m : Int) (w : World) (hv : isI64 v) (h : ¬ FOk v m) :
    Calls Tryd.prog 12 #[.int .i64 v, .int .i64 m] w fun e w' => ∃ f : ByteArray, e = .returned (.string f) ∧ f.size = 0 ∧ w = w' :=
  (encf_n v m w hv h).mono fun e w' ⟨he, hw⟩ => ⟨_, he, rfl, hw⟩
theorem encfs_ni (v m : Int) (w : World) (hv : isI64 v) (h : ¬ FOk v m) :
    Calls Tryd.prog 14 #[.int .i64 v, .int .i64 m] w fun e w' => ∃ f : ByteArray, e = .returned (.string f) ∧ f.size = 0 ∧ Below w.heap.size w w' :=
  (encfs_n v m w hv h).mono fun e w' ⟨he, hb⟩ => ⟨_, he, rfl, hb⟩
theorem itoa_size {v : Int} {d : ByteArray} (hv : isI64 v) (hd : d.data.toList = Lib.itoa v) : d.size ≤ 40 := by
  have e := congrArg List.length hd
  have hp : (10 : Nat) ^ (18 + 1) = 10000000000000000000 := by decide
  unfold isI64 at hv
  rcases itoa_cases v with ⟨h1, h2⟩ | ⟨h1, h2⟩
  · rw [h2] at e
    have := dec_len 18 v.natAbs (by omega)
    simp only [List.length_cons] at e
    simp at e; omega
  · rw [h2] at e
    have := dec_len 18 v.toNat (by omega)
    simp at e; omega
end Go.Proofs.YteknoaikgmlhcaaDoor
