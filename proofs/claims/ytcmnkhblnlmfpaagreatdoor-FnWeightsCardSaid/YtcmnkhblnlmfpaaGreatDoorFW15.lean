/-
  FormatCartan of the model: what the call returns.
  A cell of a row that reads as a list.
  Weights: what the model's FormatWeight returns.
  BondOf of the model and of the program: what each call returns.
-/
import Derived.Lib.Join
import Derived.Test.YtcmnkhblnlmfpaaGreatDoorFW04
import Derived.Test.YtcmnkhblnlmfpaaGreatDoorFW14
import Derived.Test.YtcmnkhblnlmfpaaGreatDoorFW03
import Derived.Lib.ItoaLen
namespace Go.Proofs.YtcmnkhblnlmfpaaGreatDoor
open Go.RowKit

theorem join_snoc (l : List (List UInt8)) (x sep : List UInt8) (h : l ≠ []) : Lib.join (l ++ [x]) sep = Lib.join l sep ++ sep ++ x := by
  cases l with
  | nil => exact absurd rfl h
  | cons y r =>
    rw [List.cons_append, Lib.join_cons, Lib.join_cons]
    simp [Lib.joinTail]
theorem map_take_ne {α β : Type} (f : α → β) (l : List α) (k : Nat) (hk : 0 < k) (hl : k ≤ l.length) : (l.take k).map f ≠ [] := by
  intro e
  have h : ((l.take k).map f).length = 0 := by rw [e]; rfl
  rw [List.length_map, List.length_take] at h
  omega
theorem ba_app_size (a b : ByteArray) : (a ++ b).size = a.size + b.size := ByteArray.size_append
theorem ba_one (c : UInt8) : (⟨#[c]⟩ : ByteArray).size = 1 := rfl
theorem ba_list (l : List UInt8) : (⟨l.toArray⟩ : ByteArray).size = l.length := rfl
def rowT (r : List Int) : List UInt8 := Lib.join (r.map Lib.itoa) [44]
def fmtT (m : List (List Int)) : List UInt8 := Lib.join (m.map rowT) [59]
/-- What stands before the k-th row. -/
def preT (m : List (List Int)) (k : Nat) : List UInt8 := if k = 0 then [] else Lib.join ((m.take k).map rowT) [59] ++ [59]
theorem preT_join (m : List (List Int)) (k : Nat) (h : k < m.length) : preT m k ++ rowT (m.getD k []) = Lib.join ((m.take (k + 1)).map rowT) [59] := by
  rw [getD_row m k h, List.take_succ_eq_append_getElem h, List.map_append]
  unfold preT
  by_cases h0 : k = 0
  · subst h0
    rw [if_pos rfl]
    simp [Lib.join_one]
  · rw [if_neg h0, List.map_cons, List.map_nil, join_snoc _ _ _ (map_take_ne _ _ _ (by omega) (by omega))]
theorem rowT_step (r : List Int) (j : Nat) (h : j < r.length) : (if j = 0 then [] else Lib.join ((r.take j).map Lib.itoa) [44] ++ [44]) ++ Lib.itoa (r.getD j 0) = Lib.join ((r.take (j + 1)).map Lib.itoa) [44] := by
  have hg : r.getD j 0 = r[j] := by simp [List.getD, h]
  rw [hg, List.take_succ_eq_append_getElem h, List.map_append]
  by_cases h0 : j = 0
  · subst h0
    rw [if_pos rfl]
    simp [Lib.join_one]
  · rw [if_neg h0, List.map_cons, List.map_nil, join_snoc _ _ _ (map_take_ne _ _ _ (by omega) (by omega))]
theorem itoa_short {x : Int} (h : -3 ≤ x ∧ x ≤ 2) : (Lib.itoa x).length ≤ 2 := by
  by_cases h0 : x < 0
  · obtain ⟨m, rfl⟩ : ∃ m : Nat, x = -(m : Int) := ⟨x.natAbs, by omega⟩
    rw [itoa_neg m (by omega), dec_small (by omega)]
    simp
  · obtain ⟨m, rfl⟩ := Int.eq_ofNat_of_zero_le (show 0 ≤ x by omega)
    rw [itoa_pos m, dec_small (by omega)]
    simp
theorem isC_entry {m : List (List Int)} (h : IsC m) {i j : Nat} (hi : i < m.length) (hj : j < m.length) : -3 ≤ entry m i j ∧ entry m i j ≤ 2 := by
  rcases h.2.1 i j hi hj with h | h
  · omega
  · omega
noncomputable def fmtM (m : List (List Int)) : List UInt8 := if isB m = true then fmtT m else []
theorem fmtM_yes {m : List (List Int)} (h : IsC m) : fmtM m = fmtT m := if_pos (isB_yes h)
theorem fmtM_no {m : List (List Int)} (h : ¬ IsC m) : fmtM m = [] := by unfold fmtM; rw [isB_no h]; rfl
theorem isc_wD (B : Nat) (v : Value) (m : List (List Int)) (c : Bool) (hc : isB m = c) (w : World) (h : MatB B w v m) (hf : RowsFit m) :
    Calls Tryz.prog 12 #[v] w fun e w' => e = .returned (.bool c) ∧ Below w.heap.size w w' :=
  (isc_0 B v m c hc w h hf).mono fun e w' ⟨h1, q, h2⟩ => ⟨h1, by rw [h2]; exact below_drewN q⟩
theorem icm_wD (B : Nat) (v : Value) (m : List (List Int)) (c : Bool) (hc : isB m = c) (w : World) (h : MatB B w v m) (hf : RowsFit m) :
    Calls Tryz.prog 37 #[v] w fun e w' => e = .returned (.bool c) ∧ Below w.heap.size w w' :=
  (icm_any B v m w h hf).mono fun e w' ⟨h1, q, h2⟩ => ⟨by rw [h1]; exact ret_boolean hc, by rw [h2]; exact below_drewN q⟩
theorem str_ofl {s : ByteArray} {l : List UInt8} (h : s.data.toList = l) : s = ⟨l.toArray⟩ := by subst h; rfl
theorem size_of_l {s : ByteArray} {l : List UInt8} (h : s.data.toList = l) : s.size = l.length := by subst h; exact Array.length_toList.symm

set_option maxHeartbeats 2000000 in
set_option maxRecDepth 100000 in
theorem fms_yes (B : Nat) (v : Value) (m : List (List Int)) (w : World) (h : MatB B w v m) (hB : B ≤ w.heap.size) (hf : RowsFit m) (hI : IsC m) :
    Calls Tryz.prog 35 #[v] w fun e w' => e = .returned (.string ⟨(fmtT m).toArray⟩) ∧ Below w.heap.size w w' := by
  obtain ⟨a, cap, rfl⟩ := h.slice
  have hl := hf.1
  have HR := Lib.hid h; clear h
  have HF := Lib.hid hf; clear hf
  have hrows : Rows0 m m.length m.length := hI.1
  have hn4 := hI.2.2
  have HC := Lib.hid (isB_yes hI)
  have HE := Lib.hid (fun (i j : Nat) (hi : i < m.length) (hj : j < m.length) => isC_entry hI hi hj)
  have HRW := Lib.hid hrows
  have HPJ := Lib.hid (preT_join m)
  have HALL : Hid (Lib.join ((m.take m.length).map rowT) [59] = fmtT m) := Lib.hid (by rw [List.take_length]; rfl)
  clear hI hrows
  generalize hn : m.length = n at *
  unfold maxLen at hl
  have HN := Lib.hid hn; clear hn
  go_enter Tryz.func35, Tryz.ntmps35
  go_wp2_with fail
  refine (isc_wD B _ m true HC.out _ HR.out HF.out).mono ?_
  rintro e w1 ⟨rfl, hb1⟩
  have HB1 := Lib.hid hb1; clear hb1
  go_wp2_with fail
  go_loopw [3, 4] (fun sv i wr => ∃ (k : Nat) (s : ByteArray) (wq : World), wq = wr ∧ k ≤ n ∧ i = .int .i64 k ∧ sv = .string s ∧ Hid (s.data.toList = Lib.join ((m.take k).map rowT) [59]) ∧ s.size ≤ 50 * k ∧ Below w.heap.size w wq) (fun _ i _ => n - (intOf i).toNat)
  case atStart => exact ⟨0, ⟨#[]⟩, _, rfl, Nat.zero_le _, rfl, rfl, rfl, Nat.le_refl _, HB1.out⟩
  case round =>
    clear HB1
    clear w1
    obtain ⟨k, s, wq, rfl, hk, rfl, rfl, HS, hss, hb⟩ := hrel
    have HB := Lib.hid hb; clear hb
    by_cases hlt : k < n
    · obtain ⟨s1, hs1, hs2, hcase⟩ : ∃ s1 : ByteArray, s1.data.toList = preT m k ∧ s1.size ≤ 50 * k + 1 ∧ ((0 < k ∧ s1 = s ++ ⟨#[59]⟩) ∨ (¬ 0 < k ∧ s1 = s)) := by
        by_cases h0 : 0 < k
        · refine ⟨s ++ ⟨#[59]⟩, ?_, by rw [ba_app_size, ba_one]; omega, Or.inl ⟨h0, rfl⟩⟩
          rw [str_app, HS.out]; unfold preT; rw [if_neg (by omega)]
        · refine ⟨s, ?_, by omega, Or.inr ⟨h0, rfl⟩⟩
          obtain rfl : k = 0 := by omega
          rw [HS.out]; rfl
      have HS1 := Lib.hid hs1; clear hs1
      have hmid : ∀ (X : Prop), (s1 = s1 → X) → X := fun X h => h rfl
      clear hmid
      have hrl : (m.getD k []).length = n := HRW.out k hlt
      have hjn := HPJ.out k hlt
      have HJN := Lib.hid hjn; clear hjn
      rcases hcase with ⟨h0, he⟩ | ⟨h0, he⟩
      all_goals
        have HEQ := Lib.hid he.symm
        clear he
        go_wp2_with fail
        try rw [HEQ.out]
        go_loopw [3, 5] (fun sv i wr => ∃ (j : Nat) (t : ByteArray) (wq : World), wq = wr ∧ j ≤ n ∧ i = .int .i64 j ∧ sv = .string t ∧ Hid (t.data.toList = preT m k ++ Lib.join (((m.getD k []).take j).map Lib.itoa) [44]) ∧ t.size ≤ 50 * k + 1 + 3 * j ∧ Below w.heap.size w wq) (fun _ i _ => n - (intOf i).toNat)
        case atStart => exact ⟨0, s1, _, rfl, Nat.zero_le _, rfl, by first | rfl | rw [HEQ.out], by show Hid _; unfold Hid; rw [HS1.out]; simp [Lib.join_nil], hs2, HB.out⟩
        case round =>
          clear HB
          clear wq
          obtain ⟨j, t, wq, rfl, hj, rfl, rfl, HTT, hts, hb⟩ := hrel
          have HB := Lib.hid hb; clear hb
          by_cases hjn : j < n
          · obtain ⟨b, off, rb, roff, rcap, rfl, hc1, hx⟩ := (HR.out.below HB.out hB).entry HRW.out hlt hjn
            have hen := HE.out k j hlt hjn
            have hst := rowT_step (m.getD k []) j (by rw [hrl]; exact hjn)
            rw [show (m.getD k []).getD j 0 = entry m k j from rfl] at hst
            generalize entry m k j = x at *
            have hlx := itoa_short hen
            obtain ⟨t1, ht1, ht2, hcase1⟩ : ∃ t1 : ByteArray, t1.data.toList = preT m k ++ (if j = 0 then [] else Lib.join (((m.getD k []).take j).map Lib.itoa) [44] ++ [44]) ∧ t1.size ≤ 50 * k + 2 + 3 * j ∧ ((0 < j ∧ t1 = t ++ ⟨#[44]⟩) ∨ (¬ 0 < j ∧ t1 = t)) := by
              by_cases h1 : 0 < j
              · refine ⟨t ++ ⟨#[44]⟩, ?_, by rw [ba_app_size, ba_one]; omega, Or.inl ⟨h1, rfl⟩⟩
                rw [str_app, HTT.out, if_neg (by omega), List.append_assoc]
              · refine ⟨t, ?_, by omega, Or.inr ⟨h1, rfl⟩⟩
                obtain rfl : j = 0 := by omega
                rw [HTT.out]; simp [Lib.join_nil]
            have hfin : (t1 ++ ⟨(Lib.itoa x).toArray⟩).data.toList = preT m k ++ Lib.join (((m.getD k []).take (j + 1)).map Lib.itoa) [44] := by
              rw [str_app, ht1, List.append_assoc, hst]
            have hfs : (t1 ++ ⟨(Lib.itoa x).toArray⟩).size ≤ 50 * k + 1 + 3 * (j + 1) := by
              rw [ba_app_size, ba_list (Lib.itoa x)]
              rcases hcase1 with ⟨h1, rfl⟩ | ⟨h1, rfl⟩
              · rw [ba_app_size, ba_one]; omega
              · omega
            have hsx : (⟨(Lib.itoa x).toArray⟩ : ByteArray).size ≤ 2 := by rw [ba_list]; exact hlx
            have HFIN := Lib.hid hfin
            have HFS := Lib.hid hfs
            clear hfin hfs hst ht1 hlx
            rcases hcase1 with ⟨h1, he1⟩ | ⟨h1, he1⟩
            all_goals
              have HEQ1 := Lib.hid he1.symm
              clear he1
              go_wp2_with fail
              try rw [HEQ1.out]
              refine (fmts_any x _ (by omega) (by omega)).mono ?_
              rintro e w5 ⟨rfl, hb5⟩
              have HB5 := Lib.hid (HB.out.trans (hb5.mono HB.out.size))
              clear hb5
              generalize (⟨(Lib.itoa x).toArray⟩ : ByteArray) = y at *
              go_wp2_with fail
              try rw [HEQ1.out]
              exact ⟨⟨j + 1, _, _, rfl, by omega, by go_num, rfl, HFIN.out, HFS.out, HB5.out⟩, by simp [intOf]; omega⟩
          · obtain rfl : j = n := by omega
            have hfin : t.data.toList = Lib.join ((m.take (k + 1)).map rowT) [59] := by
              rw [HTT.out, List.take_of_length_le (by omega)]; exact HJN.out
            have HFIN := Lib.hid hfin
            clear hfin
            go_wp2_with fail
            exact ⟨⟨k + 1, _, _, rfl, by omega, by go_num, rfl, HFIN.out, by omega, HB.out⟩, by simp [intOf]; omega⟩
    · obtain rfl : k = n := by omega
      go_wp2_with fail
      go_ret
      refine ⟨?_, HB.out⟩
      exact congrArg (fun x => Ending.returned (.string x)) (str_ofl (HS.out.trans HALL.out))

set_option maxHeartbeats 1000000 in
theorem fms_any (B : Nat) (v : Value) (m : List (List Int)) (w : World) (h : MatB B w v m) (hB : B ≤ w.heap.size) (hf : RowsFit m) :
    Calls Tryz.prog 35 #[v] w fun e w' => e = .returned (.string ⟨(fmtM m).toArray⟩) ∧ Below w.heap.size w w' := by
  by_cases hI : IsC m
  · rw [fmtM_yes hI]
    exact fms_yes B v m w h hB hf hI
  · rw [fmtM_no hI]
    have HC := Lib.hid (isB_no hI)
    go_enter Tryz.func35, Tryz.ntmps35
    go_wp2_with fail
    refine (isc_wD B _ m false HC.out _ h hf).mono ?_
    rintro e w1 ⟨rfl, hb1⟩
    have HB1 := Lib.hid hb1; clear hb1
    go_wp2_with fail
    go_ret
    exact ⟨rfl, HB1.out⟩
end Go.Proofs.YtcmnkhblnlmfpaaGreatDoor
namespace Go.Proofs.YtcmnkhblnlmfpaaGreatDoor
open Go.RowKit

theorem RowB.getD {B : Nat} {w : World} {a : Option Addr} {n cap : Nat} {l : List Int} (h : RowB B w (.slice a n cap) l) {j : Nat} (hj : j < n) :
    ∃ b off, a = some ⟨b, off, none⟩ ∧ b < B ∧ w.cell? ⟨b, off + j, none⟩ = some (.int .i64 (l.getD j 0)) := by
  obtain ⟨b, off, hl, h1, h2, h3⟩ := h.get hj
  exact ⟨b, off, h1, h2, by rw [h3]; simp [List.getD, hl]⟩
end Go.Proofs.YtcmnkhblnlmfpaaGreatDoor
namespace Go.Proofs.YtcmnkhblnlmfpaaGreatDoor
open Go.RowKit

/-- Numbers that an int holds. -/
def Fits (l : List Int) : Prop := ∀ x ∈ l, -9223372036854775808 ≤ x ∧ x ≤ 9223372036854775807
theorem Fits.getD {l : List Int} (h : Fits l) (j : Nat) : -9223372036854775808 ≤ l.getD j 0 ∧ l.getD j 0 ≤ 9223372036854775807 := by
  by_cases hj : j < l.length
  · have e : l.getD j 0 = l[j] := by simp [List.getD, hj]
    rw [e]; exact h _ (List.getElem_mem hj)
  · have e : l.getD j 0 = 0 := by simp [List.getD, hj]
    rw [e]; omega
set_option maxHeartbeats 4000000 in
set_option maxRecDepth 100000 in
theorem fmtws_any (B : Nat) (v : Value) (l : List Int) (w : World) (h : RowB B w v l) (hB : B ≤ w.heap.size) (hl : l.length ≤ 1048577) (hfit : Fits l) :
    Calls Tryz.prog 25 #[v] w fun e w' => e = .returned (.string ⟨(rowT l).toArray⟩) ∧ Below w.heap.size w w' := by
  obtain ⟨a, cap, rfl⟩ := h.slice
  have HR := Lib.hid h; clear h
  have HE := Lib.hid (fun j => hfit.getD j)
  have HSTE := Lib.hid (fun j (hj : j < l.length) => rowT_step l j hj)
  have HALL : Hid (Lib.join ((l.take l.length).map Lib.itoa) [44] = rowT l) := Lib.hid (by rw [List.take_length]; rfl)
  clear hfit
  generalize hn : l.length = n at *
  have HN := Lib.hid hn; clear hn
  go_enter Tryz.func25, Tryz.ntmps25
  go_wp2_with fail
  go_loopw [3, 4] (fun sv i wr => ∃ (j : Nat) (t : ByteArray) (wq : World), wq = wr ∧ j ≤ n ∧ i = .int .i64 j ∧ sv = .string t ∧ Hid (t.data.toList = Lib.join ((l.take j).map Lib.itoa) [44]) ∧ t.size ≤ 22 * j ∧ Below w.heap.size w wq) (fun _ i _ => n - (intOf i).toNat)
  case atStart => exact ⟨0, ⟨#[]⟩, _, rfl, Nat.zero_le _, rfl, rfl, by show Hid _; unfold Hid; simp [Lib.join_nil], Nat.le_refl _, Below.refl _ _⟩
  case round =>
    obtain ⟨j, t, wq, rfl, hj, rfl, rfl, HTT, hts, hb⟩ := hrel
    have HB := Lib.hid hb; clear hb
    by_cases hjn : j < n
    · obtain ⟨b, off, rfl, hbb, hx⟩ := (HR.out.below HB.out hB).getD hjn
      have hen := HE.out j
      have hst := HSTE.out j hjn
      generalize l.getD j 0 = x at *
      have hlx := Lib.itoa_length_le x hen.1 hen.2
      obtain ⟨t1, ht1, ht2, hcase1⟩ : ∃ t1 : ByteArray, t1.data.toList = (if j = 0 then [] else Lib.join ((l.take j).map Lib.itoa) [44] ++ [44]) ∧ t1.size ≤ 22 * j + 1 ∧ ((0 < j ∧ t1 = t ++ ⟨#[44]⟩) ∨ (¬ 0 < j ∧ t1 = t)) := by
        by_cases h1 : 0 < j
        · refine ⟨t ++ ⟨#[44]⟩, ?_, by rw [ba_app_size, ba_one]; omega, Or.inl ⟨h1, rfl⟩⟩
          rw [str_app, HTT.out, if_neg (by omega)]
        · refine ⟨t, ?_, by omega, Or.inr ⟨h1, rfl⟩⟩
          obtain rfl : j = 0 := by omega
          rw [HTT.out]; simp [Lib.join_nil]
      have hfin : (t1 ++ ⟨(Lib.itoa x).toArray⟩).data.toList = Lib.join ((l.take (j + 1)).map Lib.itoa) [44] := by
        rw [str_app, ht1, hst]
      have hsx : (⟨(Lib.itoa x).toArray⟩ : ByteArray).size ≤ 21 := by rw [ba_list]; exact hlx
      have hfs : (t1 ++ ⟨(Lib.itoa x).toArray⟩).size ≤ 22 * (j + 1) := by
        rw [ba_app_size]
        omega
      have HFIN := Lib.hid hfin
      have HFS := Lib.hid hfs
      have HFM := Lib.hid (fun (wx : World) => fmts_any x wx hen.1 hen.2)
      clear hfin hfs hst ht1 hlx hen
      rcases hcase1 with ⟨h1, he1⟩ | ⟨h1, he1⟩
      all_goals
        have HEQ1 := Lib.hid he1.symm
        clear he1
        go_wp2_with fail
        try rw [HEQ1.out]
        refine (HFM.out _).mono ?_
        rintro e w5 ⟨rfl, hb5⟩
        have HB5 := Lib.hid (HB.out.trans (hb5.mono HB.out.size))
        clear hb5
        generalize (⟨(Lib.itoa x).toArray⟩ : ByteArray) = y at *
        go_wp2_with fail
        try rw [HEQ1.out]
        exact ⟨⟨j + 1, _, _, rfl, by omega, by go_num, rfl, HFIN.out, HFS.out, HB5.out⟩, by simp [intOf]; omega⟩
    · obtain rfl : j = n := by omega
      go_wp2_with fail
      go_ret
      refine ⟨?_, HB.out⟩
      exact congrArg (fun x => Ending.returned (.string x)) (str_ofl (HTT.out.trans HALL.out))
end Go.Proofs.YtcmnkhblnlmfpaaGreatDoor
namespace Go.Proofs.YtcmnkhblnlmfpaaGreatDoor
open Go.RowKit

theorem wrap_prod {x y : Int} (hx : -3 ≤ x ∧ x ≤ 0) (hy : -3 ≤ y ∧ y ≤ 0) : wrap64 (x * y) = x * y := by
  have h : 0 ≤ x * y ∧ x * y ≤ 9 := by
    have hx' : x = 0 ∨ x = -1 ∨ x = -2 ∨ x = -3 := four hx
    rcases hx' with rfl | rfl | rfl | rfl <;> omega
  exact IntWalk.wrap64_in _ ⟨by omega, by omega⟩
def ptB (i : Int) (n : Nat) : Bool := decide (0 ≤ i ∧ i ≤ (n : Int) - 1)
theorem ptB_yes {i : Int} {n : Nat} (h : 0 ≤ i ∧ i ≤ (n : Int) - 1) : ptB i n = true := decide_eq_true h
theorem ptB_no {i : Int} {n : Nat} (h : ¬ (0 ≤ i ∧ i ≤ (n : Int) - 1)) : ptB i n = false := decide_eq_false h
set_option maxHeartbeats 400000 in
theorem pt_any (a : Option Addr) (n cap : Nat) (i : Int) (w : World) (_hl : n ≤ 2 ^ 63 - 1) :
    Calls Tryz.prog 57 #[.slice a n cap, .int .i64 i] w fun e w' => e = .returned (.bool (ptB i n)) ∧ w = w' := by
  by_cases h : 0 ≤ i
  · have h1 : decide (0 ≤ i) = true := decide_eq_true h
    by_cases h2 : i ≤ (n : Int) - 1
    · have HV := Lib.hid (ptB_yes ⟨h, h2⟩)
      have h3 : decide (i < (n : Int)) = true := decide_eq_true (by omega)
      go_enter Tryz.func57, Tryz.ntmps57
      go_wp2_with fail
      go_ret
      exact ⟨ret_boolean HV.out.symm, rfl⟩
    · have HV := Lib.hid (ptB_no (i := i) (n := n) (fun x => h2 x.2))
      have h3 : decide (i < (n : Int)) = false := decide_eq_false (by omega)
      go_enter Tryz.func57, Tryz.ntmps57
      go_wp2_with fail
      go_ret
      exact ⟨ret_boolean HV.out.symm, rfl⟩
  · have HV := Lib.hid (ptB_no (i := i) (n := n) (fun x => h x.1))
    have h1 : decide (0 ≤ i) = false := decide_eq_false h
    go_enter Tryz.func57, Tryz.ntmps57
    go_wp2_with fail
    go_ret
    exact ⟨ret_boolean HV.out.symm, rfl⟩
theorem pt_c (a : Option Addr) (n cap : Nat) (i : Int) (c : Bool) (hc : ptB i n = c) (w : World) (hl : n ≤ 2 ^ 63 - 1) :
    Calls Tryz.prog 57 #[.slice a n cap, .int .i64 i] w fun e w' => e = .returned (.bool c) ∧ w = w' :=
  (pt_any a n cap i w hl).mono fun e w' ⟨he, hw⟩ => ⟨by rw [he]; exact ret_boolean hc, hw⟩
theorem icm_0 (B : Nat) (v : Value) (m : List (List Int)) (c : Bool) (hc : isB m = c) (w : World) (h : MatB B w v m) (hf : RowsFit m) :
    Calls Tryz.prog 37 #[v] w fun e w' => e = .returned (.bool c) ∧ ∃ m, w' = w.drewN m :=
  (icm_any B v m w h hf).mono fun e w' ⟨he, hw⟩ => ⟨by rw [he]; exact ret_boolean hc, hw⟩

set_option maxHeartbeats 4000000 in
set_option maxRecDepth 100000 in
theorem bonds_walk {b off rb roff rcap rb' roff' rcap' n cap p r : Nat} {w : World} {x y k z : Int}
    (hq : Calls Tryz.prog 12 #[.slice (some ⟨b, off, none⟩) n cap] w fun e w' => e = .returned (.bool true) ∧ ∃ m, w' = w.drewN m)
    (hi : inB (p : Int) 0 ((n : Int) - 1) = true) (hj : inB (r : Int) 0 ((n : Int) - 1) = true) (hl : n ≤ 2 ^ 63 - 1) (hp : p < n) (hr : r < n) (hne : ((p : Int) == (r : Int)) = false)
    (hc1 : w.cell? ⟨b, off + p, none⟩ = some (.slice (some ⟨rb, roff, none⟩) n rcap)) (hx1 : w.cell? ⟨rb, roff + r, none⟩ = some (.int .i64 x))
    (hc2 : w.cell? ⟨b, off + r, none⟩ = some (.slice (some ⟨rb', roff', none⟩) n rcap')) (hy1 : w.cell? ⟨rb', roff' + p, none⟩ = some (.int .i64 y))
    (hz : wrap64 (x * y) = z) (hk : k = bondP z) :
    Calls Tryz.prog 14 #[.slice (some ⟨b, off, none⟩) n cap, .int .i64 p, .int .i64 r] w fun e w' => e = .returned (.int .i64 k) ∧ ∃ q, w' = w.drewN q := by
  have HQ := Lib.hid hq; clear hq
  have HI := Lib.hid hi; clear hi
  have HJ := Lib.hid hj; clear hj
  have HV := Lib.hid hk; clear hk
  have HZ := Lib.hid hz; clear hz
  have H1 := Lib.hid hc1; clear hc1
  have H2 := Lib.hid hc2; clear hc2
  have H3 := Lib.hid hx1; clear hx1
  have H4 := Lib.hid hy1; clear hy1
  have H5 := Lib.hid hp; clear hp
  have H6 := Lib.hid hr; clear hr
  go_enter Tryz.func14, Tryz.ntmps14
  go_wp2_with fail
  refine HQ.out.mono ?_; rintro e w' ⟨rfl, mm, rfl⟩
  go_wp2_with fail
  refine (l1in_c _ _ _ true HI.out _).mono ?_; rintro e w' ⟨rfl, rfl⟩
  go_wp2_with fail
  have HL := Lib.hid hl; clear hl
  refine (l1in_c _ _ _ true HJ.out _).mono ?_; rintro e w' ⟨rfl, rfl⟩
  go_wp2_with fail
  have hl := HL.out
  have hp := H5.out
  have hr := H6.out
  have hc1 := H1.out
  have hc2 := H2.out
  have hx1 := H3.out
  have hy1 := H4.out
  go_quiet (fail)
  rw [HZ.out]
  clear hc1 hc2 hx1 hy1 hp hr
  rcases (show z = 0 ∨ z = 1 ∨ z = 2 ∨ z = 3 ∨ ((z == 0) = false ∧ (z == 1) = false ∧ (z == 2) = false ∧ (z == 3) = false) by
    by_cases h0 : z = 0
    · exact Or.inl h0
    · by_cases h1 : z = 1
      · exact Or.inr (Or.inl h1)
      · by_cases h2 : z = 2
        · exact Or.inr (Or.inr (Or.inl h2))
        · by_cases h3 : z = 3
          · exact Or.inr (Or.inr (Or.inr (Or.inl h3)))
          · exact Or.inr (Or.inr (Or.inr (Or.inr ⟨beq_eq_false_iff_ne.2 h0, beq_eq_false_iff_ne.2 h1, beq_eq_false_iff_ne.2 h2, beq_eq_false_iff_ne.2 h3⟩)))) with rfl | rfl | rfl | rfl | ⟨g0, g1, g2, g3⟩
  · go_wp2_with fail
    go_ret
    exact ⟨ret_int (HV.out.trans rfl).symm, _, rfl⟩
  · go_wp2_with fail
    go_ret
    exact ⟨ret_int (HV.out.trans rfl).symm, _, rfl⟩
  · go_wp2_with fail
    go_ret
    exact ⟨ret_int (HV.out.trans rfl).symm, _, rfl⟩
  · go_wp2_with fail
    go_ret
    exact ⟨ret_int (HV.out.trans rfl).symm, _, rfl⟩
  · have hb : bondP z = 0 := by
      unfold bondP
      rw [beq_eq_false_iff_ne] at g0 g1 g2 g3
      rw [if_neg g0, if_neg g1, if_neg g2, if_neg g3]
    have HB := Lib.hid hb; clear hb
    go_wp2_with fail
    go_ret
    exact ⟨ret_int (HV.out.trans HB.out).symm, _, rfl⟩

set_option maxHeartbeats 4000000 in
set_option maxRecDepth 100000 in
theorem bondi_walk {b off rb roff rcap rb' roff' rcap' n cap p r : Nat} {w : World} {x y k z : Int}
    (hq : Calls Tryz.prog 37 #[.slice (some ⟨b, off, none⟩) n cap] w fun e w' => e = .returned (.bool true) ∧ ∃ m, w' = w.drewN m)
    (hi : ptB (p : Int) n = true) (hj : ptB (r : Int) n = true) (hl : n ≤ 2 ^ 63 - 1) (hp : p < n) (hr : r < n) (hne : ((p : Int) == (r : Int)) = false)
    (hc1 : w.cell? ⟨b, off + p, none⟩ = some (.slice (some ⟨rb, roff, none⟩) n rcap)) (hx1 : w.cell? ⟨rb, roff + r, none⟩ = some (.int .i64 x))
    (hc2 : w.cell? ⟨b, off + r, none⟩ = some (.slice (some ⟨rb', roff', none⟩) n rcap')) (hy1 : w.cell? ⟨rb', roff' + p, none⟩ = some (.int .i64 y))
    (hz : wrap64 (x * y) = z) (hk : k = bondP z) :
    Calls Tryz.prog 43 #[.slice (some ⟨b, off, none⟩) n cap, .int .i64 p, .int .i64 r] w fun e w' => e = .returned (.int .i64 k) ∧ ∃ q, w' = w.drewN q := by
  have HQ := Lib.hid hq; clear hq
  have HI := Lib.hid hi; clear hi
  have HJ := Lib.hid hj; clear hj
  have HV := Lib.hid hk; clear hk
  have HZ := Lib.hid hz; clear hz
  have H1 := Lib.hid hc1; clear hc1
  have H2 := Lib.hid hc2; clear hc2
  have H3 := Lib.hid hx1; clear hx1
  have H4 := Lib.hid hy1; clear hy1
  have H5 := Lib.hid hp; clear hp
  have H6 := Lib.hid hr; clear hr
  go_enter Tryz.func43, Tryz.ntmps43
  go_wp2_with fail
  refine HQ.out.mono ?_; rintro e w' ⟨rfl, mm, rfl⟩
  go_wp2_with fail
  refine (pt_c _ _ _ _ true HI.out _ hl).mono ?_; rintro e w' ⟨rfl, rfl⟩
  go_wp2_with fail
  refine (pt_c _ _ _ _ true HJ.out _ hl).mono ?_; rintro e w' ⟨rfl, rfl⟩
  have HL := Lib.hid hl; clear hl
  go_wp2_with fail
  have hl := HL.out
  have hp := H5.out
  have hr := H6.out
  have hc1 := H1.out
  have hc2 := H2.out
  have hx1 := H3.out
  have hy1 := H4.out
  go_quiet (fail)
  rw [HZ.out]
  clear hc1 hc2 hx1 hy1 hp hr
  rcases (show z = 0 ∨ z = 1 ∨ z = 2 ∨ z = 3 ∨ ((z == 0) = false ∧ (z == 1) = false ∧ (z == 2) = false ∧ (z == 3) = false) by
    by_cases h0 : z = 0
    · exact Or.inl h0
    · by_cases h1 : z = 1
      · exact Or.inr (Or.inl h1)
      · by_cases h2 : z = 2
        · exact Or.inr (Or.inr (Or.inl h2))
        · by_cases h3 : z = 3
          · exact Or.inr (Or.inr (Or.inr (Or.inl h3)))
          · exact Or.inr (Or.inr (Or.inr (Or.inr ⟨beq_eq_false_iff_ne.2 h0, beq_eq_false_iff_ne.2 h1, beq_eq_false_iff_ne.2 h2, beq_eq_false_iff_ne.2 h3⟩)))) with rfl | rfl | rfl | rfl | ⟨g0, g1, g2, g3⟩
  · go_wp2_with fail
    go_ret
    exact ⟨ret_int (HV.out.trans rfl).symm, _, rfl⟩
  · go_wp2_with fail
    go_ret
    exact ⟨ret_int (HV.out.trans rfl).symm, _, rfl⟩
  · go_wp2_with fail
    go_ret
    exact ⟨ret_int (HV.out.trans rfl).symm, _, rfl⟩
  · go_wp2_with fail
    go_ret
    exact ⟨ret_int (HV.out.trans rfl).symm, _, rfl⟩
  · have hb : bondP z = 0 := by
      unfold bondP
      rw [beq_eq_false_iff_ne] at g0 g1 g2 g3
      rw [if_neg g0, if_neg g1, if_neg g2, if_neg g3]
    have HB := Lib.hid hb; clear hb
    go_wp2_with fail
    go_ret
    exact ⟨ret_int (HV.out.trans HB.out).symm, _, rfl⟩

set_option maxHeartbeats 4000000 in
set_option maxRecDepth 100000 in
theorem bonds_any (B : Nat) (v : Value) (m : List (List Int)) (i j : Int) (w : World) (h : MatB B w v m) (hf : RowsFit m) :
    Calls Tryz.prog 14 #[v, .int .i64 i, .int .i64 j] w fun e w' => e = .returned (.int .i64 (bond m i j)) ∧ ∃ q, w' = w.drewN q := by
  have hl := hf.1
  unfold maxLen at hl
  obtain ⟨a, cap, rfl⟩ := h.slice
  by_cases hI : IsC m
  · have HQ := Lib.hid (isc_0 B _ m true (isB_yes hI) w h hf)
    by_cases hi : 0 ≤ i ∧ i ≤ (m.length : Int) - 1
    · have HI := Lib.hid (inB_yes hi)
      by_cases hj : 0 ≤ j ∧ j ≤ (m.length : Int) - 1
      · have HJ := Lib.hid (inB_yes hj)
        obtain ⟨p, rfl⟩ := Int.eq_ofNat_of_zero_le hi.1
        obtain ⟨r, rfl⟩ := Int.eq_ofNat_of_zero_le hj.1
        have hp : p < m.length := by omega
        have hr : r < m.length := by omega
        by_cases hpr : p = r
        · subst hpr
          have hv := bond_eq hI hp
          have HV := Lib.hid hv; clear hv hI h hf hi hj
          generalize m.length = n at *
          go_enter Tryz.func14, Tryz.ntmps14
          go_wp2_with fail
          refine HQ.out.mono ?_; rintro e w' ⟨rfl, mm, rfl⟩
          go_wp2_with fail
          refine (l1in_c _ _ _ true HI.out _).mono ?_; rintro e w' ⟨rfl, rfl⟩
          go_wp2_with fail
          refine (l1in_c _ _ _ true HJ.out _).mono ?_; rintro e w' ⟨rfl, rfl⟩
          go_wp2_with fail
          go_ret
          exact ⟨ret_int HV.out.symm, _, rfl⟩
        · have hv := bond_ne hI hp hr hpr
          have hx := isc_in hI hp hr hpr
          have hy := isc_in hI hr hp (fun e => hpr e.symm)
          obtain ⟨b, off, rb, roff, rcap, rfl, hc1, hx1⟩ := h.entry hI.1 hp hr
          obtain ⟨b', off', rb', roff', rcap', hab, hc2, hy1⟩ := h.entry hI.1 hr hp
          injection hab with hab
          injection hab with hab1 hab2
          subst hab1
          subst hab2
          have hne : ((p : Int) == (r : Int)) = false := by rw [beq_eq_false_iff_ne]; omega
          exact bonds_walk HQ.out HI.out HJ.out hl hp hr hne hc1 hx1 hc2 hy1 (wrap_prod hx hy) hv
      · have HJ := Lib.hid (inB_no hj)
        have hv := bond_no (i := i) (j := j) (fun x => hj x.2.2)
        have HV := Lib.hid hv; clear hv hI h hf hi hj
        generalize m.length = n at *
        go_enter Tryz.func14, Tryz.ntmps14
        go_wp2_with fail
        refine HQ.out.mono ?_; rintro e w' ⟨rfl, mm, rfl⟩
        go_wp2_with fail
        refine (l1in_c _ _ _ true HI.out _).mono ?_; rintro e w' ⟨rfl, rfl⟩
        go_wp2_with fail
        refine (l1in_c _ _ _ false HJ.out _).mono ?_; rintro e w' ⟨rfl, rfl⟩
        go_wp2_with fail
        go_ret
        exact ⟨ret_int HV.out.symm, _, rfl⟩
    · have HI := Lib.hid (inB_no hi)
      have hv := bond_no (i := i) (j := j) (fun x => hi x.2.1)
      have HV := Lib.hid hv; clear hv hI h hf hi
      generalize m.length = n at *
      go_enter Tryz.func14, Tryz.ntmps14
      go_wp2_with fail
      refine HQ.out.mono ?_; rintro e w' ⟨rfl, mm, rfl⟩
      go_wp2_with fail
      refine (l1in_c _ _ _ false HI.out _).mono ?_; rintro e w' ⟨rfl, rfl⟩
      go_wp2_with fail
      go_ret
      exact ⟨ret_int HV.out.symm, _, rfl⟩
  · have HQ := Lib.hid (isc_0 B _ m false (isB_no hI) w h hf)
    have hv := bond_no (i := i) (j := j) (fun x => hI x.1)
    have HV := Lib.hid hv; clear hv hI h hf
    generalize m.length = n at *
    go_enter Tryz.func14, Tryz.ntmps14
    go_wp2_with fail
    refine HQ.out.mono ?_; rintro e w' ⟨rfl, mm, rfl⟩
    go_wp2_with fail
    go_ret
    exact ⟨ret_int HV.out.symm, _, rfl⟩

set_option maxHeartbeats 4000000 in
set_option maxRecDepth 100000 in
theorem bondi_any (B : Nat) (v : Value) (m : List (List Int)) (i j : Int) (w : World) (h : MatB B w v m) (hf : RowsFit m) :
    Calls Tryz.prog 43 #[v, .int .i64 i, .int .i64 j] w fun e w' => e = .returned (.int .i64 (bond m i j)) ∧ ∃ q, w' = w.drewN q := by
  have hl := hf.1
  unfold maxLen at hl
  obtain ⟨a, cap, rfl⟩ := h.slice
  by_cases hI : IsC m
  · have HQ := Lib.hid (icm_0 B _ m true (isB_yes hI) w h hf)
    by_cases hi : 0 ≤ i ∧ i ≤ (m.length : Int) - 1
    · have HI := Lib.hid (ptB_yes hi)
      by_cases hj : 0 ≤ j ∧ j ≤ (m.length : Int) - 1
      · have HJ := Lib.hid (ptB_yes hj)
        obtain ⟨p, rfl⟩ := Int.eq_ofNat_of_zero_le hi.1
        obtain ⟨r, rfl⟩ := Int.eq_ofNat_of_zero_le hj.1
        have hp : p < m.length := by omega
        have hr : r < m.length := by omega
        by_cases hpr : p = r
        · subst hpr
          have hv := bond_eq hI hp
          have HV := Lib.hid hv; clear hv hI h hf hi hj
          generalize m.length = n at *
          go_enter Tryz.func43, Tryz.ntmps43
          go_wp2_with fail
          refine HQ.out.mono ?_; rintro e w' ⟨rfl, mm, rfl⟩
          go_wp2_with fail
          refine (pt_c _ _ _ _ true HI.out _ hl).mono ?_; rintro e w' ⟨rfl, rfl⟩
          go_wp2_with fail
          refine (pt_c _ _ _ _ true HJ.out _ hl).mono ?_; rintro e w' ⟨rfl, rfl⟩
          go_wp2_with fail
          go_ret
          exact ⟨ret_int HV.out.symm, _, rfl⟩
        · have hv := bond_ne hI hp hr hpr
          have hx := isc_in hI hp hr hpr
          have hy := isc_in hI hr hp (fun e => hpr e.symm)
          obtain ⟨b, off, rb, roff, rcap, rfl, hc1, hx1⟩ := h.entry hI.1 hp hr
          obtain ⟨b', off', rb', roff', rcap', hab, hc2, hy1⟩ := h.entry hI.1 hr hp
          injection hab with hab
          injection hab with hab1 hab2
          subst hab1
          subst hab2
          have hne : ((p : Int) == (r : Int)) = false := by rw [beq_eq_false_iff_ne]; omega
          exact bondi_walk HQ.out HI.out HJ.out hl hp hr hne hc1 hx1 hc2 hy1 (wrap_prod hx hy) hv
      · have HJ := Lib.hid (ptB_no hj)
        have hv := bond_no (i := i) (j := j) (fun x => hj x.2.2)
        have HV := Lib.hid hv; clear hv hI h hf hi hj
        generalize m.length = n at *
        go_enter Tryz.func43, Tryz.ntmps43
        go_wp2_with fail
        refine HQ.out.mono ?_; rintro e w' ⟨rfl, mm, rfl⟩
        go_wp2_with fail
        refine (pt_c _ _ _ _ true HI.out _ hl).mono ?_; rintro e w' ⟨rfl, rfl⟩
        go_wp2_with fail
        refine (pt_c _ _ _ _ false HJ.out _ hl).mono ?_; rintro e w' ⟨rfl, rfl⟩
        go_wp2_with fail
        go_ret
        exact ⟨ret_int HV.out.symm, _, rfl⟩
    · have HI := Lib.hid (ptB_no hi)
      have hv := bond_no (i := i) (j := j) (fun x => hi x.2.1)
      have HV := Lib.hid hv; clear hv hI h hf hi
      generalize m.length = n at *
      go_enter Tryz.func43, Tryz.ntmps43
      go_wp2_with fail
      refine HQ.out.mono ?_; rintro e w' ⟨rfl, mm, rfl⟩
      go_wp2_with fail
      refine (pt_c _ _ _ _ false HI.out _ hl).mono ?_; rintro e w' ⟨rfl, rfl⟩
      go_wp2_with fail
      go_ret
      exact ⟨ret_int HV.out.symm, _, rfl⟩
  · have HQ := Lib.hid (icm_0 B _ m false (isB_no hI) w h hf)
    have hv := bond_no (i := i) (j := j) (fun x => hI x.1)
    have HV := Lib.hid hv; clear hv hI h hf
    generalize m.length = n at *
    go_enter Tryz.func43, Tryz.ntmps43
    go_wp2_with fail
    refine HQ.out.mono ?_; rintro e w' ⟨rfl, mm, rfl⟩
    go_wp2_with fail
    go_ret
    exact ⟨ret_int HV.out.symm, _, rfl⟩

theorem bonds_b (B : Nat) (v : Value) (m : List (List Int)) (i j : Int) (w : World) (h : MatB B w v m) (hf : RowsFit m) :
    Calls Tryz.prog 14 #[v, .int .i64 i, .int .i64 j] w fun e w' => e = .returned (.int .i64 (bond m i j)) ∧ Below w.heap.size w w' :=
  (bonds_any B v m i j w h hf).mono fun e w' ⟨h1, q, h2⟩ => ⟨h1, by rw [h2]; exact below_drewN q⟩
theorem bondi_b (B : Nat) (v : Value) (m : List (List Int)) (i j : Int) (w : World) (h : MatB B w v m) (hf : RowsFit m) :
    Calls Tryz.prog 43 #[v, .int .i64 i, .int .i64 j] w fun e w' => e = .returned (.int .i64 (bond m i j)) ∧ Below w.heap.size w w' :=
  (bondi_any B v m i j w h hf).mono fun e w' ⟨h1, q, h2⟩ => ⟨h1, by rw [h2]; exact below_drewN q⟩
end Go.Proofs.YtcmnkhblnlmfpaaGreatDoor
