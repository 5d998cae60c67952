/-
  Plain facts: each encoding read back, whatever follows.
-/
import Derived.Test.YteknoaikgmlhcaaDoorDecH
import Derived.Test.YteknoaikgmlhcaaDoorEncF
import Derived.Test.YteknoaikgmlhcaaDoorEncV
import Derived.Test.YteknoaikgmlhcaaDoorParI
import Derived.Test.YteknoaikgmlhcaaDoorDraws
namespace Go.Proofs.YteknoaikgmlhcaaDoor
open Go.RowKit

theorem vval_vb (n : Nat) : vval (vb n) = n := by
  induction n using Nat.strongRecOn with
  | ind n ih =>
    by_cases h : n < 128
    · rw [vb_small h]; simp only [vval]; rw [u8_natN _ (by omega)]; omega
    · rw [vb_big h]; simp only [vval]; rw [ih (n / 128) (by omega), u8_natN _ (by omega)]; omega
theorem good_vb (n : Nat) (t : List UInt8) : Good (vb n ++ t) (vb n).length := by
  have h := vb_good (vb n).length (vb n ++ t) (vb_pos n) (by simp)
  rw [List.take_left, vval_vb] at h
  exact h.1 rfl
theorem dec_vb {n : Nat} (hn : n ≤ 562949953421311) {s t : ByteArray} (hs : s.data.toList = vb n) {x k : Nat} (h : IsDec (s ++ t).data.toList x k) : x = n ∧ k = s.size := by
  rw [str_app, hs] at h
  have hg := good_vb n t.data.toList
  have hz : s.size = (vb n).length := by have := congrArg List.length hs; simpa using this
  have h2 : IsDec (vb n ++ t.data.toList) n (vb n).length := Or.inl ⟨hg, vb_len7 hn, by rw [List.take_left, vval_vb]⟩
  obtain ⟨h3, h4⟩ := isDec_one h h2
  exact ⟨h3, by omega⟩

theorem fixN_app (l : List UInt8) : ∀ (r : List UInt8) (a : Nat), (l ++ r).foldl (fun n b => n * 256 + b.toNat) a = r.foldl (fun n b => n * 256 + b.toNat) (l.foldl (fun n b => n * 256 + b.toNat) a) := fun r a => List.foldl_append
theorem fixN_cons (b : UInt8) (r : List UInt8) : fixN (b :: r) = b.toNat * 256 ^ r.length + fixN r := by
  have h : ∀ (r : List UInt8) (a : Nat), r.foldl (fun n b => n * 256 + b.toNat) a = a * 256 ^ r.length + r.foldl (fun n b => n * 256 + b.toNat) 0 := by
    intro r
    induction r with
    | nil => intro a; simp
    | cons c r ih =>
      intro a
      simp only [List.foldl_cons, List.length_cons]
      rw [ih (a * 256 + c.toNat), ih (0 * 256 + c.toNat), Nat.pow_succ, Nat.add_mul, Nat.mul_assoc, Nat.mul_comm 256 (256 ^ r.length), Nat.zero_mul, Nat.zero_add]
      omega
  unfold fixN
  rw [List.foldl_cons, h r (0 * 256 + b.toNat)]
  simp
theorem fixN_lb (n : Nat) : ∀ m, fixN (lb n m) = n % 256 ^ m
  | 0 => by simp [lb, fixN, Nat.mod_one]
  | m + 1 => by
    rw [lb, fixN_cons, lb_len, fixN_lb n m, u8_natN _ (by omega), Nat.pow_succ, Nat.mod_mul]
    rw [Nat.mul_comm]; omega
theorem fix_back {n m : Nat} (h : n / 256 ^ m = 0) (t : List UInt8) : fixN ((lb n m ++ t).take m) = n := by
  have hp : 0 < 256 ^ m := Nat.pow_pos (by omega)
  have hlt : n < 256 ^ m := by
    rcases Nat.lt_or_ge n (256 ^ m) with h' | h'
    · exact h'
    · have := Nat.div_pos h' hp; omega
  have e : (lb n m ++ t).take m = lb n m := by
    have := List.take_left (l₁ := lb n m) (l₂ := t)
    rwa [lb_len] at this
  rw [e, fixN_lb, Nat.mod_eq_of_lt hlt]

theorem hexd_isHex (k : Nat) (h : k < 16) : isHex (hexd k) ∧ hvN (hexd k) = k := (hexd_iff k h (hexd k)).1 rfl
theorem hexE_get (l : List UInt8) : ∀ i, i < l.length → (hexE l).getD (2 * i) 0 = hexd ((l.getD i 0).toNat / 16) ∧ (hexE l).getD (2 * i + 1) 0 = hexd ((l.getD i 0).toNat % 16) := by
  induction l with
  | nil => intro i h; simp at h
  | cons b r ih =>
    intro i h
    have e : hexE (b :: r) = hexd (b.toNat / 16) :: hexd (b.toNat % 16) :: hexE r := by simp [hexE]
    rw [e]
    match i, h with
    | 0, _ => simp
    | i + 1, h =>
      have := ih i (by simpa using h)
      rw [show 2 * (i + 1) = 2 * i + 1 + 1 by omega]
      simpa using this
theorem hex_back {s h : ByteArray} (hh : h.data.toList = hexE s.data.toList) : h.size = 2 * s.size ∧ allHex h h.size ∧ hexD h (h.size / 2) = s.data.toList := by
  have hz : h.size = 2 * s.size := by
    have := congrArg List.length hh
    rw [hexE_len] at this
    simpa using this
  have hg := hexE_get s.data.toList
  have hb : ∀ b : UInt8, b.toNat / 16 < 16 := fun b => by have := b.toNat_lt; omega
  refine ⟨hz, ?_, ?_⟩
  · intro i hi
    rw [hh]
    obtain ⟨h1, h2⟩ := hg (i / 2) (by simp; omega)
    rcases Nat.mod_two_eq_zero_or_one i with hm | hm
    · rw [show 2 * (i / 2) = i by omega] at h1
      rw [h1]; exact (hexd_isHex _ (hb _)).1
    · rw [show 2 * (i / 2) + 1 = i by omega] at h2
      rw [h2]; exact (hexd_isHex _ (by omega)).1
  · rw [hz, show 2 * s.size / 2 = s.size by omega]
    apply List.ext_getElem
    · simp [hexD]
    · intro i h1 h2
      have hi : i < s.data.toList.length := h2
      simp only [hexD, List.getElem_map, List.getElem_range]
      unfold pairB
      obtain ⟨g1, g2⟩ := hg i hi
      rw [hh, g1, g2, (hexd_isHex _ (hb _)).2, (hexd_isHex _ (by omega)).2]
      have : s.data.toList.getD i 0 = s.data.toList[i] := by simp [List.getD, List.getElem?_eq_getElem hi]
      rw [this, u8_ext, u8_natN _ (by have := (s.data.toList[i]).toNat_lt; omega)]
      omega

theorem dec_len (k : Nat) : ∀ n, n < 10 ^ (k + 1) → (Lib.decDigits n).length ≤ k + 1 := by
  induction k with
  | zero => intro n h; rw [dec_small (by omega)]; simp
  | succ k ih =>
    intro n h
    by_cases hs : n < 10
    · rw [dec_small hs]; simp
    · rw [dec_big hs, List.length_append, List.length_singleton]
      have := ih (n / 10) (by rw [Nat.pow_succ] at h; omega)
      omega
theorem pok_itoa (v : Int) : POk (Lib.itoa v) ↔ (-1000000000 < v ∧ v < 1000000000) := by
  constructor
  · intro h
    have hv : PV (Lib.itoa v) = v := by
      rcases itoa_cases v with ⟨h1, e⟩ | ⟨h1, e⟩
      all_goals
        rw [pv_tok (pok_tok h), e]
      · have hs : signed (45 :: Lib.decDigits v.natAbs) := rfl
        unfold pval trim
        rw [if_pos hs, if_pos hs, List.tail_cons, (dec_all v.natAbs).2]; omega
      · unfold pval trim
        rw [if_neg (dec_head _), if_neg (dec_head _), (dec_all v.toNat).2]; omega
    have ht := pok_tok h
    have h2 := sv_small (trim (Lib.itoa v)) 9 (by rw [cnt_all _ ht.2]; exact ht.1)
    have hp : (10 : Nat) ^ 9 = 1000000000 := by decide
    rw [pv_tok ht] at hv
    unfold pval at hv
    split at hv <;> omega
  · intro h
    have hp : (10 : Nat) ^ (8 + 1) = 1000000000 := by decide
    have key : TOk (Lib.itoa v) ∧ pval (Lib.itoa v) (sv (trim (Lib.itoa v))) = v := by
      rcases itoa_cases v with ⟨h1, e⟩ | ⟨h1, e⟩
      · have hs : signed (45 :: Lib.decDigits v.natAbs) := rfl
        rw [e]
        unfold TOk pval trim
        rw [if_pos hs, if_pos hs, List.tail_cons, (dec_all v.natAbs).2]
        exact ⟨⟨dec_len 8 _ (by omega), (dec_all _).1⟩, by omega⟩
      · rw [e]
        unfold TOk pval trim
        rw [if_neg (dec_head _), if_neg (dec_head _), (dec_all v.toNat).2]
        exact ⟨⟨dec_len 8 _ (by omega), (dec_all _).1⟩, by omega⟩
    exact (pok_iff key.1).2 (by rw [key.2])
theorem pv_itoa {v : Int} (h : POk (Lib.itoa v)) : PV (Lib.itoa v) = v := by
  have h3 := h.2.2
  rcases itoa_cases v with ⟨h1, e⟩ | ⟨h1, e⟩
  all_goals
    rw [pv_tok (pok_tok h), e]
  · have hs : signed (45 :: Lib.decDigits v.natAbs) := rfl
    unfold pval trim
    rw [if_pos hs, if_pos hs, List.tail_cons, (dec_all v.natAbs).2]; omega
  · unfold pval trim
    rw [if_neg (dec_head _), if_neg (dec_head _), (dec_all v.toNat).2]; omega
end Go.Proofs.YteknoaikgmlhcaaDoor
