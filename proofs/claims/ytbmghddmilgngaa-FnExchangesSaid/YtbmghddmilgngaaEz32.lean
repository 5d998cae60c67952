/-
  Elements: what one operation on two words returns in the program (printed by mk_eli.py).
  Elements: what the program's products, inverses and conjugates return (printed by mk_eli.py).
  Elements: what the program's DoCommute and IsInvolution return (printed by mk_eli.py).
  Elements: what the model's PowerElement returns.
  Elements: what the program's PowerElement returns.
  The determinant by choosing a column for each row (no walk here): the sum over the columns that are left is the expansion along the first row.
  DeterminantOf of the program: the closure over the rows, and what the call returns.
  DeterminantOf of the program: what the call returns.
  The program's sets by bits, principal minors and witness: what the calls return.
  The program's WitnessOf and IsFinite: what the calls return.
  Lengths: what the program's OrderOfElement returns (printed by mk_rog.py).
  Plain facts on numbers and bytes (no program): bit operations on small numbers.
-/
import Derived.Test.YtbmghddmilgngaaEz22
import Derived.Test.YtbmghddmilgngaaEz28
import Derived.Test.YtbmghddmilgngaaEz30
import Derived.Test.YtbmghddmilgngaaEz31
import Derived.Test.YtbmghddmilgngaaEz03
import Derived.Test.YtbmghddmilgngaaEz20
import Derived.Deep.RegionHeld3
import Derived.OneCell
import Derived.Scope
import Derived.Laws.EntriesVeiled
import Derived.Test.YtbmghddmilgngaaEz21
import Derived.Test.YtbmghddmilgngaaEz19
import Derived.Test.YtbmghddmilgngaaEz27
import Derived.WalkKit
import Derived.Laws.Bits64b
import Derived.Laws.Bits128
import Derived.Laws.BitsAllLaws
namespace Go.Proofs.Ytbmghddmilgngaa
open Go.RowKit

theorem iswi_e (v v' : Value) (m : List (List Int)) (l : List Int) (w : World) (h : MatB w.heap.size w v m) (h' : RowB w.heap.size w v' l) (hf : RowsFit m) (hl : l.length ≤ 1048576) :
    Calls Try.prog 49 #[v, v'] w fun e w' => e = .returned (.bool (wordB m l)) ∧ Below w.heap.size w w' :=
  (iswi_any _ _ v v' m l w h h' hf (by unfold maxLen; omega)).mono fun e w' ⟨h1, q, h2⟩ => ⟨h1, by rw [h2]; exact below_drewN q⟩
end Go.Proofs.Ytbmghddmilgngaa
namespace Go.Proofs.Ytbmghddmilgngaa
open Go.RowKit

end Go.Proofs.Ytbmghddmilgngaa
namespace Go.Proofs.Ytbmghddmilgngaa
open Go.RowKit

end Go.Proofs.Ytbmghddmilgngaa
namespace Go.Proofs.Ytbmghddmilgngaa
open Go.RowKit

theorem pow_stuck {m : List (List Int)} {x : List Int} {t : Nat} (h : powS m x t = ([], false)) : ∀ k, t ≤ k → powS m x k = ([], false) := by
  intro k hk
  induction k with
  | zero =>
    have h0 : t = 0 := by omega
    rw [h0] at h; exact h
  | succ k ih =>
    rcases Nat.lt_or_ge k t with h1 | h1
    · obtain rfl : t = k + 1 := by omega
      exact h
    · unfold powS
      rw [ih h1]; rfl
theorem pow_step {m : List (List Int)} {x : List Int} {t : Nat} (h : (powS m x t).2 = true) : powS m x (t + 1) = (mulL m (powS m x t).1 x, mulB m (powS m x t).1 x) := by
  conv => lhs; unfold powS
  rw [if_pos h]
theorem powS_len (m : List (List Int)) (x : List Int) : ∀ t, (powS m x t).1.length ≤ 31
  | 0 => Nat.zero_le _
  | t + 1 => by
    unfold powS
    split
    · unfold mulL
      split
      · exact fitL_len m _
      · exact Nat.zero_le _
    · exact Nat.zero_le _
end Go.Proofs.Ytbmghddmilgngaa
namespace Go.Proofs.Ytbmghddmilgngaa
open Go.RowKit

end Go.Proofs.Ytbmghddmilgngaa
namespace Go.Proofs.Ytbmghddmilgngaa
open Go.RowKit

/-! ### Signs of a choice -/
def sgnC (j : Nat) : List Nat → Int
  | [] => 1
  | c :: l => if j < c then -sgnC j l else sgnC j l
/-- The sign behind the first i columns of the choice. -/
def sgnT (j : Nat) (ch : List Nat) (i : Nat) : Int := sgnC j (ch.take i)
theorem sgnC_snoc (j c : Nat) (l : List Nat) : sgnC j (l ++ [c]) = if j < c then -sgnC j l else sgnC j l := by
  induction l with
  | nil => rfl
  | cons x l ih =>
    show (if j < x then -sgnC j (l ++ [c]) else sgnC j (l ++ [c])) = _
    rw [ih]
    show _ = if j < c then -(if j < x then -sgnC j l else sgnC j l) else (if j < x then -sgnC j l else sgnC j l)
    split <;> split <;> simp
theorem sgnC_one (j : Nat) (l : List Nat) : sgnC j l = 1 ∨ sgnC j l = -1 := by
  induction l with
  | nil => exact Or.inl rfl
  | cons x l ih =>
    show (if j < x then -sgnC j l else sgnC j l) = 1 ∨ (if j < x then -sgnC j l else sgnC j l) = -1
    split
    · rcases ih with h | h <;> rw [h] <;> simp
    · exact ih
/-! ### The sum over the columns that are left -/
def expF (m : List (List Int)) (n : Nat) : Nat → List Nat → Int
  | 0, _ => 1
  | k + 1, ch => ((List.range n).map fun j => if ch.contains j then 0 else sgnC j ch * entry m ch.length j * expF m n k (ch ++ [j])).sum
def expT (m : List (List Int)) (n k : Nat) (ch : List Nat) (j : Nat) : Int := if ch.contains j then 0 else sgnC j ch * entry m ch.length j * expF m n k (ch ++ [j])
def expS (m : List (List Int)) (n k : Nat) (ch : List Nat) (j : Nat) : Int := ((List.range j).map (expT m n k ch)).sum
theorem expS_step (m : List (List Int)) (n k : Nat) (ch : List Nat) (j : Nat) : expS m n k ch (j + 1) = expS m n k ch j + expT m n k ch j := by
  unfold expS
  rw [List.range_succ, List.map_append, List.sum_append]
  simp
theorem expS_end (m : List (List Int)) (n k : Nat) (ch : List Nat) : expS m n k ch n = expF m n (k + 1) ch := rfl
/-- 4, 4 * 3 * 4, .. : what a sum comes to at most. -/
def eB : Nat → Int
  | 0 => 1
  | n + 1 => 4 * (3 * eB n)
theorem eB_nonneg (n : Nat) : 0 ≤ eB n := by
  induction n with
  | zero => decide
  | succ n ih => exact Int.mul_nonneg (by omega) (by omega)
theorem expT_bd {m : List (List Int)} {n k : Nat} {ch : List Nat} {j : Nat} (hb : Bd m) (h : -(eB k) ≤ expF m n k (ch ++ [j]) ∧ expF m n k (ch ++ [j]) ≤ eB k) : -(3 * eB k) ≤ expT m n k ch j ∧ expT m n k ch j ≤ 3 * eB k := by
  have h0 := eB_nonneg k
  unfold expT
  split
  · omega
  · have hx : -3 ≤ sgnC j ch * entry m ch.length j ∧ sgnC j ch * entry m ch.length j ≤ 3 := by
      have := hb ch.length j
      rcases sgnC_one j ch with h1 | h1 <;> rw [h1] <;> omega
    exact mul_le3 hx h h0
theorem expS_bd {m : List (List Int)} {n k : Nat} {ch : List Nat} (hb : Bd m) (h : ∀ j, -(eB k) ≤ expF m n k (ch ++ [j]) ∧ expF m n k (ch ++ [j]) ≤ eB k) (j : Nat) :
    -((j : Int) * (3 * eB k)) ≤ expS m n k ch j ∧ expS m n k ch j ≤ (j : Int) * (3 * eB k) := by
  induction j with
  | zero => simp [expS]
  | succ j ih =>
    rw [expS_step]
    have h1 := expT_bd hb (h j)
    have e : ((j + 1 : Nat) : Int) * (3 * eB k) = (j : Int) * (3 * eB k) + 3 * eB k := by rw [Int.natCast_succ, Int.add_mul, Int.one_mul]
    rw [e]
    omega
theorem expF_bd {m : List (List Int)} {n : Nat} (hn : n ≤ 4) (hb : Bd m) (k : Nat) : ∀ ch, -(eB k) ≤ expF m n k ch ∧ expF m n k ch ≤ eB k := by
  induction k with
  | zero => intro ch; show -(1 : Int) ≤ 1 ∧ (1 : Int) ≤ 1; decide
  | succ k ih =>
    intro ch
    rw [← expS_end]
    have h1 := expS_bd (n := n) (ch := ch) hb (fun j => ih (ch ++ [j])) n
    have h0 := eB_nonneg k
    have h2 : (n : Int) * (3 * eB k) ≤ 4 * (3 * eB k) := Int.mul_le_mul_of_nonneg_right (by omega) (by omega)
    show -(4 * (3 * eB k)) ≤ _ ∧ _ ≤ 4 * (3 * eB k)
    omega
theorem eB_small (n : Nat) (h : n ≤ 4) : eB n ≤ 20736 := by
  rcases (show n = 0 ∨ n = 1 ∨ n = 2 ∨ n = 3 ∨ n = 4 by omega) with rfl | rfl | rfl | rfl | rfl <;> decide
/-! ### It is the determinant -/
theorem exp_det1 (m : List (List Int)) : expF m 1 1 [] = detF 1 m := by
  simp [expF, detF, sgnC, sgn, entry, List.range_succ, List.getD]
theorem exp_det2 (m : List (List Int)) : expF m 2 2 [] = detF 2 m := by
  have e : ∀ i j, ((m[i]?.getD [])[j]?.getD 0) = entry m i j := fun i j => by simp [entry, List.getD]
  simp [expF, detF, sgnC, sgn, wdM, wdR, keepC, List.range_succ, List.contains, List.elem]
  simp [entry, List.getD]
  simp only [e]
  grind
theorem exp_det3 (m : List (List Int)) : expF m 3 3 [] = detF 3 m := by
  have e : ∀ i j, ((m[i]?.getD [])[j]?.getD 0) = entry m i j := fun i j => by simp [entry, List.getD]
  simp [expF, detF, sgnC, sgn, wdM, wdR, keepC, List.range_succ, List.contains, List.elem]
  simp [entry, List.getD]
  simp only [e]
  grind
set_option maxHeartbeats 2000000 in
theorem exp_det4 (m : List (List Int)) : expF m 4 4 [] = detF 4 m := by
  have e : ∀ i j, ((m[i]?.getD [])[j]?.getD 0) = entry m i j := fun i j => by simp [entry, List.getD]
  simp [expF, detF, sgnC, sgn, wdM, wdR, keepC, List.range_succ, List.contains, List.elem]
  simp [entry, List.getD]
  simp only [e]
  grind
theorem exp_det (m : List (List Int)) (n : Nat) (h : n ≤ 4) : expF m n n [] = detF n m := by
  rcases (show n = 0 ∨ n = 1 ∨ n = 2 ∨ n = 3 ∨ n = 4 by omega) with rfl | rfl | rfl | rfl | rfl
  · rfl
  · exact exp_det1 m
  · exact exp_det2 m
  · exact exp_det3 m
  · exact exp_det4 m
end Go.Proofs.Ytbmghddmilgngaa
namespace Go.Proofs.Ytbmghddmilgngaa
open Go.RowKit

set_option maxRecDepth 100000 in
theorem slice_chosen (Bh L : Nat) (h : L ≤ 4) (w : World) : (Instr.sliceAt 57 (.pointer (some ⟨Bh, 0, none⟩)) none (some (.int .i64 L)) none).run Try.prog w = .ok (.slice (some ⟨Bh, 0, none⟩) L 4) w := by
  have hA : Try.prog.underlying 57 = some (.array (Try.prog.arrayLen 57) (Try.prog.elem 57)) := by kernel_rfl
  have h4 : Try.prog.arrayLen 57 = 4 := by kernel_rfl
  have he : Try.prog.elem 57 = 3 := by kernel_rfl
  rw [run_sliceAt_array_h w 57 ⟨Bh, 0, none⟩ hA .i64 L (by omega) (by rw [h4]; omega), he, h4]
  have hs : (sizeOf 3).run Try.prog w = .ok 1 w := by rfl
  rw [hs]
  simp [slicedAt, Addr.add]
theorem sgnT_step (j : Nat) (ch : List Nat) (i : Nat) (h : i < ch.length) : sgnT j ch (i + 1) = if j < ch.getD i 0 then -sgnT j ch i else sgnT j ch i := by
  unfold sgnT
  rw [List.take_succ_eq_append_getElem h, sgnC_snoc]
  simp [List.getD, h]
theorem sgnT_one (j : Nat) (ch : List Nat) (i : Nat) : sgnT j ch i = 1 ∨ sgnT j ch i = -1 := sgnC_one _ _
set_option maxRecDepth 100000 in
theorem contains_at {ch : List Nat} {i j : Nat} (h : i < ch.length) (he : ch.getD i 0 = j) : ch.contains j = true := by
  rw [List.contains_iff_mem]
  subst he
  simp [List.getD, h]
theorem contains_not {ch : List Nat} {j : Nat} (h : ∀ i, i < ch.length → ch.getD i 0 ≠ j) : ch.contains j = false := by
  rw [Bool.eq_false_iff]
  intro hc
  rw [List.contains_iff_mem] at hc
  obtain ⟨i, hi, he⟩ := List.getElem_of_mem hc
  exact h i hi (by simp [List.getD, hi, he])

end Go.Proofs.Ytbmghddmilgngaa
namespace Go.Proofs.Ytbmghddmilgngaa
open Go.RowKit

end Go.Proofs.Ytbmghddmilgngaa
namespace Go.Proofs.Ytbmghddmilgngaa
open Go.RowKit

/-! ### The points of a number -/
theorem setK_four : ∀ n : Nat, n ≤ 4 → ∀ t : Nat, t < 2 ^ n → setK t 4 = setK t n := by decide +kernel
theorem bit_bool (t c : Nat) (ht : t < 16) (hc : c < 4) : (bits BinOp.and IntKind.i64 ((t : Int) / 2 ^ c) 1 == 1) = t.testBit c := bit_test t ht c hc
/-! ### The matrix of a set is valid -/
theorem set_isC4 {m : List (List Int)} (hI : IsC m) {t : Nat} (ht : t < 2 ^ m.length - 1) : IsC (pick m (intL (setK (t + 1) m.length))) ∧ (pick m (intL (setK (t + 1) m.length))).length = (setK (t + 1) m.length).length := by
  have hset := set_is hI.2.2.2 ht
  have hn0 := (sets_ok m.length hI.2.2.2 t ht)
  have hl4 : (setK (t + 1) m.length).length ≤ 4 := Nat.le_trans (setK_len _ _) hI.2.2.2
  have hlen : (pick m (intL (setK (t + 1) m.length))).length = (setK (t + 1) m.length).length := by rw [pick_len, intL_len]
  refine ⟨⟨?_, ?_, by rw [hlen]; have := hn0.1; omega, by rw [hlen]; exact hl4⟩, hlen⟩
  · intro i hi
    have := pick_rows m (intL (setK (t + 1) m.length))
    rw [intL_len] at this
    rw [hlen] at hi ⊢
    exact this i hi
  · intro i j hi hj
    rw [hlen] at hi hj
    have hasc : ∀ k, k < (setK (t + 1) m.length).length → ∀ l, l < k → (setK (t + 1) m.length).getD l 0 < (setK (t + 1) m.length).getD k 0 := by
      intro k
      induction k with
      | zero => intro _ l hl; omega
      | succ k ih =>
        intro hk l hl
        have h1 := (hn0.2 (k + 1) hk).2 (by omega)
        simp only [Nat.add_sub_cancel] at h1
        rcases Nat.lt_or_ge l k with h2 | h2
        · exact Nat.lt_trans (ih (by omega) l h2) h1
        · obtain rfl : l = k := by omega
          exact h1
    have he : ∀ p r, p < (setK (t + 1) m.length).length → r < (setK (t + 1) m.length).length → entry (pick m (intL (setK (t + 1) m.length))) p r = entry m ((setK (t + 1) m.length).getD p 0) ((setK (t + 1) m.length).getD r 0) := fun p r hp hr => by
      unfold pick
      rw [fullM_entry _ _ _ _ (by rw [intL_len]; exact hp) (by rw [intL_len]; exact hr)]
      unfold ptsF
      rw [intL_get _ _ hp, intL_get _ _ hr]; rfl
    have h0 := hI.2.1 _ _ (hn0.2 i hi).1 (hn0.2 j hj).1
    unfold okC at h0 ⊢
    rw [he i j hi hj, he j i hj hi]
    rcases h0 with ⟨h1, h2⟩ | ⟨h1, h2, h3⟩
    · refine Or.inl ⟨?_, h2⟩
      rcases Nat.lt_trichotomy i j with h4 | h4 | h4
      · have := hasc j hj i h4; omega
      · exact h4
      · have := hasc i hi j h4; omega
    · exact Or.inr ⟨fun e => h1 (by rw [e]), h2, h3⟩
theorem pick_detV {m : List (List Int)} (hI : IsC m) {t : Nat} (ht : t < 2 ^ m.length - 1) : detV (pick m (intL (setK (t + 1) m.length))) = minP m t := by
  obtain ⟨h1, h2⟩ := set_isC4 hI ht
  rw [detV_yes h1, h2]; rfl

/-! ### Minors -/
end Go.Proofs.Ytbmghddmilgngaa
namespace Go.Proofs.Ytbmghddmilgngaa
open Go.RowKit

theorem minK_get (m : List (List Int)) (k t : Nat) (h : t < k) : (minK m k).getD t 0 = minP m t := by simp [minK, List.getD, h]
end Go.Proofs.Ytbmghddmilgngaa
namespace Go.Proofs.Ytbmghddmilgngaa
open Go.RowKit

end Go.Proofs.Ytbmghddmilgngaa
namespace Go.Proofs.Ytbmghddmilgngaa
open Go.RowKit

theorem or_i64_nat (a b : Nat) (ha : a < 9223372036854775808) (hb : b < 9223372036854775808) :
    bits .or .i64 (a : Int) (b : Int) = ((a ||| b : Nat) : Int) := by
  have hx : a ||| b < 2 ^ 63 := Nat.or_lt_two_pow ha hb
  have h1 : (BitVec.ofInt 64 (a : Int)).toNat = a := by
    rw [BitVec.ofInt_natCast, BitVec.toNat_ofNat]; exact Nat.mod_eq_of_lt (by omega)
  have h2 : (BitVec.ofInt 64 (b : Int)).toNat = b := by
    rw [BitVec.ofInt_natCast, BitVec.toNat_ofNat]; exact Nat.mod_eq_of_lt (by omega)
  show IntKind.i64.wrap ((BitVec.ofInt 64 (a : Int) ||| BitVec.ofInt 64 (b : Int)).toNat : Int) = _
  rw [BitVec.toNat_or, h1, h2, IntKind.wrap_i64]
  omega

theorem or_low (a b i : Nat) (hb : b < 2 ^ i) : a * 2 ^ i ||| b = a * 2 ^ i + b := by
  have := Nat.two_pow_add_eq_or_of_lt hb a
  rw [Nat.mul_comm] ; omega

theorem or_byte (a b : Nat) (ha : a ≤ 281474976710655) (hb : b ≤ 255) : bits .or .i64 ((a : Int) * 256) (b : Int) = (a : Int) * 256 + b := by
  have h := or_i64_nat (a * 256) b (by omega) (by omega)
  have e := or_low a b 8 (by omega)
  rw [show ((a : Int) * 256) = ((a * 256 : Nat) : Int) by omega, h]
  rw [show (2 : Nat) ^ 8 = 256 from rfl] at e
  rw [e]; omega

theorem and127_or128 (n : Nat) : bits .or .i64 (bits .and .i64 (n : Int) 127) 128 = 128 + (n : Int) % 128 := by
  rw [i64_and127]
  have h := or_i64_nat (n % 128) 128 (by omega) (by omega)
  have e : (n % 128) ||| 128 = n % 128 + 128 := by
    have := or_low 1 (n % 128) 7 (by omega)
    rw [Nat.or_comm]; simpa [Nat.add_comm] using this
  rw [e] at h
  rw [show ((n : Int) % 128) = ((n % 128 : Nat) : Int) by omega]
  rw [show (128 : Int) = ((128 : Nat) : Int) from rfl, h]
  omega

theorem pow128 (k : Nat) : 2 ^ (7 * k) = 128 ^ k := by rw [Nat.pow_mul]

theorem or_shift (v k : Nat) (B : Int) (b : Nat) (hB : B = b) (hb : b < 256) (hv : v < 128 ^ k) (hk : k < 7) :
    bits .or .i64 (v : Int) (wrap64 (wrap64 (bits .and .u8 B 127) * 2 ^ (7 * k))) = ((v + 128 ^ k * (b % 128) : Nat) : Int) := by
  subst hB
  have e1 : bits .and .u8 (b : Int) 127 = ((b % 128 : Nat) : Int) := by
    have := u8_and_nat b 127 hb (by omega)
    rw [show ((127 : Nat) : Int) = 127 from rfl] at this
    rw [this, show b &&& 127 = b % 128 from Nat.and_two_pow_sub_one_eq_mod b 7]
  have hp : 128 ^ k ≤ 128 ^ 6 := Nat.pow_le_pow_right (by omega) (by omega)
  have hp6 : (128 : Nat) ^ 6 = 4398046511104 := by decide
  have hm : (b % 128) * 128 ^ k ≤ 127 * 4398046511104 := Nat.mul_le_mul (by omega) (by omega)
  have e2 : wrap64 ((b % 128 : Nat) : Int) = ((b % 128 : Nat) : Int) := IntWalk.wrap64_in _ ⟨by omega, by omega⟩
  have e3 : (2 : Int) ^ (7 * k) = ((128 ^ k : Nat) : Int) := by
    rw [← pow128]; simp
  have e4 : wrap64 (((b % 128 : Nat) : Int) * ((128 ^ k : Nat) : Int)) = (((b % 128) * 128 ^ k : Nat) : Int) := by
    rw [← Int.natCast_mul]
    exact IntWalk.wrap64_in _ ⟨by omega, by omega⟩
  rw [e1, e2, e3, e4, or_i64_nat _ _ (by omega) (by omega), Nat.or_comm]
  rw [← pow128] at hv ⊢
  rw [or_low _ _ _ hv, Nat.mul_comm, Nat.add_comm]

/-- A byte in a region that draws its order: the wraps that the walk leaves there. -/
theorem byte_wrap (b : UInt8) : IntKind.i64.wrap (b.toNat : Int) = (b.toNat : Int) := IntWalk.i64_in _ (by have := b.toNat_lt; omega)
theorem byte_tdiv16 (b : UInt8) : ((b.toNat : Int)).tdiv 16 = (b.toNat : Int) / 16 := Int.tdiv_eq_ediv_of_nonneg (by omega)
theorem byte_tmod16 (b : UInt8) : ((b.toNat : Int)).tmod 16 = (b.toNat : Int) % 16 := Int.tmod_eq_emod_of_nonneg (by omega)
theorem byte_wrap16 (b : UInt8) : IntKind.i64.wrap ((b.toNat : Int) / 16) = (b.toNat : Int) / 16 := IntWalk.i64_in _ (by have := b.toNat_lt; omega)

theorem byte_and15 (b : UInt8) : bits .and .u8 (b.toNat : Int) 15 = (b.toNat : Int) % 16 := by
  have := u8_and_nat b.toNat 15 b.toNat_lt (by omega)
  rw [show ((15 : Nat) : Int) = 15 from rfl] at this
  rw [this, show b.toNat &&& 15 = b.toNat % 16 from Nat.and_two_pow_sub_one_eq_mod b.toNat 4]
  omega

theorem nib_or (a b : Nat) (ha : a ≤ 15) (hb : b ≤ 15) : bits .or .u8 ((a : Int) * 16) (b : Int) = ((16 * a + b : Nat) : Int) := by
  have h := u8_or_nat (a * 16) b (by omega) (by omega)
  have e := or_low a b 4 (by omega)
  rw [show (2 : Nat) ^ 4 = 16 from rfl] at e
  rw [show ((a : Int) * 16) = ((a * 16 : Nat) : Int) by omega, h, e]
  omega
end Go.Proofs.Ytbmghddmilgngaa
