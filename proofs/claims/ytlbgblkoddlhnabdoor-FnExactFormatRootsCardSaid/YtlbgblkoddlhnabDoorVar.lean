/-
  Plain facts on varints, as lists of bytes: which prefix of a text is a number's own varint.
-/
import Derived.WalkKit
namespace Go.Proofs.YtlbgblkoddlhnabDoor

def vb (n : Nat) : List UInt8 := if n < 128 then [UInt8.ofNat n] else UInt8.ofNat (128 + n % 128) :: vb (n / 128)
  decreasing_by omega
theorem vb_small {n : Nat} (h : n < 128) : vb n = [UInt8.ofNat n] := by rw [vb, if_pos h]
theorem vb_big {n : Nat} (h : ¬ n < 128) : vb n = UInt8.ofNat (128 + n % 128) :: vb (n / 128) := by rw [vb, if_neg h]
theorem vb_len (k : Nat) : ∀ n, n < 128 ^ (k + 1) → (vb n).length ≤ k + 1 := by
  induction k with
  | zero => intro n h; rw [vb_small (by simpa using h)]; simp
  | succ k ih =>
    intro n h
    by_cases h' : n < 128
    · rw [vb_small h']; simp
    · rw [vb_big h']
      have := ih (n / 128) (by rw [Nat.pow_succ] at h; omega)
      simp only [List.length_cons]; omega
theorem vb_len7 {n : Nat} (h : n ≤ 562949953421311) : (vb n).length ≤ 7 := vb_len 6 n (by
  have : 128 ^ (6 + 1) = 562949953421312 := by decide
  omega)
theorem vb_pos (n : Nat) : 1 ≤ (vb n).length := by rw [vb]; split <;> simp

theorem u8_nat (n : Nat) (h : n < 256) : ((UInt8.ofNat n).toNat : Int) = n := by
  rw [UInt8.toNat_ofNat']; omega
theorem u8_natN (n : Nat) (h : n < 256) : (UInt8.ofNat n).toNat = n := by
  rw [UInt8.toNat_ofNat']; omega
theorem u8_ext {a b : UInt8} : a = b ↔ a.toNat = b.toNat := ⟨fun h => by rw [h], UInt8.toNat.inj⟩

def vval : List UInt8 → Nat
  | [] => 0
  | b :: r => b.toNat % 128 + 128 * vval r

theorem vval_lt : ∀ l, vval l < 128 ^ l.length
  | [] => by simp [vval]
  | b :: r => by
    have := vval_lt r
    simp only [vval, List.length_cons, Nat.pow_succ]
    omega

theorem vval_zero : ∀ (l : List UInt8), vval l = 0 → ∀ i, i < l.length → (l.getD i 0).toNat % 128 = 0
  | [], _, i, hi => by simp at hi
  | b :: r, h, 0, _ => by simp only [vval] at h; simp; omega
  | b :: r, h, i + 1, hi => by
    simp only [vval] at h
    have := vval_zero r (by omega) i (by simpa using hi)
    simpa using this

theorem vval_snoc : ∀ (l : List UInt8) (c : UInt8), vval (l ++ [c]) = vval l + 128 ^ l.length * (c.toNat % 128)
  | [], c => by simp [vval]
  | b :: r, c => by
    have := vval_snoc r c
    simp only [List.cons_append, vval, this, List.length_cons, Nat.pow_succ]
    rw [Nat.mul_comm (128 ^ r.length) 128, Nat.mul_assoc]
    omega

/-- The first k bytes of l are a number's own varint. -/
def Good (l : List UInt8) (k : Nat) : Prop :=
  1 ≤ k ∧ k ≤ l.length ∧ (∀ i, i + 1 < k → 128 ≤ (l.getD i 0).toNat) ∧ (l.getD (k - 1) 0).toNat < 128 ∧ (k = 1 ∨ (l.getD (k - 1) 0).toNat ≠ 0)

theorem good_one {l : List UInt8} {k k' : Nat} (h : Good l k) (h' : Good l k') : k = k' := by
  obtain ⟨a1, a2, a3, a4, _⟩ := h
  obtain ⟨b1, b2, b3, b4, _⟩ := h'
  rcases Nat.lt_trichotomy k k' with h | h | h
  · have := b3 (k - 1) (by omega); omega
  · exact h
  · have := a3 (k' - 1) (by omega); omega

theorem vb_good : ∀ (k : Nat) (l : List UInt8), 1 ≤ k → k ≤ l.length → (vb (vval (l.take k)) = l.take k ↔ Good l k)
  | 0, _, h, _ => by omega
  | 1, [], _, h => by simp at h
  | 1, b :: r, _, _ => by
    have hb := b.toNat_lt
    simp only [List.take_succ_cons, List.take_zero, vval]
    rw [vb_small (by omega)]
    simp only [List.cons.injEq, and_true, u8_ext, u8_natN _ (show b.toNat % 128 + 128 * 0 < 256 by omega)]
    constructor
    · intro h
      refine ⟨Nat.le_refl _, by simp, fun i hi => by omega, ?_, Or.inl rfl⟩
      simp; omega
    · rintro ⟨_, _, _, h, _⟩
      simp at h; omega
  | k + 2, [], _, h => by simp at h
  | k + 2, b :: r, _, h => by
    have hb := b.toNat_lt
    have hl : k + 1 ≤ r.length := by simpa using h
    have ih := vb_good (k + 1) r (by omega) hl
    have htl : (r.take (k + 1)).length = k + 1 := by rw [List.length_take]; omega
    simp only [List.take_succ_cons, vval]
    by_cases hv : vval (r.take (k + 1)) = 0
    · constructor
      · intro e
        rw [hv, vb_small (by omega)] at e
        have := congrArg List.length e
        simp only [List.length_cons, List.length_nil, htl] at this
        omega
      · rintro ⟨_, _, _, h4, h5⟩
        have hz := vval_zero _ hv k (by omega)
        have e1 : (r.take (k + 1)).getD k 0 = r.getD k 0 := by
          simp [List.getD, List.getElem?_take_of_lt (show k < k + 1 by omega)]
        rw [e1] at hz
        simp at h4 h5
        simp at hz
        omega
    · rw [vb_big (by omega), show (b.toNat % 128 + 128 * vval (r.take (k + 1))) / 128 = vval (r.take (k + 1)) by omega,
        show 128 + (b.toNat % 128 + 128 * vval (r.take (k + 1))) % 128 = 128 + b.toNat % 128 by omega]
      simp only [List.cons.injEq, u8_ext, u8_natN _ (show 128 + b.toNat % 128 < 256 by omega), ih]
      constructor
      · rintro ⟨h1, g1, g2, g3, g4, g5⟩
        refine ⟨by omega, by simpa using h, ?_, by simpa using g4, Or.inr ?_⟩
        · intro i hi
          match i, hi with
          | 0, _ => simp; omega
          | i + 1, hi => simpa using g3 i (by omega)
        · simp only [Nat.add_sub_cancel] at g4 g5 ⊢
          have e : (b :: r).getD (k + 1) 0 = r.getD k 0 := by simp
          rw [show k + 2 - 1 = k + 1 by omega, e]
          rcases g5 with g5 | g5
          · have hk : k = 0 := by omega
            subst hk
            match r, hl, hv with
            | c :: r', _, hv =>
              simp [vval] at hv
              simp
              intro hc
              rw [hc] at hv
              simp at hv
          · exact g5
      · rintro ⟨_, _, g3, g4, g5⟩
        have h0 := g3 0 (by omega)
        simp only [List.getD_cons_zero] at h0
        refine ⟨by omega, by omega, hl, ?_, by simpa using g4, Or.inr ?_⟩
        · intro i hi
          simpa using g3 (i + 1) (by omega)
        · rcases g5 with g5 | g5
          · omega
          · simpa using g5
end Go.Proofs.YtlbgblkoddlhnabDoor
