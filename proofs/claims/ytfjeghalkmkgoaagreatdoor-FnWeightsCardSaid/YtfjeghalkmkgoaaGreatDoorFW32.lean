/-
  Roots over unbounded integers: what is reached upwards from the simple roots is closed under every reflection that keeps it positive; so every image of a simple root is positive or negative (no walk here).
-/
import Derived.Test.YtfjeghalkmkgoaaGreatDoorFW31
namespace Go.Proofs.YtfjeghalkmkgoaaGreatDoor

/-! ### Sums over points -/
def sumN (f : Nat → Int) : Nat → Int
  | 0 => 0
  | k + 1 => sumN f k + f k
theorem sumN_congr {f g : Nat → Int} : ∀ {k : Nat}, (∀ t, t < k → f t = g t) → sumN f k = sumN g k
  | 0, _ => rfl
  | k + 1, h => by rw [sumN, sumN, sumN_congr (fun t ht => h t (by omega)), h k (by omega)]
theorem sumN_add (f g : Nat → Int) : ∀ k, sumN (fun t => f t + g t) k = sumN f k + sumN g k
  | 0 => rfl
  | k + 1 => by simp only [sumN]; rw [sumN_add f g k]; omega
theorem sumN_at (f : Nat → Int) (j : Nat) (a : Int) : ∀ k, sumN (fun t => f t * (if t = j then a else 0)) k = if j < k then a * f j else 0
  | 0 => by simp [sumN]
  | k + 1 => by
    simp only [sumN]
    rw [sumN_at f j a k]
    rcases Nat.lt_trichotomy j k with h | h | h
    · rw [if_pos h, if_neg (by omega), if_pos (by omega)]; omega
    · subst h; rw [if_neg (by omega), if_pos rfl, if_pos (by omega), Int.mul_comm]; omega
    · rw [if_neg (by omega), if_neg (by omega), if_neg (by omega)]; omega
theorem sumN_neg (f : Nat → Int) : ∀ k, sumN (fun t => -f t) k = -sumN f k
  | 0 => rfl
  | k + 1 => by simp only [sumN]; rw [sumN_neg f k]; omega
theorem sumN_nonneg {f : Nat → Int} : ∀ {k : Nat}, (∀ t, t < k → 0 ≤ f t) → 0 ≤ sumN f k
  | 0, _ => by simp [sumN]
  | k + 1, h => by
    have h1 := sumN_nonneg (f := f) (k := k) (fun t ht => h t (by omega))
    have h2 := h k (by omega)
    simp only [sumN]; omega
/-! ### Vectors, pairings, reflections -/
structure Gcm (n : Nat) (A : Nat → Nat → Int) : Prop where
  diag : ∀ i, i < n → A i i = 2
  off : ∀ i j, i < n → j < n → i ≠ j → -3 ≤ A i j ∧ A i j ≤ 0
  zero : ∀ i j, i < n → j < n → A i j = 0 → A j i = 0
def oneV (j : Nat) : Nat → Int := fun t => if t = j then 1 else 0
def addV (r : Nat → Int) (j : Nat) (a : Int) : Nat → Int := fun t => r t + (if t = j then a else 0)
def prV (n : Nat) (A : Nat → Nat → Int) (i : Nat) (r : Nat → Int) : Int := sumN (fun t => A i t * r t) n
def htV (n : Nat) (r : Nat → Int) : Int := sumN r n
def rfV (n : Nat) (A : Nat → Nat → Int) (i : Nat) (r : Nat → Int) : Nat → Int := addV r i (-(prV n A i r))
theorem pr_addV {n : Nat} (A : Nat → Nat → Int) (i : Nat) (r : Nat → Int) {j : Nat} (hj : j < n) (a : Int) : prV n A i (addV r j a) = prV n A i r + a * A i j := by
  unfold prV addV
  have e : sumN (fun t => A i t * (r t + if t = j then a else 0)) n = sumN (fun t => A i t * r t + A i t * (if t = j then a else 0)) n := sumN_congr fun t _ => Int.mul_add ..
  rw [e, sumN_add, sumN_at, if_pos hj]
theorem pr_oneV {n : Nat} (A : Nat → Nat → Int) (i : Nat) {j : Nat} (hj : j < n) : prV n A i (oneV j) = A i j := by
  unfold prV oneV
  rw [sumN_at (A i) j 1 n, if_pos hj, Int.one_mul]
theorem ht_addV {n : Nat} (r : Nat → Int) {j : Nat} (hj : j < n) (a : Int) : htV n (addV r j a) = htV n r + a := by
  have e : htV n (addV r j a) = sumN r n + sumN (fun t => 1 * (if t = j then a else 0)) n := by
    unfold htV addV; rw [← sumN_add]; exact sumN_congr fun t _ => by omega
  rw [e, sumN_at (fun _ => 1) j a n, if_pos hj]; unfold htV; omega
theorem ht_oneV {n j : Nat} (hj : j < n) : htV n (oneV j) = 1 := by
  have e : htV n (oneV j) = sumN (fun t => 1 * (if t = j then 1 else 0)) n := sumN_congr fun t _ => by unfold oneV; omega
  rw [e, sumN_at (fun _ => 1) j 1 n, if_pos hj]; rfl
theorem addV_same (r : Nat → Int) (j : Nat) (a b : Int) : addV (addV r j a) j b = addV r j (a + b) := by
  funext t; unfold addV; by_cases h : t = j <;> simp [h] <;> omega
theorem addV_comm (r : Nat → Int) (i k : Nat) (a b : Int) : addV (addV r i a) k b = addV (addV r k b) i a := by
  funext t; unfold addV; omega
theorem addV_zero (r : Nat → Int) (j : Nat) : addV r j 0 = r := by
  funext t; unfold addV; by_cases h : t = j <;> simp [h]
/-! ### Upwards from the simple roots -/
inductive Up (n : Nat) (A : Nat → Nat → Int) : (Nat → Int) → Prop
  | one (i : Nat) : i < n → Up n A (oneV i)
  | up (r : Nat → Int) (i : Nat) : Up n A r → i < n → prV n A i r < 0 → Up n A (addV r i (-(prV n A i r)))
theorem up_nonneg {n : Nat} {A : Nat → Nat → Int} {r : Nat → Int} (h : Up n A r) : ∀ t, 0 ≤ r t := by
  induction h with
  | one i _ => intro t; unfold oneV; by_cases h : t = i <;> simp [h]
  | up r i _ _ hp ih =>
    intro t
    have := ih t
    unfold addV
    by_cases h : t = i
    · rw [if_pos h]; omega
    · rw [if_neg h]; omega
theorem up_ht {n : Nat} {A : Nat → Nat → Int} {r : Nat → Int} (h : Up n A r) : 1 ≤ htV n r := by
  induction h with
  | one i hi => rw [ht_oneV hi]; omega
  | up r i _ hi hp ih => rw [ht_addV r hi]; omega
def DownTo (n : Nat) (A : Nat → Nat → Int) (N : Int) : Prop := ∀ r i, Up n A r → i < n → htV n r ≤ N → 0 < prV n A i r → r ≠ oneV i → Up n A (addV r i (-(prV n A i r)))
/-- Two letters without relation: descending would never end. -/
theorem up_wild {n : Nat} {A : Nat → Nat → Int} {N : Int} (hD : DownTo n A N) : ∀ (M : Nat) (i k : Nat) (d e : Int) (q : Nat → Int), i < n → k < n → A i i = 2 → A k k = 2 → A i k = -d → A k i = -e → ((d = 2 ∧ e = 2) ∨ (d = 2 ∧ e = 3) ∨ (d = 3 ∧ e = 2) ∨ (d = 3 ∧ e = 3)) → Up n A q → htV n q ≤ M → htV n q ≤ N → 0 < prV n A i q → prV n A k q < 0 → -(d * e * prV n A k q) < 2 * e * prV n A i q → False
  | 0, _, _, _, _, q, _, _, _, _, _, _, _, hU, hM, _, _, _, _ => by have := up_ht hU; omega
  | M + 1, i, k, d, e, q, hi, hk, hii, hkk, hik, hki, hc, hU, hM, hN, hX, hY, hr => by
    have hne : q ≠ oneV i := by
      intro he
      rw [he, pr_oneV A i hi, pr_oneV A k hi, hii, hki] at hr
      rcases hc with ⟨rfl, rfl⟩ | ⟨rfl, rfl⟩ | ⟨rfl, rfl⟩ | ⟨rfl, rfl⟩ <;> omega
    have hU' := hD q i hU hi hN hX hne
    have h1 := pr_addV A i q hi (-(prV n A i q))
    have h2 := pr_addV A k q hi (-(prV n A i q))
    have h3 := ht_addV q hi (-(prV n A i q))
    rw [hii] at h1
    rw [hki] at h2
    refine up_wild hD M k i e d _ hk hi hkk hii hki hik (by omega) hU' (by omega) (by omega) ?_ ?_ ?_
    · rw [h2]
      generalize prV n A i q = X at *
      generalize prV n A k q = Y at *
      rcases hc with ⟨rfl, rfl⟩ | ⟨rfl, rfl⟩ | ⟨rfl, rfl⟩ | ⟨rfl, rfl⟩ <;> omega
    · rw [h1]; omega
    · rw [h1, h2]
      generalize prV n A i q = X at *
      generalize prV n A k q = Y at *
      rcases hc with ⟨rfl, rfl⟩ | ⟨rfl, rfl⟩ | ⟨rfl, rfl⟩ | ⟨rfl, rfl⟩ <;> omega
set_option maxHeartbeats 4000000 in
theorem up_down_at {n : Nat} {A : Nat → Nat → Int} (g : Gcm n A) {N : Int} (hD : DownTo n A N) {q : Nat → Int} {i k : Nat} (hi : i < n) (hk : k < n) (hU : Up n A q) (hq : prV n A k q < 0) (hN : htV n (addV q k (-(prV n A k q))) ≤ N + 1) (hp : 0 < prV n A i (addV q k (-(prV n A k q)))) : Up n A (addV (addV q k (-(prV n A k q))) i (-(prV n A i (addV q k (-(prV n A k q)))))) := by
  by_cases hik : i = k
  · subst hik
    have h1 := pr_addV A i q hi (-(prV n A i q))
    rw [g.diag i hi] at h1
    rw [addV_same, h1, show -(prV n A i q) + -(prV n A i q + -(prV n A i q) * 2) = 0 by omega, addV_zero]
    exact hU
  have hii := g.diag i hi
  have hkk := g.diag k hk
  have o1 := g.off i k hi hk hik
  have o2 := g.off k i hk hi (fun h => hik h.symm)
  have z1 := g.zero i k hi hk
  have z2 := g.zero k i hk hi
  obtain ⟨d, hd⟩ : ∃ d, d = -(A i k) := ⟨_, rfl⟩
  obtain ⟨e, he⟩ : ∃ e, e = -(A k i) := ⟨_, rfl⟩
  have hAd : A i k = -d := by omega
  have hAe : A k i = -e := by omega
  rw [hAd] at o1 z1 z2
  rw [hAe] at o2 z1 z2
  have hrk := pr_addV A k q hk (-(prV n A k q))
  rw [hkk] at hrk
  obtain ⟨y, hy⟩ : ∃ y, y = -(prV n A k q) := ⟨_, rfl⟩
  rw [← hy] at hN hp hrk ⊢
  obtain ⟨r, hr⟩ : ∃ r, r = addV q k y := ⟨_, rfl⟩
  rw [← hr] at hN hp hrk ⊢
  have hqr : q = addV r k (-y) := by rw [hr, addV_same, show y + -y = 0 by omega, addV_zero]
  obtain ⟨x, hx⟩ : ∃ x, x = prV n A i r := ⟨_, rfl⟩
  rw [← hx] at hp ⊢
  have hry : prV n A k r = y := by omega
  have hy0 : 0 < y := by omega
  have PI : ∀ a b, prV n A i (addV (addV r i a) k b) = x + 2 * a - d * b := fun a b => by
    rw [pr_addV A i _ hk, pr_addV A i _ hi, hii, hAd, ← hx, Int.mul_neg, Int.mul_comm b d]; omega
  have PK : ∀ a b, prV n A k (addV (addV r i a) k b) = y + 2 * b - e * a := fun a b => by
    rw [pr_addV A k _ hk, pr_addV A k _ hi, hkk, hAe, hry, Int.mul_neg, Int.mul_comm a e]; omega
  have HT : ∀ a b, htV n (addV (addV r i a) k b) = htV n r + a + b := fun a b => by rw [ht_addV _ hk, ht_addV _ hi]
  have O1 := pr_oneV (n := n) A i hi
  have O2 := pr_oneV (n := n) A k hi
  have O3 := pr_oneV (n := n) A i hk
  have O4 := pr_oneV (n := n) A k hk
  rw [hii] at O1; rw [hAe] at O2; rw [hAd] at O3; rw [hkk] at O4
  have DI : ∀ a b a', Up n A (addV (addV r i a) k b) → a + b < 0 → 0 < x + 2 * a - d * b → ¬ (x + 2 * a - d * b = 2 ∧ y + 2 * b - e * a = -e) → a' = a - (x + 2 * a - d * b) → Up n A (addV (addV r i a') k b) := fun a b a' hu h1 h2 h3 h4 => by
    have h := hD _ i hu hi (by rw [HT]; omega) (by rw [PI]; exact h2) (fun h => h3 ⟨by rw [← PI, h, O1], by rw [← PK, h, O2]⟩)
    rw [PI, addV_comm r i k a b, addV_same, addV_comm r k i b] at h
    rw [h4, show a - (x + 2 * a - d * b) = a + -(x + 2 * a - d * b) by omega]
    exact h
  have DK : ∀ a b b', Up n A (addV (addV r i a) k b) → a + b < 0 → 0 < y + 2 * b - e * a → ¬ (x + 2 * a - d * b = -d ∧ y + 2 * b - e * a = 2) → b' = b - (y + 2 * b - e * a) → Up n A (addV (addV r i a) k b') := fun a b b' hu h1 h2 h3 h4 => by
    have h := hD _ k hu hk (by rw [HT]; omega) (by rw [PK]; exact h2) (fun h => h3 ⟨by rw [← PI, h, O3], by rw [← PK, h, O4]⟩)
    rw [addV_same, PK] at h
    rw [h4, show b - (y + 2 * b - e * a) = b + -(y + 2 * b - e * a) by omega]
    exact h
  have UI : ∀ a b a', Up n A (addV (addV r i a) k b) → x + 2 * a - d * b < 0 → a' = a - (x + 2 * a - d * b) → Up n A (addV (addV r i a') k b) := fun a b a' hu h2 h4 => by
    have h := Up.up _ i hu hi (by rw [PI]; exact h2)
    rw [PI, addV_comm r i k a b, addV_same, addV_comm r k i b] at h
    rw [h4, show a - (x + 2 * a - d * b) = a + -(x + 2 * a - d * b) by omega]
    exact h
  have UK : ∀ a b b', Up n A (addV (addV r i a) k b) → y + 2 * b - e * a < 0 → b' = b - (y + 2 * b - e * a) → Up n A (addV (addV r i a) k b') := fun a b b' hu h2 h4 => by
    have h := Up.up _ k hu hk (by rw [PK]; exact h2)
    rw [addV_same, PK] at h
    rw [h4, show b - (y + 2 * b - e * a) = b + -(y + 2 * b - e * a) by omega]
    exact h
  have FIN : ∀ a b, Up n A (addV (addV r i a) k b) → a = -x → b = 0 → Up n A (addV r i (-x)) := fun a b hu h1 h2 => by
    rw [h1, h2, addV_zero] at hu; exact hu
  have h0 : Up n A (addV (addV r i 0) k (-y)) := by rw [addV_zero, ← hqr]; exact hU
  have hQI := PI 0 (-y)
  have hQK := PK 0 (-y)
  have hQH := HT 0 (-y)
  rw [addV_zero, ← hqr] at hQI hQK hQH
  clear hr hx hy hrk hd he PI PK HT O2 O3 O4
  have hcase : (d = 0 ∧ e = 0) ∨ (d = 1 ∧ e = 1) ∨ (d = 1 ∧ e = 2) ∨ (d = 2 ∧ e = 1) ∨ (d = 1 ∧ e = 3) ∨ (d = 3 ∧ e = 1) ∨ ((d = 2 ∧ e = 2) ∨ (d = 2 ∧ e = 3) ∨ (d = 3 ∧ e = 2) ∨ (d = 3 ∧ e = 3)) := by omega
  rcases hcase with ⟨rfl, rfl⟩ | ⟨rfl, rfl⟩ | ⟨rfl, rfl⟩ | ⟨rfl, rfl⟩ | ⟨rfl, rfl⟩ | ⟨rfl, rfl⟩ | hw
  · have h1 := DI _ _ (-1 * x + 0 * y) h0 (by omega) (by omega) (by omega) (by omega)
    have h2 := UK _ _ (0 * x + 0 * y) h1 (by omega) (by omega)
    exact FIN _ _ h2 (by omega) (by omega)
  · by_cases hq1 : q = oneV i
    · have hy1 : y = 1 := by rw [hq1, pr_oneV A k hi, hAe] at hQK; omega
      have hx1 : x = 1 := by rw [hq1, O1] at hQI; omega
      have e1 : addV r i (-x) = oneV k := by
        rw [hx1]
        rw [hy1] at hqr
        funext t
        have h1 := congrFun (hqr.symm.trans hq1) t
        unfold addV oneV at h1
        unfold addV oneV
        by_cases a1 : t = i
        · rw [if_pos a1] at h1 ⊢
          have a2 : ¬ t = k := fun a2 => hik (a1.symm.trans a2)
          rw [if_neg a2] at h1 ⊢; omega
        · rw [if_neg a1] at h1 ⊢
          by_cases a2 : t = k
          · rw [if_pos a2] at h1 ⊢; omega
          · rw [if_neg a2] at h1 ⊢; omega
      rw [e1]; exact .one k hk
    · have h1 : Up n A (addV (addV r i (-1 * x + -1 * y)) k (-y)) := by
        have h := hD q i hU hi (by omega) (by omega) hq1
        rw [hQI, hqr, addV_comm r k i] at h
        rw [show -1 * x + -1 * y = -(x + 2 * 0 - 1 * -y) by omega]
        exact h
      have h2 := DK _ _ (-1 * x + -1 * y) h1 (by omega) (by omega) (by omega) (by omega)
      have h3 := UI _ _ (-1 * x + 0 * y) h2 (by omega) (by omega)
      have h4 := UK _ _ (0 * x + 0 * y) h3 (by omega) (by omega)
      exact FIN _ _ h4 (by omega) (by omega)
  · have h1 := DI _ _ (-1 * x + -1 * y) h0 (by omega) (by omega) (by omega) (by omega)
    have h2 := DK _ _ (-2 * x + -2 * y) h1 (by omega) (by omega) (by omega) (by omega)
    have h3 := DI _ _ (-2 * x + -1 * y) h2 (by omega) (by omega) (by omega) (by omega)
    have h4 := UK _ _ (-2 * x + -1 * y) h3 (by omega) (by omega)
    have h5 := UI _ _ (-1 * x + 0 * y) h4 (by omega) (by omega)
    have h6 := UK _ _ (0 * x + 0 * y) h5 (by omega) (by omega)
    exact FIN _ _ h6 (by omega) (by omega)
  · have h1 := DI _ _ (-1 * x + -2 * y) h0 (by omega) (by omega) (by omega) (by omega)
    have h2 := DK _ _ (-1 * x + -2 * y) h1 (by omega) (by omega) (by omega) (by omega)
    have h3 := DI _ _ (-2 * x + -2 * y) h2 (by omega) (by omega) (by omega) (by omega)
    have h4 := UK _ _ (-1 * x + -1 * y) h3 (by omega) (by omega)
    have h5 := UI _ _ (-1 * x + 0 * y) h4 (by omega) (by omega)
    have h6 := UK _ _ (0 * x + 0 * y) h5 (by omega) (by omega)
    exact FIN _ _ h6 (by omega) (by omega)
  · have h1 := DI _ _ (-1 * x + -1 * y) h0 (by omega) (by omega) (by omega) (by omega)
    have h2 := DK _ _ (-3 * x + -3 * y) h1 (by omega) (by omega) (by omega) (by omega)
    have h3 := DI _ _ (-3 * x + -2 * y) h2 (by omega) (by omega) (by omega) (by omega)
    have h4 := DK _ _ (-6 * x + -4 * y) h3 (by omega) (by omega) (by omega) (by omega)
    have h5 := DI _ _ (-4 * x + -2 * y) h4 (by omega) (by omega) (by omega) (by omega)
    have h6 := UK _ _ (-6 * x + -3 * y) h5 (by omega) (by omega)
    have h7 := UI _ _ (-3 * x + -1 * y) h6 (by omega) (by omega)
    have h8 := UK _ _ (-3 * x + -1 * y) h7 (by omega) (by omega)
    have h9 := UI _ _ (-1 * x + 0 * y) h8 (by omega) (by omega)
    have h10 := UK _ _ (0 * x + 0 * y) h9 (by omega) (by omega)
    exact FIN _ _ h10 (by omega) (by omega)
  · have h1 := DI _ _ (-1 * x + -3 * y) h0 (by omega) (by omega) (by omega) (by omega)
    have h2 := DK _ _ (-1 * x + -3 * y) h1 (by omega) (by omega) (by omega) (by omega)
    have h3 := DI _ _ (-3 * x + -6 * y) h2 (by omega) (by omega) (by omega) (by omega)
    have h4 := DK _ _ (-2 * x + -4 * y) h3 (by omega) (by omega) (by omega) (by omega)
    have h5 := DI _ _ (-4 * x + -6 * y) h4 (by omega) (by omega) (by omega) (by omega)
    have h6 := UK _ _ (-2 * x + -3 * y) h5 (by omega) (by omega)
    have h7 := UI _ _ (-3 * x + -3 * y) h6 (by omega) (by omega)
    have h8 := UK _ _ (-1 * x + -1 * y) h7 (by omega) (by omega)
    have h9 := UI _ _ (-1 * x + 0 * y) h8 (by omega) (by omega)
    have h10 := UK _ _ (0 * x + 0 * y) h9 (by omega) (by omega)
    exact FIN _ _ h10 (by omega) (by omega)
  · exfalso
    refine up_wild hD (htV n q).toNat i k d e q hi hk hii hkk hAd hAe hw hU (by have := up_ht hU; omega) (by omega) ?_ hq ?_
    · rw [hQI]; rcases hw with ⟨rfl, rfl⟩ | ⟨rfl, rfl⟩ | ⟨rfl, rfl⟩ | ⟨rfl, rfl⟩ <;> omega
    · rw [hQI, hQK]; rcases hw with ⟨rfl, rfl⟩ | ⟨rfl, rfl⟩ | ⟨rfl, rfl⟩ | ⟨rfl, rfl⟩ <;> omega
end Go.Proofs.YtfjeghalkmkgoaaGreatDoor
