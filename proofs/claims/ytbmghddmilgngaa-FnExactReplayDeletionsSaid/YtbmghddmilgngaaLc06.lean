/-
  Roots over unbounded integers: what is reached upwards from the simple roots is closed under every reflection that keeps it positive; so every image of a simple root is positive or negative (no walk here).
  Roots over unbounded integers: every image of a simple root is positive or negative; and the roots up to a height, as lists (no walk here).
-/
import Derived.Test.YtbmghddmilgngaaLc05
namespace Go.Proofs.Ytbmghddmilgngaa

/-! ### Sums over points -/
def sumN (f : Nat → Int) : Nat → Int
  | 0 => 0
  | k + 1 => sumN f k + f k
theorem sumN_congr {f g : Nat → Int} : ∀ {k : Nat}, (∀ t, t < k → f t = g t) → sumN f k = sumN g k
  | 0, _ => rfl
  | k + 1, h => by rw [sumN, sumN, sumN_congr (fun t ht => h t (by omega)), h k (by omega)]
theorem sumN_add (f g : Nat → Int) : ∀ k, sumN (fun t => f t + g t) k = sumN f k + sumN g k
  | 0 => rfl
  | k + 1 => by simp only [sumN]; rw [sumN_add f g k]; omega
theorem sumN_at (f : Nat → Int) (j : Nat) (a : Int) : ∀ k, sumN (fun t => f t * (if t = j then a else 0)) k = if j < k then a * f j else 0
  | 0 => by simp [sumN]
  | k + 1 => by
    simp only [sumN]
    rw [sumN_at f j a k]
    rcases Nat.lt_trichotomy j k with h | h | h
    · rw [if_pos h, if_neg (by omega), if_pos (by omega)]; omega
    · subst h; rw [if_neg (by omega), if_pos rfl, if_pos (by omega), Int.mul_comm]; omega
    · rw [if_neg (by omega), if_neg (by omega), if_neg (by omega)]; omega
theorem sumN_neg (f : Nat → Int) : ∀ k, sumN (fun t => -f t) k = -sumN f k
  | 0 => rfl
  | k + 1 => by simp only [sumN]; rw [sumN_neg f k]; omega
theorem sumN_nonneg {f : Nat → Int} : ∀ {k : Nat}, (∀ t, t < k → 0 ≤ f t) → 0 ≤ sumN f k
  | 0, _ => by simp [sumN]
  | k + 1, h => by
    have h1 := sumN_nonneg (f := f) (k := k) (fun t ht => h t (by omega))
    have h2 := h k (by omega)
    simp only [sumN]; omega
/-! ### Vectors, pairings, reflections -/
structure Gcm (n : Nat) (A : Nat → Nat → Int) : Prop where
  diag : ∀ i, i < n → A i i = 2
  off : ∀ i j, i < n → j < n → i ≠ j → -3 ≤ A i j ∧ A i j ≤ 0
  zero : ∀ i j, i < n → j < n → A i j = 0 → A j i = 0
def oneV (j : Nat) : Nat → Int := fun t => if t = j then 1 else 0
def addV (r : Nat → Int) (j : Nat) (a : Int) : Nat → Int := fun t => r t + (if t = j then a else 0)
def prV (n : Nat) (A : Nat → Nat → Int) (i : Nat) (r : Nat → Int) : Int := sumN (fun t => A i t * r t) n
def htV (n : Nat) (r : Nat → Int) : Int := sumN r n
def rfV (n : Nat) (A : Nat → Nat → Int) (i : Nat) (r : Nat → Int) : Nat → Int := addV r i (-(prV n A i r))
theorem pr_addV {n : Nat} (A : Nat → Nat → Int) (i : Nat) (r : Nat → Int) {j : Nat} (hj : j < n) (a : Int) : prV n A i (addV r j a) = prV n A i r + a * A i j := by
  unfold prV addV
  have e : sumN (fun t => A i t * (r t + if t = j then a else 0)) n = sumN (fun t => A i t * r t + A i t * (if t = j then a else 0)) n := sumN_congr fun t _ => Int.mul_add ..
  rw [e, sumN_add, sumN_at, if_pos hj]
theorem pr_oneV {n : Nat} (A : Nat → Nat → Int) (i : Nat) {j : Nat} (hj : j < n) : prV n A i (oneV j) = A i j := by
  unfold prV oneV
  rw [sumN_at (A i) j 1 n, if_pos hj, Int.one_mul]
theorem ht_addV {n : Nat} (r : Nat → Int) {j : Nat} (hj : j < n) (a : Int) : htV n (addV r j a) = htV n r + a := by
  have e : htV n (addV r j a) = sumN r n + sumN (fun t => 1 * (if t = j then a else 0)) n := by
    unfold htV addV; rw [← sumN_add]; exact sumN_congr fun t _ => by omega
  rw [e, sumN_at (fun _ => 1) j a n, if_pos hj]; unfold htV; omega
theorem ht_oneV {n j : Nat} (hj : j < n) : htV n (oneV j) = 1 := by
  have e : htV n (oneV j) = sumN (fun t => 1 * (if t = j then 1 else 0)) n := sumN_congr fun t _ => by unfold oneV; omega
  rw [e, sumN_at (fun _ => 1) j 1 n, if_pos hj]; rfl
theorem addV_same (r : Nat → Int) (j : Nat) (a b : Int) : addV (addV r j a) j b = addV r j (a + b) := by
  funext t; unfold addV; by_cases h : t = j <;> simp [h] <;> omega
theorem addV_comm (r : Nat → Int) (i k : Nat) (a b : Int) : addV (addV r i a) k b = addV (addV r k b) i a := by
  funext t; unfold addV; omega
theorem addV_zero (r : Nat → Int) (j : Nat) : addV r j 0 = r := by
  funext t; unfold addV; by_cases h : t = j <;> simp [h]
/-! ### Upwards from the simple roots -/
inductive Up (n : Nat) (A : Nat → Nat → Int) : (Nat → Int) → Prop
  | one (i : Nat) : i < n → Up n A (oneV i)
  | up (r : Nat → Int) (i : Nat) : Up n A r → i < n → prV n A i r < 0 → Up n A (addV r i (-(prV n A i r)))
theorem up_nonneg {n : Nat} {A : Nat → Nat → Int} {r : Nat → Int} (h : Up n A r) : ∀ t, 0 ≤ r t := by
  induction h with
  | one i _ => intro t; unfold oneV; by_cases h : t = i <;> simp [h]
  | up r i _ _ hp ih =>
    intro t
    have := ih t
    unfold addV
    by_cases h : t = i
    · rw [if_pos h]; omega
    · rw [if_neg h]; omega
theorem up_ht {n : Nat} {A : Nat → Nat → Int} {r : Nat → Int} (h : Up n A r) : 1 ≤ htV n r := by
  induction h with
  | one i hi => rw [ht_oneV hi]; omega
  | up r i _ hi hp ih => rw [ht_addV r hi]; omega
def DownTo (n : Nat) (A : Nat → Nat → Int) (N : Int) : Prop := ∀ r i, Up n A r → i < n → htV n r ≤ N → 0 < prV n A i r → r ≠ oneV i → Up n A (addV r i (-(prV n A i r)))
/-- Two letters without relation: descending would never end. -/
theorem up_wild {n : Nat} {A : Nat → Nat → Int} {N : Int} (hD : DownTo n A N) : ∀ (M : Nat) (i k : Nat) (d e : Int) (q : Nat → Int), i < n → k < n → A i i = 2 → A k k = 2 → A i k = -d → A k i = -e → ((d = 2 ∧ e = 2) ∨ (d = 2 ∧ e = 3) ∨ (d = 3 ∧ e = 2) ∨ (d = 3 ∧ e = 3)) → Up n A q → htV n q ≤ M → htV n q ≤ N → 0 < prV n A i q → prV n A k q < 0 → -(d * e * prV n A k q) < 2 * e * prV n A i q → False
  | 0, _, _, _, _, q, _, _, _, _, _, _, _, hU, hM, _, _, _, _ => by have := up_ht hU; omega
  | M + 1, i, k, d, e, q, hi, hk, hii, hkk, hik, hki, hc, hU, hM, hN, hX, hY, hr => by
    have hne : q ≠ oneV i := by
      intro he
      rw [he, pr_oneV A i hi, pr_oneV A k hi, hii, hki] at hr
      rcases hc with ⟨rfl, rfl⟩ | ⟨rfl, rfl⟩ | ⟨rfl, rfl⟩ | ⟨rfl, rfl⟩ <;> omega
    have hU' := hD q i hU hi hN hX hne
    have h1 := pr_addV A i q hi (-(prV n A i q))
    have h2 := pr_addV A k q hi (-(prV n A i q))
    have h3 := ht_addV q hi (-(prV n A i q))
    rw [hii] at h1
    rw [hki] at h2
    refine up_wild hD M k i e d _ hk hi hkk hii hki hik (by omega) hU' (by omega) (by omega) ?_ ?_ ?_
    · rw [h2]
      generalize prV n A i q = X at *
      generalize prV n A k q = Y at *
      rcases hc with ⟨rfl, rfl⟩ | ⟨rfl, rfl⟩ | ⟨rfl, rfl⟩ | ⟨rfl, rfl⟩ <;> omega
    · rw [h1]; omega
    · rw [h1, h2]
      generalize prV n A i q = X at *
      generalize prV n A k q = Y at *
      rcases hc with ⟨rfl, rfl⟩ | ⟨rfl, rfl⟩ | ⟨rfl, rfl⟩ | ⟨rfl, rfl⟩ <;> omega
set_option maxHeartbeats 4000000 in
theorem up_down_at {n : Nat} {A : Nat → Nat → Int} (g : Gcm n A) {N : Int} (hD : DownTo n A N) {q : Nat → Int} {i k : Nat} (hi : i < n) (hk : k < n) (hU : Up n A q) (hq : prV n A k q < 0) (hN : htV n (addV q k (-(prV n A k q))) ≤ N + 1) (hp : 0 < prV n A i (addV q k (-(prV n A k q)))) : Up n A (addV (addV q k (-(prV n A k q))) i (-(prV n A i (addV q k (-(prV n A k q)))))) := by
  by_cases hik : i = k
  · subst hik
    have h1 := pr_addV A i q hi (-(prV n A i q))
    rw [g.diag i hi] at h1
    rw [addV_same, h1, show -(prV n A i q) + -(prV n A i q + -(prV n A i q) * 2) = 0 by omega, addV_zero]
    exact hU
  have hii := g.diag i hi
  have hkk := g.diag k hk
  have o1 := g.off i k hi hk hik
  have o2 := g.off k i hk hi (fun h => hik h.symm)
  have z1 := g.zero i k hi hk
  have z2 := g.zero k i hk hi
  obtain ⟨d, hd⟩ : ∃ d, d = -(A i k) := ⟨_, rfl⟩
  obtain ⟨e, he⟩ : ∃ e, e = -(A k i) := ⟨_, rfl⟩
  have hAd : A i k = -d := by omega
  have hAe : A k i = -e := by omega
  rw [hAd] at o1 z1 z2
  rw [hAe] at o2 z1 z2
  have hrk := pr_addV A k q hk (-(prV n A k q))
  rw [hkk] at hrk
  obtain ⟨y, hy⟩ : ∃ y, y = -(prV n A k q) := ⟨_, rfl⟩
  rw [← hy] at hN hp hrk ⊢
  obtain ⟨r, hr⟩ : ∃ r, r = addV q k y := ⟨_, rfl⟩
  rw [← hr] at hN hp hrk ⊢
  have hqr : q = addV r k (-y) := by rw [hr, addV_same, show y + -y = 0 by omega, addV_zero]
  obtain ⟨x, hx⟩ : ∃ x, x = prV n A i r := ⟨_, rfl⟩
  rw [← hx] at hp ⊢
  have hry : prV n A k r = y := by omega
  have hy0 : 0 < y := by omega
  have PI : ∀ a b, prV n A i (addV (addV r i a) k b) = x + 2 * a - d * b := fun a b => by
    rw [pr_addV A i _ hk, pr_addV A i _ hi, hii, hAd, ← hx, Int.mul_neg, Int.mul_comm b d]; omega
  have PK : ∀ a b, prV n A k (addV (addV r i a) k b) = y + 2 * b - e * a := fun a b => by
    rw [pr_addV A k _ hk, pr_addV A k _ hi, hkk, hAe, hry, Int.mul_neg, Int.mul_comm a e]; omega
  have HT : ∀ a b, htV n (addV (addV r i a) k b) = htV n r + a + b := fun a b => by rw [ht_addV _ hk, ht_addV _ hi]
  have O1 := pr_oneV (n := n) A i hi
  have O2 := pr_oneV (n := n) A k hi
  have O3 := pr_oneV (n := n) A i hk
  have O4 := pr_oneV (n := n) A k hk
  rw [hii] at O1; rw [hAe] at O2; rw [hAd] at O3; rw [hkk] at O4
  have DI : ∀ a b a', Up n A (addV (addV r i a) k b) → a + b < 0 → 0 < x + 2 * a - d * b → ¬ (x + 2 * a - d * b = 2 ∧ y + 2 * b - e * a = -e) → a' = a - (x + 2 * a - d * b) → Up n A (addV (addV r i a') k b) := fun a b a' hu h1 h2 h3 h4 => by
    have h := hD _ i hu hi (by rw [HT]; omega) (by rw [PI]; exact h2) (fun h => h3 ⟨by rw [← PI, h, O1], by rw [← PK, h, O2]⟩)
    rw [PI, addV_comm r i k a b, addV_same, addV_comm r k i b] at h
    rw [h4, show a - (x + 2 * a - d * b) = a + -(x + 2 * a - d * b) by omega]
    exact h
  have DK : ∀ a b b', Up n A (addV (addV r i a) k b) → a + b < 0 → 0 < y + 2 * b - e * a → ¬ (x + 2 * a - d * b = -d ∧ y + 2 * b - e * a = 2) → b' = b - (y + 2 * b - e * a) → Up n A (addV (addV r i a) k b') := fun a b b' hu h1 h2 h3 h4 => by
    have h := hD _ k hu hk (by rw [HT]; omega) (by rw [PK]; exact h2) (fun h => h3 ⟨by rw [← PI, h, O3], by rw [← PK, h, O4]⟩)
    rw [addV_same, PK] at h
    rw [h4, show b - (y + 2 * b - e * a) = b + -(y + 2 * b - e * a) by omega]
    exact h
  have UI : ∀ a b a', Up n A (addV (addV r i a) k b) → x + 2 * a - d * b < 0 → a' = a - (x + 2 * a - d * b) → Up n A (addV (addV r i a') k b) := fun a b a' hu h2 h4 => by
    have h := Up.up _ i hu hi (by rw [PI]; exact h2)
    rw [PI, addV_comm r i k a b, addV_same, addV_comm r k i b] at h
    rw [h4, show a - (x + 2 * a - d * b) = a + -(x + 2 * a - d * b) by omega]
    exact h
  have UK : ∀ a b b', Up n A (addV (addV r i a) k b) → y + 2 * b - e * a < 0 → b' = b - (y + 2 * b - e * a) → Up n A (addV (addV r i a) k b') := fun a b b' hu h2 h4 => by
    have h := Up.up _ k hu hk (by rw [PK]; exact h2)
    rw [addV_same, PK] at h
    rw [h4, show b - (y + 2 * b - e * a) = b + -(y + 2 * b - e * a) by omega]
    exact h
  have FIN : ∀ a b, Up n A (addV (addV r i a) k b) → a = -x → b = 0 → Up n A (addV r i (-x)) := fun a b hu h1 h2 => by
    rw [h1, h2, addV_zero] at hu; exact hu
  have h0 : Up n A (addV (addV r i 0) k (-y)) := by rw [addV_zero, ← hqr]; exact hU
  have hQI := PI 0 (-y)
  have hQK := PK 0 (-y)
  have hQH := HT 0 (-y)
  rw [addV_zero, ← hqr] at hQI hQK hQH
  clear hr hx hy hrk hd he PI PK HT O2 O3 O4
  have hcase : (d = 0 ∧ e = 0) ∨ (d = 1 ∧ e = 1) ∨ (d = 1 ∧ e = 2) ∨ (d = 2 ∧ e = 1) ∨ (d = 1 ∧ e = 3) ∨ (d = 3 ∧ e = 1) ∨ ((d = 2 ∧ e = 2) ∨ (d = 2 ∧ e = 3) ∨ (d = 3 ∧ e = 2) ∨ (d = 3 ∧ e = 3)) := by omega
  rcases hcase with ⟨rfl, rfl⟩ | ⟨rfl, rfl⟩ | ⟨rfl, rfl⟩ | ⟨rfl, rfl⟩ | ⟨rfl, rfl⟩ | ⟨rfl, rfl⟩ | hw
  · have h1 := DI _ _ (-1 * x + 0 * y) h0 (by omega) (by omega) (by omega) (by omega)
    have h2 := UK _ _ (0 * x + 0 * y) h1 (by omega) (by omega)
    exact FIN _ _ h2 (by omega) (by omega)
  · by_cases hq1 : q = oneV i
    · have hy1 : y = 1 := by rw [hq1, pr_oneV A k hi, hAe] at hQK; omega
      have hx1 : x = 1 := by rw [hq1, O1] at hQI; omega
      have e1 : addV r i (-x) = oneV k := by
        rw [hx1]
        rw [hy1] at hqr
        funext t
        have h1 := congrFun (hqr.symm.trans hq1) t
        unfold addV oneV at h1
        unfold addV oneV
        by_cases a1 : t = i
        · rw [if_pos a1] at h1 ⊢
          have a2 : ¬ t = k := fun a2 => hik (a1.symm.trans a2)
          rw [if_neg a2] at h1 ⊢; omega
        · rw [if_neg a1] at h1 ⊢
          by_cases a2 : t = k
          · rw [if_pos a2] at h1 ⊢; omega
          · rw [if_neg a2] at h1 ⊢; omega
      rw [e1]; exact .one k hk
    · have h1 : Up n A (addV (addV r i (-1 * x + -1 * y)) k (-y)) := by
        have h := hD q i hU hi (by omega) (by omega) hq1
        rw [hQI, hqr, addV_comm r k i] at h
        rw [show -1 * x + -1 * y = -(x + 2 * 0 - 1 * -y) by omega]
        exact h
      have h2 := DK _ _ (-1 * x + -1 * y) h1 (by omega) (by omega) (by omega) (by omega)
      have h3 := UI _ _ (-1 * x + 0 * y) h2 (by omega) (by omega)
      have h4 := UK _ _ (0 * x + 0 * y) h3 (by omega) (by omega)
      exact FIN _ _ h4 (by omega) (by omega)
  · have h1 := DI _ _ (-1 * x + -1 * y) h0 (by omega) (by omega) (by omega) (by omega)
    have h2 := DK _ _ (-2 * x + -2 * y) h1 (by omega) (by omega) (by omega) (by omega)
    have h3 := DI _ _ (-2 * x + -1 * y) h2 (by omega) (by omega) (by omega) (by omega)
    have h4 := UK _ _ (-2 * x + -1 * y) h3 (by omega) (by omega)
    have h5 := UI _ _ (-1 * x + 0 * y) h4 (by omega) (by omega)
    have h6 := UK _ _ (0 * x + 0 * y) h5 (by omega) (by omega)
    exact FIN _ _ h6 (by omega) (by omega)
  · have h1 := DI _ _ (-1 * x + -2 * y) h0 (by omega) (by omega) (by omega) (by omega)
    have h2 := DK _ _ (-1 * x + -2 * y) h1 (by omega) (by omega) (by omega) (by omega)
    have h3 := DI _ _ (-2 * x + -2 * y) h2 (by omega) (by omega) (by omega) (by omega)
    have h4 := UK _ _ (-1 * x + -1 * y) h3 (by omega) (by omega)
    have h5 := UI _ _ (-1 * x + 0 * y) h4 (by omega) (by omega)
    have h6 := UK _ _ (0 * x + 0 * y) h5 (by omega) (by omega)
    exact FIN _ _ h6 (by omega) (by omega)
  · have h1 := DI _ _ (-1 * x + -1 * y) h0 (by omega) (by omega) (by omega) (by omega)
    have h2 := DK _ _ (-3 * x + -3 * y) h1 (by omega) (by omega) (by omega) (by omega)
    have h3 := DI _ _ (-3 * x + -2 * y) h2 (by omega) (by omega) (by omega) (by omega)
    have h4 := DK _ _ (-6 * x + -4 * y) h3 (by omega) (by omega) (by omega) (by omega)
    have h5 := DI _ _ (-4 * x + -2 * y) h4 (by omega) (by omega) (by omega) (by omega)
    have h6 := UK _ _ (-6 * x + -3 * y) h5 (by omega) (by omega)
    have h7 := UI _ _ (-3 * x + -1 * y) h6 (by omega) (by omega)
    have h8 := UK _ _ (-3 * x + -1 * y) h7 (by omega) (by omega)
    have h9 := UI _ _ (-1 * x + 0 * y) h8 (by omega) (by omega)
    have h10 := UK _ _ (0 * x + 0 * y) h9 (by omega) (by omega)
    exact FIN _ _ h10 (by omega) (by omega)
  · have h1 := DI _ _ (-1 * x + -3 * y) h0 (by omega) (by omega) (by omega) (by omega)
    have h2 := DK _ _ (-1 * x + -3 * y) h1 (by omega) (by omega) (by omega) (by omega)
    have h3 := DI _ _ (-3 * x + -6 * y) h2 (by omega) (by omega) (by omega) (by omega)
    have h4 := DK _ _ (-2 * x + -4 * y) h3 (by omega) (by omega) (by omega) (by omega)
    have h5 := DI _ _ (-4 * x + -6 * y) h4 (by omega) (by omega) (by omega) (by omega)
    have h6 := UK _ _ (-2 * x + -3 * y) h5 (by omega) (by omega)
    have h7 := UI _ _ (-3 * x + -3 * y) h6 (by omega) (by omega)
    have h8 := UK _ _ (-1 * x + -1 * y) h7 (by omega) (by omega)
    have h9 := UI _ _ (-1 * x + 0 * y) h8 (by omega) (by omega)
    have h10 := UK _ _ (0 * x + 0 * y) h9 (by omega) (by omega)
    exact FIN _ _ h10 (by omega) (by omega)
  · exfalso
    refine up_wild hD (htV n q).toNat i k d e q hi hk hii hkk hAd hAe hw hU (by have := up_ht hU; omega) (by omega) ?_ hq ?_
    · rw [hQI]; rcases hw with ⟨rfl, rfl⟩ | ⟨rfl, rfl⟩ | ⟨rfl, rfl⟩ | ⟨rfl, rfl⟩ <;> omega
    · rw [hQI, hQK]; rcases hw with ⟨rfl, rfl⟩ | ⟨rfl, rfl⟩ | ⟨rfl, rfl⟩ | ⟨rfl, rfl⟩ <;> omega
end Go.Proofs.Ytbmghddmilgngaa
namespace Go.Proofs.Ytbmghddmilgngaa
open Go.RowKit

theorem up_down {n : Nat} {A : Nat → Nat → Int} (g : Gcm n A) : ∀ N : Nat, DownTo n A N
  | 0 => fun r i hU _ hN _ _ => by have := up_ht hU; omega
  | N + 1 => fun r i hU hi hN hp hne => by
    cases hU with
    | one k hk =>
      rw [pr_oneV A i hk] at hp
      by_cases h : i = k
      · subst h; exact absurd rfl hne
      · have := (g.off i k hi hk h).2; omega
    | up q k hq hk hlt => exact up_down_at g (up_down g N) hi hk hq hlt (by omega) hp
/-- What is reached upwards stays so under a reflection, but for the simple root itself. -/
theorem up_refl {n : Nat} {A : Nat → Nat → Int} (g : Gcm n A) {r : Nat → Int} {i : Nat} (hU : Up n A r) (hi : i < n) (hne : r ≠ oneV i) : Up n A (rfV n A i r) := by
  unfold rfV
  rcases Int.lt_trichotomy (prV n A i r) 0 with h | h | h
  · exact .up r i hU hi h
  · rw [h]; simp only [Int.neg_zero]; rw [addV_zero]; exact hU
  · exact up_down g (htV n r).toNat r i hU hi (by have := up_ht hU; omega) h hne
def negV (r : Nat → Int) : Nat → Int := fun t => -r t
theorem pr_negV (n : Nat) (A : Nat → Nat → Int) (i : Nat) (r : Nat → Int) : prV n A i (negV r) = -prV n A i r := by
  unfold prV negV
  rw [← sumN_neg]
  exact sumN_congr fun t _ => by rw [Int.mul_neg]
theorem rf_negV (n : Nat) (A : Nat → Nat → Int) (i : Nat) (r : Nat → Int) : rfV n A i (negV r) = negV (rfV n A i r) := by
  unfold rfV
  rw [pr_negV]
  funext t
  simp only [addV, negV]
  by_cases h : t = i
  · rw [if_pos h, if_pos h]; omega
  · rw [if_neg h, if_neg h]; omega
theorem rf_oneV {n : Nat} {A : Nat → Nat → Int} (g : Gcm n A) {i : Nat} (hi : i < n) : rfV n A i (oneV i) = negV (oneV i) := by
  unfold rfV
  rw [pr_oneV A i hi, g.diag i hi]
  funext t
  simp only [addV, negV, oneV]
  by_cases h : t = i
  · rw [if_pos h, if_pos h]; omega
  · rw [if_neg h, if_neg h]; omega
theorem negV_negV (r : Nat → Int) : negV (negV r) = r := by funext t; unfold negV; omega
/-- Signs: an image of a simple root is positive or negative. -/
theorem word_sign {n : Nat} {A : Nat → Nat → Int} (g : Gcm n A) {j : Nat} (hj : j < n) : ∀ ws : List Nat, (∀ i ∈ ws, i < n) → Up n A (ws.foldr (rfV n A) (oneV j)) ∨ Up n A (negV (ws.foldr (rfV n A) (oneV j)))
  | [], _ => Or.inl (.one j hj)
  | i :: ws, h => by
    have hi := h i (List.mem_cons_self ..)
    have ih := word_sign g hj ws (fun k hk => h k (List.mem_cons_of_mem _ hk))
    rw [List.foldr_cons]
    generalize ws.foldr (rfV n A) (oneV j) = r at *
    rcases ih with ih | ih
    · by_cases hne : r = oneV i
      · rw [hne, rf_oneV g hi, negV_negV]; exact Or.inr (.one i hi)
      · exact Or.inl (up_refl g ih hi hne)
    · by_cases hne : negV r = oneV i
      · have e : r = negV (oneV i) := by rw [← hne, negV_negV]
        rw [e, rf_negV, rf_oneV g hi, negV_negV]; exact Or.inl (.one i hi)
      · have := up_refl g ih hi hne
        rw [rf_negV] at this
        exact Or.inr this
/-! ### Lists -/
def vecL (l : List Int) : Nat → Int := fun t => l.getD t 0
theorem vecL_inj {a b : List Int} (h : a.length = b.length) (e : vecL a = vecL b) : a = b := by
  refine List.ext_getElem h fun i h1 h2 => ?_
  have := congrFun e i
  simpa [vecL, List.getD, h1, h2] using this
theorem vecL_unit {n i : Nat} (hi : i < n) : vecL (unitR n i) = oneV i := by
  funext t
  unfold vecL oneV unitR
  by_cases h : t = i
  · subst h; rw [if_pos rfl]; simp [List.getD, hi]
  · rw [if_neg h]
    simp only [List.getD, List.getElem?_set, if_neg (fun e => h e.symm : ¬ i = t)]
    rcases Nat.lt_or_ge t n with h1 | h1
    · simp [h1]
    · simp [h1]
theorem vecL_set {l : List Int} {i : Nat} (hi : i < l.length) (x : Int) : vecL (l.set i x) = addV (vecL l) i (x - l.getD i 0) := by
  funext t
  unfold vecL addV
  by_cases h : t = i
  · subst h; rw [if_pos rfl]; simp [List.getD, hi]; omega
  · rw [if_neg h]
    simp only [List.getD, List.getElem?_set, if_neg (fun e => h e.symm : ¬ i = t)]; omega
theorem gcm_of {m : List (List Int)} (h : IsC m) : Gcm m.length (entry m) where
  diag i hi := by
    have := h.2.1 i i hi hi
    simp [okC] at this; omega
  off i j hi hj hn := isc_in h hi hj hn
  zero i j hi hj h0 := by
    by_cases hn : i = j
    · subst hn; exact h0
    · have := h.2.1 i j hi hj
      simp [okC, hn] at this; omega
theorem sum_take : ∀ (l : List Int) (k : Nat), k ≤ l.length → sumN (vecL l) k = (l.take k).sum
  | l, 0, _ => by simp [sumN]
  | l, k + 1, h => by
    have e : l.getD k 0 = l[k] := by simp [List.getD, show k < l.length by omega]
    rw [sumN, sum_take l k (by omega), List.take_succ_eq_append_getElem (show k < l.length by omega), List.sum_append]
    unfold vecL; rw [e]; simp
theorem sumN_list (l : List Int) : sumN (vecL l) l.length = l.sum := by
  rw [sum_take l l.length (Nat.le_refl _), List.take_length]
theorem prK_vec {m : List (List Int)} {i : Nat} {l : List Int} (h : IsC m) (hi : i < m.length) (hl : Low m.length l) : ∀ k, k ≤ m.length → prK m i l k = sumN (fun t => entry m i t * vecL l t) k
  | 0, _ => rfl
  | k + 1, hk => by
    have h0 := prK_in h hi hl (k + 1) hk
    have h1 := prK_in h hi hl k (by omega)
    have h2 := ent_in h hi (show k < m.length by omega)
    have h3 := low_getD hl k
    have h4 := h.2.2.2
    have h5 : -36 ≤ entry m i k * l.getD k 0 ∧ entry m i k * l.getD k 0 ≤ 24 := by
      have hc : entry m i k = -3 ∨ entry m i k = -2 ∨ entry m i k = -1 ∨ entry m i k = 0 ∨ entry m i k = 1 ∨ entry m i k = 2 := by omega
      rcases hc with e | e | e | e | e | e <;> rw [e] <;> omega
    have e1 : mulW (entry m i k) (l.getD k 0) = entry m i k * l.getD k 0 := wrap_small (by omega)
    have e2 : prK m i l (k + 1) = prK m i l k + entry m i k * l.getD k 0 := by
      simp only [prK]; rw [e1]; exact wrap_small (by omega)
    rw [e2, sumN, ← prK_vec h hi hl k (by omega)]; rfl
theorem rflR_vec {m : List (List Int)} {i : Nat} {l : List Int} (h : IsC m) (hi : i < m.length) (hl : Low m.length l) : vecL (rflR m i l) = rfV m.length (entry m) i (vecL l) := by
  have h4 := h.2.2.2
  have h1 := prK_in h hi hl m.length (Nat.le_refl _)
  have h2 := low_getD hl i
  have hp := prK_vec h hi hl m.length (Nat.le_refl _)
  unfold rflR rfV
  rw [vecL_set (by rw [hl.1]; exact hi), hl.1]
  have e1 : subW (l.getD i 0) (prK m i l m.length) = l.getD i 0 - prK m i l m.length := wrap_small (by omega)
  rw [e1, hp]
  unfold prV
  congr 1; omega
/-- The roots up to a height. -/
def RootTo (m : List (List Int)) (h : Int) (r : List Int) : Prop := r.length = m.length ∧ Up m.length (entry m) (vecL r) ∧ htV m.length (vecL r) ≤ h
theorem vecL_mem7 {l : List Int} {x : Int} (hx : x ∈ l) : ∃ t, t < l.length ∧ vecL l t = x := by
  obtain ⟨t, ht, e⟩ := List.getElem_of_mem hx
  exact ⟨t, ht, by simp [vecL, List.getD, ht, e]⟩
theorem root_low {m : List (List Int)} {h : Int} (h12 : h ≤ 12) {r : List Int} (hr : RootTo m h r) : Low m.length r := by
  obtain ⟨hl, hU, hh⟩ := hr
  have hp := up_nonneg hU
  have e : htV m.length (vecL r) = r.sum := by unfold htV; rw [← hl]; exact sumN_list r
  have hp' : ∀ x ∈ r, 0 ≤ x := fun x hx => by
    obtain ⟨t, _, e⟩ := vecL_mem7 hx
    rw [← e]; exact hp t
  refine ⟨hl, fun x hx => ⟨hp' x hx, ?_⟩⟩
  have := (le_sum hp').2 x hx; omega
theorem hgt_ht {m : List (List Int)} (hC : IsC m) {r : List Int} (hl : r.length = m.length) (h : ∀ x ∈ r, -100000 ≤ x ∧ x ≤ 100000) : hgtL r = htV m.length (vecL r) := by
  have := hC.2.2.2
  rw [hgt_sum h (by omega)]; unfold htV; rw [← hl, sumN_list]
theorem low_small {n : Nat} {r : List Int} (h : Low n r) : ∀ x ∈ r, -100000 ≤ x ∧ x ≤ 100000 := fun x hx => by have := h.2 x hx; omega
/-- Reached upwards by lists is the same. -/
theorem asc_root {m : List (List Int)} {h : Int} (hC : IsC m) (h1 : 1 ≤ h) (h12 : h ≤ 12) {r : List Int} (hr : Asc m h r) : RootTo m h r := by
  induction hr with
  | base i hi =>
    refine ⟨unitR_len _ _, by rw [vecL_unit hi]; exact .one i hi, ?_⟩
    rw [vecL_unit hi, ht_oneV hi]; exact h1
  | step r i _ hi hs hh hg ih =>
    have hlow := root_low h12 ih
    have hlen : (rflR m i r).length = m.length := by rw [rflR_len]; exact ih.1
    have hv := rflR_vec hC hi hlow
    rw [hgt_ht hC hlen (rflR_in hC hi hlow)] at hh hg
    rw [hgt_ht hC ih.1 (low_small hlow)] at hg
    refine ⟨hlen, ?_, hh⟩
    rw [hv] at hg ⊢
    unfold rfV at hg ⊢
    rw [ht_addV _ hi] at hg
    exact .up _ i ih.2.1 hi (by omega)
theorem root_asc {m : List (List Int)} {h : Int} (hC : IsC m) (h12 : h ≤ 12) {v : Nat → Int} (hU : Up m.length (entry m) v) : ∀ r : List Int, vecL r = v → r.length = m.length → htV m.length v ≤ h → Asc m h r := by
  induction hU with
  | one i hi =>
    intro r hv hl _
    have : r = unitR m.length i := vecL_inj (by rw [hl, unitR_len]) (by rw [hv, vecL_unit hi])
    rw [this]; exact .base i hi
  | up q i hq hi hp ih =>
    intro r hv hl hh
    rw [ht_addV _ hi] at hh
    have hqv : vecL (r.set i (q i)) = q := by
      rw [vecL_set (by omega)]
      have e : r.getD i 0 = q i + -(prV m.length (entry m) i q) := by
        have := congrFun hv i
        unfold vecL addV at this
        rw [if_pos rfl] at this; exact this
      rw [hv, addV_same, e, show -(prV m.length (entry m) i q) + (q i - (q i + -(prV m.length (entry m) i q))) = 0 by omega, addV_zero]
    have hql : (r.set i (q i)).length = m.length := by rw [List.length_set]; exact hl
    have hA := ih _ hqv hql (by omega)
    have hlow := asc_low hC h12 hA
    have hR : rflR m i (r.set i (q i)) = r := by
      refine vecL_inj (by rw [rflR_len, List.length_set]) ?_
      rw [rflR_vec hC hi hlow, hqv, hv]; rfl
    have hUr : Up m.length (entry m) (vecL r) := by rw [hv]; exact .up q i hq hi hp
    have hrow : RootTo m h r := ⟨hl, hUr, by rw [hv, ht_addV _ hi]; exact hh⟩
    have hlr := root_low h12 hrow
    have h1 := hgt_ht hC hl (low_small hlr)
    have h2 := hgt_ht hC hql (low_small hlow)
    rw [hv, ht_addV _ hi] at h1
    rw [hqv] at h2
    have hs : 0 < sgnL r := by
      have hd : downL r = false := by
        unfold downL
        rw [List.any_eq_false]
        intro x hx
        have := (hlr.2 x hx).1
        simp; omega
      have hu : upL r = true := by
        unfold upL
        rw [List.any_eq_true]
        refine Classical.byContradiction fun hn => ?_
        have hz : ∀ x ∈ r, x = 0 := fun x hx => by
          have h0 := (hlr.2 x hx).1
          have : ¬ 0 < x := fun h => hn ⟨x, hx, decide_eq_true h⟩
          omega
        have h9 := up_ht hUr
        have h8 : htV m.length (vecL r) = r.sum := by unfold htV; rw [← hl]; exact sumN_list r
        have h7 : r.sum = 0 := by
          have : r = List.replicate r.length 0 := List.eq_replicate_iff.2 ⟨rfl, hz⟩
          rw [this]; simp
        omega
      unfold sgnL; rw [hu, hd]; simp
    have := Asc.step _ i hA hi (by rw [hR]; exact hs) (by rw [hR]; omega) (by rw [hR]; omega)
    rw [hR] at this
    exact this
theorem asc_iff {m : List (List Int)} {h : Int} (hC : IsC m) (h1 : 1 ≤ h) (h12 : h ≤ 12) (r : List Int) : Asc m h r ↔ RootTo m h r :=
  ⟨asc_root hC h1 h12, fun hr => root_asc hC h12 hr.2.1 r rfl hr.1 hr.2.2⟩
/-- A reflection that stays positive and low leads to a root again, up or down. -/
theorem asc_refl {m : List (List Int)} {h : Int} (hC : IsC m) (h1 : 1 ≤ h) (h12 : h ≤ 12) {r : List Int} {i : Nat} (hr : Asc m h r) (hi : i < m.length) (hs : 0 < sgnL (rflR m i r)) (hh : hgtL (rflR m i r) ≤ h) : Asc m h (rflR m i r) := by
  have hR := asc_root hC h1 h12 hr
  have hlow := root_low h12 hR
  have hlen : (rflR m i r).length = m.length := by rw [rflR_len]; exact hR.1
  have hv := rflR_vec hC hi hlow
  rw [hgt_ht hC hlen (rflR_in hC hi hlow), hv] at hh
  refine root_asc hC h12 ?_ _ hv hlen hh
  refine up_refl (gcm_of hC) hR.2.1 hi fun he => ?_
  rw [he, rf_oneV (gcm_of hC) hi] at hv
  have h0 := (sgn_pos hs).1
  have h2 := congrFun hv i
  unfold negV oneV at h2
  rw [if_pos rfl] at h2
  have h3 : i < (rflR m i r).length := by omega
  have h4 := h0 _ (List.getElem_mem h3)
  have h5 : vecL (rflR m i r) i = (rflR m i r)[i] := by simp [vecL, List.getD, h3]
  omega
end Go.Proofs.Ytbmghddmilgngaa
