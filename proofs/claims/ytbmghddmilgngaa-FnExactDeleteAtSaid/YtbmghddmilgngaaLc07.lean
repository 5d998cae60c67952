/-
  Lengths over unbounded integers: whichever way the images of the vector of ones are reflected down, the ones are reached in the same number of steps by the same map (no walk here).
-/
import Derived.Test.YtbmghddmilgngaaLc06
namespace Go.Proofs.Ytbmghddmilgngaa

/-- v and a multiple of a column. -/
def addC (A : Nat → Nat → Int) (v : Nat → Int) (i : Nat) (a : Int) : Nat → Int := fun t => v t + a * A t i
def rfC (A : Nat → Nat → Int) (i : Nat) (v : Nat → Int) : Nat → Int := addC A v i (-(v i))
def onesV : Nat → Int := fun _ => 1
theorem addC_same (A : Nat → Nat → Int) (v : Nat → Int) (i : Nat) (a b : Int) : addC A (addC A v i a) i b = addC A v i (a + b) := by
  funext t; simp only [addC]; rw [Int.add_mul]; omega
theorem addC_comm (A : Nat → Nat → Int) (v : Nat → Int) (i k : Nat) (a b : Int) : addC A (addC A v i a) k b = addC A (addC A v k b) i a := by
  funext t; simp only [addC]; omega
theorem addC_zero (A : Nat → Nat → Int) (v : Nat → Int) (i : Nat) : addC A v i 0 = v := by
  funext t; simp only [addC]; omega
/-- A pair of letters and a vector over them. -/
def twoC (A : Nat → Nat → Int) (i k : Nat) (v : Nat → Int) (a b : Int) : Nat → Int := addC A (addC A v i (-a)) k (-b)
section two
variable {A : Nat → Nat → Int} {i k : Nat} {d e : Int}
theorem two_zero (v : Nat → Int) : twoC A i k v 0 0 = v := by
  unfold twoC; rw [show (-0 : Int) = 0 from rfl, addC_zero, addC_zero]
theorem two_i (hii : A i i = 2) (hik : A i k = -d) (v : Nat → Int) (a b : Int) : twoC A i k v a b i = -(-(v i) + 2 * a - d * b) := by
  simp only [twoC, addC]
  rw [hii, hik, Int.mul_neg, Int.neg_mul, Int.neg_mul, Int.mul_comm b d]; omega
theorem two_k (hkk : A k k = 2) (hki : A k i = -e) (v : Nat → Int) (a b : Int) : twoC A i k v a b k = -(-(v k) + 2 * b - e * a) := by
  simp only [twoC, addC]
  rw [hkk, hki, Int.mul_neg, Int.neg_mul, Int.neg_mul, Int.mul_comm a e]; omega
theorem two_rf_i (hii : A i i = 2) (hik : A i k = -d) (v : Nat → Int) {a b a' : Int} (h : a' = a - (-(v i) + 2 * a - d * b)) : rfC A i (twoC A i k v a b) = twoC A i k v a' b := by
  unfold rfC
  rw [two_i hii hik]
  unfold twoC
  rw [addC_comm A _ i k, addC_same, addC_comm A v i k]
  congr 1; omega
theorem two_rf_k (hkk : A k k = 2) (hki : A k i = -e) (v : Nat → Int) {a b b' : Int} (h : b' = b - (-(v k) + 2 * b - e * a)) : rfC A k (twoC A i k v a b) = twoC A i k v a b' := by
  unfold rfC
  rw [two_k hkk hki]
  unfold twoC
  rw [addC_same]
  congr 1; omega
end two
theorem rfC_twice {A : Nat → Nat → Int} {i : Nat} (hii : A i i = 2) (v : Nat → Int) : rfC A i (rfC A i v) = v := by
  unfold rfC
  rw [addC_same]
  have e : addC A v i (-(v i)) i = -(v i) := by simp only [addC]; rw [hii]; omega
  rw [e, show -(v i) + -(-(v i)) = 0 by omega, addC_zero]
theorem rfC_at {A : Nat → Nat → Int} {i : Nat} (hii : A i i = 2) (v : Nat → Int) : rfC A i v i = -(v i) := by
  simp only [rfC, addC]; rw [hii]; omega
/-- Down to the ones: in L steps; f is what the letters' moves make of x0. -/
inductive GDn (n : Nat) (A : Nat → Nat → Int) {X : Type} (σ : Nat → X → X) (x0 : X) : (Nat → Int) → Nat → X → Prop
  | zero : GDn n A σ x0 onesV 0 x0
  | step (v : Nat → Int) (i : Nat) (L : Nat) (f : X) : i < n → v i < 0 → GDn n A σ x0 (rfC A i v) L f → GDn n A σ x0 v (L + 1) (σ i f)
/-- What the letters' moves of X must keep: each undoes itself, and the relation of each pair. -/
structure Brd (n : Nat) (A : Nat → Nat → Int) {X : Type} (σ : Nat → X → X) : Prop where
  twice : ∀ i, i < n → ∀ x, σ i (σ i x) = x
  b00 : ∀ i k, i < n → k < n → A i k = -0 → A k i = -0 → ∀ x, σ k (σ i (σ k x)) = σ i x
  b11 : ∀ i k, i < n → k < n → A i k = -1 → A k i = -1 → ∀ x, σ k (σ i (σ k (σ i (σ k x)))) = σ i x
  b12 : ∀ i k, i < n → k < n → A i k = -1 → A k i = -2 → ∀ x, σ k (σ i (σ k (σ i (σ k (σ i (σ k x)))))) = σ i x
  b21 : ∀ i k, i < n → k < n → A i k = -2 → A k i = -1 → ∀ x, σ k (σ i (σ k (σ i (σ k (σ i (σ k x)))))) = σ i x
  b13 : ∀ i k, i < n → k < n → A i k = -1 → A k i = -3 → ∀ x, σ k (σ i (σ k (σ i (σ k (σ i (σ k (σ i (σ k (σ i (σ k x)))))))))) = σ i x
  b31 : ∀ i k, i < n → k < n → A i k = -3 → A k i = -1 → ∀ x, σ k (σ i (σ k (σ i (σ k (σ i (σ k (σ i (σ k (σ i (σ k x)))))))))) = σ i x
theorem gdn_up {n : Nat} {A : Nat → Nat → Int} {X : Type} {σ : Nat → X → X} {x0 : X} {v : Nat → Int} {L : Nat} {f : X} {i : Nat} (hii : A i i = 2) (h : GDn n A σ x0 v L f) (hi : i < n) (hv : 0 < v i) : GDn n A σ x0 (rfC A i v) (L + 1) (σ i f) := by
  refine .step _ i L f hi ?_ ?_
  · rw [rfC_at hii]; omega
  · rw [rfC_twice hii]; exact h
/-- What every vector that goes down in fewer than N steps keeps. -/
def Diam (n : Nat) (A : Nat → Nat → Int) {X : Type} (σ : Nat → X → X) (x0 : X) (N : Nat) : Prop := ∀ v L f i, L < N → i < n → GDn n A σ x0 v L f → v i ≠ 0 ∧ (v i < 0 → ∃ L', L = L' + 1 ∧ GDn n A σ x0 (rfC A i v) L' (σ i f))
theorem gdn_wild {n : Nat} {A : Nat → Nat → Int} {X : Type} {σ : Nat → X → X} {x0 : X} {N : Nat} (hD : Diam n A σ x0 N) : ∀ (L : Nat) (i k : Nat) (d e : Int) (q : Nat → Int) (f : X), i < n → k < n → A i i = 2 → A k k = 2 → A i k = -d → A k i = -e → ((d = 2 ∧ e = 2) ∨ (d = 2 ∧ e = 3) ∨ (d = 3 ∧ e = 2) ∨ (d = 3 ∧ e = 3)) → GDn n A σ x0 q L f → L < N → q i < 0 → 0 < q k → d * e * q k < 2 * e * -(q i) → False
  | L, i, k, d, e, q, f, hi, hk, hii, hkk, hik, hki, hc, hU, hL, hX, hY, hr => by
    obtain ⟨L', rfl, h'⟩ := (hD q L f i hL hi hU).2 hX
    have h1 : rfC A i q i = -(q i) := rfC_at hii q
    have h2 : rfC A i q k = q k + e * q i := by simp only [rfC, addC]; rw [hki, Int.neg_mul_neg, Int.mul_comm]
    refine gdn_wild hD L' k i e d _ _ hk hi hkk hii hki hik (by omega) h' (by omega) ?_ (by rw [h1]; omega) ?_
    · rw [h2]
      rcases hc with ⟨rfl, rfl⟩ | ⟨rfl, rfl⟩ | ⟨rfl, rfl⟩ | ⟨rfl, rfl⟩ <;> omega
    · rw [h1, h2]
      rcases hc with ⟨rfl, rfl⟩ | ⟨rfl, rfl⟩ | ⟨rfl, rfl⟩ | ⟨rfl, rfl⟩ <;> omega
termination_by L => L
theorem braidC_00 {A : Nat → Nat → Int} {i k : Nat} (hii : A i i = 2) (hkk : A k k = 2) (hik : A i k = -0) (hki : A k i = -0) (z : Nat → Int) : rfC A k (rfC A i (rfC A k (z))) = rfC A i z := by
  obtain ⟨x, hx⟩ : ∃ x, x = -(z i) := ⟨_, rfl⟩
  obtain ⟨y, hy⟩ : ∃ y, y = -(z k) := ⟨_, rfl⟩
  have hz : z = twoC A i k z (0 * x + 0 * y) (0 * x + 0 * y) := by rw [show (0 * x + 0 * y : Int) = 0 by omega, two_zero]
  have hr : rfC A i z = twoC A i k z (-1 * x + 0 * y) (0 * x + 0 * y) := by
    conv => lhs; rw [hz]
    exact two_rf_i (d := 0) hii hik z (by omega)
  rw [hr]
  conv => lhs; rw [hz]
  rw [two_rf_k (e := 0) (b' := (0 * x + -1 * y)) hkk hki z (by omega)]
  rw [two_rf_i (d := 0) (a' := (-1 * x + 0 * y)) hii hik z (by omega)]
  rw [two_rf_k (e := 0) (b' := (0 * x + 0 * y)) hkk hki z (by omega)]
theorem braidC_11 {A : Nat → Nat → Int} {i k : Nat} (hii : A i i = 2) (hkk : A k k = 2) (hik : A i k = -1) (hki : A k i = -1) (z : Nat → Int) : rfC A k (rfC A i (rfC A k (rfC A i (rfC A k (z))))) = rfC A i z := by
  obtain ⟨x, hx⟩ : ∃ x, x = -(z i) := ⟨_, rfl⟩
  obtain ⟨y, hy⟩ : ∃ y, y = -(z k) := ⟨_, rfl⟩
  have hz : z = twoC A i k z (0 * x + 0 * y) (0 * x + 0 * y) := by rw [show (0 * x + 0 * y : Int) = 0 by omega, two_zero]
  have hr : rfC A i z = twoC A i k z (-1 * x + 0 * y) (0 * x + 0 * y) := by
    conv => lhs; rw [hz]
    exact two_rf_i (d := 1) hii hik z (by omega)
  rw [hr]
  conv => lhs; rw [hz]
  rw [two_rf_k (e := 1) (b' := (0 * x + -1 * y)) hkk hki z (by omega)]
  rw [two_rf_i (d := 1) (a' := (-1 * x + -1 * y)) hii hik z (by omega)]
  rw [two_rf_k (e := 1) (b' := (-1 * x + -1 * y)) hkk hki z (by omega)]
  rw [two_rf_i (d := 1) (a' := (-1 * x + 0 * y)) hii hik z (by omega)]
  rw [two_rf_k (e := 1) (b' := (0 * x + 0 * y)) hkk hki z (by omega)]
theorem braidC_12 {A : Nat → Nat → Int} {i k : Nat} (hii : A i i = 2) (hkk : A k k = 2) (hik : A i k = -1) (hki : A k i = -2) (z : Nat → Int) : rfC A k (rfC A i (rfC A k (rfC A i (rfC A k (rfC A i (rfC A k (z))))))) = rfC A i z := by
  obtain ⟨x, hx⟩ : ∃ x, x = -(z i) := ⟨_, rfl⟩
  obtain ⟨y, hy⟩ : ∃ y, y = -(z k) := ⟨_, rfl⟩
  have hz : z = twoC A i k z (0 * x + 0 * y) (0 * x + 0 * y) := by rw [show (0 * x + 0 * y : Int) = 0 by omega, two_zero]
  have hr : rfC A i z = twoC A i k z (-1 * x + 0 * y) (0 * x + 0 * y) := by
    conv => lhs; rw [hz]
    exact two_rf_i (d := 1) hii hik z (by omega)
  rw [hr]
  conv => lhs; rw [hz]
  rw [two_rf_k (e := 2) (b' := (0 * x + -1 * y)) hkk hki z (by omega)]
  rw [two_rf_i (d := 1) (a' := (-1 * x + -1 * y)) hii hik z (by omega)]
  rw [two_rf_k (e := 2) (b' := (-2 * x + -2 * y)) hkk hki z (by omega)]
  rw [two_rf_i (d := 1) (a' := (-2 * x + -1 * y)) hii hik z (by omega)]
  rw [two_rf_k (e := 2) (b' := (-2 * x + -1 * y)) hkk hki z (by omega)]
  rw [two_rf_i (d := 1) (a' := (-1 * x + 0 * y)) hii hik z (by omega)]
  rw [two_rf_k (e := 2) (b' := (0 * x + 0 * y)) hkk hki z (by omega)]
theorem braidC_21 {A : Nat → Nat → Int} {i k : Nat} (hii : A i i = 2) (hkk : A k k = 2) (hik : A i k = -2) (hki : A k i = -1) (z : Nat → Int) : rfC A k (rfC A i (rfC A k (rfC A i (rfC A k (rfC A i (rfC A k (z))))))) = rfC A i z := by
  obtain ⟨x, hx⟩ : ∃ x, x = -(z i) := ⟨_, rfl⟩
  obtain ⟨y, hy⟩ : ∃ y, y = -(z k) := ⟨_, rfl⟩
  have hz : z = twoC A i k z (0 * x + 0 * y) (0 * x + 0 * y) := by rw [show (0 * x + 0 * y : Int) = 0 by omega, two_zero]
  have hr : rfC A i z = twoC A i k z (-1 * x + 0 * y) (0 * x + 0 * y) := by
    conv => lhs; rw [hz]
    exact two_rf_i (d := 2) hii hik z (by omega)
  rw [hr]
  conv => lhs; rw [hz]
  rw [two_rf_k (e := 1) (b' := (0 * x + -1 * y)) hkk hki z (by omega)]
  rw [two_rf_i (d := 2) (a' := (-1 * x + -2 * y)) hii hik z (by omega)]
  rw [two_rf_k (e := 1) (b' := (-1 * x + -2 * y)) hkk hki z (by omega)]
  rw [two_rf_i (d := 2) (a' := (-2 * x + -2 * y)) hii hik z (by omega)]
  rw [two_rf_k (e := 1) (b' := (-1 * x + -1 * y)) hkk hki z (by omega)]
  rw [two_rf_i (d := 2) (a' := (-1 * x + 0 * y)) hii hik z (by omega)]
  rw [two_rf_k (e := 1) (b' := (0 * x + 0 * y)) hkk hki z (by omega)]
theorem braidC_13 {A : Nat → Nat → Int} {i k : Nat} (hii : A i i = 2) (hkk : A k k = 2) (hik : A i k = -1) (hki : A k i = -3) (z : Nat → Int) : rfC A k (rfC A i (rfC A k (rfC A i (rfC A k (rfC A i (rfC A k (rfC A i (rfC A k (rfC A i (rfC A k (z))))))))))) = rfC A i z := by
  obtain ⟨x, hx⟩ : ∃ x, x = -(z i) := ⟨_, rfl⟩
  obtain ⟨y, hy⟩ : ∃ y, y = -(z k) := ⟨_, rfl⟩
  have hz : z = twoC A i k z (0 * x + 0 * y) (0 * x + 0 * y) := by rw [show (0 * x + 0 * y : Int) = 0 by omega, two_zero]
  have hr : rfC A i z = twoC A i k z (-1 * x + 0 * y) (0 * x + 0 * y) := by
    conv => lhs; rw [hz]
    exact two_rf_i (d := 1) hii hik z (by omega)
  rw [hr]
  conv => lhs; rw [hz]
  rw [two_rf_k (e := 3) (b' := (0 * x + -1 * y)) hkk hki z (by omega)]
  rw [two_rf_i (d := 1) (a' := (-1 * x + -1 * y)) hii hik z (by omega)]
  rw [two_rf_k (e := 3) (b' := (-3 * x + -3 * y)) hkk hki z (by omega)]
  rw [two_rf_i (d := 1) (a' := (-3 * x + -2 * y)) hii hik z (by omega)]
  rw [two_rf_k (e := 3) (b' := (-6 * x + -4 * y)) hkk hki z (by omega)]
  rw [two_rf_i (d := 1) (a' := (-4 * x + -2 * y)) hii hik z (by omega)]
  rw [two_rf_k (e := 3) (b' := (-6 * x + -3 * y)) hkk hki z (by omega)]
  rw [two_rf_i (d := 1) (a' := (-3 * x + -1 * y)) hii hik z (by omega)]
  rw [two_rf_k (e := 3) (b' := (-3 * x + -1 * y)) hkk hki z (by omega)]
  rw [two_rf_i (d := 1) (a' := (-1 * x + 0 * y)) hii hik z (by omega)]
  rw [two_rf_k (e := 3) (b' := (0 * x + 0 * y)) hkk hki z (by omega)]
theorem braidC_31 {A : Nat → Nat → Int} {i k : Nat} (hii : A i i = 2) (hkk : A k k = 2) (hik : A i k = -3) (hki : A k i = -1) (z : Nat → Int) : rfC A k (rfC A i (rfC A k (rfC A i (rfC A k (rfC A i (rfC A k (rfC A i (rfC A k (rfC A i (rfC A k (z))))))))))) = rfC A i z := by
  obtain ⟨x, hx⟩ : ∃ x, x = -(z i) := ⟨_, rfl⟩
  obtain ⟨y, hy⟩ : ∃ y, y = -(z k) := ⟨_, rfl⟩
  have hz : z = twoC A i k z (0 * x + 0 * y) (0 * x + 0 * y) := by rw [show (0 * x + 0 * y : Int) = 0 by omega, two_zero]
  have hr : rfC A i z = twoC A i k z (-1 * x + 0 * y) (0 * x + 0 * y) := by
    conv => lhs; rw [hz]
    exact two_rf_i (d := 3) hii hik z (by omega)
  rw [hr]
  conv => lhs; rw [hz]
  rw [two_rf_k (e := 1) (b' := (0 * x + -1 * y)) hkk hki z (by omega)]
  rw [two_rf_i (d := 3) (a' := (-1 * x + -3 * y)) hii hik z (by omega)]
  rw [two_rf_k (e := 1) (b' := (-1 * x + -3 * y)) hkk hki z (by omega)]
  rw [two_rf_i (d := 3) (a' := (-3 * x + -6 * y)) hii hik z (by omega)]
  rw [two_rf_k (e := 1) (b' := (-2 * x + -4 * y)) hkk hki z (by omega)]
  rw [two_rf_i (d := 3) (a' := (-4 * x + -6 * y)) hii hik z (by omega)]
  rw [two_rf_k (e := 1) (b' := (-2 * x + -3 * y)) hkk hki z (by omega)]
  rw [two_rf_i (d := 3) (a' := (-3 * x + -3 * y)) hii hik z (by omega)]
  rw [two_rf_k (e := 1) (b' := (-1 * x + -1 * y)) hkk hki z (by omega)]
  rw [two_rf_i (d := 3) (a' := (-1 * x + 0 * y)) hii hik z (by omega)]
  rw [two_rf_k (e := 1) (b' := (0 * x + 0 * y)) hkk hki z (by omega)]
set_option maxHeartbeats 8000000 in
theorem gdn_at {n : Nat} {A : Nat → Nat → Int} {X : Type} {σ : Nat → X → X} {x0 : X} (g : Gcm n A) (b : Brd n A σ) {N : Nat} (hD : Diam n A σ x0 N) {v : Nat → Int} {k i : Nat} {f : X} {L : Nat} (hL : L < N) (hk : k < n) (hi : i < n) (hv : v k < 0) (hU : GDn n A σ x0 (rfC A k v) L f) (h0 : v i ≤ 0) : v i ≠ 0 ∧ GDn n A σ x0 (rfC A i v) L (σ i (σ k f)) := by
  by_cases hik : i = k
  · subst hik
    refine ⟨by omega, ?_⟩
    rw [b.twice i hi]; exact hU
  have hii := g.diag i hi
  have hkk := g.diag k hk
  have o1 := g.off i k hi hk hik
  have o2 := g.off k i hk hi (fun h => hik h.symm)
  have z1 := g.zero i k hi hk
  have z2 := g.zero k i hk hi
  obtain ⟨d, hd⟩ : ∃ d, d = -(A i k) := ⟨_, rfl⟩
  obtain ⟨e, he⟩ : ∃ e, e = -(A k i) := ⟨_, rfl⟩
  have hAd : A i k = -d := by omega
  have hAe : A k i = -e := by omega
  rw [hAd] at o1 z1 z2
  rw [hAe] at o2 z1 z2
  obtain ⟨x, hx⟩ : ∃ x, x = -(v i) := ⟨_, rfl⟩
  obtain ⟨y, hy⟩ : ∃ y, y = -(v k) := ⟨_, rfl⟩
  have TI : ∀ a b, twoC A i k v a b i = -(x + 2 * a - d * b) := fun a b => by rw [hx]; exact two_i hii hAd v a b
  have TK : ∀ a b, twoC A i k v a b k = -(y + 2 * b - e * a) := fun a b => by rw [hy]; exact two_k hkk hAe v a b
  have DI : ∀ a b a' M F, GDn n A σ x0 (twoC A i k v a b) M F → M ≤ L → 0 ≤ x + 2 * a - d * b → a' = a - (x + 2 * a - d * b) → 0 < x + 2 * a - d * b ∧ ∃ M', M = M' + 1 ∧ GDn n A σ x0 (twoC A i k v a' b) M' (σ i F) := fun a b a' M F hu hM h1 h2 => by
    have h := hD _ M F i (by omega) hi hu
    rw [TI] at h
    have h3 := h.2 (by omega)
    rw [two_rf_i (a' := a') hii hAd v (by omega)] at h3
    exact ⟨by omega, h3⟩
  have DK : ∀ a b b' M F, GDn n A σ x0 (twoC A i k v a b) M F → M ≤ L → 0 ≤ y + 2 * b - e * a → b' = b - (y + 2 * b - e * a) → 0 < y + 2 * b - e * a ∧ ∃ M', M = M' + 1 ∧ GDn n A σ x0 (twoC A i k v a b') M' (σ k F) := fun a b b' M F hu hM h1 h2 => by
    have h := hD _ M F k (by omega) hk hu
    rw [TK] at h
    have h3 := h.2 (by omega)
    rw [two_rf_k (b' := b') hkk hAe v (by omega)] at h3
    exact ⟨by omega, h3⟩
  have UI : ∀ a b a' M F, GDn n A σ x0 (twoC A i k v a b) M F → x + 2 * a - d * b < 0 → a' = a - (x + 2 * a - d * b) → GDn n A σ x0 (twoC A i k v a' b) (M + 1) (σ i F) := fun a b a' M F hu h1 h2 => by
    have h := gdn_up hii hu hi (by rw [TI]; omega)
    rw [two_rf_i (a' := a') hii hAd v (by omega)] at h
    exact h
  have UK : ∀ a b b' M F, GDn n A σ x0 (twoC A i k v a b) M F → y + 2 * b - e * a < 0 → b' = b - (y + 2 * b - e * a) → GDn n A σ x0 (twoC A i k v a b') (M + 1) (σ k F) := fun a b b' M F hu h1 h2 => by
    have h := gdn_up hkk hu hk (by rw [TK]; omega)
    rw [two_rf_k (b' := b') hkk hAe v (by omega)] at h
    exact h
  have NI : ∀ a b M F, GDn n A σ x0 (twoC A i k v a b) M F → M ≤ L → x + 2 * a - d * b ≠ 0 := fun a b M F hu hM h => by
    have h := (hD _ M F i (by omega) hi hu).1
    rw [TI] at h; omega
  have NK : ∀ a b M F, GDn n A σ x0 (twoC A i k v a b) M F → M ≤ L → y + 2 * b - e * a ≠ 0 := fun a b M F hu hM h => by
    have h := (hD _ M F k (by omega) hk hu).1
    rw [TK] at h; omega
  have e0 : rfC A k v = twoC A i k v (0 * x + 0 * y) (0 * x + -1 * y) := by
    conv => lhs; rw [← two_zero (A := A) (i := i) (k := k) v]
    rw [show (0 * x + 0 * y : Int) = 0 by omega]
    exact two_rf_k hkk hAe v (by omega)
  have FIN : ∀ a b M F, GDn n A σ x0 (twoC A i k v a b) M F → a = -x → b = 0 → GDn n A σ x0 (rfC A i v) M F := fun a b M F hu h1 h2 => by
    have e1 : rfC A i v = twoC A i k v a b := by
      conv => lhs; rw [← two_zero (A := A) (i := i) (k := k) v]
      rw [h2]
      exact two_rf_i hii hAd v (by omega)
    rw [e1]; exact hu
  have q1 : rfC A k v i = -(x + d * y) := by simp only [rfC, addC]; rw [hAd, hx, hy, Int.neg_mul_neg, Int.mul_neg, Int.mul_comm d]; omega
  have q2 : rfC A k v k = y := by rw [rfC_at hkk]; omega
  have hU0 := hU
  rw [e0] at hU
  have hx0 : 0 ≤ x := by omega
  have hy0 : 0 < y := by omega
  have hvx : v i ≠ 0 ↔ x ≠ 0 := by omega
  rw [hvx]
  clear hd he e0 hvx
  have hcase : (d = 0 ∧ e = 0) ∨ (d = 1 ∧ e = 1) ∨ (d = 1 ∧ e = 2) ∨ (d = 2 ∧ e = 1) ∨ (d = 1 ∧ e = 3) ∨ (d = 3 ∧ e = 1) ∨ ((d = 2 ∧ e = 2) ∨ (d = 2 ∧ e = 3) ∨ (d = 3 ∧ e = 2) ∨ (d = 3 ∧ e = 3)) := by clear hx hy hv h0 q1 q2; omega
  rcases hcase with ⟨rfl, rfl⟩ | ⟨rfl, rfl⟩ | ⟨rfl, rfl⟩ | ⟨rfl, rfl⟩ | ⟨rfl, rfl⟩ | ⟨rfl, rfl⟩ | hw
  · obtain ⟨p1, M1, m1, h1⟩ := DI _ _ (-1 * x + 0 * y) _ _ hU (by omega) (by omega) (by omega)
    have n1 := NI _ _ _ _ h1 (by omega)
    have n2 := NK _ _ _ _ h1 (by omega)
    refine ⟨by omega, ?_⟩
    have h2 := UK _ _ (0 * x + 0 * y) _ _ h1 (by omega) (by omega)
    have h3 := FIN _ _ _ _ h2 (by omega) (by omega)
    have hLM : L = M1 + 1 := by omega
    have hb := b.b00 i k hi hk hAd hAe (σ k f)
    simp only [b.twice k hk] at hb
    simp only [hb] at h3
    rw [hLM]
    exact h3
  · obtain ⟨p1, M1, m1, h1⟩ := DI _ _ (-1 * x + -1 * y) _ _ hU (by omega) (by omega) (by omega)
    obtain ⟨p2, M2, m2, h2⟩ := DK _ _ (-1 * x + -1 * y) _ _ h1 (by omega) (by omega) (by omega)
    have n1 := NI _ _ _ _ h2 (by omega)
    have n2 := NK _ _ _ _ h2 (by omega)
    refine ⟨by omega, ?_⟩
    have h3 := UI _ _ (-1 * x + 0 * y) _ _ h2 (by omega) (by omega)
    have h4 := UK _ _ (0 * x + 0 * y) _ _ h3 (by omega) (by omega)
    have h5 := FIN _ _ _ _ h4 (by omega) (by omega)
    have hLM : L = M2 + 1 + 1 := by omega
    have hb := b.b11 i k hi hk hAd hAe (σ k f)
    simp only [b.twice k hk] at hb
    simp only [hb] at h5
    rw [hLM]
    exact h5
  · obtain ⟨p1, M1, m1, h1⟩ := DI _ _ (-1 * x + -1 * y) _ _ hU (by omega) (by omega) (by omega)
    obtain ⟨p2, M2, m2, h2⟩ := DK _ _ (-2 * x + -2 * y) _ _ h1 (by omega) (by omega) (by omega)
    obtain ⟨p3, M3, m3, h3⟩ := DI _ _ (-2 * x + -1 * y) _ _ h2 (by omega) (by omega) (by omega)
    have n1 := NI _ _ _ _ h3 (by omega)
    have n2 := NK _ _ _ _ h3 (by omega)
    refine ⟨by omega, ?_⟩
    have h4 := UK _ _ (-2 * x + -1 * y) _ _ h3 (by omega) (by omega)
    have h5 := UI _ _ (-1 * x + 0 * y) _ _ h4 (by omega) (by omega)
    have h6 := UK _ _ (0 * x + 0 * y) _ _ h5 (by omega) (by omega)
    have h7 := FIN _ _ _ _ h6 (by omega) (by omega)
    have hLM : L = M3 + 1 + 1 + 1 := by omega
    have hb := b.b12 i k hi hk hAd hAe (σ k f)
    simp only [b.twice k hk] at hb
    simp only [hb] at h7
    rw [hLM]
    exact h7
  · obtain ⟨p1, M1, m1, h1⟩ := DI _ _ (-1 * x + -2 * y) _ _ hU (by omega) (by omega) (by omega)
    obtain ⟨p2, M2, m2, h2⟩ := DK _ _ (-1 * x + -2 * y) _ _ h1 (by omega) (by omega) (by omega)
    obtain ⟨p3, M3, m3, h3⟩ := DI _ _ (-2 * x + -2 * y) _ _ h2 (by omega) (by omega) (by omega)
    have n1 := NI _ _ _ _ h3 (by omega)
    have n2 := NK _ _ _ _ h3 (by omega)
    refine ⟨by omega, ?_⟩
    have h4 := UK _ _ (-1 * x + -1 * y) _ _ h3 (by omega) (by omega)
    have h5 := UI _ _ (-1 * x + 0 * y) _ _ h4 (by omega) (by omega)
    have h6 := UK _ _ (0 * x + 0 * y) _ _ h5 (by omega) (by omega)
    have h7 := FIN _ _ _ _ h6 (by omega) (by omega)
    have hLM : L = M3 + 1 + 1 + 1 := by omega
    have hb := b.b21 i k hi hk hAd hAe (σ k f)
    simp only [b.twice k hk] at hb
    simp only [hb] at h7
    rw [hLM]
    exact h7
  · obtain ⟨p1, M1, m1, h1⟩ := DI _ _ (-1 * x + -1 * y) _ _ hU (by omega) (by omega) (by omega)
    obtain ⟨p2, M2, m2, h2⟩ := DK _ _ (-3 * x + -3 * y) _ _ h1 (by omega) (by omega) (by omega)
    obtain ⟨p3, M3, m3, h3⟩ := DI _ _ (-3 * x + -2 * y) _ _ h2 (by omega) (by omega) (by omega)
    obtain ⟨p4, M4, m4, h4⟩ := DK _ _ (-6 * x + -4 * y) _ _ h3 (by omega) (by omega) (by omega)
    obtain ⟨p5, M5, m5, h5⟩ := DI _ _ (-4 * x + -2 * y) _ _ h4 (by omega) (by omega) (by omega)
    have n1 := NI _ _ _ _ h5 (by omega)
    have n2 := NK _ _ _ _ h5 (by omega)
    refine ⟨by omega, ?_⟩
    have h6 := UK _ _ (-6 * x + -3 * y) _ _ h5 (by omega) (by omega)
    have h7 := UI _ _ (-3 * x + -1 * y) _ _ h6 (by omega) (by omega)
    have h8 := UK _ _ (-3 * x + -1 * y) _ _ h7 (by omega) (by omega)
    have h9 := UI _ _ (-1 * x + 0 * y) _ _ h8 (by omega) (by omega)
    have h10 := UK _ _ (0 * x + 0 * y) _ _ h9 (by omega) (by omega)
    have h11 := FIN _ _ _ _ h10 (by omega) (by omega)
    have hLM : L = M5 + 1 + 1 + 1 + 1 + 1 := by omega
    have hb := b.b13 i k hi hk hAd hAe (σ k f)
    simp only [b.twice k hk] at hb
    simp only [hb] at h11
    rw [hLM]
    exact h11
  · obtain ⟨p1, M1, m1, h1⟩ := DI _ _ (-1 * x + -3 * y) _ _ hU (by omega) (by omega) (by omega)
    obtain ⟨p2, M2, m2, h2⟩ := DK _ _ (-1 * x + -3 * y) _ _ h1 (by omega) (by omega) (by omega)
    obtain ⟨p3, M3, m3, h3⟩ := DI _ _ (-3 * x + -6 * y) _ _ h2 (by omega) (by omega) (by omega)
    obtain ⟨p4, M4, m4, h4⟩ := DK _ _ (-2 * x + -4 * y) _ _ h3 (by omega) (by omega) (by omega)
    obtain ⟨p5, M5, m5, h5⟩ := DI _ _ (-4 * x + -6 * y) _ _ h4 (by omega) (by omega) (by omega)
    have n1 := NI _ _ _ _ h5 (by omega)
    have n2 := NK _ _ _ _ h5 (by omega)
    refine ⟨by omega, ?_⟩
    have h6 := UK _ _ (-2 * x + -3 * y) _ _ h5 (by omega) (by omega)
    have h7 := UI _ _ (-3 * x + -3 * y) _ _ h6 (by omega) (by omega)
    have h8 := UK _ _ (-1 * x + -1 * y) _ _ h7 (by omega) (by omega)
    have h9 := UI _ _ (-1 * x + 0 * y) _ _ h8 (by omega) (by omega)
    have h10 := UK _ _ (0 * x + 0 * y) _ _ h9 (by omega) (by omega)
    have h11 := FIN _ _ _ _ h10 (by omega) (by omega)
    have hLM : L = M5 + 1 + 1 + 1 + 1 + 1 := by omega
    have hb := b.b31 i k hi hk hAd hAe (σ k f)
    simp only [b.twice k hk] at hb
    simp only [hb] at h11
    rw [hLM]
    exact h11
  · exfalso
    refine gdn_wild hD L i k d e _ _ hi hk hii hkk hAd hAe hw hU0 hL ?_ (by rw [q2]; exact hy0) ?_
    · rw [q1]; rcases hw with ⟨rfl, rfl⟩ | ⟨rfl, rfl⟩ | ⟨rfl, rfl⟩ | ⟨rfl, rfl⟩ <;> omega
    · rw [q1, q2]; rcases hw with ⟨rfl, rfl⟩ | ⟨rfl, rfl⟩ | ⟨rfl, rfl⟩ | ⟨rfl, rfl⟩ <;> omega
theorem diam {n : Nat} {A : Nat → Nat → Int} {X : Type} {σ : Nat → X → X} (g : Gcm n A) (b : Brd n A σ) (x0 : X) : ∀ N, Diam n A σ x0 N
  | 0 => fun _ _ _ _ h => absurd h (Nat.not_lt_zero _)
  | N + 1 => fun v L f i hL hi hU => by
    cases hU with
    | zero =>
      have h1 : onesV i = 1 := rfl
      exact ⟨by omega, fun h => absurd h (by omega)⟩
    | step _ k L f hk hv hU =>
      by_cases h0 : 0 < v i
      · exact ⟨by omega, fun h => absurd h (by omega)⟩
      · have h := gdn_at g b (diam g b x0 N) (by omega) hk hi hv hU (by omega)
        exact ⟨h.1, fun _ => ⟨L, rfl, h.2⟩⟩
theorem gdn_ne {n : Nat} {A : Nat → Nat → Int} {X : Type} {σ : Nat → X → X} {x0 : X} (g : Gcm n A) (b : Brd n A σ) {v : Nat → Int} {L : Nat} {f : X} (h : GDn n A σ x0 v L f) {i : Nat} (hi : i < n) : v i ≠ 0 := (diam g b x0 (L + 1) v L f i (Nat.lt_succ_self _) hi h).1
theorem gdn_down {n : Nat} {A : Nat → Nat → Int} {X : Type} {σ : Nat → X → X} {x0 : X} (g : Gcm n A) (b : Brd n A σ) {v : Nat → Int} {L : Nat} {f : X} (h : GDn n A σ x0 v L f) {i : Nat} (hi : i < n) (hv : v i < 0) : ∃ L', L = L' + 1 ∧ GDn n A σ x0 (rfC A i v) L' (σ i f) := (diam g b x0 (L + 1) v L f i (Nat.lt_succ_self _) hi h).2 hv
/-- The number of steps, and what the moves make, are the vector's own. -/
theorem gdn_one {n : Nat} {A : Nat → Nat → Int} {X : Type} {σ : Nat → X → X} {x0 : X} (g : Gcm n A) (b : Brd n A σ) {v : Nat → Int} {L L' : Nat} {f f' : X} (h : GDn n A σ x0 v L f) (h' : GDn n A σ x0 v L' f') : L = L' ∧ f = f' := by
  induction h generalizing L' f' with
  | zero =>
    cases h' with
    | zero => exact ⟨rfl, rfl⟩
    | step _ i L f hi hv hU => have h1 : onesV i = 1 := rfl; omega
  | step v i L f hi hv hU ih =>
    obtain ⟨L2, rfl, h2⟩ := gdn_down g b h' hi hv
    obtain ⟨e1, e2⟩ := ih h2
    refine ⟨by omega, ?_⟩
    rw [e2]
    exact b.twice i hi f'
/-- Every word's image goes down: by the word's own moves, in at most as many steps, of the same parity. -/
theorem gdn_word {n : Nat} {A : Nat → Nat → Int} {X : Type} {σ : Nat → X → X} (g : Gcm n A) (b : Brd n A σ) (x0 : X) : ∀ ws : List Nat, (∀ i ∈ ws, i < n) → ∃ L, GDn n A σ x0 (ws.foldr (rfC A) onesV) L (ws.foldr σ x0) ∧ L ≤ ws.length ∧ L % 2 = ws.length % 2
  | [], _ => ⟨0, .zero, Nat.le_refl _, rfl⟩
  | i :: ws, h => by
    have hi := h i (List.mem_cons_self ..)
    obtain ⟨L, hL, hl, hp⟩ := gdn_word g b x0 ws (fun k hk => h k (List.mem_cons_of_mem _ hk))
    simp only [List.foldr_cons, List.length_cons]
    have hne := gdn_ne g b hL hi
    rcases Int.lt_or_gt_of_ne hne with h0 | h0
    · obtain ⟨L', rfl, h'⟩ := gdn_down g b hL hi h0
      exact ⟨L', h', by omega, by omega⟩
    · exact ⟨L + 1, gdn_up (g.diag i hi) hL hi h0, by omega, by omega⟩
/-- Words with the same image of the ones make the same of every x0, for whatever moves keep the relations. -/
theorem gword_same {n : Nat} {A : Nat → Nat → Int} {X : Type} {σ : Nat → X → X} (g : Gcm n A) (b : Brd n A σ) (x0 : X) {ws ws' : List Nat} (h : ∀ i ∈ ws, i < n) (h' : ∀ i ∈ ws', i < n) (e : ws.foldr (rfC A) onesV = ws'.foldr (rfC A) onesV) : ws.foldr σ x0 = ws'.foldr σ x0 := by
  obtain ⟨L, hL, _⟩ := gdn_word g b x0 ws h
  obtain ⟨L', hL', _⟩ := gdn_word g b x0 ws' h'
  rw [e] at hL
  exact (gdn_one g b hL hL').2
/-! ### The moves are the maps -/
abbrev mapS (A : Nat → Nat → Int) (i : Nat) (f : (Nat → Int) → Nat → Int) : (Nat → Int) → Nat → Int := fun z => rfC A i (f z)
theorem brd_map {n : Nat} {A : Nat → Nat → Int} (g : Gcm n A) : Brd n A (mapS A) where
  twice i hi f := by funext z; exact rfC_twice (g.diag i hi) (f z)
  b00 i k hi hk hik hki f := by funext z; exact braidC_00 (g.diag i hi) (g.diag k hk) hik hki (f z)
  b11 i k hi hk hik hki f := by funext z; exact braidC_11 (g.diag i hi) (g.diag k hk) hik hki (f z)
  b12 i k hi hk hik hki f := by funext z; exact braidC_12 (g.diag i hi) (g.diag k hk) hik hki (f z)
  b21 i k hi hk hik hki f := by funext z; exact braidC_21 (g.diag i hi) (g.diag k hk) hik hki (f z)
  b13 i k hi hk hik hki f := by funext z; exact braidC_13 (g.diag i hi) (g.diag k hk) hik hki (f z)
  b31 i k hi hk hik hki f := by funext z; exact braidC_31 (g.diag i hi) (g.diag k hk) hik hki (f z)
abbrev Dn (n : Nat) (A : Nat → Nat → Int) (v : Nat → Int) (L : Nat) (f : (Nat → Int) → Nat → Int) : Prop := GDn n A (mapS A) id v L f
theorem dn_up {n : Nat} {A : Nat → Nat → Int} {v : Nat → Int} {L : Nat} {f : (Nat → Int) → Nat → Int} {i : Nat} (hii : A i i = 2) (h : Dn n A v L f) (hi : i < n) (hv : 0 < v i) : Dn n A (rfC A i v) (L + 1) (fun z => rfC A i (f z)) := gdn_up hii h hi hv
theorem dn_ne {n : Nat} {A : Nat → Nat → Int} (g : Gcm n A) {v : Nat → Int} {L : Nat} {f : (Nat → Int) → Nat → Int} (h : Dn n A v L f) {i : Nat} (hi : i < n) : v i ≠ 0 := gdn_ne g (brd_map g) h hi
theorem dn_down {n : Nat} {A : Nat → Nat → Int} (g : Gcm n A) {v : Nat → Int} {L : Nat} {f : (Nat → Int) → Nat → Int} (h : Dn n A v L f) {i : Nat} (hi : i < n) (hv : v i < 0) : ∃ L', L = L' + 1 ∧ Dn n A (rfC A i v) L' (fun z => rfC A i (f z)) := gdn_down g (brd_map g) h hi hv
theorem dn_one {n : Nat} {A : Nat → Nat → Int} (g : Gcm n A) {v : Nat → Int} {L L' : Nat} {f f' : (Nat → Int) → Nat → Int} (h : Dn n A v L f) (h' : Dn n A v L' f') : L = L' ∧ f = f' := gdn_one g (brd_map g) h h'
theorem map_foldr (A : Nat → Nat → Int) : ∀ (ws : List Nat), ws.foldr (mapS A) id = fun z => ws.foldr (rfC A) z
  | [] => rfl
  | i :: ws => by rw [List.foldr_cons, map_foldr A ws]; rfl
theorem dn_word {n : Nat} {A : Nat → Nat → Int} (g : Gcm n A) (ws : List Nat) (h : ∀ i ∈ ws, i < n) : ∃ L, Dn n A (ws.foldr (rfC A) onesV) L (fun z => ws.foldr (rfC A) z) ∧ L ≤ ws.length ∧ L % 2 = ws.length % 2 := by
  have := gdn_word g (brd_map g) id ws h
  rw [map_foldr] at this; exact this
/-- Words with the same image of the ones are the same map. -/
theorem word_same {n : Nat} {A : Nat → Nat → Int} (g : Gcm n A) {ws ws' : List Nat} (h : ∀ i ∈ ws, i < n) (h' : ∀ i ∈ ws', i < n) (e : ws.foldr (rfC A) onesV = ws'.foldr (rfC A) onesV) (z : Nat → Int) : ws.foldr (rfC A) z = ws'.foldr (rfC A) z := by
  have := gword_same g (brd_map g) id h h' e
  rw [map_foldr, map_foldr] at this
  exact congrFun this z
end Go.Proofs.Ytbmghddmilgngaa
