/-
  Two letters down at once: the vector lies under an alternating word of the pair's relation; so reduced words of one element are joined by braid moves (no walk here).
-/
import Derived.Test.YtbmghddmilgngaaLc10
namespace Go.Proofs.Ytbmghddmilgngaa
open Go.RowKit

/-- The alternating word of m letters that begins with i. -/
def altN (i k : Nat) : Nat → List Nat
  | 0 => []
  | m + 1 => i :: altN k i m
theorem altN_len : ∀ (m i k : Nat), (altN i k m).length = m
  | 0, _, _ => rfl
  | m + 1, i, k => by simp [altN, altN_len m]
theorem altN_in {n : Nat} : ∀ (m i k : Nat), i < n → k < n → InN n (altN i k m)
  | 0, _, _, _, _ => fun _ h => absurd h (by simp [altN])
  | m + 1, i, k, hi, hk => fun j hj => by
    simp only [altN] at hj
    rcases List.mem_cons.1 hj with e | hm
    · rw [e]; exact hi
    · exact altN_in m k i hk hi j hm
/-- The relation's number of a pair. -/
def relN (p : Int) (m : Nat) : Prop := (p = 0 ∧ m = 2) ∨ (p = 1 ∧ m = 3) ∨ (p = 2 ∧ m = 4) ∨ (p = 3 ∧ m = 6)
set_option maxHeartbeats 8000000 in
theorem two_word {n : Nat} {A : Nat → Nat → Int} (g : Gcm n A) {v : Nat → Int} {L : Nat} {f : (Nat → Int) → Nat → Int} (hD : Dn n A v L f) {i k : Nat} (hi : i < n) (hk : k < n) (hik : i ≠ k) (hvi : v i < 0) (hvk : v k < 0) : ∃ (m : Nat) (c : List Nat), relN (A i k * A k i) m ∧ c.length + m = L ∧ InN n c ∧ mapN A (altN i k m ++ c) onesV = v ∧ mapN A (altN k i m ++ c) onesV = v := by
  have hii := g.diag i hi
  have hkk := g.diag k hk
  have o1 := g.off i k hi hk hik
  have o2 := g.off k i hk hi (fun h => hik h.symm)
  have z1 := g.zero i k hi hk
  have z2 := g.zero k i hk hi
  obtain ⟨d, hd⟩ : ∃ d, d = -(A i k) := ⟨_, rfl⟩
  obtain ⟨e, he⟩ : ∃ e, e = -(A k i) := ⟨_, rfl⟩
  have hAd : A i k = -d := by omega
  have hAe : A k i = -e := by omega
  rw [hAd] at o1 z1 z2
  rw [hAe] at o2 z1 z2
  rw [hAd, hAe, Int.neg_mul_neg]
  obtain ⟨x, hx⟩ : ∃ x, x = -(v i) := ⟨_, rfl⟩
  obtain ⟨y, hy⟩ : ∃ y, y = -(v k) := ⟨_, rfl⟩
  have hx0 : 0 < x := by omega
  have hy0 : 0 < y := by omega
  have TI : ∀ a b, twoC A i k v a b i = -(x + 2 * a - d * b) := fun a b => by rw [hx]; exact two_i hii hAd v a b
  have TK : ∀ a b, twoC A i k v a b k = -(y + 2 * b - e * a) := fun a b => by rw [hy]; exact two_k hkk hAe v a b
  have RI : ∀ a b a', a' = a - (x + 2 * a - d * b) → rfC A i (twoC A i k v a b) = twoC A i k v a' b := fun a b a' h => two_rf_i hii hAd v (by omega)
  have RK : ∀ a b b', b' = b - (y + 2 * b - e * a) → rfC A k (twoC A i k v a b) = twoC A i k v a b' := fun a b b' h => two_rf_k hkk hAe v (by omega)
  have DI : ∀ a b a' M F, Dn n A (twoC A i k v a b) M F → 0 < x + 2 * a - d * b → a' = a - (x + 2 * a - d * b) → ∃ M', M = M' + 1 ∧ ∃ F', Dn n A (twoC A i k v a' b) M' F' := fun a b a' M F hu h1 h2 => by
    obtain ⟨M', e1, h3⟩ := dn_down g hu hi (by rw [TI]; omega)
    rw [RI a b a' h2] at h3
    exact ⟨M', e1, _, h3⟩
  have DK : ∀ a b b' M F, Dn n A (twoC A i k v a b) M F → 0 < y + 2 * b - e * a → b' = b - (y + 2 * b - e * a) → ∃ M', M = M' + 1 ∧ ∃ F', Dn n A (twoC A i k v a b') M' F' := fun a b b' M F hu h1 h2 => by
    obtain ⟨M', e1, h3⟩ := dn_down g hu hk (by rw [TK]; omega)
    rw [RK a b b' h2] at h3
    exact ⟨M', e1, _, h3⟩
  have q1 : rfC A k v i = -(x + d * y) := by simp only [rfC, addC]; rw [hAd, hx, hy, Int.neg_mul_neg, Int.mul_neg, Int.mul_comm d]; omega
  have q2 : rfC A k v k = y := by rw [rfC_at hkk]; omega
  have h0 : Dn n A (twoC A i k v (0 * x + 0 * y) (0 * x + 0 * y)) L f := by rw [show (0 * x + 0 * y : Int) = 0 by omega, two_zero]; exact hD
  have hv0 : twoC A i k v (0 * x + 0 * y) (0 * x + 0 * y) = v := by rw [show (0 * x + 0 * y : Int) = 0 by omega, two_zero]
  have hcase : (d = 0 ∧ e = 0) ∨ (d = 1 ∧ e = 1) ∨ (d = 1 ∧ e = 2) ∨ (d = 2 ∧ e = 1) ∨ (d = 1 ∧ e = 3) ∨ (d = 3 ∧ e = 1) ∨ ((d = 2 ∧ e = 2) ∨ (d = 2 ∧ e = 3) ∨ (d = 3 ∧ e = 2) ∨ (d = 3 ∧ e = 3)) := by clear hx hy hvi hvk q1 q2; omega
  clear hd he
  rcases hcase with ⟨rfl, rfl⟩ | ⟨rfl, rfl⟩ | ⟨rfl, rfl⟩ | ⟨rfl, rfl⟩ | ⟨rfl, rfl⟩ | ⟨rfl, rfl⟩ | hw
  · obtain ⟨M1, m1, F1, h1⟩ := DK _ _ (0 * x + -1 * y) _ _ h0 (by omega) (by omega)
    obtain ⟨M2, m2, F2, h2⟩ := DI _ _ (-1 * x + 0 * y) _ _ h1 (by omega) (by omega)
    obtain ⟨c, c1, c2, _, c4⟩ := dn_path g h2
    refine ⟨2, c, ?_, by omega, c2, ?_, ?_⟩
    · unfold relN; omega
    · rw [mapN_append, ← c4]
      show rfC A i (rfC A k (twoC A i k v (-1 * x + 0 * y) (0 * x + -1 * y))) = v
      rw [RK _ _ (0 * x + 0 * y) (by omega)]
      rw [RI _ _ (0 * x + 0 * y) (by omega)]
      exact hv0
    · rw [mapN_append, ← c4]
      show rfC A k (rfC A i (twoC A i k v (-1 * x + 0 * y) (0 * x + -1 * y))) = v
      rw [RI _ _ (0 * x + 0 * y) (by omega)]
      rw [RK _ _ (0 * x + 0 * y) (by omega)]
      exact hv0
  · obtain ⟨M1, m1, F1, h1⟩ := DK _ _ (0 * x + -1 * y) _ _ h0 (by omega) (by omega)
    obtain ⟨M2, m2, F2, h2⟩ := DI _ _ (-1 * x + -1 * y) _ _ h1 (by omega) (by omega)
    obtain ⟨M3, m3, F3, h3⟩ := DK _ _ (-1 * x + -1 * y) _ _ h2 (by omega) (by omega)
    obtain ⟨c, c1, c2, _, c4⟩ := dn_path g h3
    refine ⟨3, c, ?_, by omega, c2, ?_, ?_⟩
    · unfold relN; omega
    · rw [mapN_append, ← c4]
      show rfC A i (rfC A k (rfC A i (twoC A i k v (-1 * x + -1 * y) (-1 * x + -1 * y)))) = v
      rw [RI _ _ (-1 * x + 0 * y) (by omega)]
      rw [RK _ _ (0 * x + 0 * y) (by omega)]
      rw [RI _ _ (0 * x + 0 * y) (by omega)]
      exact hv0
    · rw [mapN_append, ← c4]
      show rfC A k (rfC A i (rfC A k (twoC A i k v (-1 * x + -1 * y) (-1 * x + -1 * y)))) = v
      rw [RK _ _ (0 * x + -1 * y) (by omega)]
      rw [RI _ _ (0 * x + 0 * y) (by omega)]
      rw [RK _ _ (0 * x + 0 * y) (by omega)]
      exact hv0
  · obtain ⟨M1, m1, F1, h1⟩ := DK _ _ (0 * x + -1 * y) _ _ h0 (by omega) (by omega)
    obtain ⟨M2, m2, F2, h2⟩ := DI _ _ (-1 * x + -1 * y) _ _ h1 (by omega) (by omega)
    obtain ⟨M3, m3, F3, h3⟩ := DK _ _ (-2 * x + -2 * y) _ _ h2 (by omega) (by omega)
    obtain ⟨M4, m4, F4, h4⟩ := DI _ _ (-2 * x + -1 * y) _ _ h3 (by omega) (by omega)
    obtain ⟨c, c1, c2, _, c4⟩ := dn_path g h4
    refine ⟨4, c, ?_, by omega, c2, ?_, ?_⟩
    · unfold relN; omega
    · rw [mapN_append, ← c4]
      show rfC A i (rfC A k (rfC A i (rfC A k (twoC A i k v (-2 * x + -1 * y) (-2 * x + -2 * y))))) = v
      rw [RK _ _ (-2 * x + -1 * y) (by omega)]
      rw [RI _ _ (-1 * x + 0 * y) (by omega)]
      rw [RK _ _ (0 * x + 0 * y) (by omega)]
      rw [RI _ _ (0 * x + 0 * y) (by omega)]
      exact hv0
    · rw [mapN_append, ← c4]
      show rfC A k (rfC A i (rfC A k (rfC A i (twoC A i k v (-2 * x + -1 * y) (-2 * x + -2 * y))))) = v
      rw [RI _ _ (-1 * x + -1 * y) (by omega)]
      rw [RK _ _ (0 * x + -1 * y) (by omega)]
      rw [RI _ _ (0 * x + 0 * y) (by omega)]
      rw [RK _ _ (0 * x + 0 * y) (by omega)]
      exact hv0
  · obtain ⟨M1, m1, F1, h1⟩ := DK _ _ (0 * x + -1 * y) _ _ h0 (by omega) (by omega)
    obtain ⟨M2, m2, F2, h2⟩ := DI _ _ (-1 * x + -2 * y) _ _ h1 (by omega) (by omega)
    obtain ⟨M3, m3, F3, h3⟩ := DK _ _ (-1 * x + -2 * y) _ _ h2 (by omega) (by omega)
    obtain ⟨M4, m4, F4, h4⟩ := DI _ _ (-2 * x + -2 * y) _ _ h3 (by omega) (by omega)
    obtain ⟨c, c1, c2, _, c4⟩ := dn_path g h4
    refine ⟨4, c, ?_, by omega, c2, ?_, ?_⟩
    · unfold relN; omega
    · rw [mapN_append, ← c4]
      show rfC A i (rfC A k (rfC A i (rfC A k (twoC A i k v (-2 * x + -2 * y) (-1 * x + -2 * y))))) = v
      rw [RK _ _ (-1 * x + -1 * y) (by omega)]
      rw [RI _ _ (-1 * x + 0 * y) (by omega)]
      rw [RK _ _ (0 * x + 0 * y) (by omega)]
      rw [RI _ _ (0 * x + 0 * y) (by omega)]
      exact hv0
    · rw [mapN_append, ← c4]
      show rfC A k (rfC A i (rfC A k (rfC A i (twoC A i k v (-2 * x + -2 * y) (-1 * x + -2 * y))))) = v
      rw [RI _ _ (-1 * x + -2 * y) (by omega)]
      rw [RK _ _ (0 * x + -1 * y) (by omega)]
      rw [RI _ _ (0 * x + 0 * y) (by omega)]
      rw [RK _ _ (0 * x + 0 * y) (by omega)]
      exact hv0
  · obtain ⟨M1, m1, F1, h1⟩ := DK _ _ (0 * x + -1 * y) _ _ h0 (by omega) (by omega)
    obtain ⟨M2, m2, F2, h2⟩ := DI _ _ (-1 * x + -1 * y) _ _ h1 (by omega) (by omega)
    obtain ⟨M3, m3, F3, h3⟩ := DK _ _ (-3 * x + -3 * y) _ _ h2 (by omega) (by omega)
    obtain ⟨M4, m4, F4, h4⟩ := DI _ _ (-3 * x + -2 * y) _ _ h3 (by omega) (by omega)
    obtain ⟨M5, m5, F5, h5⟩ := DK _ _ (-6 * x + -4 * y) _ _ h4 (by omega) (by omega)
    obtain ⟨M6, m6, F6, h6⟩ := DI _ _ (-4 * x + -2 * y) _ _ h5 (by omega) (by omega)
    obtain ⟨c, c1, c2, _, c4⟩ := dn_path g h6
    refine ⟨6, c, ?_, by omega, c2, ?_, ?_⟩
    · unfold relN; omega
    · rw [mapN_append, ← c4]
      show rfC A i (rfC A k (rfC A i (rfC A k (rfC A i (rfC A k (twoC A i k v (-4 * x + -2 * y) (-6 * x + -4 * y))))))) = v
      rw [RK _ _ (-6 * x + -3 * y) (by omega)]
      rw [RI _ _ (-3 * x + -1 * y) (by omega)]
      rw [RK _ _ (-3 * x + -1 * y) (by omega)]
      rw [RI _ _ (-1 * x + 0 * y) (by omega)]
      rw [RK _ _ (0 * x + 0 * y) (by omega)]
      rw [RI _ _ (0 * x + 0 * y) (by omega)]
      exact hv0
    · rw [mapN_append, ← c4]
      show rfC A k (rfC A i (rfC A k (rfC A i (rfC A k (rfC A i (twoC A i k v (-4 * x + -2 * y) (-6 * x + -4 * y))))))) = v
      rw [RI _ _ (-3 * x + -2 * y) (by omega)]
      rw [RK _ _ (-3 * x + -3 * y) (by omega)]
      rw [RI _ _ (-1 * x + -1 * y) (by omega)]
      rw [RK _ _ (0 * x + -1 * y) (by omega)]
      rw [RI _ _ (0 * x + 0 * y) (by omega)]
      rw [RK _ _ (0 * x + 0 * y) (by omega)]
      exact hv0
  · obtain ⟨M1, m1, F1, h1⟩ := DK _ _ (0 * x + -1 * y) _ _ h0 (by omega) (by omega)
    obtain ⟨M2, m2, F2, h2⟩ := DI _ _ (-1 * x + -3 * y) _ _ h1 (by omega) (by omega)
    obtain ⟨M3, m3, F3, h3⟩ := DK _ _ (-1 * x + -3 * y) _ _ h2 (by omega) (by omega)
    obtain ⟨M4, m4, F4, h4⟩ := DI _ _ (-3 * x + -6 * y) _ _ h3 (by omega) (by omega)
    obtain ⟨M5, m5, F5, h5⟩ := DK _ _ (-2 * x + -4 * y) _ _ h4 (by omega) (by omega)
    obtain ⟨M6, m6, F6, h6⟩ := DI _ _ (-4 * x + -6 * y) _ _ h5 (by omega) (by omega)
    obtain ⟨c, c1, c2, _, c4⟩ := dn_path g h6
    refine ⟨6, c, ?_, by omega, c2, ?_, ?_⟩
    · unfold relN; omega
    · rw [mapN_append, ← c4]
      show rfC A i (rfC A k (rfC A i (rfC A k (rfC A i (rfC A k (twoC A i k v (-4 * x + -6 * y) (-2 * x + -4 * y))))))) = v
      rw [RK _ _ (-2 * x + -3 * y) (by omega)]
      rw [RI _ _ (-3 * x + -3 * y) (by omega)]
      rw [RK _ _ (-1 * x + -1 * y) (by omega)]
      rw [RI _ _ (-1 * x + 0 * y) (by omega)]
      rw [RK _ _ (0 * x + 0 * y) (by omega)]
      rw [RI _ _ (0 * x + 0 * y) (by omega)]
      exact hv0
    · rw [mapN_append, ← c4]
      show rfC A k (rfC A i (rfC A k (rfC A i (rfC A k (rfC A i (twoC A i k v (-4 * x + -6 * y) (-2 * x + -4 * y))))))) = v
      rw [RI _ _ (-3 * x + -6 * y) (by omega)]
      rw [RK _ _ (-1 * x + -3 * y) (by omega)]
      rw [RI _ _ (-1 * x + -3 * y) (by omega)]
      rw [RK _ _ (0 * x + -1 * y) (by omega)]
      rw [RI _ _ (0 * x + 0 * y) (by omega)]
      rw [RK _ _ (0 * x + 0 * y) (by omega)]
      exact hv0
  · exfalso
    obtain ⟨M1, m1, hU0⟩ := dn_down g hD hk hvk
    refine gdn_wild (diam g (brd_map g) id (M1 + 1)) M1 i k d e _ _ hi hk hii hkk hAd hAe hw hU0 (Nat.lt_succ_self _) ?_ (by rw [q2]; exact hy0) ?_
    · rw [q1]; rcases hw with ⟨rfl, rfl⟩ | ⟨rfl, rfl⟩ | ⟨rfl, rfl⟩ | ⟨rfl, rfl⟩ <;> omega
    · rw [q1, q2]; rcases hw with ⟨rfl, rfl⟩ | ⟨rfl, rfl⟩ | ⟨rfl, rfl⟩ | ⟨rfl, rfl⟩ <;> omega
/-- Braid moves. -/
inductive Joined (n : Nat) (A : Nat → Nat → Int) : List Nat → List Nat → Prop
  | refl (a : List Nat) : Joined n A a a
  | move (a b : List Nat) (i k m : Nat) (c : List Nat) : i < n → k < n → i ≠ k → relN (A i k * A k i) m → Joined n A (a ++ altN k i m ++ b) c → Joined n A (a ++ altN i k m ++ b) c
theorem joined_trans {n : Nat} {A : Nat → Nat → Int} {a b c : List Nat} (h : Joined n A a b) (h' : Joined n A b c) : Joined n A a c := by
  induction h with
  | refl _ => exact h'
  | move a b i k m _ hi hk hn hr _ ih => exact .move a b i k m c hi hk hn hr (ih h')
theorem joined_cons {n : Nat} {A : Nat → Nat → Int} {a b : List Nat} (j : Nat) (h : Joined n A a b) : Joined n A (j :: a) (j :: b) := by
  induction h with
  | refl a => exact .refl _
  | move a b i k m c hi hk hn hr _ ih => exact .move (j :: a) b i k m (j :: c) hi hk hn hr ih
/-- Reduced words of one element are joined by braid moves. -/
theorem joined_red {n : Nat} {A : Nat → Nat → Int} (g : Gcm n A) : ∀ (N : Nat) (a b : List Nat), a.length = N → InN n a → InN n b → Red n A a → Red n A b → mapN A a onesV = mapN A b onesV → Joined n A a b
  | 0, a, b, hl, ha, hb, ra, rb, e => by
    obtain rfl : a = [] := List.length_eq_zero_iff.1 hl
    have h0 := (gdn_one g (brd_map g) (by rw [← e]; exact ra) rb).1
    obtain rfl : b = [] := List.length_eq_zero_iff.1 h0.symm
    exact .refl _
  | N + 1, [], _, hl, _, _, _, _, _ => absurd hl (by simp)
  | N + 1, i :: a, b, hl, ha, hb, ra, rb, e => by
    have hlen : (i :: a).length = b.length := (gdn_one g (brd_map g) (by rw [← e]; exact ra) rb).1
    cases b with
    | nil => simp at hlen
    | cons k b =>
      have hi := ha i (List.mem_cons_self ..)
      have hk := hb k (List.mem_cons_self ..)
      have hla : a.length = N := by simpa using hl
      have hlb : b.length = N := by simp at hlen; omega
      have ra' := red_tail g ha ra
      have rb' := red_tail g hb rb
      have hii := rfC_twice (A := A) (i := i) (g.diag i hi)
      have hkk := rfC_twice (A := A) (i := k) (g.diag k hk)
      by_cases hik : i = k
      · subst hik
        refine joined_cons i (joined_red g N a b hla (inN_tail ha) (inN_tail hb) ra' rb' ?_)
        have := congrArg (rfC A i) e
        have e1 : mapN A (i :: a) onesV = rfC A i (mapN A a onesV) := rfl
        have e2 : mapN A (i :: b) onesV = rfC A i (mapN A b onesV) := rfl
        rw [e1, e2, hii, hii] at this
        exact this
      · have down : ∀ (j : Nat) (w : List Nat), InN n (j :: w) → Red n A (j :: w) → mapN A (j :: w) onesV j < 0 := fun j w hw hr => by
          have hj := hw j (List.mem_cons_self ..)
          have h1 := len_front g hj (red_tail g hw hr) hr
          have h2 : 0 < mapN A w onesV j := by
            rcases Int.lt_or_gt_of_ne h1.1 with h | h
            · have := h1.2.2 h; simp at this; omega
            · exact h
          have h3 : mapN A (j :: w) onesV j = -(mapN A w onesV j) := rfC_at (g.diag j hj) _
          omega
        obtain ⟨m, c, hr, hc, hcn, e1, e2⟩ := two_word g ra hi hk hik (down i a ha ra) (by rw [e]; exact down k b hb rb)
        have hm : 0 < m := by unfold relN at hr; omega
        obtain ⟨m', rfl⟩ : ∃ q, m = q + 1 := ⟨m - 1, by omega⟩
        have inA : ∀ (p q r : Nat), p < n → q < n → InN n (altN p q r ++ c) := fun p q r hp hq j hj => by
          rcases List.mem_append.1 hj with h | h
          · exact altN_in r p q hp hq j h
          · exact hcn j h
        have redOf : ∀ w : List Nat, InN n w → w.length = (i :: a).length → mapN A w onesV = mapN A (i :: a) onesV → Red n A w := fun w hw hwl hwe => by
          obtain ⟨Lw, h1, _⟩ := len_has g hw
          have h2 : Lw = (i :: a).length := (gdn_one g (brd_map g) (by rw [← hwe]; exact h1) ra).1
          unfold Red; rw [hwl, ← h2]; exact h1
        have r1 := redOf (altN i k (m' + 1) ++ c) (inA i k _ hi hk) (by rw [List.length_append, altN_len]; omega) e1
        have r2 := redOf (altN k i (m' + 1) ++ c) (inA k i _ hk hi) (by rw [List.length_append, altN_len]; omega) e2
        have j1 : Joined n A (i :: a) (altN i k (m' + 1) ++ c) := by
          refine joined_cons i (joined_red g N a (altN k i m' ++ c) hla (inN_tail ha) (inA k i m' hk hi) ra' (red_tail g (inA i k (m' + 1) hi hk) r1) ?_)
          have h1 := congrArg (rfC A i) e1
          have h2 : mapN A (altN i k (m' + 1) ++ c) onesV = rfC A i (mapN A (altN k i m' ++ c) onesV) := rfl
          have h3 : mapN A (i :: a) onesV = rfC A i (mapN A a onesV) := rfl
          rw [h2, h3, hii, hii] at h1
          exact h1.symm
        have j2 : Joined n A (altN k i (m' + 1) ++ c) (k :: b) := by
          refine joined_cons k (joined_red g N (altN i k m' ++ c) b (by rw [List.length_append, altN_len]; simp at hc; omega) (inA i k m' hi hk) (inN_tail hb) (red_tail g (inA k i (m' + 1) hk hi) r2) rb' ?_)
          have h1 := congrArg (rfC A k) (e2.trans e)
          have h2 : mapN A (altN k i (m' + 1) ++ c) onesV = rfC A k (mapN A (altN i k m' ++ c) onesV) := rfl
          have h3 : mapN A (k :: b) onesV = rfC A k (mapN A b onesV) := rfl
          rw [h2, h3, hkk, hkk] at h1
          exact h1
        exact joined_trans j1 (.move [] c i k (m' + 1) _ hi hk hik hr j2)
end Go.Proofs.Ytbmghddmilgngaa
