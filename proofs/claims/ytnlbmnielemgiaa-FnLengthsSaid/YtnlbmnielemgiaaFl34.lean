/-
  Two letters down at once: the vector lies under an alternating word of the pair's relation; so reduced words of one element are joined by braid moves (no walk here).
  Lengths: letters in front and behind, braid moves, the least word: what the law on lengths asks of the mathematics (no walk here).
  Roots: what the model's reflection, height and sign return.
  Roots: what the model's ReflectRoot and ActOnRoot return.
  Roots: what the model's order, search and insertion return.
-/
import Derived.Test.YtnlbmnielemgiaaFl33
import Derived.Test.YtnlbmnielemgiaaFl15
import Derived.Test.YtnlbmnielemgiaaFl20
import Derived.Test.YtnlbmnielemgiaaFl18
import Derived.Test.YtnlbmnielemgiaaFl09
import Derived.Test.YtnlbmnielemgiaaFl19
import Derived.Test.YtnlbmnielemgiaaFl06
namespace Go.Proofs.Ytnlbmnielemgiaa
open Go.RowKit

/-- The alternating word of m letters that begins with i. -/
def altN (i k : Nat) : Nat → List Nat
  | 0 => []
  | m + 1 => i :: altN k i m
theorem altN_len : ∀ (m i k : Nat), (altN i k m).length = m
  | 0, _, _ => rfl
  | m + 1, i, k => by simp [altN, altN_len m]
theorem altN_in {n : Nat} : ∀ (m i k : Nat), i < n → k < n → InN n (altN i k m)
  | 0, _, _, _, _ => fun _ h => absurd h (by simp [altN])
  | m + 1, i, k, hi, hk => fun j hj => by
    simp only [altN] at hj
    rcases List.mem_cons.1 hj with e | hm
    · rw [e]; exact hi
    · exact altN_in m k i hk hi j hm
/-- The relation's number of a pair. -/
def relN (p : Int) (m : Nat) : Prop := (p = 0 ∧ m = 2) ∨ (p = 1 ∧ m = 3) ∨ (p = 2 ∧ m = 4) ∨ (p = 3 ∧ m = 6)
set_option maxHeartbeats 8000000 in
theorem two_word {n : Nat} {A : Nat → Nat → Int} (g : Gcm n A) {v : Nat → Int} {L : Nat} {f : (Nat → Int) → Nat → Int} (hD : Dn n A v L f) {i k : Nat} (hi : i < n) (hk : k < n) (hik : i ≠ k) (hvi : v i < 0) (hvk : v k < 0) : ∃ (m : Nat) (c : List Nat), relN (A i k * A k i) m ∧ c.length + m = L ∧ InN n c ∧ mapN A (altN i k m ++ c) onesV = v ∧ mapN A (altN k i m ++ c) onesV = v := by
  have hii := g.diag i hi
  have hkk := g.diag k hk
  have o1 := g.off i k hi hk hik
  have o2 := g.off k i hk hi (fun h => hik h.symm)
  have z1 := g.zero i k hi hk
  have z2 := g.zero k i hk hi
  obtain ⟨d, hd⟩ : ∃ d, d = -(A i k) := ⟨_, rfl⟩
  obtain ⟨e, he⟩ : ∃ e, e = -(A k i) := ⟨_, rfl⟩
  have hAd : A i k = -d := by omega
  have hAe : A k i = -e := by omega
  rw [hAd] at o1 z1 z2
  rw [hAe] at o2 z1 z2
  rw [hAd, hAe, Int.neg_mul_neg]
  obtain ⟨x, hx⟩ : ∃ x, x = -(v i) := ⟨_, rfl⟩
  obtain ⟨y, hy⟩ : ∃ y, y = -(v k) := ⟨_, rfl⟩
  have hx0 : 0 < x := by omega
  have hy0 : 0 < y := by omega
  have TI : ∀ a b, twoC A i k v a b i = -(x + 2 * a - d * b) := fun a b => by rw [hx]; exact two_i hii hAd v a b
  have TK : ∀ a b, twoC A i k v a b k = -(y + 2 * b - e * a) := fun a b => by rw [hy]; exact two_k hkk hAe v a b
  have RI : ∀ a b a', a' = a - (x + 2 * a - d * b) → rfC A i (twoC A i k v a b) = twoC A i k v a' b := fun a b a' h => two_rf_i hii hAd v (by omega)
  have RK : ∀ a b b', b' = b - (y + 2 * b - e * a) → rfC A k (twoC A i k v a b) = twoC A i k v a b' := fun a b b' h => two_rf_k hkk hAe v (by omega)
  have DI : ∀ a b a' M F, Dn n A (twoC A i k v a b) M F → 0 < x + 2 * a - d * b → a' = a - (x + 2 * a - d * b) → ∃ M', M = M' + 1 ∧ ∃ F', Dn n A (twoC A i k v a' b) M' F' := fun a b a' M F hu h1 h2 => by
    obtain ⟨M', e1, h3⟩ := dn_down g hu hi (by rw [TI]; omega)
    rw [RI a b a' h2] at h3
    exact ⟨M', e1, _, h3⟩
  have DK : ∀ a b b' M F, Dn n A (twoC A i k v a b) M F → 0 < y + 2 * b - e * a → b' = b - (y + 2 * b - e * a) → ∃ M', M = M' + 1 ∧ ∃ F', Dn n A (twoC A i k v a b') M' F' := fun a b b' M F hu h1 h2 => by
    obtain ⟨M', e1, h3⟩ := dn_down g hu hk (by rw [TK]; omega)
    rw [RK a b b' h2] at h3
    exact ⟨M', e1, _, h3⟩
  have q1 : rfC A k v i = -(x + d * y) := by simp only [rfC, addC]; rw [hAd, hx, hy, Int.neg_mul_neg, Int.mul_neg, Int.mul_comm d]; omega
  have q2 : rfC A k v k = y := by rw [rfC_at hkk]; omega
  have h0 : Dn n A (twoC A i k v (0 * x + 0 * y) (0 * x + 0 * y)) L f := by rw [show (0 * x + 0 * y : Int) = 0 by omega, two_zero]; exact hD
  have hv0 : twoC A i k v (0 * x + 0 * y) (0 * x + 0 * y) = v := by rw [show (0 * x + 0 * y : Int) = 0 by omega, two_zero]
  have hcase : (d = 0 ∧ e = 0) ∨ (d = 1 ∧ e = 1) ∨ (d = 1 ∧ e = 2) ∨ (d = 2 ∧ e = 1) ∨ (d = 1 ∧ e = 3) ∨ (d = 3 ∧ e = 1) ∨ ((d = 2 ∧ e = 2) ∨ (d = 2 ∧ e = 3) ∨ (d = 3 ∧ e = 2) ∨ (d = 3 ∧ e = 3)) := by clear hx hy hvi hvk q1 q2; omega
  clear hd he
  rcases hcase with ⟨rfl, rfl⟩ | ⟨rfl, rfl⟩ | ⟨rfl, rfl⟩ | ⟨rfl, rfl⟩ | ⟨rfl, rfl⟩ | ⟨rfl, rfl⟩ | hw
  · obtain ⟨M1, m1, F1, h1⟩ := DK _ _ (0 * x + -1 * y) _ _ h0 (by omega) (by omega)
    obtain ⟨M2, m2, F2, h2⟩ := DI _ _ (-1 * x + 0 * y) _ _ h1 (by omega) (by omega)
    obtain ⟨c, c1, c2, _, c4⟩ := dn_path g h2
    refine ⟨2, c, ?_, by omega, c2, ?_, ?_⟩
    · unfold relN; omega
    · rw [mapN_append, ← c4]
      show rfC A i (rfC A k (twoC A i k v (-1 * x + 0 * y) (0 * x + -1 * y))) = v
      rw [RK _ _ (0 * x + 0 * y) (by omega)]
      rw [RI _ _ (0 * x + 0 * y) (by omega)]
      exact hv0
    · rw [mapN_append, ← c4]
      show rfC A k (rfC A i (twoC A i k v (-1 * x + 0 * y) (0 * x + -1 * y))) = v
      rw [RI _ _ (0 * x + 0 * y) (by omega)]
      rw [RK _ _ (0 * x + 0 * y) (by omega)]
      exact hv0
  · obtain ⟨M1, m1, F1, h1⟩ := DK _ _ (0 * x + -1 * y) _ _ h0 (by omega) (by omega)
    obtain ⟨M2, m2, F2, h2⟩ := DI _ _ (-1 * x + -1 * y) _ _ h1 (by omega) (by omega)
    obtain ⟨M3, m3, F3, h3⟩ := DK _ _ (-1 * x + -1 * y) _ _ h2 (by omega) (by omega)
    obtain ⟨c, c1, c2, _, c4⟩ := dn_path g h3
    refine ⟨3, c, ?_, by omega, c2, ?_, ?_⟩
    · unfold relN; omega
    · rw [mapN_append, ← c4]
      show rfC A i (rfC A k (rfC A i (twoC A i k v (-1 * x + -1 * y) (-1 * x + -1 * y)))) = v
      rw [RI _ _ (-1 * x + 0 * y) (by omega)]
      rw [RK _ _ (0 * x + 0 * y) (by omega)]
      rw [RI _ _ (0 * x + 0 * y) (by omega)]
      exact hv0
    · rw [mapN_append, ← c4]
      show rfC A k (rfC A i (rfC A k (twoC A i k v (-1 * x + -1 * y) (-1 * x + -1 * y)))) = v
      rw [RK _ _ (0 * x + -1 * y) (by omega)]
      rw [RI _ _ (0 * x + 0 * y) (by omega)]
      rw [RK _ _ (0 * x + 0 * y) (by omega)]
      exact hv0
  · obtain ⟨M1, m1, F1, h1⟩ := DK _ _ (0 * x + -1 * y) _ _ h0 (by omega) (by omega)
    obtain ⟨M2, m2, F2, h2⟩ := DI _ _ (-1 * x + -1 * y) _ _ h1 (by omega) (by omega)
    obtain ⟨M3, m3, F3, h3⟩ := DK _ _ (-2 * x + -2 * y) _ _ h2 (by omega) (by omega)
    obtain ⟨M4, m4, F4, h4⟩ := DI _ _ (-2 * x + -1 * y) _ _ h3 (by omega) (by omega)
    obtain ⟨c, c1, c2, _, c4⟩ := dn_path g h4
    refine ⟨4, c, ?_, by omega, c2, ?_, ?_⟩
    · unfold relN; omega
    · rw [mapN_append, ← c4]
      show rfC A i (rfC A k (rfC A i (rfC A k (twoC A i k v (-2 * x + -1 * y) (-2 * x + -2 * y))))) = v
      rw [RK _ _ (-2 * x + -1 * y) (by omega)]
      rw [RI _ _ (-1 * x + 0 * y) (by omega)]
      rw [RK _ _ (0 * x + 0 * y) (by omega)]
      rw [RI _ _ (0 * x + 0 * y) (by omega)]
      exact hv0
    · rw [mapN_append, ← c4]
      show rfC A k (rfC A i (rfC A k (rfC A i (twoC A i k v (-2 * x + -1 * y) (-2 * x + -2 * y))))) = v
      rw [RI _ _ (-1 * x + -1 * y) (by omega)]
      rw [RK _ _ (0 * x + -1 * y) (by omega)]
      rw [RI _ _ (0 * x + 0 * y) (by omega)]
      rw [RK _ _ (0 * x + 0 * y) (by omega)]
      exact hv0
  · obtain ⟨M1, m1, F1, h1⟩ := DK _ _ (0 * x + -1 * y) _ _ h0 (by omega) (by omega)
    obtain ⟨M2, m2, F2, h2⟩ := DI _ _ (-1 * x + -2 * y) _ _ h1 (by omega) (by omega)
    obtain ⟨M3, m3, F3, h3⟩ := DK _ _ (-1 * x + -2 * y) _ _ h2 (by omega) (by omega)
    obtain ⟨M4, m4, F4, h4⟩ := DI _ _ (-2 * x + -2 * y) _ _ h3 (by omega) (by omega)
    obtain ⟨c, c1, c2, _, c4⟩ := dn_path g h4
    refine ⟨4, c, ?_, by omega, c2, ?_, ?_⟩
    · unfold relN; omega
    · rw [mapN_append, ← c4]
      show rfC A i (rfC A k (rfC A i (rfC A k (twoC A i k v (-2 * x + -2 * y) (-1 * x + -2 * y))))) = v
      rw [RK _ _ (-1 * x + -1 * y) (by omega)]
      rw [RI _ _ (-1 * x + 0 * y) (by omega)]
      rw [RK _ _ (0 * x + 0 * y) (by omega)]
      rw [RI _ _ (0 * x + 0 * y) (by omega)]
      exact hv0
    · rw [mapN_append, ← c4]
      show rfC A k (rfC A i (rfC A k (rfC A i (twoC A i k v (-2 * x + -2 * y) (-1 * x + -2 * y))))) = v
      rw [RI _ _ (-1 * x + -2 * y) (by omega)]
      rw [RK _ _ (0 * x + -1 * y) (by omega)]
      rw [RI _ _ (0 * x + 0 * y) (by omega)]
      rw [RK _ _ (0 * x + 0 * y) (by omega)]
      exact hv0
  · obtain ⟨M1, m1, F1, h1⟩ := DK _ _ (0 * x + -1 * y) _ _ h0 (by omega) (by omega)
    obtain ⟨M2, m2, F2, h2⟩ := DI _ _ (-1 * x + -1 * y) _ _ h1 (by omega) (by omega)
    obtain ⟨M3, m3, F3, h3⟩ := DK _ _ (-3 * x + -3 * y) _ _ h2 (by omega) (by omega)
    obtain ⟨M4, m4, F4, h4⟩ := DI _ _ (-3 * x + -2 * y) _ _ h3 (by omega) (by omega)
    obtain ⟨M5, m5, F5, h5⟩ := DK _ _ (-6 * x + -4 * y) _ _ h4 (by omega) (by omega)
    obtain ⟨M6, m6, F6, h6⟩ := DI _ _ (-4 * x + -2 * y) _ _ h5 (by omega) (by omega)
    obtain ⟨c, c1, c2, _, c4⟩ := dn_path g h6
    refine ⟨6, c, ?_, by omega, c2, ?_, ?_⟩
    · unfold relN; omega
    · rw [mapN_append, ← c4]
      show rfC A i (rfC A k (rfC A i (rfC A k (rfC A i (rfC A k (twoC A i k v (-4 * x + -2 * y) (-6 * x + -4 * y))))))) = v
      rw [RK _ _ (-6 * x + -3 * y) (by omega)]
      rw [RI _ _ (-3 * x + -1 * y) (by omega)]
      rw [RK _ _ (-3 * x + -1 * y) (by omega)]
      rw [RI _ _ (-1 * x + 0 * y) (by omega)]
      rw [RK _ _ (0 * x + 0 * y) (by omega)]
      rw [RI _ _ (0 * x + 0 * y) (by omega)]
      exact hv0
    · rw [mapN_append, ← c4]
      show rfC A k (rfC A i (rfC A k (rfC A i (rfC A k (rfC A i (twoC A i k v (-4 * x + -2 * y) (-6 * x + -4 * y))))))) = v
      rw [RI _ _ (-3 * x + -2 * y) (by omega)]
      rw [RK _ _ (-3 * x + -3 * y) (by omega)]
      rw [RI _ _ (-1 * x + -1 * y) (by omega)]
      rw [RK _ _ (0 * x + -1 * y) (by omega)]
      rw [RI _ _ (0 * x + 0 * y) (by omega)]
      rw [RK _ _ (0 * x + 0 * y) (by omega)]
      exact hv0
  · obtain ⟨M1, m1, F1, h1⟩ := DK _ _ (0 * x + -1 * y) _ _ h0 (by omega) (by omega)
    obtain ⟨M2, m2, F2, h2⟩ := DI _ _ (-1 * x + -3 * y) _ _ h1 (by omega) (by omega)
    obtain ⟨M3, m3, F3, h3⟩ := DK _ _ (-1 * x + -3 * y) _ _ h2 (by omega) (by omega)
    obtain ⟨M4, m4, F4, h4⟩ := DI _ _ (-3 * x + -6 * y) _ _ h3 (by omega) (by omega)
    obtain ⟨M5, m5, F5, h5⟩ := DK _ _ (-2 * x + -4 * y) _ _ h4 (by omega) (by omega)
    obtain ⟨M6, m6, F6, h6⟩ := DI _ _ (-4 * x + -6 * y) _ _ h5 (by omega) (by omega)
    obtain ⟨c, c1, c2, _, c4⟩ := dn_path g h6
    refine ⟨6, c, ?_, by omega, c2, ?_, ?_⟩
    · unfold relN; omega
    · rw [mapN_append, ← c4]
      show rfC A i (rfC A k (rfC A i (rfC A k (rfC A i (rfC A k (twoC A i k v (-4 * x + -6 * y) (-2 * x + -4 * y))))))) = v
      rw [RK _ _ (-2 * x + -3 * y) (by omega)]
      rw [RI _ _ (-3 * x + -3 * y) (by omega)]
      rw [RK _ _ (-1 * x + -1 * y) (by omega)]
      rw [RI _ _ (-1 * x + 0 * y) (by omega)]
      rw [RK _ _ (0 * x + 0 * y) (by omega)]
      rw [RI _ _ (0 * x + 0 * y) (by omega)]
      exact hv0
    · rw [mapN_append, ← c4]
      show rfC A k (rfC A i (rfC A k (rfC A i (rfC A k (rfC A i (twoC A i k v (-4 * x + -6 * y) (-2 * x + -4 * y))))))) = v
      rw [RI _ _ (-3 * x + -6 * y) (by omega)]
      rw [RK _ _ (-1 * x + -3 * y) (by omega)]
      rw [RI _ _ (-1 * x + -3 * y) (by omega)]
      rw [RK _ _ (0 * x + -1 * y) (by omega)]
      rw [RI _ _ (0 * x + 0 * y) (by omega)]
      rw [RK _ _ (0 * x + 0 * y) (by omega)]
      exact hv0
  · exfalso
    obtain ⟨M1, m1, hU0⟩ := dn_down g hD hk hvk
    refine gdn_wild (diam g (brd_map g) id (M1 + 1)) M1 i k d e _ _ hi hk hii hkk hAd hAe hw hU0 (Nat.lt_succ_self _) ?_ (by rw [q2]; exact hy0) ?_
    · rw [q1]; rcases hw with ⟨rfl, rfl⟩ | ⟨rfl, rfl⟩ | ⟨rfl, rfl⟩ | ⟨rfl, rfl⟩ <;> omega
    · rw [q1, q2]; rcases hw with ⟨rfl, rfl⟩ | ⟨rfl, rfl⟩ | ⟨rfl, rfl⟩ | ⟨rfl, rfl⟩ <;> omega
/-- Braid moves. -/
inductive Joined (n : Nat) (A : Nat → Nat → Int) : List Nat → List Nat → Prop
  | refl (a : List Nat) : Joined n A a a
  | move (a b : List Nat) (i k m : Nat) (c : List Nat) : i < n → k < n → i ≠ k → relN (A i k * A k i) m → Joined n A (a ++ altN k i m ++ b) c → Joined n A (a ++ altN i k m ++ b) c
theorem joined_trans {n : Nat} {A : Nat → Nat → Int} {a b c : List Nat} (h : Joined n A a b) (h' : Joined n A b c) : Joined n A a c := by
  induction h with
  | refl _ => exact h'
  | move a b i k m _ hi hk hn hr _ ih => exact .move a b i k m c hi hk hn hr (ih h')
theorem joined_cons {n : Nat} {A : Nat → Nat → Int} {a b : List Nat} (j : Nat) (h : Joined n A a b) : Joined n A (j :: a) (j :: b) := by
  induction h with
  | refl a => exact .refl _
  | move a b i k m c hi hk hn hr _ ih => exact .move (j :: a) b i k m (j :: c) hi hk hn hr ih
/-- Reduced words of one element are joined by braid moves. -/
theorem joined_red {n : Nat} {A : Nat → Nat → Int} (g : Gcm n A) : ∀ (N : Nat) (a b : List Nat), a.length = N → InN n a → InN n b → Red n A a → Red n A b → mapN A a onesV = mapN A b onesV → Joined n A a b
  | 0, a, b, hl, ha, hb, ra, rb, e => by
    obtain rfl : a = [] := List.length_eq_zero_iff.1 hl
    have h0 := (gdn_one g (brd_map g) (by rw [← e]; exact ra) rb).1
    obtain rfl : b = [] := List.length_eq_zero_iff.1 h0.symm
    exact .refl _
  | N + 1, [], _, hl, _, _, _, _, _ => absurd hl (by simp)
  | N + 1, i :: a, b, hl, ha, hb, ra, rb, e => by
    have hlen : (i :: a).length = b.length := (gdn_one g (brd_map g) (by rw [← e]; exact ra) rb).1
    cases b with
    | nil => simp at hlen
    | cons k b =>
      have hi := ha i (List.mem_cons_self ..)
      have hk := hb k (List.mem_cons_self ..)
      have hla : a.length = N := by simpa using hl
      have hlb : b.length = N := by simp at hlen; omega
      have ra' := red_tail g ha ra
      have rb' := red_tail g hb rb
      have hii := rfC_twice (A := A) (i := i) (g.diag i hi)
      have hkk := rfC_twice (A := A) (i := k) (g.diag k hk)
      by_cases hik : i = k
      · subst hik
        refine joined_cons i (joined_red g N a b hla (inN_tail ha) (inN_tail hb) ra' rb' ?_)
        have := congrArg (rfC A i) e
        have e1 : mapN A (i :: a) onesV = rfC A i (mapN A a onesV) := rfl
        have e2 : mapN A (i :: b) onesV = rfC A i (mapN A b onesV) := rfl
        rw [e1, e2, hii, hii] at this
        exact this
      · have down : ∀ (j : Nat) (w : List Nat), InN n (j :: w) → Red n A (j :: w) → mapN A (j :: w) onesV j < 0 := fun j w hw hr => by
          have hj := hw j (List.mem_cons_self ..)
          have h1 := len_front g hj (red_tail g hw hr) hr
          have h2 : 0 < mapN A w onesV j := by
            rcases Int.lt_or_gt_of_ne h1.1 with h | h
            · have := h1.2.2 h; simp at this; omega
            · exact h
          have h3 : mapN A (j :: w) onesV j = -(mapN A w onesV j) := rfC_at (g.diag j hj) _
          omega
        obtain ⟨m, c, hr, hc, hcn, e1, e2⟩ := two_word g ra hi hk hik (down i a ha ra) (by rw [e]; exact down k b hb rb)
        have hm : 0 < m := by unfold relN at hr; omega
        obtain ⟨m', rfl⟩ : ∃ q, m = q + 1 := ⟨m - 1, by omega⟩
        have inA : ∀ (p q r : Nat), p < n → q < n → InN n (altN p q r ++ c) := fun p q r hp hq j hj => by
          rcases List.mem_append.1 hj with h | h
          · exact altN_in r p q hp hq j h
          · exact hcn j h
        have redOf : ∀ w : List Nat, InN n w → w.length = (i :: a).length → mapN A w onesV = mapN A (i :: a) onesV → Red n A w := fun w hw hwl hwe => by
          obtain ⟨Lw, h1, _⟩ := len_has g hw
          have h2 : Lw = (i :: a).length := (gdn_one g (brd_map g) (by rw [← hwe]; exact h1) ra).1
          unfold Red; rw [hwl, ← h2]; exact h1
        have r1 := redOf (altN i k (m' + 1) ++ c) (inA i k _ hi hk) (by rw [List.length_append, altN_len]; omega) e1
        have r2 := redOf (altN k i (m' + 1) ++ c) (inA k i _ hk hi) (by rw [List.length_append, altN_len]; omega) e2
        have j1 : Joined n A (i :: a) (altN i k (m' + 1) ++ c) := by
          refine joined_cons i (joined_red g N a (altN k i m' ++ c) hla (inN_tail ha) (inA k i m' hk hi) ra' (red_tail g (inA i k (m' + 1) hi hk) r1) ?_)
          have h1 := congrArg (rfC A i) e1
          have h2 : mapN A (altN i k (m' + 1) ++ c) onesV = rfC A i (mapN A (altN k i m' ++ c) onesV) := rfl
          have h3 : mapN A (i :: a) onesV = rfC A i (mapN A a onesV) := rfl
          rw [h2, h3, hii, hii] at h1
          exact h1.symm
        have j2 : Joined n A (altN k i (m' + 1) ++ c) (k :: b) := by
          refine joined_cons k (joined_red g N (altN i k m' ++ c) b (by rw [List.length_append, altN_len]; simp at hc; omega) (inA i k m' hi hk) (inN_tail hb) (red_tail g (inA k i (m' + 1) hk hi) r2) rb' ?_)
          have h1 := congrArg (rfC A k) (e2.trans e)
          have h2 : mapN A (altN k i (m' + 1) ++ c) onesV = rfC A k (mapN A (altN i k m' ++ c) onesV) := rfl
          have h3 : mapN A (k :: b) onesV = rfC A k (mapN A b onesV) := rfl
          rw [h2, h3, hkk, hkk] at h1
          exact h1
        exact joined_trans j1 (.move [] c i k (m' + 1) _ hi hk hik hr j2)
end Go.Proofs.Ytnlbmnielemgiaa
namespace Go.Proofs.Ytnlbmnielemgiaa
open Go.RowKit

/-- The length of a word's element, with its map. -/
theorem nrm_len {m : List (List Int)} {ws : List Int} (hW : IsW m ws) : Len m.length (entry m) (natsW ws) (nrmL m ws).length := by
  obtain ⟨L, h1, h2, _⟩ := img_dn hW.2.1 hW.1 (by have := hW.2.2; omega)
  have hf := frm_of hW.2.1 (imgW_len m ws) (by have := hW.2.2; omega) h1
  have hv := (imgN_vec hW.2.1 (natsW ws) (natsW_in hW.1) (by rw [natsW_len]; have := hW.2.2; omega)).1
  rw [← imgW_nats] at hv
  rw [nrmL_yes hW, hf.1]
  unfold Len
  have e : mapN (entry m) (natsW ws) onesV = vecW (imgW m ws) := hv.symm
  rw [e]; exact h1
theorem img_at {m : List (List Int)} {ws : List Int} (hW : IsW m ws) {i : Nat} (hi : i < m.length) : (imgW m ws).getD i 0 = mapN (entry m) (natsW ws) onesV i := by
  have hv := (imgN_vec hW.2.1 (natsW ws) (natsW_in hW.1) (by rw [natsW_len]; have := hW.2.2; omega)).1
  rw [← imgW_nats] at hv
  rw [← vecW_in (by rw [imgW_len]; exact hi), hv]; rfl
theorem dnsK_mem {l : List Int} {k i : Nat} : (i : Int) ∈ dnsK l k ↔ i < k ∧ l.getD i 0 < 0 := by
  unfold dnsK
  rw [List.mem_map]
  constructor
  · rintro ⟨j, hj, e⟩
    rw [List.mem_filter, List.mem_range] at hj
    have : j = i := by omega
    subst this
    exact ⟨hj.1, of_decide_eq_true hj.2⟩
  · rintro ⟨h1, h2⟩
    exact ⟨i, by rw [List.mem_filter, List.mem_range]; exact ⟨h1, decide_eq_true h2⟩, rfl⟩
theorem isW_cons {m : List (List Int)} {ws : List Int} (hW : IsW m ws) (h15 : ws.length < 15) {i : Nat} (hi : i < m.length) : IsW m ((i : Int) :: ws) := by
  refine ⟨fun j hj => ?_, hW.2.1, by simp; omega⟩
  cases j with
  | zero => simp; omega
  | succ j => have := hW.1 j (by simpa using hj); simpa using this
theorem letTo_snoc {n : Nat} {a : List Int} (ha : LetTo n a a.length) {i : Nat} (hi : i < n) : LetTo n (a ++ [(i : Int)]) (a ++ [(i : Int)]).length := by
  intro j hj
  rw [List.length_append, List.length_singleton] at hj
  rcases Nat.lt_or_ge j a.length with h | h
  · have := ha j h
    have e : (a ++ [(i : Int)]).getD j 0 = a.getD j 0 := by rw [List.getD_eq_getElem?_getD, List.getD_eq_getElem?_getD, List.getElem?_append_left h]
    rw [e]; exact this
  · obtain rfl : j = a.length := by omega
    simp; omega
theorem isW_snoc {m : List (List Int)} {ws : List Int} (hW : IsW m ws) (h15 : ws.length < 15) {i : Nat} (hi : i < m.length) : IsW m (ws ++ [(i : Int)]) :=
  ⟨letTo_snoc hW.1 hi, hW.2.1, by rw [List.length_append]; simp; omega⟩
theorem isW_rev {m : List (List Int)} {ws : List Int} (hW : IsW m ws) : IsW m ws.reverse := by
  refine ⟨fun j hj => ?_, hW.2.1, by rw [List.length_reverse]; exact hW.2.2⟩
  rw [List.length_reverse] at hj
  have h := hW.1 (ws.length - 1 - j) (by omega)
  have e : ws.reverse.getD j 0 = ws.getD (ws.length - 1 - j) 0 := by
    rw [List.getD_eq_getElem?_getD, List.getD_eq_getElem?_getD, List.getElem?_reverse hj]
  rw [e]; exact h
/-- One letter in front. -/
theorem front_law {m : List (List Int)} {ws : List Int} (hW : IsW m ws) (h15 : ws.length < 15) {i : Nat} (hi : i < m.length) :
    ((nrmL m ((i : Int) :: ws)).length = (nrmL m ws).length + 1 ∨ (nrmL m ws).length = (nrmL m ((i : Int) :: ws)).length + 1) ∧ ((nrmL m ((i : Int) :: ws)).length < (nrmL m ws).length ↔ (i : Int) ∈ ldsL m ws) := by
  have g := gcm_of hW.2.1
  have h1 := nrm_len hW
  have h2 := nrm_len (isW_cons hW h15 hi)
  have e : natsW ((i : Int) :: ws) = i :: natsW ws := by simp [natsW]
  rw [e] at h2
  have hf := len_front g hi h1 h2
  rw [ldsL_yes hW, dnsK_mem, img_at hW hi]
  generalize (nrmL m ((i : Int) :: ws)).length = K at *
  generalize (nrmL m ws).length = N at *
  rcases Int.lt_or_gt_of_ne hf.1 with h | h
  · have := hf.2.2 h
    exact ⟨Or.inr this, ⟨fun _ => ⟨hi, h⟩, fun _ => by omega⟩⟩
  · have := hf.2.1 h
    exact ⟨Or.inl this, ⟨fun hh => by omega, fun hh => by omega⟩⟩
theorem natsW_rev (ws : List Int) : natsW ws.reverse = (natsW ws).reverse := by simp [natsW]
/-- One letter behind. -/
theorem back_law {m : List (List Int)} {ws : List Int} (hW : IsW m ws) (h15 : ws.length < 15) {i : Nat} (hi : i < m.length) :
    ((nrmL m (ws ++ [(i : Int)])).length < (nrmL m ws).length ↔ (i : Int) ∈ ldsL m ws.reverse) := by
  have g := gcm_of hW.2.1
  have h1 := nrm_len hW
  have h2 := nrm_len (isW_snoc hW h15 hi)
  have e : natsW (ws ++ [(i : Int)]) = natsW ws ++ [i] := by simp [natsW]
  rw [e] at h2
  have hf := len_back g (natsW_in hW.1) hi h1 h2
  rw [ldsL_yes (isW_rev hW), dnsK_mem, img_at (isW_rev hW) hi, natsW_rev]
  generalize (nrmL m (ws ++ [(i : Int)])).length = K at *
  generalize (nrmL m ws).length = N at *
  rcases Int.lt_or_gt_of_ne hf.1 with h | h
  · have := hf.2.2 h
    exact ⟨fun _ => ⟨hi, h⟩, fun _ => by omega⟩
  · have := hf.2.1 h
    exact ⟨fun hh => by omega, fun hh => by omega⟩
theorem nrm_nrm {m : List (List Int)} {ws : List Int} (hW : IsW m ws) : nrmL m (nrmL m ws) = nrmL m ws := by
  rw [nrmL_yes (nrm_word hW), nrm_img hW, ← nrmL_yes hW]
/-! ### Braid moves keep the map -/
theorem braid_map {n : Nat} {A : Nat → Nat → Int} (g : Gcm n A) {i k : Nat} (hi : i < n) (hk : k < n) (hik : i ≠ k) {p : Nat} (h : relN (A i k * A k i) p) (z : Nat → Int) : mapN A (altN i k p) z = mapN A (altN k i p) z := by
  have b := brd_map g
  have ti : ∀ z, rfC A i (rfC A i z) = z := rfC_twice (g.diag i hi)
  have tk : ∀ z, rfC A k (rfC A k z) = z := rfC_twice (g.diag k hk)
  have h1 := g.off i k hi hk hik
  have h2 := g.off k i hk hi (fun e => hik e.symm)
  have hz := g.zero i k hi hk
  have hz2 := g.zero k i hk hi
  generalize hd : A i k = d at *
  generalize he : A k i = e at *
  have c1 : d = -3 ∨ d = -2 ∨ d = -1 ∨ d = 0 := by omega
  have c2 : e = -3 ∨ e = -2 ∨ e = -1 ∨ e = 0 := by omega
  rcases h with ⟨hp, rfl⟩ | ⟨hp, rfl⟩ | ⟨hp, rfl⟩ | ⟨hp, rfl⟩
  · have e0 : d = 0 ∧ e = 0 := by
      rcases c1 with rfl | rfl | rfl | rfl <;> rcases c2 with rfl | rfl | rfl | rfl <;> first | exact ⟨rfl, rfl⟩ | exact absurd (hz rfl) (by decide) | exact absurd (hz2 rfl) (by decide) | exact absurd hp (by decide)
    obtain ⟨rfl, rfl⟩ := e0
    have hb := congrFun (b.b00 i k hi hk hd he id) z
    show rfC A i (rfC A k z) = rfC A k (rfC A i z)
    have hb' : rfC A k (rfC A i (rfC A k z)) = rfC A i z := hb
    rw [← hb', tk]
  · have e0 : d = -1 ∧ e = -1 := by
      rcases c1 with rfl | rfl | rfl | rfl <;> rcases c2 with rfl | rfl | rfl | rfl <;> simp at hp ⊢
    obtain ⟨rfl, rfl⟩ := e0
    have hb' : rfC A k (rfC A i (rfC A k (rfC A i (rfC A k z)))) = rfC A i z := congrFun (b.b11 i k hi hk hd he id) z
    show rfC A i (rfC A k (rfC A i z)) = rfC A k (rfC A i (rfC A k z))
    rw [← hb', tk, ti]
  · have e0 : (d = -1 ∧ e = -2) ∨ (d = -2 ∧ e = -1) := by
      rcases c1 with rfl | rfl | rfl | rfl <;> rcases c2 with rfl | rfl | rfl | rfl <;> simp at hp ⊢
    have hb' : rfC A k (rfC A i (rfC A k (rfC A i (rfC A k (rfC A i (rfC A k z)))))) = rfC A i z := by
      rcases e0 with ⟨rfl, rfl⟩ | ⟨rfl, rfl⟩
      · exact congrFun (b.b12 i k hi hk hd he id) z
      · exact congrFun (b.b21 i k hi hk hd he id) z
    show rfC A i (rfC A k (rfC A i (rfC A k z))) = rfC A k (rfC A i (rfC A k (rfC A i z)))
    rw [← hb', tk, ti, tk]
  · have e0 : (d = -1 ∧ e = -3) ∨ (d = -3 ∧ e = -1) := by
      rcases c1 with rfl | rfl | rfl | rfl <;> rcases c2 with rfl | rfl | rfl | rfl <;> simp at hp ⊢
    have hb' : rfC A k (rfC A i (rfC A k (rfC A i (rfC A k (rfC A i (rfC A k (rfC A i (rfC A k (rfC A i (rfC A k z)))))))))) = rfC A i z := by
      rcases e0 with ⟨rfl, rfl⟩ | ⟨rfl, rfl⟩
      · exact congrFun (b.b13 i k hi hk hd he id) z
      · exact congrFun (b.b31 i k hi hk hd he id) z
    show rfC A i (rfC A k (rfC A i (rfC A k (rfC A i (rfC A k z))))) = rfC A k (rfC A i (rfC A k (rfC A i (rfC A k (rfC A i z)))))
    rw [← hb', tk, ti, tk, ti, tk]
end Go.Proofs.Ytnlbmnielemgiaa
namespace Go.Proofs.Ytnlbmnielemgiaa
open Go.RowKit

end Go.Proofs.Ytnlbmnielemgiaa
namespace Go.Proofs.Ytnlbmnielemgiaa
open Go.RowKit

end Go.Proofs.Ytnlbmnielemgiaa
namespace Go.Proofs.Ytnlbmnielemgiaa
open Go.RowKit

/-! ### A root in a list -/
def InTo (L : List (List Int)) (r : List Int) (k : Nat) : Prop := ∀ j, j < k → L.getD j [] ≠ r
theorem inTo_zero (L : List (List Int)) (r : List Int) : InTo L r 0 := fun _ h => absurd h (Nat.not_lt_zero _)
theorem inTo_step {L : List (List Int)} {r : List Int} {k : Nat} (h : InTo L r k) (hk : L.getD k [] ≠ r) : InTo L r (k + 1) := fun j hj => by
  rcases Nat.lt_or_ge j k with h' | h'
  · exact h j h'
  · obtain rfl : j = k := by omega
    exact hk
def inRB (L : List (List Int)) (r : List Int) : Bool := decide (r ∈ L)
theorem inRB_no {L : List (List Int)} {r : List Int} (h : InTo L r L.length) : inRB L r = false := decide_eq_false fun hm => by
  obtain ⟨j, hj, e⟩ := List.getElem_of_mem hm
  exact h j hj (by simp [List.getD, hj, e])
theorem inRB_yes {L : List (List Int)} {r : List Int} {k : Nat} (hk : k < L.length) (h : L.getD k [] = r) : inRB L r = true := decide_eq_true (by
  have e : L.getD k [] = L[k] := by simp [List.getD, hk]
  rw [← h, e]; exact List.getElem_mem hk)
theorem MatB.rowD {B : Nat} {w : World} {a : Option Addr} {n cap : Nat} {m : List (List Int)} (h : MatB B w (.slice a n cap) m) {j : Nat} (hj : j < n) :
    ∃ b off ra rcap, j < m.length ∧ a = some ⟨b, off, none⟩ ∧ b < B ∧ w.cell? ⟨b, off + j, none⟩ = some (.slice ra (m.getD j []).length rcap) ∧ RowB B w (.slice ra (m.getD j []).length rcap) (m.getD j []) := by
  obtain ⟨b, off, hjl, rfl, hb, ra, rcap, hc, hr⟩ := h.get hj
  have e := getD_row m j hjl
  exact ⟨b, off, ra, rcap, hjl, rfl, hb, by rw [e]; exact hc, by rw [e]; exact hr⟩
set_option maxHeartbeats 4000000 in
set_option maxRecDepth 100000 in
theorem ins_any (B B' : Nat) (v v' : Value) (L : List (List Int)) (r : List Int) (w : World) (h : MatB B w v L) (h' : RowB B' w v' r) (hf : RowsFit L) (hr : r.length ≤ maxLen) :
    Calls Try.prog 73 #[v, v'] w fun e w' => e = .returned (.bool (inRB L r)) ∧ ∃ q, w' = w.drewN q := by
  have hlm := hf.1
  obtain ⟨a, cap, rfl⟩ := h.slice
  have HR := Lib.hid h; have HL := Lib.hid h'; have HF := Lib.hid hf
  have HRL := Lib.hid hr
  clear h h' hf hr
  unfold maxLen at hlm
  have HNO := Lib.hid (fun h => inRB_no (L := L) (r := r) h)
  have HYES := Lib.hid (fun k hk h => inRB_yes (L := L) (r := r) (k := k) hk h)
  generalize inRB L r = R at *
  generalize hn : L.length = n at *
  have HN := Lib.hid hn
  clear hn
  go_enter Try.func73, Try.ntmps73
  go_wp2_with fail
  go_loopw [5] (fun i wr => ∃ (k q : Nat), k ≤ n ∧ i = .int .i64 k ∧ wr = w.drewN q ∧ Hid (InTo L r k)) (fun i _ => n - (intOf i).toNat)
  case atStart => exact ⟨0, 0, Nat.zero_le _, rfl, rfl, Lib.hid (inTo_zero _ _)⟩
  case round =>
    obtain ⟨k, q, hk, rfl, rfl, hs⟩ := hrel
    by_cases hlt : k < n
    · have hd1 : decide (k < n) = true := decide_eq_true hlt
      obtain ⟨b, off, ra, rcap, hkl, rfl, hb, hc, hrow⟩ := HR.out.rowD hlt
      have hfk : (L.getD k []).length ≤ maxLen := by rw [getD_row L k hkl]; exact HF.out.2 k hkl
      have HE := Lib.hid (eqws_any (max B B') _ v' (L.getD k []) r (w.drewN q) (hrow.drewN q |>.mono (Nat.le_max_left _ _)) (HL.out.drewN q |>.mono (Nat.le_max_right _ _)) hfk HRL.out)
      have HY := Lib.hid (HYES.out k hlt)
      have HST := Lib.hid (fun h => inTo_step (L := L) (r := r) (k := k) hs.out h)
      have HEB := Lib.hid (show eqwB (L.getD k []) r = decide (L.getD k [] = r) from by
        unfold eqwB; rw [decide_eq_decide]; exact cmpW_zero)
      clear hs hrow hfk hb
      generalize L.getD k [] = x at *
      generalize eqwB x r = eb at *
      by_cases he : x = r
      · have hV := HY.out he
        rw [HEB.out, decide_eq_true he] at HE
        have HV := Lib.hid hV
        clear hV HY HST HEB he
        generalize x.length = xn at *
        go_wp2_with fail
        refine HE.out.mono ?_
        rintro e w1 ⟨rfl, nq, rfl⟩
        go_wp2_with fail
        go_ret
        exact ⟨ret_boolean HV.out.symm, _, by first | rfl | exact World.drewN_drewN _ _ _⟩
      · have HS := Lib.hid (HST.out he)
        rw [HEB.out, decide_eq_false he] at HE
        clear HY HST HEB he
        generalize x.length = xn at *
        go_wp2_with fail
        refine HE.out.mono ?_
        rintro e w1 ⟨rfl, nq, rfl⟩
        go_wp2_with fail
        exact ⟨⟨k + 1, q + nq, by omega, by go_num, by first | rfl | exact World.drewN_drewN _ _ _, HS⟩, by simp [intOf]; omega⟩
    · obtain rfl : k = n := by omega
      have hd : decide (k < k) = false := by simp
      have HV := Lib.hid (HNO.out hs.out)
      clear hs
      go_wp2_with fail
      go_ret
      exact ⟨ret_boolean HV.out.symm, q, rfl⟩
end Go.Proofs.Ytnlbmnielemgiaa
