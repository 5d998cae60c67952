/-
  Roots over unbounded integers: every image of a simple root is positive or negative; and the roots up to a height, as lists (no walk here).
  Roots: the loops of the order, of the insertion and of the start, as functions on lists (no walk here).
-/
import Derived.Test.YtfjeghalkmkgoaaGreatDoorFW32
namespace Go.Proofs.YtfjeghalkmkgoaaGreatDoor
open Go.RowKit

theorem up_down {n : Nat} {A : Nat → Nat → Int} (g : Gcm n A) : ∀ N : Nat, DownTo n A N
  | 0 => fun r i hU _ hN _ _ => by have := up_ht hU; omega
  | N + 1 => fun r i hU hi hN hp hne => by
    cases hU with
    | one k hk =>
      rw [pr_oneV A i hk] at hp
      by_cases h : i = k
      · subst h; exact absurd rfl hne
      · have := (g.off i k hi hk h).2; omega
    | up q k hq hk hlt => exact up_down_at g (up_down g N) hi hk hq hlt (by omega) hp
/-- What is reached upwards stays so under a reflection, but for the simple root itself. -/
theorem up_refl {n : Nat} {A : Nat → Nat → Int} (g : Gcm n A) {r : Nat → Int} {i : Nat} (hU : Up n A r) (hi : i < n) (hne : r ≠ oneV i) : Up n A (rfV n A i r) := by
  unfold rfV
  rcases Int.lt_trichotomy (prV n A i r) 0 with h | h | h
  · exact .up r i hU hi h
  · rw [h]; simp only [Int.neg_zero]; rw [addV_zero]; exact hU
  · exact up_down g (htV n r).toNat r i hU hi (by have := up_ht hU; omega) h hne
def negV (r : Nat → Int) : Nat → Int := fun t => -r t
theorem pr_negV (n : Nat) (A : Nat → Nat → Int) (i : Nat) (r : Nat → Int) : prV n A i (negV r) = -prV n A i r := by
  unfold prV negV
  rw [← sumN_neg]
  exact sumN_congr fun t _ => by rw [Int.mul_neg]
theorem rf_negV (n : Nat) (A : Nat → Nat → Int) (i : Nat) (r : Nat → Int) : rfV n A i (negV r) = negV (rfV n A i r) := by
  unfold rfV
  rw [pr_negV]
  funext t
  simp only [addV, negV]
  by_cases h : t = i
  · rw [if_pos h, if_pos h]; omega
  · rw [if_neg h, if_neg h]; omega
theorem rf_oneV {n : Nat} {A : Nat → Nat → Int} (g : Gcm n A) {i : Nat} (hi : i < n) : rfV n A i (oneV i) = negV (oneV i) := by
  unfold rfV
  rw [pr_oneV A i hi, g.diag i hi]
  funext t
  simp only [addV, negV, oneV]
  by_cases h : t = i
  · rw [if_pos h, if_pos h]; omega
  · rw [if_neg h, if_neg h]; omega
theorem negV_negV (r : Nat → Int) : negV (negV r) = r := by funext t; unfold negV; omega
/-- Signs: an image of a simple root is positive or negative. -/
theorem word_sign {n : Nat} {A : Nat → Nat → Int} (g : Gcm n A) {j : Nat} (hj : j < n) : ∀ ws : List Nat, (∀ i ∈ ws, i < n) → Up n A (ws.foldr (rfV n A) (oneV j)) ∨ Up n A (negV (ws.foldr (rfV n A) (oneV j)))
  | [], _ => Or.inl (.one j hj)
  | i :: ws, h => by
    have hi := h i (List.mem_cons_self ..)
    have ih := word_sign g hj ws (fun k hk => h k (List.mem_cons_of_mem _ hk))
    rw [List.foldr_cons]
    generalize ws.foldr (rfV n A) (oneV j) = r at *
    rcases ih with ih | ih
    · by_cases hne : r = oneV i
      · rw [hne, rf_oneV g hi, negV_negV]; exact Or.inr (.one i hi)
      · exact Or.inl (up_refl g ih hi hne)
    · by_cases hne : negV r = oneV i
      · have e : r = negV (oneV i) := by rw [← hne, negV_negV]
        rw [e, rf_negV, rf_oneV g hi, negV_negV]; exact Or.inl (.one i hi)
      · have := up_refl g ih hi hne
        rw [rf_negV] at this
        exact Or.inr this
/-! ### Lists -/
def vecL (l : List Int) : Nat → Int := fun t => l.getD t 0
theorem vecL_inj {a b : List Int} (h : a.length = b.length) (e : vecL a = vecL b) : a = b := by
  refine List.ext_getElem h fun i h1 h2 => ?_
  have := congrFun e i
  simpa [vecL, List.getD, h1, h2] using this
theorem vecL_unit {n i : Nat} (hi : i < n) : vecL (unitR n i) = oneV i := by
  funext t
  unfold vecL oneV unitR
  by_cases h : t = i
  · subst h; rw [if_pos rfl]; simp [List.getD, hi]
  · rw [if_neg h]
    simp only [List.getD, List.getElem?_set, if_neg (fun e => h e.symm : ¬ i = t)]
    rcases Nat.lt_or_ge t n with h1 | h1
    · simp [h1]
    · simp [h1]
theorem vecL_set {l : List Int} {i : Nat} (hi : i < l.length) (x : Int) : vecL (l.set i x) = addV (vecL l) i (x - l.getD i 0) := by
  funext t
  unfold vecL addV
  by_cases h : t = i
  · subst h; rw [if_pos rfl]; simp [List.getD, hi]; omega
  · rw [if_neg h]
    simp only [List.getD, List.getElem?_set, if_neg (fun e => h e.symm : ¬ i = t)]; omega
theorem gcm_of {m : List (List Int)} (h : IsC m) : Gcm m.length (entry m) where
  diag i hi := by
    have := h.2.1 i i hi hi
    simp [okC] at this; omega
  off i j hi hj hn := isc_in h hi hj hn
  zero i j hi hj h0 := by
    by_cases hn : i = j
    · subst hn; exact h0
    · have := h.2.1 i j hi hj
      simp [okC, hn] at this; omega
theorem sum_take : ∀ (l : List Int) (k : Nat), k ≤ l.length → sumN (vecL l) k = (l.take k).sum
  | l, 0, _ => by simp [sumN]
  | l, k + 1, h => by
    have e : l.getD k 0 = l[k] := by simp [List.getD, show k < l.length by omega]
    rw [sumN, sum_take l k (by omega), List.take_succ_eq_append_getElem (show k < l.length by omega), List.sum_append]
    unfold vecL; rw [e]; simp
theorem sumN_list (l : List Int) : sumN (vecL l) l.length = l.sum := by
  rw [sum_take l l.length (Nat.le_refl _), List.take_length]
theorem prK_vec {m : List (List Int)} {i : Nat} {l : List Int} (h : IsC m) (hi : i < m.length) (hl : Low m.length l) : ∀ k, k ≤ m.length → prK m i l k = sumN (fun t => entry m i t * vecL l t) k
  | 0, _ => rfl
  | k + 1, hk => by
    have h0 := prK_in h hi hl (k + 1) hk
    have h1 := prK_in h hi hl k (by omega)
    have h2 := ent_in h hi (show k < m.length by omega)
    have h3 := low_getD hl k
    have h4 := h.2.2.2
    have h5 : -36 ≤ entry m i k * l.getD k 0 ∧ entry m i k * l.getD k 0 ≤ 24 := by
      have hc : entry m i k = -3 ∨ entry m i k = -2 ∨ entry m i k = -1 ∨ entry m i k = 0 ∨ entry m i k = 1 ∨ entry m i k = 2 := by omega
      rcases hc with e | e | e | e | e | e <;> rw [e] <;> omega
    have e1 : mulW (entry m i k) (l.getD k 0) = entry m i k * l.getD k 0 := wrap_small (by omega)
    have e2 : prK m i l (k + 1) = prK m i l k + entry m i k * l.getD k 0 := by
      simp only [prK]; rw [e1]; exact wrap_small (by omega)
    rw [e2, sumN, ← prK_vec h hi hl k (by omega)]; rfl
theorem rflR_vec {m : List (List Int)} {i : Nat} {l : List Int} (h : IsC m) (hi : i < m.length) (hl : Low m.length l) : vecL (rflR m i l) = rfV m.length (entry m) i (vecL l) := by
  have h4 := h.2.2.2
  have h1 := prK_in h hi hl m.length (Nat.le_refl _)
  have h2 := low_getD hl i
  have hp := prK_vec h hi hl m.length (Nat.le_refl _)
  unfold rflR rfV
  rw [vecL_set (by rw [hl.1]; exact hi), hl.1]
  have e1 : subW (l.getD i 0) (prK m i l m.length) = l.getD i 0 - prK m i l m.length := wrap_small (by omega)
  rw [e1, hp]
  unfold prV
  congr 1; omega
/-- The roots up to a height. -/
def RootTo (m : List (List Int)) (h : Int) (r : List Int) : Prop := r.length = m.length ∧ Up m.length (entry m) (vecL r) ∧ htV m.length (vecL r) ≤ h
theorem vecL_mem7 {l : List Int} {x : Int} (hx : x ∈ l) : ∃ t, t < l.length ∧ vecL l t = x := by
  obtain ⟨t, ht, e⟩ := List.getElem_of_mem hx
  exact ⟨t, ht, by simp [vecL, List.getD, ht, e]⟩
theorem root_low {m : List (List Int)} {h : Int} (h12 : h ≤ 12) {r : List Int} (hr : RootTo m h r) : Low m.length r := by
  obtain ⟨hl, hU, hh⟩ := hr
  have hp := up_nonneg hU
  have e : htV m.length (vecL r) = r.sum := by unfold htV; rw [← hl]; exact sumN_list r
  have hp' : ∀ x ∈ r, 0 ≤ x := fun x hx => by
    obtain ⟨t, _, e⟩ := vecL_mem7 hx
    rw [← e]; exact hp t
  refine ⟨hl, fun x hx => ⟨hp' x hx, ?_⟩⟩
  have := (le_sum hp').2 x hx; omega
theorem hgt_ht {m : List (List Int)} (hC : IsC m) {r : List Int} (hl : r.length = m.length) (h : ∀ x ∈ r, -100000 ≤ x ∧ x ≤ 100000) : hgtL r = htV m.length (vecL r) := by
  have := hC.2.2.2
  rw [hgt_sum h (by omega)]; unfold htV; rw [← hl, sumN_list]
theorem low_small {n : Nat} {r : List Int} (h : Low n r) : ∀ x ∈ r, -100000 ≤ x ∧ x ≤ 100000 := fun x hx => by have := h.2 x hx; omega
/-- Reached upwards by lists is the same. -/
theorem asc_root {m : List (List Int)} {h : Int} (hC : IsC m) (h1 : 1 ≤ h) (h12 : h ≤ 12) {r : List Int} (hr : Asc m h r) : RootTo m h r := by
  induction hr with
  | base i hi =>
    refine ⟨unitR_len _ _, by rw [vecL_unit hi]; exact .one i hi, ?_⟩
    rw [vecL_unit hi, ht_oneV hi]; exact h1
  | step r i _ hi hs hh hg ih =>
    have hlow := root_low h12 ih
    have hlen : (rflR m i r).length = m.length := by rw [rflR_len]; exact ih.1
    have hv := rflR_vec hC hi hlow
    rw [hgt_ht hC hlen (rflR_in hC hi hlow)] at hh hg
    rw [hgt_ht hC ih.1 (low_small hlow)] at hg
    refine ⟨hlen, ?_, hh⟩
    rw [hv] at hg ⊢
    unfold rfV at hg ⊢
    rw [ht_addV _ hi] at hg
    exact .up _ i ih.2.1 hi (by omega)
theorem root_asc {m : List (List Int)} {h : Int} (hC : IsC m) (h12 : h ≤ 12) {v : Nat → Int} (hU : Up m.length (entry m) v) : ∀ r : List Int, vecL r = v → r.length = m.length → htV m.length v ≤ h → Asc m h r := by
  induction hU with
  | one i hi =>
    intro r hv hl _
    have : r = unitR m.length i := vecL_inj (by rw [hl, unitR_len]) (by rw [hv, vecL_unit hi])
    rw [this]; exact .base i hi
  | up q i hq hi hp ih =>
    intro r hv hl hh
    rw [ht_addV _ hi] at hh
    have hqv : vecL (r.set i (q i)) = q := by
      rw [vecL_set (by omega)]
      have e : r.getD i 0 = q i + -(prV m.length (entry m) i q) := by
        have := congrFun hv i
        unfold vecL addV at this
        rw [if_pos rfl] at this; exact this
      rw [hv, addV_same, e, show -(prV m.length (entry m) i q) + (q i - (q i + -(prV m.length (entry m) i q))) = 0 by omega, addV_zero]
    have hql : (r.set i (q i)).length = m.length := by rw [List.length_set]; exact hl
    have hA := ih _ hqv hql (by omega)
    have hlow := asc_low hC h12 hA
    have hR : rflR m i (r.set i (q i)) = r := by
      refine vecL_inj (by rw [rflR_len, List.length_set]) ?_
      rw [rflR_vec hC hi hlow, hqv, hv]; rfl
    have hUr : Up m.length (entry m) (vecL r) := by rw [hv]; exact .up q i hq hi hp
    have hrow : RootTo m h r := ⟨hl, hUr, by rw [hv, ht_addV _ hi]; exact hh⟩
    have hlr := root_low h12 hrow
    have h1 := hgt_ht hC hl (low_small hlr)
    have h2 := hgt_ht hC hql (low_small hlow)
    rw [hv, ht_addV _ hi] at h1
    rw [hqv] at h2
    have hs : 0 < sgnL r := by
      have hd : downL r = false := by
        unfold downL
        rw [List.any_eq_false]
        intro x hx
        have := (hlr.2 x hx).1
        simp; omega
      have hu : upL r = true := by
        unfold upL
        rw [List.any_eq_true]
        refine Classical.byContradiction fun hn => ?_
        have hz : ∀ x ∈ r, x = 0 := fun x hx => by
          have h0 := (hlr.2 x hx).1
          have : ¬ 0 < x := fun h => hn ⟨x, hx, decide_eq_true h⟩
          omega
        have h9 := up_ht hUr
        have h8 : htV m.length (vecL r) = r.sum := by unfold htV; rw [← hl]; exact sumN_list r
        have h7 : r.sum = 0 := by
          have : r = List.replicate r.length 0 := List.eq_replicate_iff.2 ⟨rfl, hz⟩
          rw [this]; simp
        omega
      unfold sgnL; rw [hu, hd]; simp
    have := Asc.step _ i hA hi (by rw [hR]; exact hs) (by rw [hR]; omega) (by rw [hR]; omega)
    rw [hR] at this
    exact this
theorem asc_iff {m : List (List Int)} {h : Int} (hC : IsC m) (h1 : 1 ≤ h) (h12 : h ≤ 12) (r : List Int) : Asc m h r ↔ RootTo m h r :=
  ⟨asc_root hC h1 h12, fun hr => root_asc hC h12 hr.2.1 r rfl hr.1 hr.2.2⟩
/-- A reflection that stays positive and low leads to a root again, up or down. -/
theorem asc_refl {m : List (List Int)} {h : Int} (hC : IsC m) (h1 : 1 ≤ h) (h12 : h ≤ 12) {r : List Int} {i : Nat} (hr : Asc m h r) (hi : i < m.length) (hs : 0 < sgnL (rflR m i r)) (hh : hgtL (rflR m i r) ≤ h) : Asc m h (rflR m i r) := by
  have hR := asc_root hC h1 h12 hr
  have hlow := root_low h12 hR
  have hlen : (rflR m i r).length = m.length := by rw [rflR_len]; exact hR.1
  have hv := rflR_vec hC hi hlow
  rw [hgt_ht hC hlen (rflR_in hC hi hlow), hv] at hh
  refine root_asc hC h12 ?_ _ hv hlen hh
  refine up_refl (gcm_of hC) hR.2.1 hi fun he => ?_
  rw [he, rf_oneV (gcm_of hC) hi] at hv
  have h0 := (sgn_pos hs).1
  have h2 := congrFun hv i
  unfold negV oneV at h2
  rw [if_pos rfl] at h2
  have h3 : i < (rflR m i r).length := by omega
  have h4 := h0 _ (List.getElem_mem h3)
  have h5 : vecL (rflR m i r) i = (rflR m i r)[i] := by simp [vecL, List.getD, h3]
  omega
end Go.Proofs.YtfjeghalkmkgoaaGreatDoor
namespace Go.Proofs.YtfjeghalkmkgoaaGreatDoor
open Go.RowKit

/-! ### The first difference -/
def SameTo (a b : List Int) (k : Nat) : Prop := ∀ j, j < k → a.getD j 0 = b.getD j 0
theorem sameTo_zero (a b : List Int) : SameTo a b 0 := fun _ h => absurd h (Nat.not_lt_zero _)
theorem sameTo_step {a b : List Int} {k : Nat} (h : SameTo a b k) (hk : a.getD k 0 = b.getD k 0) : SameTo a b (k + 1) := fun j hj => by
  rcases Nat.lt_or_ge j k with h' | h'
  · exact h j h'
  · obtain rfl : j = k := by omega
    exact hk
theorem gt_drop : ∀ {a b : List Int} {k : Nat}, SameTo a b k → k ≤ a.length → k ≤ b.length → gtL a b = gtL (a.drop k) (b.drop k)
  | _, _, 0, _, _, _ => rfl
  | [], _, k + 1, _, h, _ => absurd h (by simp)
  | _ :: _, [], k + 1, _, _, h => absurd h (by simp)
  | x :: a, y :: b, k + 1, hs, ha, hb => by
    have h0 : x = y := by simpa using hs 0 (by omega)
    simp only [gtL, if_pos h0, List.drop_succ_cons]
    exact gt_drop (fun j hj => by simpa using hs (j + 1) (by omega)) (by simpa using ha) (by simpa using hb)
theorem gt_diff {a b : List Int} {k : Nat} (h : SameTo a b k) (ha : k < a.length) (hb : k < b.length) (hn : a.getD k 0 ≠ b.getD k 0) : gtL a b = decide (b.getD k 0 < a.getD k 0) := by
  rw [gt_drop h (by omega) (by omega), List.drop_eq_getElem_cons ha, List.drop_eq_getElem_cons hb]
  have e1 : a.getD k 0 = a[k] := by simp [List.getD, ha]
  have e2 : b.getD k 0 = b[k] := by simp [List.getD, hb]
  rw [e1, e2] at hn ⊢
  simp only [gtL]
  rw [if_neg hn]
theorem gt_end {a b : List Int} {k : Nat} (h : SameTo a b k) (ha : k ≤ a.length) (hb : k ≤ b.length) (he : k = a.length ∨ k = b.length) : gtL a b = false := by
  rw [gt_drop h ha hb]
  rcases he with e | e
  · rw [e, List.drop_length]; rfl
  · rw [e, List.drop_length]
    cases a.drop b.length <;> rfl
theorem bef_lt {a b : List Int} (h : hgtL a ≠ hgtL b) : befB a b = decide (hgtL a < hgtL b) := by unfold befB; rw [if_neg h]
theorem bef_eq {a b : List Int} (h : hgtL a = hgtL b) : befB a b = gtL a b := by unfold befB; rw [if_pos h]
/-! ### The insertion's loop -/
def putF (r : List Int) (s : List (List Int) × Bool) (x : List Int) : List (List Int) × Bool := if s.2 = false ∧ befB r x = true then (s.1 ++ [r] ++ [x], true) else (s.1 ++ [x], s.2)
def putK (L : List (List Int)) (r : List Int) (k : Nat) : List (List Int) × Bool := (L.take k).foldl (putF r) ([], false)
theorem putK_zero (L : List (List Int)) (r : List Int) : putK L r 0 = ([], false) := rfl
theorem putK_step {L : List (List Int)} {r : List Int} {k : Nat} (h : k < L.length) : putK L r (k + 1) = putF r (putK L r k) (L.getD k []) := by
  have e : L.getD k [] = L[k] := by simp [List.getD, h]
  unfold putK
  rw [List.take_succ_eq_append_getElem h, List.foldl_append, e]; rfl
theorem putF_done (r : List Int) : ∀ (L o : List (List Int)), L.foldl (putF r) (o, true) = (o ++ L, true)
  | [], o => by simp
  | x :: L, o => by
    have e : putF r (o, true) x = (o ++ [x], true) := by simp [putF]
    rw [List.foldl_cons, e, putF_done r L]; simp
theorem putF_end (r : List Int) : ∀ (L o : List (List Int)), (if (L.foldl (putF r) (o, false)).2 = true then (L.foldl (putF r) (o, false)).1 else (L.foldl (putF r) (o, false)).1 ++ [r]) = o ++ putR L r
  | [], o => by simp [putR]
  | x :: L, o => by
    cases hb : befB r x with
    | true =>
      have e : putF r (o, false) x = (o ++ [r] ++ [x], true) := by simp [putF, hb]
      have e2 : putR (x :: L) r = r :: x :: L := by simp [putR, hb]
      rw [List.foldl_cons, e, putF_done, e2]; simp
    | false =>
      have e : putF r (o, false) x = (o ++ [x], false) := by simp [putF, hb]
      have e2 : putR (x :: L) r = x :: putR L r := by simp [putR, hb]
      rw [List.foldl_cons, e, putF_end r L, e2]; simp
theorem putK_end (L : List (List Int)) (r : List Int) : (if (putK L r L.length).2 = true then (putK L r L.length).1 else (putK L r L.length).1 ++ [r]) = putR L r := by
  unfold putK; rw [List.take_length]; simpa using putF_end r L []
theorem putF_len (r : List Int) (s : List (List Int) × Bool) (x : List Int) : (putF r s x).1.length + (if (putF r s x).2 = true then 0 else 1) = s.1.length + 1 + (if s.2 = true then 0 else 1) := by
  obtain ⟨o, p⟩ := s
  cases p <;> cases hb : befB r x <;> simp [putF, hb]
theorem putK_len (L : List (List Int)) (r : List Int) : ∀ k, k ≤ L.length → (putK L r k).1.length ≤ k + 1 := by
  have h : ∀ k, k ≤ L.length → (putK L r k).1.length + (if (putK L r k).2 = true then 0 else 1) = k + 1 := by
    intro k
    induction k with
    | zero => intro _; simp [putK]
    | succ k ih =>
      intro hk
      rw [putK_step (by omega), putF_len, Nat.add_right_comm, ih (by omega)]
  intro k hk
  have := h k hk
  omega
/-! ### The start: the simple roots one by one -/
def RtB (m : List (List Int)) (L : List (List Int)) (i : Nat) : Prop := Ordd L ∧ ∀ r, r ∈ L ↔ ∃ j, j < i ∧ r = unitR m.length j
theorem rtB_zero (m : List (List Int)) : RtB m [] 0 := ⟨List.Pairwise.nil, fun r => ⟨fun h => absurd h (by simp), fun ⟨_, h, _⟩ => absurd h (Nat.not_lt_zero _)⟩⟩
theorem unitR_inj {n i j : Nat} (hi : i < n) (hj : j < n) (h : unitR n i = unitR n j) : i = j := by
  have h1 := congrArg vecL h
  rw [vecL_unit hi, vecL_unit hj] at h1
  have h2 := congrFun h1 i
  simp only [oneV] at h2
  refine Classical.byContradiction fun hn => ?_
  rw [if_pos True.intro, if_neg hn] at h2
  omega
theorem rtB_step {m L : List (List Int)} {i : Nat} (h : RtB m L i) (hi : i < m.length) : RtB m (putR L (unitR m.length i)) (i + 1) := by
  refine ⟨putR_ordd h.1 (fun hm => ?_) (fun x hx => ?_), fun r => ?_⟩
  · obtain ⟨j, hj, e⟩ := (h.2 _).1 hm
    have := unitR_inj hi (by omega) e; omega
  · obtain ⟨j, _, e⟩ := (h.2 _).1 hx
    rw [e, unitR_len, unitR_len]
  · rw [putR_mem, h.2]
    constructor
    · rintro (e | ⟨j, hj, e⟩)
      · exact ⟨i, by omega, e⟩
      · exact ⟨j, by omega, e⟩
    · rintro ⟨j, hj, e⟩
      rcases Nat.lt_or_ge j i with h' | h'
      · exact Or.inr ⟨j, h', e⟩
      · obtain rfl : j = i := by omega
        exact Or.inl e
theorem rtB_len {m L : List (List Int)} {i : Nat} (h : RtB m L i) (_hi : i ≤ m.length) (hm : m.length ≤ 4) : L.length ≤ 28561 :=
  low_count hm (ordd_nodup h.1) fun r hr => by
    obtain ⟨j, _, e⟩ := (h.2 r).1 hr
    refine ⟨by rw [e, unitR_len], fun x hx => ?_⟩
    rw [e] at hx
    rcases unitR_mem hx with e | e <;> omega
theorem rtB_end {m L : List (List Int)} {h : Int} (hB : RtB m L m.length) : RtI m h L 0 0 :=
  ⟨hB.1, fun r hr => by
    obtain ⟨j, hj, e⟩ := (hB.2 r).1 hr
    rw [e]; exact .base j hj, fun j hj => (hB.2 _).2 ⟨j, hj, rfl⟩, fun _ _ h => absurd h (Nat.not_lt_zero _), fun _ _ h => absurd h (Nat.not_lt_zero _)⟩
/-- A program's list: in order, of roots, with the simple ones, closed under reflections that stay positive and low. -/
theorem isRoots_of {m L : List (List Int)} {h : Int} (hO : Ordd L) (hs : ∀ r ∈ L, Asc m h r) (hb : ∀ j, j < m.length → unitR m.length j ∈ L) (hc : ∀ r ∈ L, ∀ j, j < m.length → 0 < sgnL (rflR m j r) → hgtL (rflR m j r) ≤ h → hgtL r < hgtL (rflR m j r) → rflR m j r ∈ L) : IsRoots m h L := by
  refine ⟨hO, fun r => ⟨hs r, fun hr => ?_⟩⟩
  induction hr with
  | base i hi => exact hb i hi
  | step r i _ hi h1 h2 h3 ih => exact hc r ih i hi h1 h2 h3
end Go.Proofs.YtfjeghalkmkgoaaGreatDoor
