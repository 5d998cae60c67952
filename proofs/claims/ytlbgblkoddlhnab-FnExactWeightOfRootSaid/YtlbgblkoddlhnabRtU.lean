/-
  Roots: the loops of the order, of the insertion and of the start, as functions on lists (no walk here).
-/
import Derived.Test.YtlbgblkoddlhnabRtT
namespace Go.Proofs.Ytlbgblkoddlhnab
open Go.RowKit

/-! ### The first difference -/
def SameTo (a b : List Int) (k : Nat) : Prop := ∀ j, j < k → a.getD j 0 = b.getD j 0
theorem sameTo_zero (a b : List Int) : SameTo a b 0 := fun _ h => absurd h (Nat.not_lt_zero _)
theorem sameTo_step {a b : List Int} {k : Nat} (h : SameTo a b k) (hk : a.getD k 0 = b.getD k 0) : SameTo a b (k + 1) := fun j hj => by
  rcases Nat.lt_or_ge j k with h' | h'
  · exact h j h'
  · obtain rfl : j = k := by omega
    exact hk
theorem gt_drop : ∀ {a b : List Int} {k : Nat}, SameTo a b k → k ≤ a.length → k ≤ b.length → gtL a b = gtL (a.drop k) (b.drop k)
  | _, _, 0, _, _, _ => rfl
  | [], _, k + 1, _, h, _ => absurd h (by simp)
  | _ :: _, [], k + 1, _, _, h => absurd h (by simp)
  | x :: a, y :: b, k + 1, hs, ha, hb => by
    have h0 : x = y := by simpa using hs 0 (by omega)
    simp only [gtL, if_pos h0, List.drop_succ_cons]
    exact gt_drop (fun j hj => by simpa using hs (j + 1) (by omega)) (by simpa using ha) (by simpa using hb)
theorem gt_diff {a b : List Int} {k : Nat} (h : SameTo a b k) (ha : k < a.length) (hb : k < b.length) (hn : a.getD k 0 ≠ b.getD k 0) : gtL a b = decide (b.getD k 0 < a.getD k 0) := by
  rw [gt_drop h (by omega) (by omega), List.drop_eq_getElem_cons ha, List.drop_eq_getElem_cons hb]
  have e1 : a.getD k 0 = a[k] := by simp [List.getD, ha]
  have e2 : b.getD k 0 = b[k] := by simp [List.getD, hb]
  rw [e1, e2] at hn ⊢
  simp only [gtL]
  rw [if_neg hn]
theorem gt_end {a b : List Int} {k : Nat} (h : SameTo a b k) (ha : k ≤ a.length) (hb : k ≤ b.length) (he : k = a.length ∨ k = b.length) : gtL a b = false := by
  rw [gt_drop h ha hb]
  rcases he with e | e
  · rw [e, List.drop_length]; rfl
  · rw [e, List.drop_length]
    cases a.drop b.length <;> rfl
theorem bef_lt {a b : List Int} (h : hgtL a ≠ hgtL b) : befB a b = decide (hgtL a < hgtL b) := by unfold befB; rw [if_neg h]
theorem bef_eq {a b : List Int} (h : hgtL a = hgtL b) : befB a b = gtL a b := by unfold befB; rw [if_pos h]
/-! ### The insertion's loop -/
def putF (r : List Int) (s : List (List Int) × Bool) (x : List Int) : List (List Int) × Bool := if s.2 = false ∧ befB r x = true then (s.1 ++ [r] ++ [x], true) else (s.1 ++ [x], s.2)
def putK (L : List (List Int)) (r : List Int) (k : Nat) : List (List Int) × Bool := (L.take k).foldl (putF r) ([], false)
theorem putK_zero (L : List (List Int)) (r : List Int) : putK L r 0 = ([], false) := rfl
theorem putK_step {L : List (List Int)} {r : List Int} {k : Nat} (h : k < L.length) : putK L r (k + 1) = putF r (putK L r k) (L.getD k []) := by
  have e : L.getD k [] = L[k] := by simp [List.getD, h]
  unfold putK
  rw [List.take_succ_eq_append_getElem h, List.foldl_append, e]; rfl
theorem putF_done (r : List Int) : ∀ (L o : List (List Int)), L.foldl (putF r) (o, true) = (o ++ L, true)
  | [], o => by simp
  | x :: L, o => by
    have e : putF r (o, true) x = (o ++ [x], true) := by simp [putF]
    rw [List.foldl_cons, e, putF_done r L]; simp
theorem putF_end (r : List Int) : ∀ (L o : List (List Int)), (if (L.foldl (putF r) (o, false)).2 = true then (L.foldl (putF r) (o, false)).1 else (L.foldl (putF r) (o, false)).1 ++ [r]) = o ++ putR L r
  | [], o => by simp [putR]
  | x :: L, o => by
    cases hb : befB r x with
    | true =>
      have e : putF r (o, false) x = (o ++ [r] ++ [x], true) := by simp [putF, hb]
      have e2 : putR (x :: L) r = r :: x :: L := by simp [putR, hb]
      rw [List.foldl_cons, e, putF_done, e2]; simp
    | false =>
      have e : putF r (o, false) x = (o ++ [x], false) := by simp [putF, hb]
      have e2 : putR (x :: L) r = x :: putR L r := by simp [putR, hb]
      rw [List.foldl_cons, e, putF_end r L, e2]; simp
theorem putK_end (L : List (List Int)) (r : List Int) : (if (putK L r L.length).2 = true then (putK L r L.length).1 else (putK L r L.length).1 ++ [r]) = putR L r := by
  unfold putK; rw [List.take_length]; simpa using putF_end r L []
theorem putF_len (r : List Int) (s : List (List Int) × Bool) (x : List Int) : (putF r s x).1.length + (if (putF r s x).2 = true then 0 else 1) = s.1.length + 1 + (if s.2 = true then 0 else 1) := by
  obtain ⟨o, p⟩ := s
  cases p <;> cases hb : befB r x <;> simp [putF, hb]
theorem putK_len (L : List (List Int)) (r : List Int) : ∀ k, k ≤ L.length → (putK L r k).1.length ≤ k + 1 := by
  have h : ∀ k, k ≤ L.length → (putK L r k).1.length + (if (putK L r k).2 = true then 0 else 1) = k + 1 := by
    intro k
    induction k with
    | zero => intro _; simp [putK]
    | succ k ih =>
      intro hk
      rw [putK_step (by omega), putF_len, Nat.add_right_comm, ih (by omega)]
  intro k hk
  have := h k hk
  omega
/-! ### The start: the simple roots one by one -/
def RtB (m : List (List Int)) (L : List (List Int)) (i : Nat) : Prop := Ordd L ∧ ∀ r, r ∈ L ↔ ∃ j, j < i ∧ r = unitR m.length j
theorem rtB_zero (m : List (List Int)) : RtB m [] 0 := ⟨List.Pairwise.nil, fun r => ⟨fun h => absurd h (by simp), fun ⟨_, h, _⟩ => absurd h (Nat.not_lt_zero _)⟩⟩
theorem unitR_inj {n i j : Nat} (hi : i < n) (hj : j < n) (h : unitR n i = unitR n j) : i = j := by
  have h1 := congrArg vecL h
  rw [vecL_unit hi, vecL_unit hj] at h1
  have h2 := congrFun h1 i
  simp only [oneV] at h2
  refine Classical.byContradiction fun hn => ?_
  rw [if_pos True.intro, if_neg hn] at h2
  omega
theorem rtB_step {m L : List (List Int)} {i : Nat} (h : RtB m L i) (hi : i < m.length) : RtB m (putR L (unitR m.length i)) (i + 1) := by
  refine ⟨putR_ordd h.1 (fun hm => ?_) (fun x hx => ?_), fun r => ?_⟩
  · obtain ⟨j, hj, e⟩ := (h.2 _).1 hm
    have := unitR_inj hi (by omega) e; omega
  · obtain ⟨j, _, e⟩ := (h.2 _).1 hx
    rw [e, unitR_len, unitR_len]
  · rw [putR_mem, h.2]
    constructor
    · rintro (e | ⟨j, hj, e⟩)
      · exact ⟨i, by omega, e⟩
      · exact ⟨j, by omega, e⟩
    · rintro ⟨j, hj, e⟩
      rcases Nat.lt_or_ge j i with h' | h'
      · exact Or.inr ⟨j, h', e⟩
      · obtain rfl : j = i := by omega
        exact Or.inl e
theorem rtB_len {m L : List (List Int)} {i : Nat} (h : RtB m L i) (_hi : i ≤ m.length) (hm : m.length ≤ 4) : L.length ≤ 28561 :=
  low_count hm (ordd_nodup h.1) fun r hr => by
    obtain ⟨j, _, e⟩ := (h.2 r).1 hr
    refine ⟨by rw [e, unitR_len], fun x hx => ?_⟩
    rw [e] at hx
    rcases unitR_mem hx with e | e <;> omega
theorem rtB_end {m L : List (List Int)} {h : Int} (hB : RtB m L m.length) : RtI m h L 0 0 :=
  ⟨hB.1, fun r hr => by
    obtain ⟨j, hj, e⟩ := (hB.2 r).1 hr
    rw [e]; exact .base j hj, fun j hj => (hB.2 _).2 ⟨j, hj, rfl⟩, fun _ _ h => absurd h (Nat.not_lt_zero _), fun _ _ h => absurd h (Nat.not_lt_zero _)⟩
/-- A program's list: in order, of roots, with the simple ones, closed under reflections that stay positive and low. -/
theorem isRoots_of {m L : List (List Int)} {h : Int} (hO : Ordd L) (hs : ∀ r ∈ L, Asc m h r) (hb : ∀ j, j < m.length → unitR m.length j ∈ L) (hc : ∀ r ∈ L, ∀ j, j < m.length → 0 < sgnL (rflR m j r) → hgtL (rflR m j r) ≤ h → hgtL r < hgtL (rflR m j r) → rflR m j r ∈ L) : IsRoots m h L := by
  refine ⟨hO, fun r => ⟨hs r, fun hr => ?_⟩⟩
  induction hr with
  | base i hi => exact hb i hi
  | step r i _ hi h1 h2 h3 ih => exact hc r ih i hi h1 h2 h3
end Go.Proofs.Ytlbgblkoddlhnab
