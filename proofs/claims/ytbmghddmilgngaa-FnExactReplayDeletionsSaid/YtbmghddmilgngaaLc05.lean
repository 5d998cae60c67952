/-
  Roots: reflections of root vectors, and which roots are reached from the simple ones (no walk here).
-/
import Derived.Test.YtbmghddmilgngaaLc04
namespace Go.Proofs.Ytbmghddmilgngaa
open Go.RowKit

/-! ### The pairing of a simple coroot with a root vector -/
def prK (m : List (List Int)) (i : Nat) (l : List Int) : Nat → Int
  | 0 => 0
  | k + 1 => addW (prK m i l k) (mulW (entry m i k) (l.getD k 0))
def rflR (m : List (List Int)) (i : Nat) (l : List Int) : List Int := l.set i (subW (l.getD i 0) (prK m i l l.length))
theorem rflR_len (m : List (List Int)) (i : Nat) (l : List Int) : (rflR m i l).length = l.length := by simp [rflR]
open Classical in
noncomputable def refR (m : List (List Int)) (i : Int) (l : List Int) : List Int := if RefOk m i l then rflR m i.toNat l else l
theorem refR_yes {m : List (List Int)} {i : Int} {l : List Int} (h : RefOk m i l) : refR m i l = rflR m i.toNat l := if_pos h
theorem refR_no {m : List (List Int)} {i : Int} {l : List Int} (h : ¬ RefOk m i l) : refR m i l = l := if_neg h
def actRW (m : List (List Int)) (ws : List Int) (l : List Int) : List Int := ws.foldr (fun i l => rflR m i.toNat l) l
theorem actRW_len (m : List (List Int)) (ws l : List Int) : (actRW m ws l).length = l.length := by
  induction ws with
  | nil => rfl
  | cons i ws ih => simp only [actRW, List.foldr_cons] at ih ⊢; rw [rflR_len]; exact ih
theorem actRW_step {m : List (List Int)} {ws l : List Int} {k : Nat} (h : k < ws.length) : rflR m (ws.getD k 0).toNat (actRW m (ws.drop (k + 1)) l) = actRW m (ws.drop k) l := by
  conv => rhs; rw [List.drop_eq_getElem_cons h]
  have e : ws.getD k 0 = ws[k] := by simp [List.getD, h]
  unfold actRW
  rw [List.foldr_cons, e]
open Classical in
noncomputable def actR (m : List (List Int)) (ws l : List Int) : List Int := if ActOk m ws l then actRW m ws l else l
theorem actR_yes {m : List (List Int)} {ws l : List Int} (h : ActOk m ws l) : actR m ws l = actRW m ws l := if_pos h
theorem actR_no {m : List (List Int)} {ws l : List Int} (h : ¬ ActOk m ws l) : actR m ws l = l := if_neg h
def wrtK (m : List (List Int)) (l : List Int) (k : Nat) : List Int := (List.range k).map fun j => prK m j l m.length
theorem wrtK_len (m : List (List Int)) (l : List Int) (k : Nat) : (wrtK m l k).length = k := by simp [wrtK]
theorem wrtK_step (m : List (List Int)) (l : List Int) (k : Nat) : wrtK m l k ++ [prK m k l m.length] = wrtK m l (k + 1) := by simp [wrtK, List.range_succ]
open Classical in
noncomputable def wrtL (m : List (List Int)) (l : List Int) : List Int := if IsC m ∧ l.length = m.length then wrtK m l m.length else []
theorem wrtL_yes {m : List (List Int)} {l : List Int} (h : IsC m ∧ l.length = m.length) : wrtL m l = wrtK m l m.length := if_pos h
theorem wrtL_no {m : List (List Int)} {l : List Int} (h : ¬ (IsC m ∧ l.length = m.length)) : wrtL m l = [] := if_neg h
/-! ### Simple roots -/
def unitR (n i : Nat) : List Int := (List.replicate n 0).set i 1
theorem unitR_len (n i : Nat) : (unitR n i).length = n := by simp [unitR]
open Classical in
noncomputable def simR (m : List (List Int)) (i : Int) : List Int := if IsC m ∧ 0 ≤ i ∧ i ≤ (m.length : Int) - 1 then unitR m.length i.toNat else []
theorem simR_yes {m : List (List Int)} {i : Int} (h : IsC m ∧ 0 ≤ i ∧ i ≤ (m.length : Int) - 1) : simR m i = unitR m.length i.toNat := if_pos h
theorem simR_no {m : List (List Int)} {i : Int} (h : ¬ (IsC m ∧ 0 ≤ i ∧ i ≤ (m.length : Int) - 1)) : simR m i = [] := if_neg h
/-! ### Small numbers don't wrap -/
theorem wrap_small {x : Int} (h : -1000000 ≤ x ∧ x ≤ 1000000) : wrap64 x = x := by unfold wrap64; omega
theorem hgt_fold : ∀ {l : List Int} {a B : Int}, 0 ≤ B → B ≤ 100000 → (∀ x ∈ l, -B ≤ x ∧ x ≤ B) → -(8 - l.length) * B ≤ a → a ≤ (8 - l.length) * B → l.length ≤ 4 → l.foldl addW a = a + l.sum
  | [], a, _, _, _, _, _, _, _ => by simp
  | x :: l, a, B, h0, hB, h, h1, h2, h4 => by
    have hx := h x (List.mem_cons_self ..)
    have hl : l.length ≤ 3 := by simpa using h4
    have e7 : ((x :: l).length : Int) = l.length + 1 := by simp
    rw [e7] at h1 h2
    have hc : l.length = 0 ∨ l.length = 1 ∨ l.length = 2 ∨ l.length = 3 := by omega
    have e : addW a x = a + x := by
      unfold addW
      refine wrap_small ?_
      rcases hc with e | e | e | e <;> rw [e] at h1 h2 <;> simp at h1 h2 <;> omega
    rw [List.foldl_cons, e, hgt_fold h0 hB (fun y hy => h y (List.mem_cons_of_mem _ hy)) ?_ ?_ (by omega)]
    · simp only [List.sum_cons]; omega
    · rcases hc with e | e | e | e <;> rw [e] at h1 h2 ⊢ <;> simp at h1 h2 ⊢ <;> omega
    · rcases hc with e | e | e | e <;> rw [e] at h1 h2 ⊢ <;> simp at h1 h2 ⊢ <;> omega
theorem hgt_sum {l : List Int} (h : ∀ x ∈ l, -100000 ≤ x ∧ x ≤ 100000) (h4 : l.length ≤ 4) : hgtL l = l.sum := by
  unfold hgtL
  rw [hgt_fold (B := 100000) (by omega) (by omega) h (by omega) (by omega) h4, Int.zero_add]
theorem le_sum : ∀ {l : List Int}, (∀ x ∈ l, 0 ≤ x) → 0 ≤ l.sum ∧ ∀ x ∈ l, x ≤ l.sum
  | [], _ => ⟨by simp, fun x hx => absurd hx (by simp)⟩
  | y :: l, h => by
    have h1 := le_sum (l := l) (fun x hx => h x (List.mem_cons_of_mem _ hx))
    have hy := h y (List.mem_cons_self ..)
    simp only [List.sum_cons]
    refine ⟨by omega, fun x hx => ?_⟩
    rcases List.mem_cons.1 hx with e | hm
    · omega
    · have := h1.2 x hm; omega
theorem low_getD {n : Nat} {l : List Int} (h : Low n l) (k : Nat) : 0 ≤ l.getD k 0 ∧ l.getD k 0 ≤ 12 := by
  rcases Nat.lt_or_ge k l.length with hk | hk
  · have e : l.getD k 0 = l[k] := by simp [List.getD, hk]
    rw [e]; exact h.2 _ (List.getElem_mem hk)
  · have e : l.getD k 0 = 0 := by simp [List.getD, hk]
    rw [e]; omega
theorem ent_in {m : List (List Int)} (h : IsC m) {i j : Nat} (hi : i < m.length) (hj : j < m.length) : -3 ≤ entry m i j ∧ entry m i j ≤ 2 := by
  by_cases hn : i = j
  · subst hn
    have := h.2.1 i i hi hi
    simp [okC] at this; omega
  · have := isc_in h hi hj hn; omega
theorem prK_in {m : List (List Int)} {i : Nat} {l : List Int} (h : IsC m) (hi : i < m.length) (hl : Low m.length l) : ∀ k, k ≤ m.length → -(36 * (k : Int)) ≤ prK m i l k ∧ prK m i l k ≤ 36 * (k : Int)
  | 0, _ => by simp [prK]
  | k + 1, hk => by
    have h1 := prK_in h hi hl k (by omega)
    have h2 := ent_in h hi (show k < m.length by omega)
    have h3 := low_getD hl k
    have h4 := h.2.2.2
    have h5 : -36 ≤ entry m i k * l.getD k 0 ∧ entry m i k * l.getD k 0 ≤ 24 := by
      have hc : entry m i k = -3 ∨ entry m i k = -2 ∨ entry m i k = -1 ∨ entry m i k = 0 ∨ entry m i k = 1 ∨ entry m i k = 2 := by omega
      rcases hc with e | e | e | e | e | e <;> rw [e] <;> omega
    have e1 : mulW (entry m i k) (l.getD k 0) = entry m i k * l.getD k 0 := wrap_small (by omega)
    have e2 : prK m i l (k + 1) = prK m i l k + entry m i k * l.getD k 0 := by
      simp only [prK]; rw [e1]; exact wrap_small (by omega)
    rw [e2]; omega
theorem rflR_in {m : List (List Int)} {i : Nat} {l : List Int} (h : IsC m) (hi : i < m.length) (hl : Low m.length l) : ∀ x ∈ rflR m i l, -100000 ≤ x ∧ x ≤ 100000 := by
  intro x hx
  have h4 := h.2.2.2
  have h1 := prK_in h hi hl m.length (Nat.le_refl _)
  have h2 := low_getD hl i
  unfold rflR at hx
  rcases List.mem_or_eq_of_mem_set hx with hm | e
  · have := hl.2 x hm; omega
  · rw [hl.1] at e
    have e1 : subW (l.getD i 0) (prK m i l m.length) = l.getD i 0 - prK m i l m.length := wrap_small (by omega)
    rw [e, e1]; omega
/-! ### Roots that are reached -/
inductive Asc (m : List (List Int)) (h : Int) : List Int → Prop
  | base (i : Nat) : i < m.length → Asc m h (unitR m.length i)
  | step (r : List Int) (i : Nat) : Asc m h r → i < m.length → 0 < sgnL (rflR m i r) → hgtL (rflR m i r) ≤ h → hgtL r < hgtL (rflR m i r) → Asc m h (rflR m i r)
theorem unitR_mem {n i : Nat} {x : Int} (h : x ∈ unitR n i) : x = 0 ∨ x = 1 := by
  unfold unitR at h
  rcases List.mem_or_eq_of_mem_set h with hm | e
  · exact Or.inl (List.eq_of_mem_replicate hm)
  · exact Or.inr e
theorem asc_low {m : List (List Int)} {h : Int} (hC : IsC m) (h12 : h ≤ 12) {r : List Int} (hr : Asc m h r) : Low m.length r := by
  induction hr with
  | base i hi =>
    refine ⟨unitR_len _ _, fun x hx => ?_⟩
    rcases unitR_mem hx with e | e <;> rw [e] <;> omega
  | step r i _ hi hs hh _ ih =>
    have hin := rflR_in hC hi ih
    have h4 := hC.2.2.2
    have hlen : (rflR m i r).length = m.length := by rw [rflR_len]; exact ih.1
    have hp := (sgn_pos hs).1
    rw [hgt_sum hin (by omega)] at hh
    refine ⟨hlen, fun x hx => ⟨hp x hx, ?_⟩⟩
    have := (le_sum hp).2 x hx; omega
/-- A list of roots, closed up to place k (and there up to letter i). -/
structure RtI (m : List (List Int)) (h : Int) (L : List (List Int)) (k i : Nat) : Prop where
  ordd : Ordd L
  sub : ∀ r ∈ L, Asc m h r
  base : ∀ j, j < m.length → unitR m.length j ∈ L
  done : ∀ k' j, k' < k → k' < L.length → j < m.length → 0 < sgnL (rflR m j (L.getD k' [])) → hgtL (rflR m j (L.getD k' [])) ≤ h → hgtL (L.getD k' []) < hgtL (rflR m j (L.getD k' [])) → rflR m j (L.getD k' []) ∈ L
  now : ∀ j, k < L.length → j < i → j < m.length → 0 < sgnL (rflR m j (L.getD k [])) → hgtL (rflR m j (L.getD k [])) ≤ h → hgtL (L.getD k []) < hgtL (rflR m j (L.getD k [])) → rflR m j (L.getD k []) ∈ L
def IsRoots (m : List (List Int)) (h : Int) (L : List (List Int)) : Prop := Ordd L ∧ ∀ r, r ∈ L ↔ Asc m h r
theorem isRoots_same {m : List (List Int)} {h : Int} {A B : List (List Int)} (hA : IsRoots m h A) (hB : IsRoots m h B) : A = B := ordd_same hA.1 hB.1 fun r => (hA.2 r).trans (hB.2 r).symm
theorem rtI_end {m : List (List Int)} {h : Int} {L : List (List Int)} {k : Nat} (hI : RtI m h L k 0) (hk : L.length ≤ k) : IsRoots m h L := by
  refine ⟨hI.ordd, fun r => ⟨hI.sub r, fun hr => ?_⟩⟩
  induction hr with
  | base i hi => exact hI.base i hi
  | step r i _ hi hs hh hg ih =>
    obtain ⟨k', hk', e⟩ := List.getElem_of_mem ih
    have e' : L.getD k' [] = r := by simp [List.getD, hk', e]
    have := hI.done k' i (by omega) hk' hi
    rw [e'] at this
    exact this hs hh hg
theorem rtI_turn {m : List (List Int)} {h : Int} {L : List (List Int)} {k : Nat} (hI : RtI m h L k m.length) : RtI m h L (k + 1) 0 :=
  ⟨hI.ordd, hI.sub, hI.base, fun k' j h1 h2 h3 => by
    rcases Nat.lt_or_ge k' k with h0 | h0
    · exact hI.done k' j h0 h2 h3
    · obtain rfl : k' = k := by omega
      exact hI.now j h2 h3 h3, fun _ _ hj => absurd hj (Nat.not_lt_zero _)⟩
theorem rtI_skip {m : List (List Int)} {h : Int} {L : List (List Int)} {k i : Nat} (hI : RtI m h L k i) (hn : ¬ (0 < sgnL (rflR m i (L.getD k [])) ∧ hgtL (rflR m i (L.getD k [])) ≤ h ∧ rflR m i (L.getD k []) ∉ L ∧ hgtL (L.getD k []) < hgtL (rflR m i (L.getD k [])))) : RtI m h L k (i + 1) :=
  ⟨hI.ordd, hI.sub, hI.base, hI.done, fun j h1 h2 h3 h4 h5 h6 => by
    rcases Nat.lt_or_ge j i with h0 | h0
    · exact hI.now j h1 h0 h3 h4 h5 h6
    · obtain rfl : j = i := by omega
      exact Classical.byContradiction fun hm => hn ⟨h4, h5, hm, h6⟩⟩
theorem ordd_hgt {L : List (List Int)} (h : Ordd L) {a b : Nat} (hab : a ≤ b) (hb : b < L.length) : hgtL (L.getD a []) ≤ hgtL (L.getD b []) := by
  rcases Nat.eq_or_lt_of_le hab with e | hlt
  · rw [e]; exact Int.le_refl _
  · have := List.pairwise_iff_getElem.1 h a b (by omega) hb hlt
    have ea : L.getD a [] = L[a] := by simp [List.getD, show a < L.length by omega]
    have eb : L.getD b [] = L[b] := by simp [List.getD, hb]
    rw [ea, eb]
    unfold befB at this
    by_cases e : hgtL L[a] = hgtL L[b]
    · omega
    · rw [if_neg e] at this
      have := of_decide_eq_true this; omega
theorem takeWhile_front {R : List (List Int)} {p : List Int → Bool} : ∀ {L : List (List Int)} {k : Nat}, (∀ j, j ≤ k → j < L.length → p (L.getD j []) = true) → k < L.length → ∀ j, j ≤ k → ((L.takeWhile p) ++ R).getD j [] = L.getD j [] ∧ j < (L.takeWhile p).length
  | [], k, _, hk, _, _ => absurd hk (Nat.not_lt_zero _)
  | a :: L, k, h, hk, j, hj => by
    have ha : p a = true := h 0 (Nat.zero_le _) (by simp)
    rw [List.takeWhile_cons_of_pos ha]
    cases j with
    | zero => exact ⟨by simp, by simp⟩
    | succ j =>
      obtain ⟨k, rfl⟩ : ∃ q, k = q + 1 := ⟨k - 1, by omega⟩
      have ih := takeWhile_front (R := R) (L := L) (k := k) (fun i hi hl => by simpa using h (i + 1) (by omega) (by simpa using hl)) (by simpa using hk) j (by omega)
      refine ⟨by simpa using ih.1, by simpa using ih.2⟩
theorem putR_front {L : List (List Int)} (h : Ordd L) {k : Nat} {r : List Int} (hk : k < L.length) (hg : hgtL (L.getD k []) < hgtL r) {j : Nat} (hj : j ≤ k) : (putR L r).getD j [] = L.getD j [] := by
  refine (takeWhile_front (fun i hi hl => ?_) hk j hj).1
  have := ordd_hgt h hi hk
  unfold befB
  rw [if_neg (by omega), decide_eq_false (by omega)]; rfl
theorem rtI_put {m : List (List Int)} {h : Int} {L : List (List Int)} {k i : Nat} (hC : IsC m) (h12 : h ≤ 12) (hI : RtI m h L k i) (hk : k < L.length) (hi : i < m.length) (h1 : 0 < sgnL (rflR m i (L.getD k []))) (h2 : hgtL (rflR m i (L.getD k [])) ≤ h) (h3 : rflR m i (L.getD k []) ∉ L) (h4 : hgtL (L.getD k []) < hgtL (rflR m i (L.getD k []))) : RtI m h (putR L (rflR m i (L.getD k []))) k (i + 1) := by
  have hm : L.getD k [] ∈ L := by
    have e : L.getD k [] = L[k] := by simp [List.getD, hk]
    rw [e]; exact List.getElem_mem hk
  have hA := hI.sub _ hm
  have hA' : Asc m h (rflR m i (L.getD k [])) := .step _ i hA hi h1 h2 h4
  have hf := fun j (hj : j ≤ k) => putR_front hI.ordd hk h4 hj
  refine ⟨putR_ordd hI.ordd h3 (fun x hx => by rw [(asc_low hC h12 (hI.sub x hx)).1, (asc_low hC h12 hA').1]), fun r hr => ?_, fun j hj => (putR_mem ..).2 (Or.inr (hI.base j hj)), fun k' j a1 a2 a3 => ?_, fun j a1 a2 a3 => ?_⟩
  · rcases (putR_mem ..).1 hr with e | hr
    · rw [e]; exact hA'
    · exact hI.sub r hr
  · rw [hf k' (by omega)]
    exact fun b1 b2 b3 => (putR_mem ..).2 (Or.inr (hI.done k' j a1 (by omega) a3 b1 b2 b3))
  · rw [hf k (Nat.le_refl _)]
    intro b1 b2 b3
    rcases Nat.lt_or_ge j i with h0 | h0
    · exact (putR_mem ..).2 (Or.inr (hI.now j hk h0 a3 b1 b2 b3))
    · obtain rfl : j = i := by omega
      exact (putR_mem ..).2 (Or.inl rfl)
theorem rtI_count {m : List (List Int)} {h : Int} {L : List (List Int)} {k i : Nat} (hC : IsC m) (h12 : h ≤ 12) (hI : RtI m h L k i) : L.length ≤ 28561 :=
  low_count hC.2.2.2 (ordd_nodup hI.ordd) fun r hr => asc_low hC h12 (hI.sub r hr)
end Go.Proofs.Ytbmghddmilgngaa
