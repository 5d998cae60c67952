/-
  Weights: what the functions of chapter 6 answer (no walk here).
  Weights: which vectors are weights (no walk here).
  Roots: the order of roots, and that a list in that order is known by its members (no walk here).
-/
import Derived.IntWalk
import Derived.Test.YtbmghddmilgngaaLc03
namespace Go.Proofs.Ytbmghddmilgngaa
open Go.RowKit

def mulW (x y : Int) : Int := wrap64 (x * y)
def subW (x y : Int) : Int := wrap64 (x - y)
def addW (x y : Int) : Int := wrap64 (x + y)
theorem wrapk (x : Int) : IntKind.i64.wrap x = wrap64 x := by rw [IntKind.wrap_i64, wrap64]
/-! ### A reflection of a weight -/
def reflE (m : List (List Int)) (i : Nat) (l : List Int) (k : Nat) : Int := subW (l.getD k 0) (mulW (l.getD i 0) (entry m k i))
def reflK (m : List (List Int)) (i : Nat) (l : List Int) (k : Nat) : List Int := (List.range k).map (reflE m i l)
def reflL (m : List (List Int)) (i : Nat) (l : List Int) : List Int := reflK m i l l.length
theorem reflK_len (m : List (List Int)) (i : Nat) (l : List Int) (k : Nat) : (reflK m i l k).length = k := by simp [reflK]
theorem reflL_len (m : List (List Int)) (i : Nat) (l : List Int) : (reflL m i l).length = l.length := reflK_len _ _ _ _
theorem reflK_step (m : List (List Int)) (i : Nat) (l : List Int) (k : Nat) : reflK m i l k ++ [reflE m i l k] = reflK m i l (k + 1) := by simp [reflK, List.range_succ]
def RefOk (m : List (List Int)) (i : Int) (l : List Int) : Prop := IsC m ∧ l.length = m.length ∧ (0 ≤ i ∧ i ≤ (m.length : Int) - 1)
open Classical in
noncomputable def refwL (m : List (List Int)) (i : Int) (l : List Int) : List Int := if RefOk m i l then reflL m i.toNat l else l
theorem refwL_yes {m : List (List Int)} {i : Int} {l : List Int} (h : RefOk m i l) : refwL m i l = reflL m i.toNat l := if_pos h
theorem refwL_no {m : List (List Int)} {i : Int} {l : List Int} (h : ¬ RefOk m i l) : refwL m i l = l := if_neg h
theorem refwL_len (m : List (List Int)) (i : Int) (l : List Int) : (refwL m i l).length = l.length := by
  by_cases h : RefOk m i l
  · rw [refwL_yes h, reflL_len]
  · rw [refwL_no h]
/-! ### A word that acts -/
def actW (m : List (List Int)) (ws : List Int) (l : List Int) : List Int := ws.foldr (fun i l => reflL m i.toNat l) l
theorem actW_len (m : List (List Int)) (ws l : List Int) : (actW m ws l).length = l.length := by
  induction ws with
  | nil => rfl
  | cons i ws ih => simp only [actW, List.foldr_cons] at ih ⊢; rw [reflL_len]; exact ih
theorem actW_step {m : List (List Int)} {ws l : List Int} {k : Nat} (h : k < ws.length) : reflL m (ws.getD k 0).toNat (actW m (ws.drop (k + 1)) l) = actW m (ws.drop k) l := by
  conv => rhs; rw [List.drop_eq_getElem_cons h]
  have e : ws.getD k 0 = ws[k] := by simp [List.getD, h]
  unfold actW
  rw [List.foldr_cons, e]
def ActOk (m : List (List Int)) (ws l : List Int) : Prop := IsW m ws ∧ l.length = m.length
open Classical in
noncomputable def actL (m : List (List Int)) (ws l : List Int) : List Int := if ActOk m ws l then actW m ws l else l
theorem actL_yes {m : List (List Int)} {ws l : List Int} (h : ActOk m ws l) : actL m ws l = actW m ws l := if_pos h
theorem actL_no {m : List (List Int)} {ws l : List Int} (h : ¬ ActOk m ws l) : actL m ws l = l := if_neg h
theorem actL_len (m : List (List Int)) (ws l : List Int) : (actL m ws l).length = l.length := by
  by_cases h : ActOk m ws l
  · rw [actL_yes h, actW_len]
  · rw [actL_no h]
/-! ### Ones, sums, columns -/
def onesR (n : Nat) : List Int := List.replicate n 1
theorem onesR_step (n : Nat) : onesR n ++ [1] = onesR (n + 1) := by simp [onesR, List.replicate_succ']
open Classical in
noncomputable def rhoL (m : List (List Int)) : List Int := if IsC m then onesR m.length else []
theorem rhoL_yes {m : List (List Int)} (h : IsC m) : rhoL m = onesR m.length := if_pos h
theorem rhoL_no {m : List (List Int)} (h : ¬ IsC m) : rhoL m = [] := if_neg h
theorem rhoL_len (m : List (List Int)) : (rhoL m).length ≤ 4 := by
  by_cases h : IsC m
  · rw [rhoL_yes h]; simp [onesR]; exact h.2.2.2
  · rw [rhoL_no h]; simp
def addK (a b : List Int) (k : Nat) : List Int := (List.range k).map fun j => addW (a.getD j 0) (b.getD j 0)
theorem addK_step (a b : List Int) (k : Nat) : addK a b k ++ [addW (a.getD k 0) (b.getD k 0)] = addK a b (k + 1) := by simp [addK, List.range_succ]
theorem addK_len (a b : List Int) (k : Nat) : (addK a b k).length = k := by simp [addK]
def addL (a b : List Int) : List Int := addK a b (min a.length b.length)
theorem addL_len (a b : List Int) : (addL a b).length ≤ a.length := by unfold addL; rw [addK_len]; exact Nat.min_le_left _ _
def colK (m : List (List Int)) (i k : Nat) : List Int := (List.range k).map fun j => entry m j i
theorem colK_step (m : List (List Int)) (i k : Nat) : colK m i k ++ [entry m k i] = colK m i (k + 1) := by simp [colK, List.range_succ]
theorem colK_len (m : List (List Int)) (i k : Nat) : (colK m i k).length = k := by simp [colK]
def PtOk (m : List (List Int)) (i : Int) : Prop := IsC m ∧ (0 ≤ i ∧ i ≤ (m.length : Int) - 1)
open Classical in
noncomputable def srwL (m : List (List Int)) (i : Int) : List Int := if PtOk m i then colK m i.toNat m.length else []
theorem srwL_yes {m : List (List Int)} {i : Int} (h : PtOk m i) : srwL m i = colK m i.toNat m.length := if_pos h
theorem srwL_no {m : List (List Int)} {i : Int} (h : ¬ PtOk m i) : srwL m i = [] := if_neg h
theorem srwL_len (m : List (List Int)) (i : Int) : (srwL m i).length ≤ 4 := by
  by_cases h : PtOk m i
  · rw [srwL_yes h, colK_len]; exact h.1.2.2.2
  · rw [srwL_no h]; simp
end Go.Proofs.Ytbmghddmilgngaa
namespace Go.Proofs.Ytbmghddmilgngaa
open Go.RowKit

def WtTo (l : List Int) (k : Nat) : Prop := ∀ j, j < k → -1000 ≤ l.getD j 0 ∧ l.getD j 0 ≤ 1000
theorem wtTo_zero (l : List Int) : WtTo l 0 := fun _ hj => absurd hj (Nat.not_lt_zero _)
theorem wtTo_step {k : Nat} {l : List Int} (h : WtTo l k) (hk : -1000 ≤ l.getD k 0 ∧ l.getD k 0 ≤ 1000) : WtTo l (k + 1) := fun j hj => by
  rcases Nat.lt_or_ge j k with h' | h'
  · exact h j h'
  · obtain rfl : j = k := by omega
    exact hk
def IsWt (c : List (List Int)) (l : List Int) : Prop := WtTo l l.length ∧ IsC c ∧ l.length = c.length
open Classical in
noncomputable def wtB (c : List (List Int)) (l : List Int) : Bool := decide (IsWt c l)
open Classical in
theorem wtB_yes {c : List (List Int)} {l : List Int} (h : IsWt c l) : wtB c l = true := decide_eq_true h
open Classical in
theorem wtB_no {c : List (List Int)} {l : List Int} (h : ¬ IsWt c l) : wtB c l = false := decide_eq_false h
theorem isWt_bad {c : List (List Int)} {l : List Int} {k : Nat} (hk : k < l.length) (h : ¬ (-1000 ≤ l.getD k 0 ∧ l.getD k 0 ≤ 1000)) : ¬ IsWt c l := fun h' => h (h'.1 k hk)
open Classical in
noncomputable def wtlB (l : List Int) : Bool := decide (WtTo l l.length)
open Classical in
theorem wtlB_yes {l : List Int} (h : WtTo l l.length) : wtlB l = true := decide_eq_true h
open Classical in
theorem wtlB_no {l : List Int} (h : ¬ WtTo l l.length) : wtlB l = false := decide_eq_false h
theorem wtB_is (m : List (List Int)) (l : List Int) : wtB m l = (isB m && decide (l.length = m.length) && wtlB l) := by
  by_cases hI : IsC m
  · by_cases h15 : l.length = m.length
    · by_cases hl : WtTo l l.length
      · rw [wtB_yes ⟨hl, hI, h15⟩, isB_yes hI, decide_eq_true h15, wtlB_yes hl]; rfl
      · rw [wtB_no (fun h => hl h.1), wtlB_no hl, Bool.and_false]
    · rw [wtB_no (fun h => h15 h.2.2), decide_eq_false h15, Bool.and_false, Bool.false_and]
  · rw [wtB_no (fun h => hI h.2.1), isB_no hI, Bool.false_and, Bool.false_and]
/-! ### A reflection in place: the first k numbers are new -/
def rflS (m : List (List Int)) (i : Nat) (l : List Int) (k : Nat) : List Int := reflK m i l k ++ l.drop k
theorem rflS_zero (m : List (List Int)) (i : Nat) (l : List Int) : rflS m i l 0 = l := by simp [rflS, reflK]
theorem rflS_len (m : List (List Int)) (i : Nat) (l : List Int) (k : Nat) (h : k ≤ l.length) : (rflS m i l k).length = l.length := by simp [rflS, reflK_len]; omega
theorem rflS_end (m : List (List Int)) (i : Nat) (l : List Int) : rflS m i l l.length = reflL m i l := by simp [rflS, reflL]
theorem rflS_get (m : List (List Int)) (i : Nat) (l : List Int) (k : Nat) (h : k < l.length) : (rflS m i l k)[k]? = some (l.getD k 0) := by
  unfold rflS
  rw [List.getElem?_append_right (by rw [reflK_len]; exact Nat.le_refl _), reflK_len, Nat.sub_self, List.getElem?_drop]
  simp [List.getD, h]
theorem rflS_step (m : List (List Int)) (i : Nat) (l : List Int) (k : Nat) (h : k < l.length) : (rflS m i l k).set k (reflE m i l k) = rflS m i l (k + 1) := by
  unfold rflS
  rw [List.set_append_right _ _ (by rw [reflK_len]; exact Nat.le_refl _), reflK_len, Nat.sub_self, List.drop_eq_getElem_cons h, List.set_cons_zero, ← reflK_step, List.append_assoc]
  rfl
end Go.Proofs.Ytbmghddmilgngaa
namespace Go.Proofs.Ytbmghddmilgngaa
open Go.RowKit

/-! ### Heights and signs -/
def hgtL (l : List Int) : Int := l.foldl addW 0
def hgtK (l : List Int) (k : Nat) : Int := hgtL (l.take k)
theorem hgtK_zero (l : List Int) : hgtK l 0 = 0 := rfl
theorem hgtK_all (l : List Int) : hgtK l l.length = hgtL l := by unfold hgtK; rw [List.take_length]
theorem hgtK_step {l : List Int} {k : Nat} (h : k < l.length) : hgtK l (k + 1) = addW (hgtK l k) (l.getD k 0) := by
  have e : l.getD k 0 = l[k] := by simp [List.getD, h]
  unfold hgtK hgtL
  rw [List.take_succ_eq_append_getElem h, List.foldl_append, e]; rfl
def upK (l : List Int) (k : Nat) : Bool := (l.take k).any fun x => decide (0 < x)
def downK (l : List Int) (k : Nat) : Bool := (l.take k).any fun x => decide (x < 0)
theorem upK_step {l : List Int} {k : Nat} (h : k < l.length) : upK l (k + 1) = (upK l k || decide (0 < l.getD k 0)) := by
  have e : l.getD k 0 = l[k] := by simp [List.getD, h]
  unfold upK; rw [List.take_succ_eq_append_getElem h, List.any_append, e]; simp
theorem downK_step {l : List Int} {k : Nat} (h : k < l.length) : downK l (k + 1) = (downK l k || decide (l.getD k 0 < 0)) := by
  have e : l.getD k 0 = l[k] := by simp [List.getD, h]
  unfold downK; rw [List.take_succ_eq_append_getElem h, List.any_append, e]; simp
def upL (l : List Int) : Bool := l.any fun x => decide (0 < x)
def downL (l : List Int) : Bool := l.any fun x => decide (x < 0)
theorem upK_all (l : List Int) : upK l l.length = upL l := by unfold upK; rw [List.take_length]; rfl
theorem downK_all (l : List Int) : downK l l.length = downL l := by unfold downK; rw [List.take_length]; rfl
def sgnL (l : List Int) : Int := if upL l = downL l then 0 else if upL l = true then 1 else -1
theorem sgn_pos {l : List Int} (h : 0 < sgnL l) : (∀ x ∈ l, 0 ≤ x) ∧ ∃ x ∈ l, 0 < x := by
  unfold sgnL at h
  have hu : upL l = true := by
    cases hu : upL l <;> cases hd : downL l <;> simp [hu, hd] at h ⊢
  have hd : downL l = false := by
    cases hd : downL l <;> simp [hu, hd] at h ⊢
  constructor
  · intro x hx
    unfold downL at hd
    rw [List.any_eq_false] at hd
    have := hd x hx
    simp at this; omega
  · unfold upL at hu
    rw [List.any_eq_true] at hu
    obtain ⟨x, hx, h0⟩ := hu
    exact ⟨x, hx, by simpa using h0⟩
/-! ### The order of roots -/
def gtL : List Int → List Int → Bool
  | x :: a, y :: b => if x = y then gtL a b else decide (y < x)
  | _, _ => false
def befB (a b : List Int) : Bool := if hgtL a = hgtL b then gtL a b else decide (hgtL a < hgtL b)
theorem gtL_irr (a : List Int) : gtL a a = false := by
  induction a with
  | nil => rfl
  | cons x a ih => simp [gtL, ih]
theorem gtL_trans : ∀ {a b c : List Int}, gtL a b = true → gtL b c = true → gtL a c = true
  | [], _, _, h, _ => by simp [gtL] at h
  | _ :: _, [], _, h, _ => by simp [gtL] at h
  | _ :: _, _ :: _, [], _, h => by simp [gtL] at h
  | x :: a, y :: b, z :: c, h1, h2 => by
    simp only [gtL] at h1 h2 ⊢
    by_cases e1 : x = y
    · rw [if_pos e1] at h1
      by_cases e2 : y = z
      · rw [if_pos e2] at h2
        rw [if_pos (e1.trans e2)]; exact gtL_trans h1 h2
      · rw [if_neg e2] at h2
        rw [if_neg (by rw [e1]; exact e2), e1]; exact h2
    · rw [if_neg e1] at h1
      have h1' := of_decide_eq_true h1
      by_cases e2 : y = z
      · rw [if_neg (by rw [← e2]; exact e1)]
        subst e2; exact h1
      · rw [if_neg e2] at h2
        have h2' := of_decide_eq_true h2
        rw [if_neg (by omega)]
        exact decide_eq_true (by omega)
theorem gtL_total : ∀ {a b : List Int}, a.length = b.length → a = b ∨ gtL a b = true ∨ gtL b a = true
  | [], [], _ => Or.inl rfl
  | [], _ :: _, h => by simp at h
  | _ :: _, [], h => by simp at h
  | x :: a, y :: b, h => by
    have h' : a.length = b.length := by simpa using h
    simp only [gtL]
    by_cases e : x = y
    · subst e
      simp only [if_pos]
      rcases gtL_total h' with h0 | h0 | h0
      · exact Or.inl (by rw [h0])
      · exact Or.inr (Or.inl h0)
      · exact Or.inr (Or.inr h0)
    · rw [if_neg e, if_neg (fun h => e h.symm)]
      rcases Int.lt_or_gt_of_ne e with h0 | h0
      · exact Or.inr (Or.inr (decide_eq_true h0))
      · exact Or.inr (Or.inl (decide_eq_true h0))
theorem bef_irr (a : List Int) : befB a a = false := by unfold befB; rw [if_pos rfl]; exact gtL_irr a
theorem bef_trans {a b c : List Int} (h1 : befB a b = true) (h2 : befB b c = true) : befB a c = true := by
  unfold befB at h1 h2 ⊢
  by_cases e1 : hgtL a = hgtL b
  · rw [if_pos e1] at h1
    by_cases e2 : hgtL b = hgtL c
    · rw [if_pos e2] at h2; rw [if_pos (e1.trans e2)]; exact gtL_trans h1 h2
    · rw [if_neg e2] at h2; rw [if_neg (by rw [e1]; exact e2), e1]; exact h2
  · rw [if_neg e1] at h1
    have h1' := of_decide_eq_true h1
    by_cases e2 : hgtL b = hgtL c
    · rw [if_neg (by rw [← e2]; exact e1), ← e2]; exact h1
    · rw [if_neg e2] at h2
      have h2' := of_decide_eq_true h2
      rw [if_neg (by omega)]; exact decide_eq_true (by omega)
theorem bef_total {a b : List Int} (h : a.length = b.length) : a = b ∨ befB a b = true ∨ befB b a = true := by
  unfold befB
  by_cases e : hgtL a = hgtL b
  · rw [if_pos e, if_pos e.symm]; exact gtL_total h
  · rw [if_neg e, if_neg (fun h => e h.symm)]
    rcases Int.lt_or_gt_of_ne e with h0 | h0
    · exact Or.inr (Or.inl (decide_eq_true h0))
    · exact Or.inr (Or.inr (decide_eq_true h0))
theorem bef_asym {a b : List Int} (h : befB a b = true) : befB b a = false := by
  cases h' : befB b a with
  | false => rfl
  | true => have := bef_trans h h'; rw [bef_irr] at this; exact absurd this (by simp)
/-! ### Lists in order -/
def Ordd (L : List (List Int)) : Prop := L.Pairwise fun a b => befB a b = true
theorem ordd_nodup {L : List (List Int)} (h : Ordd L) : L.Nodup := by
  refine List.Pairwise.imp ?_ h
  intro a b hab e
  subst e; rw [bef_irr] at hab; exact absurd hab (by simp)
/-- A list in order is known by its members. -/
theorem ordd_same : ∀ {A B : List (List Int)}, Ordd A → Ordd B → (∀ r, r ∈ A ↔ r ∈ B) → A = B
  | [], [], _, _, _ => rfl
  | [], b :: B, _, _, h => absurd ((h b).2 (List.mem_cons_self ..)) (by simp)
  | a :: A, [], _, _, h => absurd ((h a).1 (List.mem_cons_self ..)) (by simp)
  | a :: A, b :: B, hA, hB, h => by
    have hA' := List.pairwise_cons.1 hA
    have hB' := List.pairwise_cons.1 hB
    have hab : a = b := by
      rcases List.mem_cons.1 ((h a).1 (List.mem_cons_self ..)) with e | hm
      · exact e
      rcases List.mem_cons.1 ((h b).2 (List.mem_cons_self ..)) with e | hm'
      · exact e.symm
      have h1 := hB'.1 a hm
      have h2 := hA'.1 b hm'
      rw [bef_asym h1] at h2; exact absurd h2 (by simp)
    subst hab
    have hnA := (List.nodup_cons.1 (ordd_nodup hA)).1
    have hnB := (List.nodup_cons.1 (ordd_nodup hB)).1
    rw [ordd_same hA'.2 hB'.2 (fun r => ⟨fun hr => by
      rcases List.mem_cons.1 ((h r).1 (List.mem_cons_of_mem _ hr)) with e | hm
      · subst e; exact absurd hr hnA
      · exact hm, fun hr => by
      rcases List.mem_cons.1 ((h r).2 (List.mem_cons_of_mem _ hr)) with e | hm
      · subst e; exact absurd hr hnB
      · exact hm⟩)]
/-! ### A root put in its place -/
def putR (L : List (List Int)) (r : List Int) : List (List Int) := (L.takeWhile fun x => !befB r x) ++ r :: (L.dropWhile fun x => !befB r x)
theorem putR_len (L : List (List Int)) (r : List Int) : (putR L r).length = L.length + 1 := by
  unfold putR
  have h := congrArg List.length (List.takeWhile_append_dropWhile (p := fun x => !befB r x) (l := L))
  simp only [List.length_append, List.length_cons] at h ⊢; omega
theorem putR_mem (L : List (List Int)) (r x : List Int) : x ∈ putR L r ↔ x = r ∨ x ∈ L := by
  have h : x ∈ L ↔ x ∈ (L.takeWhile fun x => !befB r x) ++ (L.dropWhile fun x => !befB r x) := by rw [List.takeWhile_append_dropWhile]
  unfold putR
  rw [h]; simp only [List.mem_append, List.mem_cons]
  constructor
  · rintro (h1 | h1 | h1)
    · exact Or.inr (Or.inl h1)
    · exact Or.inl h1
    · exact Or.inr (Or.inr h1)
  · rintro (h1 | h1 | h1)
    · exact Or.inr (Or.inl h1)
    · exact Or.inl h1
    · exact Or.inr (Or.inr h1)
theorem putR_ordd {L : List (List Int)} {r : List Int} (h : Ordd L) (hn : r ∉ L) (hl : ∀ x ∈ L, x.length = r.length) : Ordd (putR L r) := by
  induction L with
  | nil => exact List.pairwise_singleton ..
  | cons a L ih =>
    have h' := List.pairwise_cons.1 h
    have hne : a ≠ r := fun e => hn (by rw [e]; exact List.mem_cons_self ..)
    cases hb : befB r a with
    | true =>
      have e : putR (a :: L) r = r :: a :: L := by simp [putR, hb]
      rw [e]
      refine List.pairwise_cons.2 ⟨fun x hx => ?_, h⟩
      rcases List.mem_cons.1 hx with e | hm
      · subst e; exact hb
      · exact bef_trans hb (h'.1 x hm)
    | false =>
      have e : putR (a :: L) r = a :: putR L r := by simp [putR, hb]
      rw [e]
      refine List.pairwise_cons.2 ⟨fun x hx => ?_, ih h'.2 (fun hm => hn (List.mem_cons_of_mem _ hm)) (fun x hx => hl x (List.mem_cons_of_mem _ hx))⟩
      rcases (putR_mem L r x).1 hx with e | hm
      · subst e
        rcases bef_total (hl a (List.mem_cons_self ..)) with e' | e' | e'
        · exact absurd e' hne
        · exact e'
        · rw [e'] at hb; exact absurd hb (by simp)
      · exact h'.1 x hm
/-! ### How many there are -/
def codL : List Int → Nat
  | [] => 0
  | x :: l => x.toNat * 13 ^ l.length + codL l
def Low (n : Nat) (l : List Int) : Prop := l.length = n ∧ ∀ x ∈ l, 0 ≤ x ∧ x ≤ 12
theorem cod_lt : ∀ {l : List Int}, (∀ x ∈ l, 0 ≤ x ∧ x ≤ 12) → codL l < 13 ^ l.length
  | [], _ => by simp [codL]
  | x :: l, h => by
    have h1 := cod_lt (l := l) (fun y hy => h y (List.mem_cons_of_mem _ hy))
    have h0 := h x (List.mem_cons_self ..)
    have h2 : x.toNat ≤ 12 := by omega
    have h3 : x.toNat * 13 ^ l.length ≤ 12 * 13 ^ l.length := Nat.mul_le_mul_right _ h2
    simp only [codL, List.length_cons, Nat.pow_succ]; omega
theorem cod_inj : ∀ {a b : List Int}, a.length = b.length → (∀ x ∈ a, 0 ≤ x ∧ x ≤ 12) → (∀ x ∈ b, 0 ≤ x ∧ x ≤ 12) → codL a = codL b → a = b
  | [], [], _, _, _, _ => rfl
  | [], _ :: _, h, _, _, _ => by simp at h
  | _ :: _, [], h, _, _, _ => by simp at h
  | x :: a, y :: b, h, ha, hb, e => by
    have h' : a.length = b.length := by simpa using h
    have ha1 := cod_lt (l := a) (fun y hy => ha y (List.mem_cons_of_mem _ hy))
    have hb1 := cod_lt (l := b) (fun y hy => hb y (List.mem_cons_of_mem _ hy))
    have hx := ha x (List.mem_cons_self ..)
    have hy := hb y (List.mem_cons_self ..)
    simp only [codL] at e
    rw [h'] at e ha1
    have hxy : x.toNat = y.toNat := by
      rcases Nat.lt_trichotomy x.toNat y.toNat with h0 | h0 | h0
      · have := Nat.mul_le_mul_right (13 ^ b.length) h0
        rw [Nat.succ_mul] at this; omega
      · exact h0
      · have := Nat.mul_le_mul_right (13 ^ b.length) h0
        rw [Nat.succ_mul] at this; omega
    rw [hxy] at e
    have e2 : codL a = codL b := by omega
    rw [cod_inj h' (fun y hy => ha y (List.mem_cons_of_mem _ hy)) (fun y hy => hb y (List.mem_cons_of_mem _ hy)) e2]
    congr 1; omega
theorem low_count {L : List (List Int)} {n : Nat} (hn : n ≤ 4) (h : L.Nodup) (hl : ∀ r ∈ L, Low n r) : L.length ≤ 28561 := by
  have hm : (L.map codL).Nodup := by
    unfold List.Nodup at h ⊢
    rw [List.pairwise_map]
    refine List.Pairwise.imp_of_mem ?_ h
    intro a b ha hb hne e
    exact hne (cod_inj ((hl a ha).1.trans (hl b hb).1.symm) (hl a ha).2 (hl b hb).2 e)
  have hs : ∀ x ∈ L.map codL, x ∈ List.range (13 ^ n) := by
    intro x hx
    obtain ⟨r, hr, rfl⟩ := List.mem_map.1 hx
    have := cod_lt (hl r hr).2
    rw [(hl r hr).1] at this
    exact List.mem_range.2 this
  have h1 := List.Nodup.length_le_of_subset hm hs
  rw [List.length_map, List.length_range] at h1
  have h2 : 13 ^ n ≤ 13 ^ 4 := Nat.pow_le_pow_right (by omega) hn
  exact Nat.le_trans h1 (by simpa using h2)
end Go.Proofs.Ytbmghddmilgngaa
