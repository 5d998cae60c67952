/-
  append(row, x) of a row that may be empty, told where the new row lies (the text of Min's law, alone).
  Roots: the order of roots, and that a list in that order is known by its members (no walk here).
  Roots: reflections of root vectors, and which roots are reached from the simple ones (no walk here).
-/
import Derived.Maps.AppendAt
import Derived.Test.YtnlbmnielemgiaaFl09
import Derived.Test.YtnlbmnielemgiaaFl04
namespace Go.Proofs.Ytnlbmnielemgiaa
open Go.RowKit

/-! ### append(row, x) where the row may be empty -/
set_option maxRecDepth 100000 in
theorem append_intP {ops : Array Oper} {rest : List Oper} {o : Oper} {a : Act} {Q : Exit → Act → World → Prop} {s x : Operand} {A q : Nat} {v : Value} {l : List Int} {wr : World}
    (hM : RowI A wr.heap.size wr v l) (hA : A ≤ wr.heap.size) (hq : q = wr.heap.size) (n : Int) (hgd : o.guard = none)
    (ho : o.op = .call { callee := .builtin .append, args := #[s, x], argTypes := #[25, 25] }) (hs : a.eval s = v)
    (hx : a.eval x = .slice (some ⟨q, 0, none⟩) 1 1) (hlen : l.length ≤ 4194304)
    (h : ∀ v' w', RowI A w'.heap.size w' v' (l ++ [n]) → wr.grownBy w' v.ownBlock → (∀ g, v'.ownBlock = some g → v.ownBlock = some g ∨ wr.heap.size ≤ g) → wpList Try.prog ops Q rest (a.put o.dst v') w') :
    wpList Try.prog ops Q (o :: rest) a (wr.alloc (.cells #[.int .i64 n] 3)) := by
  subst hq
  obtain ⟨h1, h2⟩ := hM
  obtain ⟨i0, hi, hz0, hz1, hz2⟩ := info_parts Try.infoInt
  have h1a := h1.alloc (.cells #[.int .i64 n] 3)
  have hnew : ∀ j u, [Value.int .i64 n][j]? = some u → (wr.alloc (.cells #[.int .i64 n] 3)).cell? ((⟨wr.heap.size, 0, none⟩ : Addr).add j) = some u := by
    intro j u hu
    match j, hu with
    | 0, hu =>
      simp at hu
      subst hu
      rw [Addr.add_lit, cell_of_row _ wr.heap.size 0 _ _ _ (MapKept.heap_alloc wr _).1]
      rfl
    | j + 1, hu => simp at hu
  have hone : ∀ u ∈ [Value.int .i64 n], u.oneCell' = true := by
    intro u hu
    simp at hu
    subst hu
    rfl
  have hlv : (intsV l).length = l.length := intsV_len l
  obtain ⟨v', w', hr, h3, h4, _⟩ := run_append_own (P := Try.prog) (wr.alloc (.cells #[.int .i64 n] 3)) A 25 o.type 3 i0 (.int .i64 0) 1 8 Try.underlying25 hi hz0 hz1 hz2 rfl (by omega) v l.length (intsV l) h1a ⟨wr.heap.size, 0, none⟩ 1 1 [.int .i64 n] rfl hnew hone (by unfold maxLen; omega) (by omega) (by simp; omega)
  have hloc : ∀ g, v'.ownBlock = some g → v.ownBlock = some g ∨ wr.heap.size ≤ g := by
    rcases h1.2 with ⟨rfl, he⟩ | ⟨g, cap, cur, rfl, hAg, hg, hn, hc, hsz, ht⟩
    · have hr2 := run_append_nil (P := Try.prog) (wr.alloc (.cells #[.int .i64 n] 3)) 25 o.type 3 i0 (.int .i64 0) Try.underlying25 hi hz0 ⟨wr.heap.size, 0, none⟩ 1 1 [.int .i64 n] (by rw [hz1]; rfl) hnew (by omega) (by omega) (by rw [hz2]; omega)
      rw [hr] at hr2
      injection hr2 with e1 e2
      subst e1
      intro g' hg'
      right
      have : (wr.alloc (.cells #[.int .i64 n] 3)).heap.size = g' := by simpa [Value.ownBlock] using hg'
      simp at this
      omega
    · have hga : (wr.alloc (.cells #[.int .i64 n] 3)).heap[g]? = some (.cells cur 3 (0, 0)) := by
        rw [(MapKept.heap_alloc wr _).2 g (Array.getElem?_eq_some_iff.1 hg).1]; exact hg
      by_cases hroom : l.length + 1 ≤ cap
      · have hr2 := run_append_room (P := Try.prog) (wr.alloc (.cells #[.int .i64 n] 3)) 25 o.type 3 i0 Try.underlying25 hi g l.length cap cur hga ⟨wr.heap.size, 0, none⟩ 1 1 [.int .i64 n] (by rw [hz1]; rfl) hnew hone hroom (by rw [hz1]; simp; omega)
        rw [hr] at hr2
        injection hr2 with e1 e2
        subst e1
        intro g' hg'
        exact Or.inl hg'
      · have hr2 := run_append_grow (P := Try.prog) (wr.alloc (.cells #[.int .i64 n] 3)) 25 o.type 3 i0 (.int .i64 0) Try.underlying25 hi hz0 ⟨g, 0, none⟩ l.length cap (intsV l) (by rw [hz1, hlv]; omega) (h1a.cells (g := g) rfl) ⟨wr.heap.size, 0, none⟩ 1 1 [.int .i64 n] (by rw [hz1]; rfl) hnew (by omega) (by omega) (growslice_fits (by omega) (by rw [hz2]; omega))
        rw [hr] at hr2
        injection hr2 with e1 e2
        subst e1
        intro g' hg'
        right
        have : (wr.alloc (.cells #[.int .i64 n] 3)).heap.size = g' := by simpa [Value.ownBlock] using hg'
        simp at this
        omega
  refine Lib.wpList_append_run _ hgd s x 25 25 ho _ _ hs hx v' w' hr ?_
  refine h v' w' ⟨?_, fun g hgg => (h3.lt g hgg).2⟩ ⟨h4.os, h4.tape, h4.output, by have := h4.size; simp at this; omega, fun k hk hn => ?_⟩ hloc
  · have e : intsV l ++ [.int .i64 n] = intsV (l ++ [n]) := by simp [intsV]
    rw [e] at h3
    rw [List.length_append]
    exact h3
  · rw [h4.block k (by simp; omega) hn]
    exact (MapKept.heap_alloc wr _).2 k hk
end Go.Proofs.Ytnlbmnielemgiaa
namespace Go.Proofs.Ytnlbmnielemgiaa
open Go.RowKit

/-! ### Heights and signs -/
def hgtL (l : List Int) : Int := l.foldl addW 0
def hgtK (l : List Int) (k : Nat) : Int := hgtL (l.take k)
theorem hgtK_zero (l : List Int) : hgtK l 0 = 0 := rfl
theorem hgtK_all (l : List Int) : hgtK l l.length = hgtL l := by unfold hgtK; rw [List.take_length]
theorem hgtK_step {l : List Int} {k : Nat} (h : k < l.length) : hgtK l (k + 1) = addW (hgtK l k) (l.getD k 0) := by
  have e : l.getD k 0 = l[k] := by simp [List.getD, h]
  unfold hgtK hgtL
  rw [List.take_succ_eq_append_getElem h, List.foldl_append, e]; rfl
def upK (l : List Int) (k : Nat) : Bool := (l.take k).any fun x => decide (0 < x)
def downK (l : List Int) (k : Nat) : Bool := (l.take k).any fun x => decide (x < 0)
theorem upK_step {l : List Int} {k : Nat} (h : k < l.length) : upK l (k + 1) = (upK l k || decide (0 < l.getD k 0)) := by
  have e : l.getD k 0 = l[k] := by simp [List.getD, h]
  unfold upK; rw [List.take_succ_eq_append_getElem h, List.any_append, e]; simp
theorem downK_step {l : List Int} {k : Nat} (h : k < l.length) : downK l (k + 1) = (downK l k || decide (l.getD k 0 < 0)) := by
  have e : l.getD k 0 = l[k] := by simp [List.getD, h]
  unfold downK; rw [List.take_succ_eq_append_getElem h, List.any_append, e]; simp
def upL (l : List Int) : Bool := l.any fun x => decide (0 < x)
def downL (l : List Int) : Bool := l.any fun x => decide (x < 0)
theorem upK_all (l : List Int) : upK l l.length = upL l := by unfold upK; rw [List.take_length]; rfl
theorem downK_all (l : List Int) : downK l l.length = downL l := by unfold downK; rw [List.take_length]; rfl
def sgnL (l : List Int) : Int := if upL l = downL l then 0 else if upL l = true then 1 else -1
theorem sgn_pos {l : List Int} (h : 0 < sgnL l) : (∀ x ∈ l, 0 ≤ x) ∧ ∃ x ∈ l, 0 < x := by
  unfold sgnL at h
  have hu : upL l = true := by
    cases hu : upL l <;> cases hd : downL l <;> simp [hu, hd] at h ⊢
  have hd : downL l = false := by
    cases hd : downL l <;> simp [hu, hd] at h ⊢
  constructor
  · intro x hx
    unfold downL at hd
    rw [List.any_eq_false] at hd
    have := hd x hx
    simp at this; omega
  · unfold upL at hu
    rw [List.any_eq_true] at hu
    obtain ⟨x, hx, h0⟩ := hu
    exact ⟨x, hx, by simpa using h0⟩
/-! ### The order of roots -/
def gtL : List Int → List Int → Bool
  | x :: a, y :: b => if x = y then gtL a b else decide (y < x)
  | _, _ => false
def befB (a b : List Int) : Bool := if hgtL a = hgtL b then gtL a b else decide (hgtL a < hgtL b)
theorem gtL_irr (a : List Int) : gtL a a = false := by
  induction a with
  | nil => rfl
  | cons x a ih => simp [gtL, ih]
theorem gtL_trans : ∀ {a b c : List Int}, gtL a b = true → gtL b c = true → gtL a c = true
  | [], _, _, h, _ => by simp [gtL] at h
  | _ :: _, [], _, h, _ => by simp [gtL] at h
  | _ :: _, _ :: _, [], _, h => by simp [gtL] at h
  | x :: a, y :: b, z :: c, h1, h2 => by
    simp only [gtL] at h1 h2 ⊢
    by_cases e1 : x = y
    · rw [if_pos e1] at h1
      by_cases e2 : y = z
      · rw [if_pos e2] at h2
        rw [if_pos (e1.trans e2)]; exact gtL_trans h1 h2
      · rw [if_neg e2] at h2
        rw [if_neg (by rw [e1]; exact e2), e1]; exact h2
    · rw [if_neg e1] at h1
      have h1' := of_decide_eq_true h1
      by_cases e2 : y = z
      · rw [if_neg (by rw [← e2]; exact e1)]
        subst e2; exact h1
      · rw [if_neg e2] at h2
        have h2' := of_decide_eq_true h2
        rw [if_neg (by omega)]
        exact decide_eq_true (by omega)
theorem gtL_total : ∀ {a b : List Int}, a.length = b.length → a = b ∨ gtL a b = true ∨ gtL b a = true
  | [], [], _ => Or.inl rfl
  | [], _ :: _, h => by simp at h
  | _ :: _, [], h => by simp at h
  | x :: a, y :: b, h => by
    have h' : a.length = b.length := by simpa using h
    simp only [gtL]
    by_cases e : x = y
    · subst e
      simp only [if_pos]
      rcases gtL_total h' with h0 | h0 | h0
      · exact Or.inl (by rw [h0])
      · exact Or.inr (Or.inl h0)
      · exact Or.inr (Or.inr h0)
    · rw [if_neg e, if_neg (fun h => e h.symm)]
      rcases Int.lt_or_gt_of_ne e with h0 | h0
      · exact Or.inr (Or.inr (decide_eq_true h0))
      · exact Or.inr (Or.inl (decide_eq_true h0))
theorem bef_irr (a : List Int) : befB a a = false := by unfold befB; rw [if_pos rfl]; exact gtL_irr a
theorem bef_trans {a b c : List Int} (h1 : befB a b = true) (h2 : befB b c = true) : befB a c = true := by
  unfold befB at h1 h2 ⊢
  by_cases e1 : hgtL a = hgtL b
  · rw [if_pos e1] at h1
    by_cases e2 : hgtL b = hgtL c
    · rw [if_pos e2] at h2; rw [if_pos (e1.trans e2)]; exact gtL_trans h1 h2
    · rw [if_neg e2] at h2; rw [if_neg (by rw [e1]; exact e2), e1]; exact h2
  · rw [if_neg e1] at h1
    have h1' := of_decide_eq_true h1
    by_cases e2 : hgtL b = hgtL c
    · rw [if_neg (by rw [← e2]; exact e1), ← e2]; exact h1
    · rw [if_neg e2] at h2
      have h2' := of_decide_eq_true h2
      rw [if_neg (by omega)]; exact decide_eq_true (by omega)
theorem bef_total {a b : List Int} (h : a.length = b.length) : a = b ∨ befB a b = true ∨ befB b a = true := by
  unfold befB
  by_cases e : hgtL a = hgtL b
  · rw [if_pos e, if_pos e.symm]; exact gtL_total h
  · rw [if_neg e, if_neg (fun h => e h.symm)]
    rcases Int.lt_or_gt_of_ne e with h0 | h0
    · exact Or.inr (Or.inl (decide_eq_true h0))
    · exact Or.inr (Or.inr (decide_eq_true h0))
theorem bef_asym {a b : List Int} (h : befB a b = true) : befB b a = false := by
  cases h' : befB b a with
  | false => rfl
  | true => have := bef_trans h h'; rw [bef_irr] at this; exact absurd this (by simp)
/-! ### Lists in order -/
def Ordd (L : List (List Int)) : Prop := L.Pairwise fun a b => befB a b = true
theorem ordd_nodup {L : List (List Int)} (h : Ordd L) : L.Nodup := by
  refine List.Pairwise.imp ?_ h
  intro a b hab e
  subst e; rw [bef_irr] at hab; exact absurd hab (by simp)
/-- A list in order is known by its members. -/
theorem ordd_same : ∀ {A B : List (List Int)}, Ordd A → Ordd B → (∀ r, r ∈ A ↔ r ∈ B) → A = B
  | [], [], _, _, _ => rfl
  | [], b :: B, _, _, h => absurd ((h b).2 (List.mem_cons_self ..)) (by simp)
  | a :: A, [], _, _, h => absurd ((h a).1 (List.mem_cons_self ..)) (by simp)
  | a :: A, b :: B, hA, hB, h => by
    have hA' := List.pairwise_cons.1 hA
    have hB' := List.pairwise_cons.1 hB
    have hab : a = b := by
      rcases List.mem_cons.1 ((h a).1 (List.mem_cons_self ..)) with e | hm
      · exact e
      rcases List.mem_cons.1 ((h b).2 (List.mem_cons_self ..)) with e | hm'
      · exact e.symm
      have h1 := hB'.1 a hm
      have h2 := hA'.1 b hm'
      rw [bef_asym h1] at h2; exact absurd h2 (by simp)
    subst hab
    have hnA := (List.nodup_cons.1 (ordd_nodup hA)).1
    have hnB := (List.nodup_cons.1 (ordd_nodup hB)).1
    rw [ordd_same hA'.2 hB'.2 (fun r => ⟨fun hr => by
      rcases List.mem_cons.1 ((h r).1 (List.mem_cons_of_mem _ hr)) with e | hm
      · subst e; exact absurd hr hnA
      · exact hm, fun hr => by
      rcases List.mem_cons.1 ((h r).2 (List.mem_cons_of_mem _ hr)) with e | hm
      · subst e; exact absurd hr hnB
      · exact hm⟩)]
/-! ### A root put in its place -/
def putR (L : List (List Int)) (r : List Int) : List (List Int) := (L.takeWhile fun x => !befB r x) ++ r :: (L.dropWhile fun x => !befB r x)
theorem putR_len (L : List (List Int)) (r : List Int) : (putR L r).length = L.length + 1 := by
  unfold putR
  have h := congrArg List.length (List.takeWhile_append_dropWhile (p := fun x => !befB r x) (l := L))
  simp only [List.length_append, List.length_cons] at h ⊢; omega
theorem putR_mem (L : List (List Int)) (r x : List Int) : x ∈ putR L r ↔ x = r ∨ x ∈ L := by
  have h : x ∈ L ↔ x ∈ (L.takeWhile fun x => !befB r x) ++ (L.dropWhile fun x => !befB r x) := by rw [List.takeWhile_append_dropWhile]
  unfold putR
  rw [h]; simp only [List.mem_append, List.mem_cons]
  constructor
  · rintro (h1 | h1 | h1)
    · exact Or.inr (Or.inl h1)
    · exact Or.inl h1
    · exact Or.inr (Or.inr h1)
  · rintro (h1 | h1 | h1)
    · exact Or.inr (Or.inl h1)
    · exact Or.inl h1
    · exact Or.inr (Or.inr h1)
theorem putR_ordd {L : List (List Int)} {r : List Int} (h : Ordd L) (hn : r ∉ L) (hl : ∀ x ∈ L, x.length = r.length) : Ordd (putR L r) := by
  induction L with
  | nil => exact List.pairwise_singleton ..
  | cons a L ih =>
    have h' := List.pairwise_cons.1 h
    have hne : a ≠ r := fun e => hn (by rw [e]; exact List.mem_cons_self ..)
    cases hb : befB r a with
    | true =>
      have e : putR (a :: L) r = r :: a :: L := by simp [putR, hb]
      rw [e]
      refine List.pairwise_cons.2 ⟨fun x hx => ?_, h⟩
      rcases List.mem_cons.1 hx with e | hm
      · subst e; exact hb
      · exact bef_trans hb (h'.1 x hm)
    | false =>
      have e : putR (a :: L) r = a :: putR L r := by simp [putR, hb]
      rw [e]
      refine List.pairwise_cons.2 ⟨fun x hx => ?_, ih h'.2 (fun hm => hn (List.mem_cons_of_mem _ hm)) (fun x hx => hl x (List.mem_cons_of_mem _ hx))⟩
      rcases (putR_mem L r x).1 hx with e | hm
      · subst e
        rcases bef_total (hl a (List.mem_cons_self ..)) with e' | e' | e'
        · exact absurd e' hne
        · exact e'
        · rw [e'] at hb; exact absurd hb (by simp)
      · exact h'.1 x hm
/-! ### How many there are -/
def codL : List Int → Nat
  | [] => 0
  | x :: l => x.toNat * 13 ^ l.length + codL l
def Low (n : Nat) (l : List Int) : Prop := l.length = n ∧ ∀ x ∈ l, 0 ≤ x ∧ x ≤ 12
theorem cod_lt : ∀ {l : List Int}, (∀ x ∈ l, 0 ≤ x ∧ x ≤ 12) → codL l < 13 ^ l.length
  | [], _ => by simp [codL]
  | x :: l, h => by
    have h1 := cod_lt (l := l) (fun y hy => h y (List.mem_cons_of_mem _ hy))
    have h0 := h x (List.mem_cons_self ..)
    have h2 : x.toNat ≤ 12 := by omega
    have h3 : x.toNat * 13 ^ l.length ≤ 12 * 13 ^ l.length := Nat.mul_le_mul_right _ h2
    simp only [codL, List.length_cons, Nat.pow_succ]; omega
theorem cod_inj : ∀ {a b : List Int}, a.length = b.length → (∀ x ∈ a, 0 ≤ x ∧ x ≤ 12) → (∀ x ∈ b, 0 ≤ x ∧ x ≤ 12) → codL a = codL b → a = b
  | [], [], _, _, _, _ => rfl
  | [], _ :: _, h, _, _, _ => by simp at h
  | _ :: _, [], h, _, _, _ => by simp at h
  | x :: a, y :: b, h, ha, hb, e => by
    have h' : a.length = b.length := by simpa using h
    have ha1 := cod_lt (l := a) (fun y hy => ha y (List.mem_cons_of_mem _ hy))
    have hb1 := cod_lt (l := b) (fun y hy => hb y (List.mem_cons_of_mem _ hy))
    have hx := ha x (List.mem_cons_self ..)
    have hy := hb y (List.mem_cons_self ..)
    simp only [codL] at e
    rw [h'] at e ha1
    have hxy : x.toNat = y.toNat := by
      rcases Nat.lt_trichotomy x.toNat y.toNat with h0 | h0 | h0
      · have := Nat.mul_le_mul_right (13 ^ b.length) h0
        rw [Nat.succ_mul] at this; omega
      · exact h0
      · have := Nat.mul_le_mul_right (13 ^ b.length) h0
        rw [Nat.succ_mul] at this; omega
    rw [hxy] at e
    have e2 : codL a = codL b := by omega
    rw [cod_inj h' (fun y hy => ha y (List.mem_cons_of_mem _ hy)) (fun y hy => hb y (List.mem_cons_of_mem _ hy)) e2]
    congr 1; omega
theorem low_count {L : List (List Int)} {n : Nat} (hn : n ≤ 4) (h : L.Nodup) (hl : ∀ r ∈ L, Low n r) : L.length ≤ 28561 := by
  have hm : (L.map codL).Nodup := by
    unfold List.Nodup at h ⊢
    rw [List.pairwise_map]
    refine List.Pairwise.imp_of_mem ?_ h
    intro a b ha hb hne e
    exact hne (cod_inj ((hl a ha).1.trans (hl b hb).1.symm) (hl a ha).2 (hl b hb).2 e)
  have hs : ∀ x ∈ L.map codL, x ∈ List.range (13 ^ n) := by
    intro x hx
    obtain ⟨r, hr, rfl⟩ := List.mem_map.1 hx
    have := cod_lt (hl r hr).2
    rw [(hl r hr).1] at this
    exact List.mem_range.2 this
  have h1 := List.Nodup.length_le_of_subset hm hs
  rw [List.length_map, List.length_range] at h1
  have h2 : 13 ^ n ≤ 13 ^ 4 := Nat.pow_le_pow_right (by omega) hn
  exact Nat.le_trans h1 (by simpa using h2)
end Go.Proofs.Ytnlbmnielemgiaa
namespace Go.Proofs.Ytnlbmnielemgiaa
open Go.RowKit

/-! ### The pairing of a simple coroot with a root vector -/
def prK (m : List (List Int)) (i : Nat) (l : List Int) : Nat → Int
  | 0 => 0
  | k + 1 => addW (prK m i l k) (mulW (entry m i k) (l.getD k 0))
def rflR (m : List (List Int)) (i : Nat) (l : List Int) : List Int := l.set i (subW (l.getD i 0) (prK m i l l.length))
theorem rflR_len (m : List (List Int)) (i : Nat) (l : List Int) : (rflR m i l).length = l.length := by simp [rflR]
open Classical in
noncomputable def refR (m : List (List Int)) (i : Int) (l : List Int) : List Int := if RefOk m i l then rflR m i.toNat l else l
theorem refR_yes {m : List (List Int)} {i : Int} {l : List Int} (h : RefOk m i l) : refR m i l = rflR m i.toNat l := if_pos h
theorem refR_no {m : List (List Int)} {i : Int} {l : List Int} (h : ¬ RefOk m i l) : refR m i l = l := if_neg h
def actRW (m : List (List Int)) (ws : List Int) (l : List Int) : List Int := ws.foldr (fun i l => rflR m i.toNat l) l
theorem actRW_len (m : List (List Int)) (ws l : List Int) : (actRW m ws l).length = l.length := by
  induction ws with
  | nil => rfl
  | cons i ws ih => simp only [actRW, List.foldr_cons] at ih ⊢; rw [rflR_len]; exact ih
theorem actRW_step {m : List (List Int)} {ws l : List Int} {k : Nat} (h : k < ws.length) : rflR m (ws.getD k 0).toNat (actRW m (ws.drop (k + 1)) l) = actRW m (ws.drop k) l := by
  conv => rhs; rw [List.drop_eq_getElem_cons h]
  have e : ws.getD k 0 = ws[k] := by simp [List.getD, h]
  unfold actRW
  rw [List.foldr_cons, e]
open Classical in
noncomputable def actR (m : List (List Int)) (ws l : List Int) : List Int := if ActOk m ws l then actRW m ws l else l
theorem actR_yes {m : List (List Int)} {ws l : List Int} (h : ActOk m ws l) : actR m ws l = actRW m ws l := if_pos h
theorem actR_no {m : List (List Int)} {ws l : List Int} (h : ¬ ActOk m ws l) : actR m ws l = l := if_neg h
def wrtK (m : List (List Int)) (l : List Int) (k : Nat) : List Int := (List.range k).map fun j => prK m j l m.length
theorem wrtK_len (m : List (List Int)) (l : List Int) (k : Nat) : (wrtK m l k).length = k := by simp [wrtK]
theorem wrtK_step (m : List (List Int)) (l : List Int) (k : Nat) : wrtK m l k ++ [prK m k l m.length] = wrtK m l (k + 1) := by simp [wrtK, List.range_succ]
open Classical in
noncomputable def wrtL (m : List (List Int)) (l : List Int) : List Int := if IsC m ∧ l.length = m.length then wrtK m l m.length else []
theorem wrtL_yes {m : List (List Int)} {l : List Int} (h : IsC m ∧ l.length = m.length) : wrtL m l = wrtK m l m.length := if_pos h
theorem wrtL_no {m : List (List Int)} {l : List Int} (h : ¬ (IsC m ∧ l.length = m.length)) : wrtL m l = [] := if_neg h
/-! ### Simple roots -/
def unitR (n i : Nat) : List Int := (List.replicate n 0).set i 1
theorem unitR_len (n i : Nat) : (unitR n i).length = n := by simp [unitR]
open Classical in
noncomputable def simR (m : List (List Int)) (i : Int) : List Int := if IsC m ∧ 0 ≤ i ∧ i ≤ (m.length : Int) - 1 then unitR m.length i.toNat else []
theorem simR_yes {m : List (List Int)} {i : Int} (h : IsC m ∧ 0 ≤ i ∧ i ≤ (m.length : Int) - 1) : simR m i = unitR m.length i.toNat := if_pos h
theorem simR_no {m : List (List Int)} {i : Int} (h : ¬ (IsC m ∧ 0 ≤ i ∧ i ≤ (m.length : Int) - 1)) : simR m i = [] := if_neg h
/-! ### Small numbers don't wrap -/
theorem wrap_small {x : Int} (h : -1000000 ≤ x ∧ x ≤ 1000000) : wrap64 x = x := by unfold wrap64; omega
theorem hgt_fold : ∀ {l : List Int} {a B : Int}, 0 ≤ B → B ≤ 100000 → (∀ x ∈ l, -B ≤ x ∧ x ≤ B) → -(8 - l.length) * B ≤ a → a ≤ (8 - l.length) * B → l.length ≤ 4 → l.foldl addW a = a + l.sum
  | [], a, _, _, _, _, _, _, _ => by simp
  | x :: l, a, B, h0, hB, h, h1, h2, h4 => by
    have hx := h x (List.mem_cons_self ..)
    have hl : l.length ≤ 3 := by simpa using h4
    have e7 : ((x :: l).length : Int) = l.length + 1 := by simp
    rw [e7] at h1 h2
    have hc : l.length = 0 ∨ l.length = 1 ∨ l.length = 2 ∨ l.length = 3 := by omega
    have e : addW a x = a + x := by
      unfold addW
      refine wrap_small ?_
      rcases hc with e | e | e | e <;> rw [e] at h1 h2 <;> simp at h1 h2 <;> omega
    rw [List.foldl_cons, e, hgt_fold h0 hB (fun y hy => h y (List.mem_cons_of_mem _ hy)) ?_ ?_ (by omega)]
    · simp only [List.sum_cons]; omega
    · rcases hc with e | e | e | e <;> rw [e] at h1 h2 ⊢ <;> simp at h1 h2 ⊢ <;> omega
    · rcases hc with e | e | e | e <;> rw [e] at h1 h2 ⊢ <;> simp at h1 h2 ⊢ <;> omega
theorem hgt_sum {l : List Int} (h : ∀ x ∈ l, -100000 ≤ x ∧ x ≤ 100000) (h4 : l.length ≤ 4) : hgtL l = l.sum := by
  unfold hgtL
  rw [hgt_fold (B := 100000) (by omega) (by omega) h (by omega) (by omega) h4, Int.zero_add]
theorem le_sum : ∀ {l : List Int}, (∀ x ∈ l, 0 ≤ x) → 0 ≤ l.sum ∧ ∀ x ∈ l, x ≤ l.sum
  | [], _ => ⟨by simp, fun x hx => absurd hx (by simp)⟩
  | y :: l, h => by
    have h1 := le_sum (l := l) (fun x hx => h x (List.mem_cons_of_mem _ hx))
    have hy := h y (List.mem_cons_self ..)
    simp only [List.sum_cons]
    refine ⟨by omega, fun x hx => ?_⟩
    rcases List.mem_cons.1 hx with e | hm
    · omega
    · have := h1.2 x hm; omega
theorem low_getD {n : Nat} {l : List Int} (h : Low n l) (k : Nat) : 0 ≤ l.getD k 0 ∧ l.getD k 0 ≤ 12 := by
  rcases Nat.lt_or_ge k l.length with hk | hk
  · have e : l.getD k 0 = l[k] := by simp [List.getD, hk]
    rw [e]; exact h.2 _ (List.getElem_mem hk)
  · have e : l.getD k 0 = 0 := by simp [List.getD, hk]
    rw [e]; omega
theorem ent_in {m : List (List Int)} (h : IsC m) {i j : Nat} (hi : i < m.length) (hj : j < m.length) : -3 ≤ entry m i j ∧ entry m i j ≤ 2 := by
  by_cases hn : i = j
  · subst hn
    have := h.2.1 i i hi hi
    simp [okC] at this; omega
  · have := isc_in h hi hj hn; omega
theorem prK_in {m : List (List Int)} {i : Nat} {l : List Int} (h : IsC m) (hi : i < m.length) (hl : Low m.length l) : ∀ k, k ≤ m.length → -(36 * (k : Int)) ≤ prK m i l k ∧ prK m i l k ≤ 36 * (k : Int)
  | 0, _ => by simp [prK]
  | k + 1, hk => by
    have h1 := prK_in h hi hl k (by omega)
    have h2 := ent_in h hi (show k < m.length by omega)
    have h3 := low_getD hl k
    have h4 := h.2.2.2
    have h5 : -36 ≤ entry m i k * l.getD k 0 ∧ entry m i k * l.getD k 0 ≤ 24 := by
      have hc : entry m i k = -3 ∨ entry m i k = -2 ∨ entry m i k = -1 ∨ entry m i k = 0 ∨ entry m i k = 1 ∨ entry m i k = 2 := by omega
      rcases hc with e | e | e | e | e | e <;> rw [e] <;> omega
    have e1 : mulW (entry m i k) (l.getD k 0) = entry m i k * l.getD k 0 := wrap_small (by omega)
    have e2 : prK m i l (k + 1) = prK m i l k + entry m i k * l.getD k 0 := by
      simp only [prK]; rw [e1]; exact wrap_small (by omega)
    rw [e2]; omega
theorem rflR_in {m : List (List Int)} {i : Nat} {l : List Int} (h : IsC m) (hi : i < m.length) (hl : Low m.length l) : ∀ x ∈ rflR m i l, -100000 ≤ x ∧ x ≤ 100000 := by
  intro x hx
  have h4 := h.2.2.2
  have h1 := prK_in h hi hl m.length (Nat.le_refl _)
  have h2 := low_getD hl i
  unfold rflR at hx
  rcases List.mem_or_eq_of_mem_set hx with hm | e
  · have := hl.2 x hm; omega
  · rw [hl.1] at e
    have e1 : subW (l.getD i 0) (prK m i l m.length) = l.getD i 0 - prK m i l m.length := wrap_small (by omega)
    rw [e, e1]; omega
/-! ### Roots that are reached -/
inductive Asc (m : List (List Int)) (h : Int) : List Int → Prop
  | base (i : Nat) : i < m.length → Asc m h (unitR m.length i)
  | step (r : List Int) (i : Nat) : Asc m h r → i < m.length → 0 < sgnL (rflR m i r) → hgtL (rflR m i r) ≤ h → hgtL r < hgtL (rflR m i r) → Asc m h (rflR m i r)
theorem unitR_mem {n i : Nat} {x : Int} (h : x ∈ unitR n i) : x = 0 ∨ x = 1 := by
  unfold unitR at h
  rcases List.mem_or_eq_of_mem_set h with hm | e
  · exact Or.inl (List.eq_of_mem_replicate hm)
  · exact Or.inr e
theorem asc_low {m : List (List Int)} {h : Int} (hC : IsC m) (h12 : h ≤ 12) {r : List Int} (hr : Asc m h r) : Low m.length r := by
  induction hr with
  | base i hi =>
    refine ⟨unitR_len _ _, fun x hx => ?_⟩
    rcases unitR_mem hx with e | e <;> rw [e] <;> omega
  | step r i _ hi hs hh _ ih =>
    have hin := rflR_in hC hi ih
    have h4 := hC.2.2.2
    have hlen : (rflR m i r).length = m.length := by rw [rflR_len]; exact ih.1
    have hp := (sgn_pos hs).1
    rw [hgt_sum hin (by omega)] at hh
    refine ⟨hlen, fun x hx => ⟨hp x hx, ?_⟩⟩
    have := (le_sum hp).2 x hx; omega
/-- A list of roots, closed up to place k (and there up to letter i). -/
structure RtI (m : List (List Int)) (h : Int) (L : List (List Int)) (k i : Nat) : Prop where
  ordd : Ordd L
  sub : ∀ r ∈ L, Asc m h r
  base : ∀ j, j < m.length → unitR m.length j ∈ L
  done : ∀ k' j, k' < k → k' < L.length → j < m.length → 0 < sgnL (rflR m j (L.getD k' [])) → hgtL (rflR m j (L.getD k' [])) ≤ h → hgtL (L.getD k' []) < hgtL (rflR m j (L.getD k' [])) → rflR m j (L.getD k' []) ∈ L
  now : ∀ j, k < L.length → j < i → j < m.length → 0 < sgnL (rflR m j (L.getD k [])) → hgtL (rflR m j (L.getD k [])) ≤ h → hgtL (L.getD k []) < hgtL (rflR m j (L.getD k [])) → rflR m j (L.getD k []) ∈ L
def IsRoots (m : List (List Int)) (h : Int) (L : List (List Int)) : Prop := Ordd L ∧ ∀ r, r ∈ L ↔ Asc m h r
theorem isRoots_same {m : List (List Int)} {h : Int} {A B : List (List Int)} (hA : IsRoots m h A) (hB : IsRoots m h B) : A = B := ordd_same hA.1 hB.1 fun r => (hA.2 r).trans (hB.2 r).symm
theorem rtI_end {m : List (List Int)} {h : Int} {L : List (List Int)} {k : Nat} (hI : RtI m h L k 0) (hk : L.length ≤ k) : IsRoots m h L := by
  refine ⟨hI.ordd, fun r => ⟨hI.sub r, fun hr => ?_⟩⟩
  induction hr with
  | base i hi => exact hI.base i hi
  | step r i _ hi hs hh hg ih =>
    obtain ⟨k', hk', e⟩ := List.getElem_of_mem ih
    have e' : L.getD k' [] = r := by simp [List.getD, hk', e]
    have := hI.done k' i (by omega) hk' hi
    rw [e'] at this
    exact this hs hh hg
theorem rtI_turn {m : List (List Int)} {h : Int} {L : List (List Int)} {k : Nat} (hI : RtI m h L k m.length) : RtI m h L (k + 1) 0 :=
  ⟨hI.ordd, hI.sub, hI.base, fun k' j h1 h2 h3 => by
    rcases Nat.lt_or_ge k' k with h0 | h0
    · exact hI.done k' j h0 h2 h3
    · obtain rfl : k' = k := by omega
      exact hI.now j h2 h3 h3, fun _ _ hj => absurd hj (Nat.not_lt_zero _)⟩
theorem rtI_skip {m : List (List Int)} {h : Int} {L : List (List Int)} {k i : Nat} (hI : RtI m h L k i) (hn : ¬ (0 < sgnL (rflR m i (L.getD k [])) ∧ hgtL (rflR m i (L.getD k [])) ≤ h ∧ rflR m i (L.getD k []) ∉ L ∧ hgtL (L.getD k []) < hgtL (rflR m i (L.getD k [])))) : RtI m h L k (i + 1) :=
  ⟨hI.ordd, hI.sub, hI.base, hI.done, fun j h1 h2 h3 h4 h5 h6 => by
    rcases Nat.lt_or_ge j i with h0 | h0
    · exact hI.now j h1 h0 h3 h4 h5 h6
    · obtain rfl : j = i := by omega
      exact Classical.byContradiction fun hm => hn ⟨h4, h5, hm, h6⟩⟩
theorem ordd_hgt {L : List (List Int)} (h : Ordd L) {a b : Nat} (hab : a ≤ b) (hb : b < L.length) : hgtL (L.getD a []) ≤ hgtL (L.getD b []) := by
  rcases Nat.eq_or_lt_of_le hab with e | hlt
  · rw [e]; exact Int.le_refl _
  · have := List.pairwise_iff_getElem.1 h a b (by omega) hb hlt
    have ea : L.getD a [] = L[a] := by simp [List.getD, show a < L.length by omega]
    have eb : L.getD b [] = L[b] := by simp [List.getD, hb]
    rw [ea, eb]
    unfold befB at this
    by_cases e : hgtL L[a] = hgtL L[b]
    · omega
    · rw [if_neg e] at this
      have := of_decide_eq_true this; omega
theorem takeWhile_front {R : List (List Int)} {p : List Int → Bool} : ∀ {L : List (List Int)} {k : Nat}, (∀ j, j ≤ k → j < L.length → p (L.getD j []) = true) → k < L.length → ∀ j, j ≤ k → ((L.takeWhile p) ++ R).getD j [] = L.getD j [] ∧ j < (L.takeWhile p).length
  | [], k, _, hk, _, _ => absurd hk (Nat.not_lt_zero _)
  | a :: L, k, h, hk, j, hj => by
    have ha : p a = true := h 0 (Nat.zero_le _) (by simp)
    rw [List.takeWhile_cons_of_pos ha]
    cases j with
    | zero => exact ⟨by simp, by simp⟩
    | succ j =>
      obtain ⟨k, rfl⟩ : ∃ q, k = q + 1 := ⟨k - 1, by omega⟩
      have ih := takeWhile_front (R := R) (L := L) (k := k) (fun i hi hl => by simpa using h (i + 1) (by omega) (by simpa using hl)) (by simpa using hk) j (by omega)
      refine ⟨by simpa using ih.1, by simpa using ih.2⟩
theorem putR_front {L : List (List Int)} (h : Ordd L) {k : Nat} {r : List Int} (hk : k < L.length) (hg : hgtL (L.getD k []) < hgtL r) {j : Nat} (hj : j ≤ k) : (putR L r).getD j [] = L.getD j [] := by
  refine (takeWhile_front (fun i hi hl => ?_) hk j hj).1
  have := ordd_hgt h hi hk
  unfold befB
  rw [if_neg (by omega), decide_eq_false (by omega)]; rfl
theorem rtI_put {m : List (List Int)} {h : Int} {L : List (List Int)} {k i : Nat} (hC : IsC m) (h12 : h ≤ 12) (hI : RtI m h L k i) (hk : k < L.length) (hi : i < m.length) (h1 : 0 < sgnL (rflR m i (L.getD k []))) (h2 : hgtL (rflR m i (L.getD k [])) ≤ h) (h3 : rflR m i (L.getD k []) ∉ L) (h4 : hgtL (L.getD k []) < hgtL (rflR m i (L.getD k []))) : RtI m h (putR L (rflR m i (L.getD k []))) k (i + 1) := by
  have hm : L.getD k [] ∈ L := by
    have e : L.getD k [] = L[k] := by simp [List.getD, hk]
    rw [e]; exact List.getElem_mem hk
  have hA := hI.sub _ hm
  have hA' : Asc m h (rflR m i (L.getD k [])) := .step _ i hA hi h1 h2 h4
  have hf := fun j (hj : j ≤ k) => putR_front hI.ordd hk h4 hj
  refine ⟨putR_ordd hI.ordd h3 (fun x hx => by rw [(asc_low hC h12 (hI.sub x hx)).1, (asc_low hC h12 hA').1]), fun r hr => ?_, fun j hj => (putR_mem ..).2 (Or.inr (hI.base j hj)), fun k' j a1 a2 a3 => ?_, fun j a1 a2 a3 => ?_⟩
  · rcases (putR_mem ..).1 hr with e | hr
    · rw [e]; exact hA'
    · exact hI.sub r hr
  · rw [hf k' (by omega)]
    exact fun b1 b2 b3 => (putR_mem ..).2 (Or.inr (hI.done k' j a1 (by omega) a3 b1 b2 b3))
  · rw [hf k (Nat.le_refl _)]
    intro b1 b2 b3
    rcases Nat.lt_or_ge j i with h0 | h0
    · exact (putR_mem ..).2 (Or.inr (hI.now j hk h0 a3 b1 b2 b3))
    · obtain rfl : j = i := by omega
      exact (putR_mem ..).2 (Or.inl rfl)
theorem rtI_count {m : List (List Int)} {h : Int} {L : List (List Int)} {k i : Nat} (hC : IsC m) (h12 : h ≤ 12) (hI : RtI m h L k i) : L.length ≤ 28561 :=
  low_count hC.2.2.2 (ordd_nodup hI.ordd) fun r hr => asc_low hC h12 (hI.sub r hr)
end Go.Proofs.Ytnlbmnielemgiaa
