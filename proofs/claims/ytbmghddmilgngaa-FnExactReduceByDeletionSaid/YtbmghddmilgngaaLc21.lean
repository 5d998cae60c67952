/-
  The search through a diagram, as the program (partFrom) and the model (l3Part) walk it: what each call returns.
  All sets of points in the order of binary numbers, principal minors and the first set whose minor is not positive (no walk here).
  The model's sets by masks, principal minors and witness: what the calls return.
  PartsOf of the model and of the program: what each call returns.
-/
import Derived.Test.YtbmghddmilgngaaLc20
import Derived.Test.YtbmghddmilgngaaLc19
namespace Go.Proofs.Ytbmghddmilgngaa
open Go.RowKit

def nbG (m : List (List Int)) (n p : Nat) : List Nat := (List.range n).filter (nbF m p)
def intL (q : List Nat) : List Int := q.map fun (j : Nat) => (j : Int)
theorem intL_len (q : List Nat) : (intL q).length = q.length := by simp [intL]
theorem intL_get (q : List Nat) (k : Nat) (h : k < q.length) : (intL q).getD k 0 = ((q.getD k 0 : Nat) : Int) := by simp [intL, List.getD, h]
theorem intL_snoc (q : List Nat) (j : Nat) : intL q ++ [(j : Int)] = intL (q ++ [j]) := by simp [intL]
theorem nbK_eq (m : List (List Int)) (p n : Nat) : nbK m p n = intL (nbG m n p) := rfl
theorem nbG_in (m : List (List Int)) (n : Nat) : GrIn (nbG m n) n := fun p k hk => by
  have h1 : (nbG m n p).getD k 0 = (nbG m n p)[k] := by simp [List.getD, hk]
  rw [h1]
  have h3 := (List.mem_filter.1 (show (nbG m n p)[k] ∈ (List.range n).filter (nbF m p) from List.getElem_mem hk)).1
  exact List.mem_range.1 h3
/-- The state of the search in the world wi: the queue, and what is seen. -/
def BfsAt (A : Nat) (w : World) (g n : Nat) (x : Value) (st : List Bool × List Nat) (wi : World) : Prop :=
  RowI w.heap.size wi.heap.size wi x (intL st.2) ∧ SeenI A wi g n st.1 ∧ w.grownBy wi (some g)
theorem row_lit (w : World) (p : Int) : RowI w.heap.size (w.alloc (.cells #[.int .i64 p] 3)).heap.size (w.alloc (.cells #[.int .i64 p] 3)) (.slice (some ⟨w.heap.size, 0, none⟩) 1 1) [p] :=
  ⟨World.ownsRow_lit w #[.int .i64 p] 1 (Nat.le_refl _) (by unfold maxLen; omega) rfl, fun g hg => by
    have : w.heap.size = g := by simpa [Value.ownBlock] using hg
    simp; omega⟩
theorem bfs_start {A : Nat} {w : World} {g n p : Nat} {s : List Bool} (hs : SeenI A w g n s) :
    BfsAt A w g n (.slice (some ⟨w.heap.size, 0, none⟩) 1 1) (start n p s) ((w.alloc (.cells #[.int .i64 (p : Int)] 3)).setCell ⟨g, p, none⟩ (.bool true)) := by
  have hs1 : SeenI A (w.alloc (.cells #[.int .i64 (p : Int)] 3)) g n s := hs.keep (World.grownBy_alloc w _ none) (by simp)
  obtain ⟨h1, h2⟩ := hs1.put p true
  have h3 : SeenI A ((w.alloc (.cells #[.int .i64 (p : Int)] 3)).setCell ⟨g, p, none⟩ (.bool true)) g n (s.set p true) := h1
  refine ⟨?_, h3, grown_trans (World.grownBy_alloc w _ _) h2⟩
  have h4 := (row_lit w p).kept h2 (hs1.row_ne (row_lit w p))
  exact h4.mono (Nat.le_refl _) h2.size
/-- The same, the store ahead of the literal. -/
theorem bfs_start2 {A : Nat} {w : World} {g n p : Nat} {s : List Bool} (hs : SeenI A w g n s) :
    BfsAt A w g n (.slice (some ⟨w.heap.size, 0, none⟩) 1 1) (start n p s) ((w.setCell ⟨g, p, none⟩ (.bool true)).alloc (.cells #[.int .i64 (p : Int)] 3)) := by
  obtain ⟨h1, h2⟩ := hs.put p true
  have h3 : SeenI A ((w.setCell ⟨g, p, none⟩ (.bool true)).alloc (.cells #[.int .i64 (p : Int)] 3)) g n (s.set p true) := h1.keep (World.grownBy_alloc _ _ none) (by simp)
  refine ⟨?_, h3, grown_trans h2 (World.grownBy_alloc _ _ _)⟩
  have h4 := row_lit (w.setCell ⟨g, p, none⟩ (.bool true)) p
  rw [World.size_setCell] at h4
  exact h4
theorem bfs_below {A B : Nat} {w wi : World} {g n : Nat} {x : Value} {st : List Bool × List Nat} (h : BfsAt A w g n x st wi) (hB : B ≤ w.heap.size) (hA : B ≤ A) : Below B w wi :=
  (Below.refl B w).grown h.2.2 hB (fun k hk => by injection hk with hk; have := h.2.1.lt.1; omega)
/-- Across a call that makes memory only. -/
theorem bfs_step {A : Nat} {w wi w2 : World} {g n : Nat} {x : Value} {st : List Bool × List Nat} (h : BfsAt A w g n x st wi) (hb : Below wi.heap.size wi w2) : BfsAt A w g n x st w2 :=
  ⟨h.1.step hb, h.2.1.below hb h.2.1.lt.2, grown_below h.2.2 hb⟩
/-- After the mark: what holds ahead of the append. -/
theorem bfs_mark {A : Nat} {w wi : World} {g n : Nat} {x : Value} {st : List Bool × List Nat} (h : BfsAt A w g n x st wi) (j : Nat) :
    BfsAt A w g n x (st.1.set j true, st.2) (wi.setCell ⟨g, j, none⟩ (.bool true)) := by
  obtain ⟨h1, h2⟩ := h.2.1.put j true
  exact ⟨(h.1.kept h2 (h.2.1.row_ne h.1)).mono (Nat.le_refl _) h2.size, h1, grown_trans h.2.2 h2⟩
theorem bfs_push {A : Nat} {w wi w3 : World} {g n j : Nat} {x y : Value} {st : List Bool × List Nat} (hm : BfsAt A w g n x (st.1.set j true, st.2) wi) (hj : st.1.getD j false = false)
    (hr : RowI w.heap.size w3.heap.size w3 y (intL st.2 ++ [(j : Int)])) (hg : wi.grownBy w3 x.ownBlock) : BfsAt A w g n y (visit1 st j) w3 := by
  have hv : visit1 st j = (st.1.set j true, st.2 ++ [j]) := by unfold visit1; rw [hj]; rfl
  rw [hv]
  refine ⟨?_, hm.2.1.keep hg (hm.2.1.ne_row hm.1), grown_new hm.2.2 hg (fun k hk => (hm.1.1.lt k hk).1)⟩
  rw [intL_snoc] at hr
  exact hr
theorem visit_seen {st : List Bool × List Nat} {j : Nat} (h : st.1.getD j false = true) : visit1 st j = st := by unfold visit1; rw [h]; rfl
/-- The neighbours' list is neither the queue nor what is seen. -/
theorem nb_keep {A C D : Nat} {w wi ws : World} {g n : Nat} {x xl : Value} {st : List Bool × List Nat} {l : List Int} (h : BfsAt A w g n x st wi) (hl : RowI C D wi xl l) (hg : wi.grownBy ws (some g)) : RowI C D ws xl l :=
  hl.kept hg (h.2.1.row_ne hl)
theorem nb_keep2 {C D : Nat} {wi ws : World} {x xl : Value} {l : List Int} (hl : RowI C D wi xl l) (hx : ∀ k, x.ownBlock = some k → k < C ∨ D ≤ k) (hg : wi.grownBy ws x.ownBlock) : RowI C D ws xl l := by
  refine hl.kept hg ?_
  cases hxl : xl.ownBlock with
  | none => exact Or.inl rfl
  | some k =>
    right
    intro e
    have h1 := (hl.1.lt k hxl).1
    have h2 := hl.2 k hxl
    have h3 := hx k e.symm
    omega

/-! ### The model's l3Part -/
end Go.Proofs.Ytbmghddmilgngaa
namespace Go.Proofs.Ytbmghddmilgngaa
open Go.RowKit

theorem fullM_get (f : Nat → Nat → Int) (n i : Nat) (h : i < n) : (fullF f n).getD i [] = rowF f n i := by simp [fullF, List.getD, h]
theorem fullM_entry (f : Nat → Nat → Int) (n i j : Nat) (hi : i < n) (hj : j < n) : entry (fullF f n) i j = f i j := by
  unfold entry
  rw [fullM_get f n i hi]
  simp [rowF, List.getD, hj]
/-! ### Sets by masks -/
def setK (mask k : Nat) : List Nat := (List.range k).filter fun i => mask.testBit i
def setsL (n k : Nat) : List (List Nat) := (List.range k).map fun t => setK (t + 1) n
theorem setK_yes {mask k : Nat} (h : mask.testBit k = true) : setK mask k ++ [k] = setK mask (k + 1) := by
  unfold setK
  rw [List.range_succ, List.filter_append, List.filter_cons_of_pos h]; rfl
theorem setK_no {mask k : Nat} (h : mask.testBit k = false) : setK mask k = setK mask (k + 1) := by
  unfold setK
  rw [List.range_succ, List.filter_append, List.filter_cons_of_neg (by rw [h]; simp)]; simp
theorem setK_len (mask k : Nat) : (setK mask k).length ≤ k := by
  unfold setK
  exact Nat.le_trans (List.length_filter_le _ _) (by rw [List.length_range]; exact Nat.le_refl _)
theorem setsL_len (n k : Nat) : (setsL n k).length = k := by simp [setsL]
theorem setsL_step (n k : Nat) : setsL n k ++ [setK (k + 1) n] = setsL n (k + 1) := by
  unfold setsL
  rw [List.range_succ, List.map_append]; rfl
theorem setsL_get (n k t : Nat) (h : t < k) : (setsL n k).getD t [] = setK (t + 1) n := by simp [setsL, List.getD, h]
def SetsOk (n : Nat) : Prop := ∀ t, t < 2 ^ n - 1 → (setK (t + 1) n).length ≠ 0 ∧ ∀ k, k < (setK (t + 1) n).length → (setK (t + 1) n).getD k 0 < n ∧ (0 < k → (setK (t + 1) n).getD (k - 1) 0 < (setK (t + 1) n).getD k 0)
instance (n : Nat) : Decidable (SetsOk n) := by unfold SetsOk; infer_instance
theorem sets_ok (n : Nat) (h : n ≤ 4) : SetsOk n := by
  rcases (show n = 0 ∨ n = 1 ∨ n = 2 ∨ n = 3 ∨ n = 4 by omega) with rfl | rfl | rfl | rfl | rfl <;> decide +kernel
theorem set_is {n : Nat} (h : n ≤ 4) {t : Nat} (ht : t < 2 ^ n - 1) : IsSet n (intL (setK (t + 1) n)) ∧ intL (setK (t + 1) n) ≠ [] := by
  obtain ⟨h0, h1⟩ := sets_ok n h t ht
  refine ⟨fun k hk => ?_, fun e => h0 (by have := congrArg List.length e; rw [intL_len] at this; exact this)⟩
  rw [intL_len] at hk
  obtain ⟨h2, h3⟩ := h1 k hk
  refine ⟨by rw [intL_get _ _ hk]; omega, fun ⟨h4, h5⟩ => ?_⟩
  rw [intL_get _ _ hk, intL_get _ _ (by omega)] at h5
  have := h3 h4
  omega
theorem set_sub {m : List (List Int)} (hI : IsC m) {t : Nat} (ht : t < 2 ^ m.length - 1) : SubOk m (intL (setK (t + 1) m.length)) :=
  ⟨hI, (set_is hI.2.2.2 ht).2, (set_is hI.2.2.2 ht).1⟩

/-! ### Minors -/
theorem pick_len (m : List (List Int)) (l : List Int) : (pick m l).length = l.length := fullF_len _ _
theorem pick_rows (m : List (List Int)) (l : List Int) : Rows0 (pick m l) l.length l.length := fun i hi => by
  unfold pick
  rw [fullM_get _ _ _ hi, rowF_len]
theorem pick_bd {m : List (List Int)} (hb : Bd m) (l : List Int) : Bd (pick m l) := fun i j => by
  unfold pick
  by_cases hi : i < l.length
  · by_cases hj : j < l.length
    · rw [fullM_entry _ _ _ _ hi hj]; exact hb _ _
    · have : entry (fullF (ptsF m l) l.length) i j = 0 := by
        unfold entry
        rw [fullM_get _ _ _ hi, List.getD_eq_getElem?_getD, List.getElem?_eq_none (by rw [rowF_len]; omega)]; rfl
      rw [this]; decide
  · have : entry (fullF (ptsF m l) l.length) i j = 0 := by
      unfold entry
      have e : (fullF (ptsF m l) l.length).getD i [] = [] := by rw [List.getD_eq_getElem?_getD, List.getElem?_eq_none (by rw [fullF_len]; omega)]; rfl
      rw [e]; simp
    rw [this]; decide
/-- The minor of the set with number t + 1. -/
def minP (m : List (List Int)) (t : Nat) : Int := detF (setK (t + 1) m.length).length (pick m (intL (setK (t + 1) m.length)))
def minK (m : List (List Int)) (k : Nat) : List Int := (List.range k).map (minP m)
theorem minK_step (m : List (List Int)) (k : Nat) : minK m k ++ [minP m k] = minK m (k + 1) := by
  unfold minK
  rw [List.range_succ, List.map_append]; rfl
theorem minK_len (m : List (List Int)) (k : Nat) : (minK m k).length = k := by simp [minK]
open Classical in
noncomputable def minV (m : List (List Int)) : List Int := if IsC m then minK m (2 ^ m.length - 1) else []
theorem minV_yes {m : List (List Int)} (h : IsC m) : minV m = minK m (2 ^ m.length - 1) := if_pos h
theorem minV_no {m : List (List Int)} (h : ¬ IsC m) : minV m = [] := if_neg h
theorem two_pow_le (n : Nat) (h : n ≤ 4) : 2 ^ n - 1 ≤ 15 := by
  rcases (show n = 0 ∨ n = 1 ∨ n = 2 ∨ n = 3 ∨ n = 4 by omega) with rfl | rfl | rfl | rfl | rfl <;> decide
theorem minV_len (m : List (List Int)) : (minV m).length ≤ 15 := by
  by_cases h : IsC m
  · rw [minV_yes h, minK_len]; exact two_pow_le _ h.2.2.2
  · rw [minV_no h]; simp
open Classical in
noncomputable def detV (m : List (List Int)) : Int := if IsC m then detF m.length m else 0
theorem detV_yes {m : List (List Int)} (h : IsC m) : detV m = detF m.length m := if_pos h
theorem detV_no {m : List (List Int)} (h : ¬ IsC m) : detV m = 0 := if_neg h

/-! ### The witness -/
/-- The first t below k whose minor is not positive, if there is one. -/
def witT (m : List (List Int)) (k : Nat) : Option Nat := (List.range k).find? fun t => decide (minP m t ≤ 0)
theorem witT_step_no {m : List (List Int)} {k : Nat} (h : witT m k = none) (hk : ¬ minP m k ≤ 0) : witT m (k + 1) = none := by
  unfold witT at h ⊢
  rw [List.range_succ, List.find?_append, h]
  simp [hk]
theorem witT_hit {m : List (List Int)} {k : Nat} (h : witT m k = none) (hk : minP m k ≤ 0) (N : Nat) (hN : k < N) : witT m N = some k := by
  have h1 : witT m (k + 1) = some k := by
    unfold witT at h ⊢
    rw [List.range_succ, List.find?_append, h]
    simp [hk]
  have e : List.range N = List.range (k + 1) ++ (List.range N).drop (k + 1) := by
    have h2 : (List.range N).take (k + 1) = List.range (k + 1) := by rw [List.take_range]; congr 1; omega
    rw [← h2, List.take_append_drop]
  unfold witT at h1 ⊢
  rw [e, List.find?_append, h1]; rfl
open Classical in
noncomputable def witV (m : List (List Int)) : List Int := if IsC m then (match witT m (2 ^ m.length - 1) with | none => [] | some t => intL (setK (t + 1) m.length)) else []
theorem witV_hit {m : List (List Int)} (h : IsC m) {t : Nat} (ht : witT m (2 ^ m.length - 1) = some t) : witV m = intL (setK (t + 1) m.length) := by unfold witV; rw [if_pos h, ht]
theorem witV_none {m : List (List Int)} (h : IsC m) (ht : witT m (2 ^ m.length - 1) = none) : witV m = [] := by unfold witV; rw [if_pos h, ht]
theorem witV_no {m : List (List Int)} (h : ¬ IsC m) : witV m = [] := if_neg h
theorem witV_len (m : List (List Int)) : (witV m).length ≤ 4 := by
  by_cases h : IsC m
  · cases ht : witT m (2 ^ m.length - 1) with
    | none => rw [witV_none h ht]; simp
    | some t =>
      rw [witV_hit h ht, intL_len]
      exact Nat.le_trans (setK_len _ _) h.2.2.2
  · rw [witV_no h]; simp
end Go.Proofs.Ytbmghddmilgngaa
namespace Go.Proofs.Ytbmghddmilgngaa
open Go.RowKit

theorem MatI.rowI4 {A B : Nat} {w : World} {a : Option Addr} {n cap : Nat} {m : List (List Int)} (h : MatI A B w (.slice a n cap) m) {j : Nat} (hj : j < m.length) :
    ∃ b hv, a = some ⟨b, 0, none⟩ ∧ w.cell? ⟨b, j, none⟩ = some hv ∧ RowI A B w hv (m.getD j []) := by
  obtain ⟨hs, h1, h2, h3, _⟩ := h
  obtain ⟨hv, h4, h5⟩ := h3 j hj
  rcases h1.2 with ⟨_, he⟩ | ⟨g, cap', cur, hval, _⟩
  · omega
  · have ha : a = some ⟨g, 0, none⟩ := by injection hval
    have hn : n = m.length := by injection hval
    subst ha
    subst hn
    exact ⟨g, hv, rfl, by rw [h1.cellAt j (by omega)]; exact h4, by rw [getD_row m j hj]; exact h5⟩

theorem sameIn_grown4 {A B : Nat} {w w' : World} {S : Option Nat} (hg : w.grownBy w' S) (hB : B ≤ w.heap.size) (hS : ∀ g, S = some g → g < A ∨ B ≤ g) : SameIn A B w w' := fun k h1 h2 =>
  hg.block k (by omega) (fun e => by have := hS k e.symm; omega)
theorem bit_test : ∀ t : Nat, t < 16 → ∀ c : Nat, c < 4 → ((bits BinOp.and IntKind.i64 ((t : Int) / 2 ^ c) 1) == 1) = t.testBit c := by decide +kernel
theorem sets_pred (n t : Nat) (h : 1 ≤ t) : (setsL n (t - 1)).map intL ++ [intL (setK t n)] = (setsL n t).map intL := by
  obtain ⟨k, rfl⟩ : ∃ k, t = k + 1 := ⟨t - 1, by omega⟩
  rw [← setsL_step n k, List.map_append]; rfl
def tabS (n : Nat) : List (List Int) := (setsL n (2 ^ n - 1)).map intL
/-! ### append(row, x) where the row may be empty -/
set_option maxRecDepth 100000 in
theorem append_intL {ops : Array Oper} {rest : List Oper} {o : Oper} {a : Act} {Q : Exit → Act → World → Prop} {s x : Operand} {A q : Nat} {v : Value} {l : List Int} {wr : World}
    (hM : RowI A wr.heap.size wr v l) (hA : A ≤ wr.heap.size) (hq : q = wr.heap.size) (n : Int) (hgd : o.guard = none)
    (ho : o.op = .call { callee := .builtin .append, args := #[s, x], argTypes := #[25, 25] }) (hs : a.eval s = v)
    (hx : a.eval x = .slice (some ⟨q, 0, none⟩) 1 1) (hlen : l.length ≤ 4194304)
    (h : ∀ v' w', RowI A w'.heap.size w' v' (l ++ [n]) → wr.grownBy w' v.ownBlock → (∀ g, v'.ownBlock = some g → v.ownBlock = some g ∨ wr.heap.size ≤ g) → wpList Try.prog ops Q rest (a.put o.dst v') w') :
    wpList Try.prog ops Q (o :: rest) a (wr.alloc (.cells #[.int .i64 n] 3)) := by
  subst hq
  obtain ⟨h1, h2⟩ := hM
  obtain ⟨i0, hi, hz0, hz1, hz2⟩ := info_parts Try.infoInt
  have h1a := h1.alloc (.cells #[.int .i64 n] 3)
  have hnew : ∀ j u, [Value.int .i64 n][j]? = some u → (wr.alloc (.cells #[.int .i64 n] 3)).cell? ((⟨wr.heap.size, 0, none⟩ : Addr).add j) = some u := by
    intro j u hu
    match j, hu with
    | 0, hu =>
      simp at hu
      subst hu
      rw [Addr.add_lit, cell_of_row _ wr.heap.size 0 _ _ _ (MapKept.heap_alloc wr _).1]
      rfl
    | j + 1, hu => simp at hu
  have hone : ∀ u ∈ [Value.int .i64 n], u.oneCell' = true := by
    intro u hu
    simp at hu
    subst hu
    rfl
  have hlv : (intsV l).length = l.length := intsV_len l
  obtain ⟨v', w', hr, h3, h4, _⟩ := run_append_own (P := Try.prog) (wr.alloc (.cells #[.int .i64 n] 3)) A 25 o.type 3 i0 (.int .i64 0) 1 8 Try.underlying25 hi hz0 hz1 hz2 rfl (by omega) v l.length (intsV l) h1a ⟨wr.heap.size, 0, none⟩ 1 1 [.int .i64 n] rfl hnew hone (by unfold maxLen; omega) (by omega) (by simp; omega)
  have hloc : ∀ g, v'.ownBlock = some g → v.ownBlock = some g ∨ wr.heap.size ≤ g := by
    rcases h1.2 with ⟨rfl, he⟩ | ⟨g, cap, cur, rfl, hAg, hg, hn, hc, hsz, ht⟩
    · have hr2 := run_append_nil (P := Try.prog) (wr.alloc (.cells #[.int .i64 n] 3)) 25 o.type 3 i0 (.int .i64 0) Try.underlying25 hi hz0 ⟨wr.heap.size, 0, none⟩ 1 1 [.int .i64 n] (by rw [hz1]; rfl) hnew (by omega) (by omega) (by rw [hz2]; omega)
      rw [hr] at hr2
      injection hr2 with e1 e2
      subst e1
      intro g' hg'
      right
      have : (wr.alloc (.cells #[.int .i64 n] 3)).heap.size = g' := by simpa [Value.ownBlock] using hg'
      simp at this
      omega
    · have hga : (wr.alloc (.cells #[.int .i64 n] 3)).heap[g]? = some (.cells cur 3 (0, 0)) := by
        rw [(MapKept.heap_alloc wr _).2 g (Array.getElem?_eq_some_iff.1 hg).1]; exact hg
      by_cases hroom : l.length + 1 ≤ cap
      · have hr2 := run_append_room (P := Try.prog) (wr.alloc (.cells #[.int .i64 n] 3)) 25 o.type 3 i0 Try.underlying25 hi g l.length cap cur hga ⟨wr.heap.size, 0, none⟩ 1 1 [.int .i64 n] (by rw [hz1]; rfl) hnew hone hroom (by rw [hz1]; simp; omega)
        rw [hr] at hr2
        injection hr2 with e1 e2
        subst e1
        intro g' hg'
        exact Or.inl hg'
      · have hr2 := run_append_grow (P := Try.prog) (wr.alloc (.cells #[.int .i64 n] 3)) 25 o.type 3 i0 (.int .i64 0) Try.underlying25 hi hz0 ⟨g, 0, none⟩ l.length cap (intsV l) (by rw [hz1, hlv]; omega) (h1a.cells (g := g) rfl) ⟨wr.heap.size, 0, none⟩ 1 1 [.int .i64 n] (by rw [hz1]; rfl) hnew (by omega) (by omega) (growslice_fits (by omega) (by rw [hz2]; omega))
        rw [hr] at hr2
        injection hr2 with e1 e2
        subst e1
        intro g' hg'
        right
        have : (wr.alloc (.cells #[.int .i64 n] 3)).heap.size = g' := by simpa [Value.ownBlock] using hg'
        simp at this
        omega
  refine Lib.wpList_append_run _ hgd s x 25 25 ho _ _ hs hx v' w' hr ?_
  refine h v' w' ⟨?_, fun g hgg => (h3.lt g hgg).2⟩ ⟨h4.os, h4.tape, h4.output, by have := h4.size; simp at this; omega, fun k hk hn => ?_⟩ hloc
  · have e : intsV l ++ [.int .i64 n] = intsV (l ++ [n]) := by simp [intsV]
    rw [e] at h3
    rw [List.length_append]
    exact h3
  · rw [h4.block k (by simp; omega) hn]
    exact (MapKept.heap_alloc wr _).2 k hk

/-! ### Minors -/
/-- One set of the table: the matrix of its points and its minor. -/
theorem minor_ok {m : List (List Int)} (hI : IsC m) {t : Nat} (ht : t < 2 ^ m.length - 1) :
    subM m (intL (setK (t + 1) m.length)) = pick m (intL (setK (t + 1) m.length)) ∧ subB m (intL (setK (t + 1) m.length)) = true ∧ (setK (t + 1) m.length).length ≤ 4 ∧
      (pick m (intL (setK (t + 1) m.length))).length = (setK (t + 1) m.length).length ∧ Rows0 (pick m (intL (setK (t + 1) m.length))) (setK (t + 1) m.length).length (setK (t + 1) m.length).length ∧ Bd (pick m (intL (setK (t + 1) m.length))) := by
  have hs := set_sub hI ht
  have h4 := hI.2.2.2
  have hr := pick_rows m (intL (setK (t + 1) m.length))
  rw [intL_len] at hr
  exact ⟨subM_yes hs, subB_yes hs, Nat.le_trans (setK_len _ _) h4, by rw [pick_len, intL_len], hr, pick_bd (isC_bd hI) _⟩

end Go.Proofs.Ytbmghddmilgngaa
namespace Go.Proofs.Ytbmghddmilgngaa
open Go.RowKit

/-! ### The diagram of a valid matrix is a graph of at most four points -/
theorem nbF_low {m : List (List Int)} {p j : Nat} (h : m.length ≤ p) : nbF m p j = false := by
  have : entry m p j = 0 := by unfold entry; simp [List.getD, List.getElem?_eq_none h]
  exact decide_eq_false (fun hh => hh.2 this)
theorem nbF_far {m : List (List Int)} (hI : IsC m) {p j : Nat} (hp : p < m.length) (h : m.length ≤ j) : nbF m p j = false := by
  have h1 := hI.1 p hp
  have : entry m p j = 0 := by
    unfold entry
    have h2 : (m.getD p []).length ≤ j := by omega
    rw [List.getD_eq_getElem?_getD (l := m.getD p []), List.getElem?_eq_none h2]; rfl
  exact decide_eq_false (fun hh => hh.2 this)
theorem nbF_sym {m : List (List Int)} (hI : IsC m) (p j : Nat) : nbF m p j = nbF m j p := by
  by_cases hp : p < m.length
  · by_cases hj : j < m.length
    · unfold nbF
      have h1 := hI.2.1 p j hp hj
      by_cases e : j = p
      · subst e; rfl
      · have h2 : entry m p j = 0 ↔ entry m j p = 0 := by
          rcases h1 with h1 | h1
          · exact absurd h1.1.symm e
          · exact h1.2.2
        rw [decide_eq_decide]
        constructor
        · rintro ⟨h3, h4⟩; exact ⟨fun e => h3 e.symm, fun h5 => h4 (h2.2 h5)⟩
        · rintro ⟨h3, h4⟩; exact ⟨fun e => h3 e.symm, fun h5 => h4 (h2.1 h5)⟩
    · rw [nbF_far hI hp (by omega), nbF_low (by omega)]
  · by_cases hj : j < m.length
    · rw [nbF_low (by omega), nbF_far hI hj (by omega)]
    · rw [nbF_low (by omega), nbF_low (by omega)]
theorem nbF_self (m : List (List Int)) (p : Nat) : nbF m p p = false := decide_eq_false (fun h => h.1 rfl)
theorem nbF_gr {m : List (List Int)} (hI : IsC m) (p j : Nat) (hj : j < m.length) : nbF m p j = grE (nbF m 0 1) (nbF m 0 2) (nbF m 0 3) (nbF m 1 2) (nbF m 1 3) (nbF m 2 3) p j := by
  have h4 := hI.2.2.2
  by_cases hp : p < 4
  · have hj4 : j < 4 := by omega
    rcases (show p = 0 ∨ p = 1 ∨ p = 2 ∨ p = 3 by omega) with rfl | rfl | rfl | rfl <;> rcases (show j = 0 ∨ j = 1 ∨ j = 2 ∨ j = 3 by omega) with rfl | rfl | rfl | rfl <;>
      first | exact nbF_self m _ | rfl | exact nbF_sym hI _ _
  · rw [nbF_low (by omega)]
    obtain ⟨q, rfl⟩ : ∃ q, p = q + 4 := ⟨p - 4, by omega⟩
    rcases (show j = 0 ∨ j = 1 ∨ j = 2 ∨ j = 3 by omega) with rfl | rfl | rfl | rfl <;> rfl
theorem nbG_gr {m : List (List Int)} (hI : IsC m) : nbG m m.length = grN (grE (nbF m 0 1) (nbF m 0 2) (nbF m 0 3) (nbF m 1 2) (nbF m 1 3) (nbF m 2 3)) m.length := by
  funext p
  unfold nbG grN
  exact List.filter_congr fun j hj => nbF_gr hI p j (List.mem_range.1 hj)
theorem nbG_ok {m : List (List Int)} (hI : IsC m) : GrOk (nbG m m.length) m.length := by
  rw [nbG_gr hI]; exact grOk_all _ hI.2.2.1 hI.2.2.2 _ _ _ _ _ _
theorem edges_gr {m : List (List Int)} (hI : IsC m) (k : Nat) (hk : k ≤ m.length) : edgesN (nbF m) k = edgesN (grE (nbF m 0 1) (nbF m 0 2) (nbF m 0 3) (nbF m 1 2) (nbF m 1 3) (nbF m 2 3)) k := by
  unfold edgesN
  congr 1
  apply List.map_congr_left
  intro i hi
  have hi := List.mem_range.1 hi
  congr 1
  exact List.filter_congr fun j hj => nbF_gr hI i j (by have := List.mem_range.1 hj; omega)
theorem edges_ok {m : List (List Int)} (hI : IsC m) : endsN (nbG m m.length) m.length / 2 = edgesN (nbF m) m.length := by
  rw [edges_gr hI _ (Nat.le_refl _), nbG_gr hI]; exact edOk_all _ hI.2.2.1 hI.2.2.2 _ _ _ _ _ _

/-! ### What PartsOf returns -/
def partsL (m : List (List Int)) : List (List Nat) := partsM (nbG m m.length) m.length m.length
open Classical in
noncomputable def partsV (m : List (List Int)) : List (List Int) := if IsC m then (partsL m).map intL else []
theorem partsV_yes {m : List (List Int)} (h : IsC m) : partsV m = (partsL m).map intL := if_pos h
theorem partsV_no {m : List (List Int)} (h : ¬ IsC m) : partsV m = [] := if_neg h
theorem partsM_yes {G : Nat → List Nat} {n i : Nat} (h : (mPart G n i).getD 0 0 = i) : partsM G n i ++ [mPart G n i] = partsM G n (i + 1) := by
  show _ = if _ then _ else _
  rw [if_pos h]
theorem partsM_no {G : Nat → List Nat} {n i : Nat} (h : ¬ (mPart G n i).getD 0 0 = i) : partsM G n i = partsM G n (i + 1) := by
  show _ = if _ then _ else _
  rw [if_neg h]
theorem partsM_len (G : Nat → List Nat) (n i : Nat) : (partsM G n i).length ≤ i := by
  induction i with
  | zero => exact Nat.le_refl _
  | succ i ih =>
    by_cases h : (mPart G n i).getD 0 0 = i
    · rw [← partsM_yes h, List.length_append]; simp; exact ih
    · rw [← partsM_no h]; omega
theorem partsP_yes {G : Nat → List Nat} {n i : Nat} (h : (partsP G n i).1.getD i false = true) : partsP G n (i + 1) = partsP G n i := by
  show (if _ then _ else _) = _
  rw [if_pos h]
theorem partsP_no {G : Nat → List Nat} {n i : Nat} (h : (partsP G n i).1.getD i false = false) :
    partsP G n (i + 1) = ((bfsE G (start n i (partsP G n i).1)).1, (partsP G n i).2 ++ [sortN n (bfsE G (start n i (partsP G n i).1)).2]) := by
  show (if _ then _ else _) = _
  rw [if_neg (by rw [h]; simp)]
theorem partsP_len (G : Nat → List Nat) (n i : Nat) : (partsP G n i).2.length ≤ i := by
  induction i with
  | zero => exact Nat.le_refl _
  | succ i ih =>
    cases h : (partsP G n i).1.getD i false with
    | true => rw [partsP_yes h]; omega
    | false => rw [partsP_no h]; simp; exact ih
theorem partsV_len (m : List (List Int)) : (partsV m).length ≤ 4 := by
  by_cases h : IsC m
  · rw [partsV_yes h, List.length_map]
    have h1 := partsM_len (nbG m m.length) m.length m.length
    have := h.2.2.2
    unfold partsL
    omega
  · rw [partsV_no h]; simp
theorem partsV_le {m : List (List Int)} (h : IsC m) : (partsV m).length ≤ m.length := by
  rw [partsV_yes h, List.length_map]
  exact partsM_len (nbG m m.length) m.length m.length
theorem partsV_small (m : List (List Int)) : szSum (partsV m) ≤ 1048576 := by
  by_cases h : IsC m
  · have h1 := partsV_len m
    have h2 : ((partsV m).map List.length).sum ≤ m.length := by
      rw [partsV_yes h, List.map_map]
      have : (List.length ∘ intL) = List.length := by funext q; exact intL_len q
      rw [this]
      exact (nbG_ok h).2.2.2.2
    have := h.2.2.2
    unfold szSum
    omega
  · rw [partsV_no h]; decide

/-! ### The model -/
/-! ### The program -/
end Go.Proofs.Ytbmghddmilgngaa
