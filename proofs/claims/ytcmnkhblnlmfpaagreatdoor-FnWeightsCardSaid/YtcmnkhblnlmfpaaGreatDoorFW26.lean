/-
  Minors, being of finite type, being affine and being connected do not change when the points are taken in another order (no walk here).
  The program's walk through all orders: firstOrder and nextOrder, what each call returns.
-/
import Derived.Test.YtcmnkhblnlmfpaaGreatDoorFW25
import Derived.Test.YtcmnkhblnlmfpaaGreatDoorFW24
import Derived.Laws.CopyOwn
import Derived.WalkMore
import Derived.ScopeJumps
import Derived.Test.YtcmnkhblnlmfpaaGreatDoorShelfR
namespace Go.Proofs.YtcmnkhblnlmfpaaGreatDoor
open Go.RowKit

def eF (a : List (List Int)) (L : List Nat) (i j : Nat) : Int := entry a (L.getD i 0) (L.getD j 0)
def mapK (q S : List Nat) : List Nat := S.map fun i => q.getD i 0
theorem mapK_len (q S : List Nat) : (mapK q S).length = S.length := by simp [mapK]
theorem mapK_get (q S : List Nat) (i : Nat) (h : i < S.length) : (mapK q S).getD i 0 = q.getD (S.getD i 0) 0 := by simp [mapK, List.getD, h]
theorem fullF_congr {f g : Nat → Nat → Int} {n : Nat} (h : ∀ i j, i < n → j < n → f i j = g i j) : fullF f n = fullF g n := by
  unfold fullF rowF
  apply List.map_congr_left
  intro i hi
  apply List.map_congr_left
  intro j hj
  exact h i j (List.mem_range.1 hi) (List.mem_range.1 hj)
theorem pick_eF (a : List (List Int)) (L : List Nat) : pick a (intL L) = fullF (eF a L) L.length := by
  unfold pick
  rw [intL_len]
  refine fullF_congr fun i j hi hj => ?_
  unfold ptsF eF
  rw [intL_get _ _ hi, intL_get _ _ hj]; rfl
theorem pick_pick (a : List (List Int)) (q S : List Nat) (hS : ∀ i, i < S.length → S.getD i 0 < q.length) : pick (pick a (intL q)) (intL S) = pick a (intL (mapK q S)) := by
  rw [pick_eF (pick a (intL q)) S, pick_eF a (mapK q S), mapK_len]
  refine fullF_congr fun i j hi hj => ?_
  unfold eF
  rw [pick_eF a q, fullM_entry _ _ _ _ (hS i hi) (hS j hj)]
  unfold eF
  rw [mapK_get _ _ _ hi, mapK_get _ _ _ hj]
theorem det_map (a : List (List Int)) (S r : List Nat) (k : Nat) (hk : k ≤ 4) (hr : r ∈ ords k) (hl : S.length = k) : detF k (pick a (intL (mapK S r))) = detF k (pick a (intL S)) := by
  have hrl : r.length = k := (show ∀ k, k ≤ 4 → ∀ r ∈ ords k, r.length = k by decide +kernel) k hk r hr
  have e : fullF (eF a (mapK S r)) k = fullF (perF (eF a S) r) k := fullF_congr fun i j hi hj => by
    unfold perF eF
    rw [mapK_get _ _ _ (by omega), mapK_get _ _ _ (by omega)]
  rw [pick_eF, pick_eF, mapK_len, hrl, hl, e, det_full k hk, det_full k hk, per_all k hk (eF a S) r hr]

/-! ### Minors -/
def SetMap (n : Nat) (q : List Nat) (t u : Nat) : Prop := ∃ r ∈ ords (setK (u + 1) n).length, mapK q (setK (t + 1) n) = mapK (setK (u + 1) n) r ∧ (setK (t + 1) n).length = (setK (u + 1) n).length ∧ (t = 2 ^ n - 2 ↔ u = 2 ^ n - 2)
instance (n : Nat) (q : List Nat) (t u : Nat) : Decidable (SetMap n q t u) := by unfold SetMap; infer_instance
def MapOk (n : Nat) : Prop := ∀ q ∈ ords n, (∀ t, t < 2 ^ n - 1 → ∃ u, u < 2 ^ n - 1 ∧ SetMap n q t u) ∧ (∀ u, u < 2 ^ n - 1 → ∃ t, t < 2 ^ n - 1 ∧ SetMap n q t u)
instance (n : Nat) : Decidable (MapOk n) := by unfold MapOk; infer_instance
theorem map_ok1 : MapOk 1 := by decide +kernel
theorem map_ok2 : MapOk 2 := by decide +kernel
theorem map_ok3 : MapOk 3 := by decide +kernel
theorem map_ok4 : MapOk 4 := by decide +kernel
theorem map_ok (n : Nat) (h1 : 1 ≤ n) (h4 : n ≤ 4) : MapOk n := by
  rcases (show n = 1 ∨ n = 2 ∨ n = 3 ∨ n = 4 by omega) with rfl | rfl | rfl | rfl
  · exact map_ok1
  · exact map_ok2
  · exact map_ok3
  · exact map_ok4
theorem ords_lt : ∀ n, n ≤ 4 → ∀ q ∈ ords n, q.length = n ∧ ∀ i, i < n → q.getD i 0 < n := by decide +kernel
theorem min_map {a : List (List Int)} {q : List Nat} {n t u : Nat} (hn : a.length = n) (h4 : n ≤ 4) (hq : q ∈ ords n) (ht : t < 2 ^ n - 1) (hb : (pick a (intL q)).length = n) (h : SetMap n q t u) : minP (pick a (intL q)) t = minP a u := by
  obtain ⟨r, hr, h1, h2, _⟩ := h
  obtain ⟨hql, hqn⟩ := ords_lt n h4 q hq
  unfold minP
  rw [hb, hn, pick_pick a q _ (fun i hi => by rw [hql]; exact ((sets_ok n h4 t ht).2 i hi).1), h1, h2]
  exact det_map a _ r _ (Nat.le_trans (setK_len _ _) h4) hr rfl

/-! ### What the functions say, by minors -/
theorem fin_iff {m : List (List Int)} (hI : IsC m) : finB m = true ↔ ∀ t, t < 2 ^ m.length - 1 → 0 < minP m t := by
  rw [finB_yes hI, decide_eq_true_eq]
  have hlen : ∀ t, t < 2 ^ m.length - 1 → (setK (t + 1) m.length).length ≠ 0 := fun t ht => (sets_ok m.length hI.2.2.2 t ht).1
  cases hw : witT m (2 ^ m.length - 1) with
  | none =>
    rw [witV_none hI hw]
    refine ⟨fun _ t ht => ?_, fun _ => rfl⟩
    unfold witT at hw
    have := List.find?_eq_none.1 hw t (List.mem_range.2 ht)
    simp at this
    omega
  | some t =>
    rw [witV_hit hI hw, intL_len]
    have ht : t < 2 ^ m.length - 1 := List.mem_range.1 (List.mem_of_find?_eq_some hw)
    refine ⟨fun h => absurd h (hlen t ht), fun h => ?_⟩
    have h1 := h t ht
    have h2 := List.find?_some hw
    simp at h2
    omega
theorem aff_iff {m : List (List Int)} (hI : IsC m) (c : Bool) : affB c (minV m) = true ↔ c = true ∧ minP m (2 ^ m.length - 2) = 0 ∧ ∀ t, t < 2 ^ m.length - 2 → 0 < minP m t := by
  have hn : 1 ≤ 2 ^ m.length - 1 := by
    rcases (show m.length = 1 ∨ m.length = 2 ∨ m.length = 3 ∨ m.length = 4 by have := hI.2.2; omega) with e | e | e | e <;> rw [e] <;> decide
  have hget : ∀ t, t < 2 ^ m.length - 1 → (minV m).getD t 0 = minP m t := fun t ht => by rw [minV_yes hI]; simp [minK, List.getD, ht]
  have hlen : (minV m).length = 2 ^ m.length - 1 := by rw [minV_yes hI, minK_len]
  have key : affC c (minV m) ↔ c = true ∧ minP m (2 ^ m.length - 2) = 0 ∧ ∀ t, t < 2 ^ m.length - 2 → 0 < minP m t := by
    unfold affC
    rw [hlen, hget _ (by omega)]
    have e : 2 ^ m.length - 1 - 1 = 2 ^ m.length - 2 := by omega
    rw [e]
    refine ⟨fun ⟨h1, h2, h3⟩ => ⟨h1, h2, fun t ht => ?_⟩, fun ⟨h1, h2, h3⟩ => ⟨h1, h2, fun t ht => ?_⟩⟩
    · have := h3 t (by omega)
      rwa [hget t (by omega)] at this
    · rw [hget t (by omega)]
      exact h3 t (by omega)
  by_cases h : affC c (minV m)
  · rw [affB_yes h]
    exact ⟨fun _ => key.1 h, fun _ => rfl⟩
  · rw [affB_no h]
    exact ⟨fun h' => by simp at h', fun h' => absurd (key.2 h') h⟩
/-! ### Another order -/
theorem fin_inv {a : List (List Int)} {q : List Nat} (hI : IsC a) (hq : q ∈ ords a.length) (hB : IsC (pick a (intL q))) (hb : (pick a (intL q)).length = a.length) : finB (pick a (intL q)) = finB a := by
  rw [Bool.eq_iff_iff, fin_iff hB, fin_iff hI, hb]
  have hm := map_ok a.length hI.2.2.1 hI.2.2.2 q hq
  refine ⟨fun h u hu => ?_, fun h t ht => ?_⟩
  · obtain ⟨t, ht, hs⟩ := hm.2 u hu
    rw [← min_map rfl hI.2.2.2 hq ht hb hs]
    exact h t ht
  · obtain ⟨u, hu, hs⟩ := hm.1 t ht
    rw [min_map rfl hI.2.2.2 hq ht hb hs]
    exact h u hu
theorem aff_inv {a : List (List Int)} {q : List Nat} {c : Bool} (hI : IsC a) (hq : q ∈ ords a.length) (hB : IsC (pick a (intL q))) (hb : (pick a (intL q)).length = a.length) : affB c (minV (pick a (intL q))) = affB c (minV a) := by
  rw [Bool.eq_iff_iff, aff_iff hB, aff_iff hI, hb]
  have hm := map_ok a.length hI.2.2.1 hI.2.2.2 q hq
  have hn : 1 ≤ 2 ^ a.length - 1 := by
    rcases (show a.length = 1 ∨ a.length = 2 ∨ a.length = 3 ∨ a.length = 4 by have := hI.2.2; omega) with e | e | e | e <;> rw [e] <;> decide
  have hlast : minP (pick a (intL q)) (2 ^ a.length - 2) = minP a (2 ^ a.length - 2) := by
    obtain ⟨u, hu, hs⟩ := hm.1 (2 ^ a.length - 2) (by omega)
    have hue : u = 2 ^ a.length - 2 := hs.choose_spec.2.2.2.1 rfl
    rw [min_map rfl hI.2.2.2 hq (by omega) hb hs, hue]
  rw [hlast]
  refine ⟨fun ⟨h1, h2, h⟩ => ⟨h1, h2, fun u hu => ?_⟩, fun ⟨h1, h2, h⟩ => ⟨h1, h2, fun t ht => ?_⟩⟩
  · obtain ⟨t, ht, hs⟩ := hm.2 u (by omega)
    have hne : t ≠ 2 ^ a.length - 2 := fun e => by have := hs.choose_spec.2.2.2.1 e; omega
    rw [← min_map rfl hI.2.2.2 hq ht hb hs]
    exact h t (by omega)
  · obtain ⟨u, hu, hs⟩ := hm.1 t (by omega)
    have hne : u ≠ 2 ^ a.length - 2 := fun e => by have := hs.choose_spec.2.2.2.2 e; omega
    rw [min_map rfl hI.2.2.2 hq (by omega) hb hs]
    exact h u (by omega)
end Go.Proofs.YtcmnkhblnlmfpaaGreatDoor
namespace Go.Proofs.YtcmnkhblnlmfpaaGreatDoor
open Go.RowKit

/-! ### The next order -/
def atF (q : List Nat) : Nat → Option Nat
  | 0 => none
  | k + 1 => if q.getD (k + 1) 0 < q.getD k 0 then atF q k else some k
def withF (q : List Nat) (i : Nat) : Nat → Nat
  | 0 => 0
  | k + 1 => if q.getD (k + 1) 0 < q.getD i 0 then withF q i k else k + 1
def swapF (q : List Nat) (i j : Nat) : List Nat := (q.set i (q.getD j 0)).set j (q.getD i 0)
def revF (q : List Nat) (k : Nat) : List Nat := q.take k ++ (q.drop k).reverse
def nextO (q : List Nat) : Option (List Nat) := match atF q (q.length - 1) with
  | none => none
  | some i => some (revF (swapF q i (withF q i (q.length - 1))) (i + 1))
theorem atF_gt {q : List Nat} {k : Nat} (h : q.getD (k + 1) 0 < q.getD k 0) : atF q (k + 1) = atF q k := by
  show (if _ then _ else _) = _
  rw [if_pos h]
theorem atF_le {q : List Nat} {k : Nat} (h : ¬ q.getD (k + 1) 0 < q.getD k 0) : atF q (k + 1) = some k := by
  show (if _ then _ else _) = _
  rw [if_neg h]
theorem withF_lt {q : List Nat} {i k : Nat} (h : q.getD (k + 1) 0 < q.getD i 0) : withF q i (k + 1) = withF q i k := by
  show (if _ then _ else _) = _
  rw [if_pos h]
theorem withF_ge {q : List Nat} {i k : Nat} (h : ¬ q.getD (k + 1) 0 < q.getD i 0) : withF q i (k + 1) = k + 1 := by
  show (if _ then _ else _) = _
  rw [if_neg h]
/-- The table is what firstOrder and nextOrder walk through. -/
def StepOk (n : Nat) : Prop := (ords n).getD 0 [] = List.range n ∧ 0 < (ords n).length ∧ (∀ t, t < (ords n).length → (ords n)[t]? = some ((ords n).getD t []) ∧ nextO ((ords n).getD t []) = (ords n)[t + 1]?) ∧
  ∀ q ∈ ords n, q.length = n ∧ (∀ k, k < n → q.getD k 0 < n ∧ ∀ j, j < k → ¬ q.getD k 0 = q.getD j 0)
instance (n : Nat) : Decidable (StepOk n) := by unfold StepOk; infer_instance
theorem step_ok1 : StepOk 1 := by decide +kernel
theorem step_ok2 : StepOk 2 := by decide +kernel
theorem step_ok3 : StepOk 3 := by decide +kernel
theorem step_ok4 : StepOk 4 := by decide +kernel
theorem step_ok (n : Nat) (h1 : 1 ≤ n) (h4 : n ≤ 4) : StepOk n := by
  rcases (show n = 1 ∨ n = 2 ∨ n = 3 ∨ n = 4 by omega) with rfl | rfl | rfl | rfl
  · exact step_ok1
  · exact step_ok2
  · exact step_ok3
  · exact step_ok4

/-! ### Rows by their block -/
def RowG (w : World) (g : Nat) (l : List Int) : Prop := w.heap[g]? = some (.cells (intsV l).toArray 3 (0, 0))
theorem RowG.cell {w : World} {g : Nat} {q : List Nat} (h : RowG w g (intL q)) {j : Nat} (hj : j < q.length) : w.cell? ⟨g, j, none⟩ = some (.int .i64 ((q.getD j 0 : Nat) : Int)) := by
  rw [cell_of_row w g j _ _ _ h]
  simp [intsV, intL, List.getD, hj]
theorem RowG.frozen {w : World} {g : Nat} {l : List Int} (h : RowG w g l) (j : Nat) : w.frozen? ⟨g, j, none⟩ = false := frozen_of_row w g j _ _ h
theorem RowG.put {w : World} {g : Nat} {q : List Nat} (h : RowG w g (intL q)) (j x : Nat) : RowG (w.setCell ⟨g, j, none⟩ (.int .i64 (x : Int))) g (intL (q.set j x)) := by
  unfold RowG
  rw [blk_set h j]
  congr 2
  simp [intsV, intL, List.map_set]
theorem RowG.own {w : World} {A g n : Nat} {l : List Int} (h : RowG w g l) (hA : A ≤ g) (hn : l.length = n) (hm : n ≤ 1048576) : RowI A w.heap.size w (.slice (some ⟨g, 0, none⟩) n n) l := by
  subst hn
  refine ⟨⟨by rw [intsV_len]; omega, Or.inr ⟨g, l.length, _, rfl, hA, h, Nat.le_refl _, by unfold maxLen; omega, by simp [intsV_len], ?_⟩⟩, fun g' hg' => ?_⟩
  · rw [List.take_of_length_le]; simp [intsV_len]
  · have : g = g' := by simpa [Value.ownBlock] using hg'
    subst this
    exact (Array.getElem?_eq_some_iff.1 h).1

set_option maxHeartbeats 1000000 in
set_option maxRecDepth 100000 in
theorem fo_any (n : Nat) (w : World) (hn : n ≤ 1048576) :
    Calls Tryz.prog 137 #[.int .i64 n] w (MakesS w (intL (List.range n))) := by
  have hln : (intL (List.range n)).length = n := by rw [intL_len, List.length_range]
  have hmk : (Instr.makeSlice 25 (.int .i64 n) (.int .i64 n)).run Tryz.prog w = .ok (.slice (some ⟨w.heap.size, 0, none⟩) n n) (w.alloc (.cells (intsV (cpSt (intL (List.range n)) 0)).toArray 3)) := by
    rw [cpSt_zero, hln]; exact makeInts n hn w
  have HEND := Lib.hid (show cpSt (intL (List.range n)) n = intL (List.range n) by have := cpSt_end (intL (List.range n)); rw [hln] at this; exact this)
  have HCELL := Lib.hid (fun k (hk : k < n) => cpSt_cell (intL (List.range n)) k (by rw [hln]; exact hk))
  have HCELLS := Lib.hid (fun k (hk : k < n) => show (intsV (cpSt (intL (List.range n)) k)).set k (.int .i64 (k : Int)) = intsV (cpSt (intL (List.range n)) (k + 1)) by
    have h := cpSt_cells (intL (List.range n)) k (by rw [hln]; exact hk)
    have e : (intL (List.range n))[k]'(by rw [hln]; exact hk) = (k : Int) := by simp [intL]
    rw [e] at h; exact h)
  go_enter Tryz.func137, Tryz.ntmps137
  go_wp2_with fail
  clear hmk
  go_loopw [9] (fun i wr => ∃ k : Nat, k ≤ n ∧ i = .int .i64 k ∧ wr = w.alloc (.cells (intsV (cpSt (intL (List.range n)) k)).toArray 3)) (fun i _ => n - (intOf i).toNat)
  case atStart => exact ⟨0, Nat.zero_le _, rfl, rfl⟩
  case round =>
    obtain ⟨k, hk, rfl, rfl⟩ := hrel
    by_cases hlt : k < n
    · obtain ⟨c, hcc⟩ := HCELL.out k hlt
      have HS := Lib.hid (HCELLS.out k hlt)
      go_wp2_with fail
      rw [HS.out]
      exact ⟨⟨k + 1, by omega, by go_num, rfl⟩, by simp [intOf]; omega⟩
    · obtain rfl : k = n := by omega
      go_wp2_with fail
      go_ret
      rw [HEND.out]
      have hg : RowG (w.alloc (.cells (intsV (intL (List.range k))).toArray 3)) w.heap.size (intL (List.range k)) := (MapKept.heap_alloc w _).1
      exact ⟨_, rfl, ⟨hg.own (Nat.le_refl _) hln hn, Nat.le_refl _⟩, (Below.refl _ _).alloc (Nat.le_refl _) _⟩

/-! ### nextOrder -/
theorem putCells_tail (l d : List Int) (k : Nat) (h : k + d.length = l.length) : (Go.Sort.putCells (Value.int .i64) k d.toArray (intsV l).toArray) = (intsV (l.take k ++ d)).toArray := by
  apply Array.ext_getElem?
  intro j
  by_cases hj : j < l.length
  · simp only [Go.Sort.putCells, Array.getElem?_mapIdx, List.getElem?_toArray, intsV, List.getElem?_map, List.size_toArray]
    by_cases hk : k ≤ j
    · rw [List.getElem?_append_right (by rw [List.length_take]; omega)]
      have e : (l.take k).length = k := by rw [List.length_take]; omega
      rw [e, List.getElem?_eq_getElem hj, List.getElem?_eq_getElem (show j - k < d.length by omega)]
      simp [hk, show j < k + d.length by omega, show j - k < d.length by omega]
    · rw [List.getElem?_append_left (by rw [List.length_take]; omega), List.getElem?_take_of_lt (by omega), List.getElem?_eq_getElem hj]
      simp [hk]
  · rw [Array.getElem?_eq_none (by simp [Go.Sort.putCells, intsV]; omega), Array.getElem?_eq_none (by simp [intsV]; omega)]
theorem rev_any (g k n : Nat) (q : List Nat) (w : World) (h : RowG w g (intL q)) (hq : q.length = n) (hk : k ≤ n) (hn : n ≤ 1048576) :
    Calls Tryz.prog 156 #[.slice (some ⟨g, k, none⟩) (n - k) (n - k)] w fun e w' => e = .returned (.tuple #[]) ∧ RowG w' g (intL (revF q k)) ∧ w.grownBy w' (some g) := by
  have hH : Go.Sort.Holds (Value.int .i64) w g k (intL (q.drop k)).toArray := by
    intro j hj
    have hj' : j < (q.drop k).length := by simpa [intL] using hj
    have hjk : k + j < q.length := by rw [List.length_drop] at hj'; omega
    refine ⟨?_, h.frozen _⟩
    rw [h.cell hjk]
    simp [intL, List.getD, hjk]
  have hl : (intL (q.drop k)).length = n - k := by rw [intL_len, List.length_drop, hq]
  have h1 := Tryz.slices_Reverse_int g k (n - k) (intL (q.drop k)) w hH (by omega)
  rw [hl] at h1
  refine h1.mono ?_
  rintro e w' ⟨rfl, m, rfl⟩
  refine ⟨rfl, ?_, ?_⟩
  · unfold RowG
    have hp := putCells_tail (intL q) (intL (q.drop k)).reverse k (by rw [List.length_reverse, hl, intL_len]; omega)
    have hh : (Go.Sort.putRow (Value.int .i64) (Go.Sort.ahead w m) g k (intL (q.drop k)).reverse.toArray).heap[g]? = some (.cells (Go.Sort.putCells (Value.int .i64) k (intL (q.drop k)).reverse.toArray (intsV (intL q)).toArray) 3 (0, 0)) := by
      have hg : (w.heap)[g]? = some (.cells (intsV (intL q)).toArray 3 (0, 0)) := h
      simp [Go.Sort.putRow, Go.Sort.mapBlock, Go.Sort.ahead, Array.getElem?_modify, hg, Go.Sort.onCells]
    rw [hh, hp]
    congr 3
    simp [revF, intL, List.map_reverse, List.map_take, List.map_drop]
  · refine ⟨rfl, rfl, rfl, by simp, fun j hj hne => ?_⟩
    have : g ≠ j := fun e => hne (by rw [e])
    simp [Go.Sort.putRow, Go.Sort.mapBlock, Go.Sort.ahead, Array.getElem?_modify, this]

/-- 'copy(next, order)': all of a row into a row of zeros of the call's own. -/
theorem copy_new {ops : Array Oper} {rest : List Oper} {o : Oper} {a : Act} {Q : Exit → Act → World → Prop} {d s : Operand} {B : Nat} {W : World} {q : List Nat} (g n lb loff cap : Nat)
    (hz : W.heap[g]? = some (.cells (intsV (zerosR n)).toArray 3 (0, 0))) (hr : RowB B W (.slice (some ⟨lb, loff, none⟩) n cap) (intL q)) (hq : q.length = n) (hgd : o.guard = none)
    (ho : o.op = .call { callee := .builtin .copy, args := #[d, s], argTypes := #[25, 25] }) (hd : a.eval d = .slice (some ⟨g, 0, none⟩) n n) (hs : a.eval s = .slice (some ⟨lb, loff, none⟩) n cap)
    (h : ∀ w', RowG w' g (intL q) → W.grownBy w' (some g) → wpList Tryz.prog ops Q rest (a.put o.dst (goInt n)) w') : wpList Tryz.prog ops Q (o :: rest) a W := by
  have hcl : (intsV (intL q)).length = n := by rw [intsV_len, intL_len]; exact hq
  have hzl : (intsV (zerosR n)).length = n := by rw [intsV_len, zerosR_len]
  refine wpList_copy_own hgd d s 25 25 ho 3 Tryz.underlying25 (by kernel_rfl) g 0 n n ⟨lb, loff, none⟩ n cap hd hs (intsV (zerosR n)).toArray 3 hz (intsV (intL q)) (by rw [hcl]; exact (Nat.min_self n).symm)
    (fun i u hu => ?_) (by rw [hcl]; simp [hzl]) (fun u hu => ?_) ?_
  · have hi : i < (intL q).length := by have := (List.getElem?_eq_some_iff.1 hu).1; rwa [intsV_len] at this
    have hi2 : i < n := by rw [intL_len, hq] at hi; exact hi
    rw [Addr.add_lit, hr.prev hi2, ← hu]
    simp [intsV, List.getD, hi]
  · obtain ⟨z, _, rfl⟩ := List.mem_map.1 hu
    rfl
  · rw [hcl]
    refine h _ ?_ ⟨rfl, rfl, rfl, by simp, fun k _ hk => setRow_other W g k _ (fun e => hk (by simp [e]))⟩
    unfold RowG
    rw [setRow_heap W g _ _ 3 _ hz]
    congr 3
    rw [List.take_zero, List.nil_append, Nat.zero_add]
    have e : (intsV (zerosR n)).toArray.toList.drop n = [] := by
      rw [List.drop_of_length_le (by simp [hzl])]
    rw [e, List.append_nil]

/-- A label that the code jumps back to: what holds there may be used where the label is first met. -/
theorem scope_two {P : Program} {a : Act} {w : World} {Q : Exit → Act → World → Prop} {c rest : Code} (l : Nat) (J : Act → World → Prop) (μ : Act → World → Nat) (hf : findLabel c l = some (.seq .skip rest))
    (pass : ∀ a w, J a w → rest.wp P (Exit.jump l (fun a' w' => J a' w' ∧ μ a' w' < μ a w) Q) a w)
    (first : (∀ a w, J a w → rest.wp P (Exit.jump l J Q) a w) → c.wp P (Exit.jump l J Q) a w) : (Code.scope c).wp P Q a w :=
  wp_scope_jumps l J μ hf (first fun a w h => Code.wp_mono (fun e a' w' he => by
    cases e with
    | goto l' => exact ⟨he.1, he.2.1⟩
    | _ => exact he) (pass a w h)) fun a w h => wp_seq (wp_skip (pass a w h))

def NextRet (w : World) (o : Option (List Nat)) (e : Ending) (w' : World) : Prop :=
  Below w.heap.size w w' ∧ match o with
    | none => e = .returned (.tuple #[.slice none 0 0, .bool false])
    | some q => ∃ x, e = .returned (.tuple #[x, .bool true]) ∧ RowI w.heap.size w'.heap.size w' x (intL q)

set_option maxHeartbeats 4000000 in
set_option maxRecDepth 100000 in
theorem nxt_any (B : Nat) (v : Value) (n : Nat) (q : List Nat) (w : World) (h : RowB B w v (intL q)) (hB : B ≤ w.heap.size) (hq : q.length = n) (h1 : 1 ≤ n) (h4 : n ≤ 4) :
    Calls Tryz.prog 138 #[v] w (NextRet w (nextO q)) := by
  obtain ⟨a, cap, rfl⟩ := h.slice
  rw [intL_len, hq] at h ⊢
  have HL := Lib.hid h; clear h
  have HQ := Lib.hid hq
  have HNX := Lib.hid (show nextO q = match atF q (n - 1) with | none => none | some i => some (revF (swapF q i (withF q i (n - 1))) (i + 1)) by unfold nextO; rw [hq])
  clear hq
  generalize nextO q = O at *
  go_enter Tryz.func138, Tryz.ntmps138
  go_wp2_with fail
  refine scope_two 0 (fun a' w' => ∃ (k t : Nat), w' = w.drewN t ∧ k ≤ n - 1 ∧ Hid (atF q (n - 1) = atF q k) ∧ ∃ (u5 u6 u7 u8 u9 u10 u11 u12 u13 u14 u15 u16 u17 u18 u19 u20 u21 u22 u23 u24 u25 u26 u27 u28 u29 u30 u31 u32 u33 u34 u35 u36 u37 u38 u39 u40 u41 u42 u43 u44 u45 u46 u47 u48 u49 u50 u51 u52 u53 u54 u55 u56 u57 u58 u59 u60 u61 u62 u63 : Value), a' = { tmps := #[.slice a n cap, undef, .slice none 0 0, .bool false, .int .i64 k, u5, u6, u7, u8, u9, u10, u11, u12, u13, u14, u15, u16, u17, u18, u19, u20, u21, u22, u23, u24, u25, u26, u27, u28, u29, u30, u31, u32, u33, u34, u35, u36, u37, u38, u39, u40, u41, u42, u43, u44, u45, u46, u47, u48, u49, u50, u51, u52, u53, u54, u55, u56, u57, u58, u59, u60, u61, u62, u63], defers := [] }) (fun a' _ => (intOf (a'.tmps.getD 4 undef)).toNat) rfl ?_ ?_
  · rintro a' w' ⟨k, t, rfl, hk, hat, u5, u6, u7, u8, u9, u10, u11, u12, u13, u14, u15, u16, u17, u18, u19, u20, u21, u22, u23, u24, u25, u26, u27, u28, u29, u30, u31, u32, u33, u34, u35, u36, u37, u38, u39, u40, u41, u42, u43, u44, u45, u46, u47, u48, u49, u50, u51, u52, u53, u54, u55, u56, u57, u58, u59, u60, u61, u62, u63, rfl⟩
    by_cases hk0 : k = 0
    · subst hk0
      have hO : O = none := by rw [HNX.out, hat.out]; rfl
      subst hO
      go_wp2_with fail
      simp only [Exit.jump]
      go_ret2
      exact ⟨below_drewN t, rfl⟩
    · obtain ⟨j, rfl⟩ : ∃ j, k = j + 1 := ⟨k - 1, by omega⟩
      obtain ⟨lb, loff, rfl, hlb, hlc⟩ := HL.out.getD (j := j) (by omega)
      have hlc2 := HL.out.prev (j := j + 1) (by omega)
      rw [intL_get _ _ (by rw [HQ.out]; omega)] at hlc hlc2
      by_cases hgt : q.getD (j + 1) 0 < q.getD j 0
      · have HAT := Lib.hid (show atF q (n - 1) = atF q j by rw [hat.out, atF_gt hgt])
        have hd : decide (((q.getD (j + 1) 0 : Nat) : Int) < ((q.getD j 0 : Nat) : Int)) = true := decide_eq_true (by omega)
        generalize q.getD (j + 1) 0 = x at *
        generalize q.getD j 0 = y at *
        go_wp2_with fail
        go_quiet (fail)
        go_wp2_with fail
        go_step3
        exact ⟨rfl, ⟨j, t + nq, World.drewN_drewN _ _ _, by omega, HAT, _, _, _, _, _, _, _, _, _, _, _, _, _, _, _, _, _, _, _, _, _, _, _, _, _, _, _, _, _, _, _, _, _, _, _, _, _, _, _, _, _, _, _, _, _, _, _, _, _, _, _, _, _, _, _, _, _, _, _, rfl⟩, by simp [intOf]⟩
      · have hO : O = some (revF (swapF q j (withF q j (n - 1))) (j + 1)) := by rw [HNX.out, hat.out, atF_le hgt]
        have HO := Lib.hid hO
        clear hO
        have hd : decide (((q.getD (j + 1) 0 : Nat) : Int) < ((q.getD j 0 : Nat) : Int)) = false := decide_eq_false (by omega)
        generalize hx : q.getD (j + 1) 0 = x at *
        generalize hy : q.getD j 0 = y at *
        have HX := Lib.hid hx; clear hx
        have HY := Lib.hid hy; clear hy
        have hmk := makeInts n (by omega)
        go_wp2_with fail
        go_quiet (fail)
        have hbw : Below w.heap.size w ((w.drewN (t + nq)).alloc (.cells (intsV (zerosR n)).toArray 3)) := (below_drewN (t + nq)).alloc (Nat.le_refl _) _
        have hgw : ((w.drewN (t + nq)).alloc (.cells (intsV (zerosR n)).toArray 3)).heap[w.heap.size]? = some (.cells (intsV (zerosR n)).toArray 3 (0, 0)) := (MapKept.heap_alloc (w.drewN (t + nq)) _).1
        have HBW := Lib.hid hbw; have HGW := Lib.hid hgw
        have HRW := Lib.hid (HL.out.below hbw hB)
        clear hbw hgw
        go_wp2_with (with_reducible refine copy_new (o := ⟨some 29, _, _, _, _, _⟩) w.heap.size n lb loff cap HGW.out HRW.out HQ.out rfl rfl rfl rfl ?_)
        intro w3 hg3' hg3
        have hb3 := HBW.out.grown hg3 (by simp) (fun k hk => by injection hk with hk; omega)
        have HG3 := Lib.hid hg3'
        have HB3 := Lib.hid hb3
        clear hg3 hg3' hb3 hmk hd hlc hlc2 HRW HGW HBW
        have hgs : w.heap.size < w3.heap.size := (Array.getElem?_eq_some_iff.1 HG3.out).1
        go_wp2_with fail
        go_loopw [6] (fun i wr => ∃ (c t2 : Nat), j + 1 ≤ c ∧ c ≤ n - 1 ∧ i = .int .i64 c ∧ wr = w3.drewN t2 ∧ Hid (withF q j (n - 1) = withF q j c)) (fun i _ => (intOf i).toNat)
        case atStart =>
          exact ⟨n - 1, 0, hk, Nat.le_refl _, by go_num, rfl, Lib.hid rfl⟩
        case round =>
          obtain ⟨c, t2, hc1, hc2, rfl, rfl, hw⟩ := hrel
          have hcj := RowG.cell HG3.out (j := j) (by rw [HQ.out]; omega)
          have hcc := RowG.cell HG3.out (j := c) (by rw [HQ.out]; omega)
          have hfj := HG3.out.frozen j
          have hfc := HG3.out.frozen c
          rw [HY.out] at hcj
          by_cases hlt : q.getD c 0 < y
          · obtain ⟨c', rfl⟩ : ∃ c', c = c' + 1 := ⟨c - 1, by omega⟩
            have hne : c' ≠ j := fun e => by subst e; rw [HX.out] at hlt; exact hgt hlt
            have HW := Lib.hid (show withF q j (n - 1) = withF q j c' by rw [hw.out, withF_lt (by rw [HY.out]; exact hlt)])
            have hd : decide (((q.getD (c' + 1) 0 : Nat) : Int) < (y : Int)) = true := decide_eq_true (by omega)
            generalize q.getD (c' + 1) 0 = z at *
            go_wp2_with fail
            go_quiet (fail)
            go_wp2_with fail
            exact ⟨⟨c', t2 + nq, by omega, by omega, by go_num, rfl, HW⟩, by simp [intOf]⟩
          · have hwc : withF q j (n - 1) = c := by
              obtain ⟨c', rfl⟩ : ∃ c', c = c' + 1 := ⟨c - 1, by omega⟩
              rw [hw.out, withF_ge (by rw [HY.out]; exact hlt)]
            have HWC := Lib.hid hwc; clear hwc
            have hd : decide (((q.getD c 0 : Nat) : Int) < (y : Int)) = false := decide_eq_false (by omega)
            generalize hz : q.getD c 0 = z at *
            have HZ := Lib.hid hz; clear hz
            go_wp2_with fail
            go_quiet (fail)
            go_wp2_with fail
            go_region
            have hp : RowG (((w3.drewN (t2 + nq + 1)).setCell ⟨w.heap.size, j, none⟩ (.int .i64 (z : Int))).setCell ⟨w.heap.size, c, none⟩ (.int .i64 (y : Int))) w.heap.size (intL (swapF q j c)) := by
              unfold swapF
              rw [HZ.out, HY.out]
              exact ((show RowG (w3.drewN (t2 + nq + 1)) w.heap.size (intL q) from HG3.out).put j z).put c y
            have hbp : Below w.heap.size w (((w3.drewN (t2 + nq + 1)).setCell ⟨w.heap.size, j, none⟩ (.int .i64 (z : Int))).setCell ⟨w.heap.size, c, none⟩ (.int .i64 (y : Int))) :=
              ((HB3.out.trans ((below_drewN (t2 + nq + 1)).mono (Nat.le_of_lt hgs))).setCell (Nat.le_refl _) _).setCell (Nat.le_refl _) _
            have HP := Lib.hid hp
            have HBP := Lib.hid hbp
            have hsl : (swapF q j c).length = n := by unfold swapF; simp [HQ.out]
            have HSL := Lib.hid hsl
            clear hp hbp hsl hcc hcj hfj hfc hd hlt
            generalize ((w3.drewN (t2 + nq + 1)).setCell ⟨w.heap.size, j, none⟩ (.int .i64 (z : Int))).setCell ⟨w.heap.size, c, none⟩ (.int .i64 (y : Int)) = w4 at *
            go_wp2_with fail
            refine (rev_any w.heap.size (j + 1) n (swapF q j c) w4 HP.out HSL.out (by omega) (by omega)).mono ?_
            rintro e w5 ⟨rfl, hg5, hgr5⟩
            have HG5 := Lib.hid hg5
            have HB5 := Lib.hid (HBP.out.grown hgr5 HBP.out.size (fun k hk => by injection hk with hk; omega))
            clear hg5 hgr5
            have hrl : (revF (swapF q j c) (j + 1)).length = n := by unfold revF; rw [List.length_append, List.length_take, List.length_reverse, List.length_drop, HSL.out]; omega
            have HRL := Lib.hid hrl; clear hrl
            go_wp2_with fail
            simp only [Exit.jump]
            go_ret2
            rw [HO.out, HWC.out]
            exact ⟨HB5.out, _, rfl, HG5.out.own (Nat.le_refl _) (by rw [intL_len]; exact HRL.out) (by omega)⟩
  · intro hp
    go_wp2_with fail
    refine wp_label ?_
    rename_i hK
    exact hK _ _ (hp _ _ ⟨n - 1, 0, rfl, Nat.le_refl _, Lib.hid rfl, _, _, _, _, _, _, _, _, _, _, _, _, _, _, _, _, _, _, _, _, _, _, _, _, _, _, _, _, _, _, _, _, _, _, _, _, _, _, _, _, _, _, _, _, _, _, _, _, _, _, _, _, _, _, _, _, _, _, _, by rw [show ((n - 1 : Nat) : Int) = (n : Int) - 1 by omega]⟩)
end Go.Proofs.YtcmnkhblnlmfpaaGreatDoor
