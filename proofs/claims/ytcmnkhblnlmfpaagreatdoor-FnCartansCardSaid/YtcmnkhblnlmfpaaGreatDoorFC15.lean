/-
  Determinants do not change when the points are taken in another order (no walk here).
  The model's sets by masks, principal minors and witness: what the calls return.
  IsConnected and HasCycle of the model and of the program: what each call returns.
  WitnessOf, IsFinite and IsAffine of the model: what the calls return.
  IsAffine of the model: what the call returns.
  Minors, being of finite type, being affine and being connected do not change when the points are taken in another order (no walk here).
-/
import Derived.Test.YtcmnkhblnlmfpaaGreatDoorFC13
import Derived.Test.YtcmnkhblnlmfpaaGreatDoorFC14
namespace Go.Proofs.YtcmnkhblnlmfpaaGreatDoor
open Go.RowKit

/-! ### Determinants of up to four points as polynomials -/
def P2 (a b c d : Int) : Int := a * d - b * c
def P3 (a b c d e f g h i : Int) : Int := a * (e * i - f * h) - b * (d * i - f * g) + c * (d * h - e * g)
def P4 (f : Nat → Nat → Int) : Int :=
  f 0 0 * P3 (f 1 1) (f 1 2) (f 1 3) (f 2 1) (f 2 2) (f 2 3) (f 3 1) (f 3 2) (f 3 3) - f 0 1 * P3 (f 1 0) (f 1 2) (f 1 3) (f 2 0) (f 2 2) (f 2 3) (f 3 0) (f 3 2) (f 3 3)
    + f 0 2 * P3 (f 1 0) (f 1 1) (f 1 3) (f 2 0) (f 2 1) (f 2 3) (f 3 0) (f 3 1) (f 3 3) - f 0 3 * P3 (f 1 0) (f 1 1) (f 1 2) (f 2 0) (f 2 1) (f 2 2) (f 3 0) (f 3 1) (f 3 2)
def PF (n : Nat) (f : Nat → Nat → Int) : Int := match n with
  | 0 => 1
  | 1 => f 0 0
  | 2 => P2 (f 0 0) (f 0 1) (f 1 0) (f 1 1)
  | 3 => P3 (f 0 0) (f 0 1) (f 0 2) (f 1 0) (f 1 1) (f 1 2) (f 2 0) (f 2 1) (f 2 2)
  | _ => P4 f
theorem det_full1 (f : Nat → Nat → Int) : detF 1 (fullF f 1) = PF 1 f := by
  simp [detF, sgn, wdM, wdR, keepC, entry, List.range_succ, List.getD, fullF, rowF, PF]
theorem det_full2 (f : Nat → Nat → Int) : detF 2 (fullF f 2) = PF 2 f := by
  simp [detF, sgn, wdM, wdR, keepC, entry, List.range_succ, List.getD, fullF, rowF, PF, P2]
  grind
theorem det_full3 (f : Nat → Nat → Int) : detF 3 (fullF f 3) = PF 3 f := by
  simp [detF, sgn, wdM, wdR, keepC, entry, List.range_succ, List.getD, fullF, rowF, PF, P3]
  grind
set_option maxHeartbeats 1000000 in
theorem det_full4 (f : Nat → Nat → Int) : detF 4 (fullF f 4) = PF 4 f := by
  simp [detF, sgn, wdM, wdR, keepC, entry, List.range_succ, List.getD, fullF, rowF, PF, P4, P3]
  grind
theorem det_full (n : Nat) (h : n ≤ 4) (f : Nat → Nat → Int) : detF n (fullF f n) = PF n f := by
  rcases (show n = 0 ∨ n = 1 ∨ n = 2 ∨ n = 3 ∨ n = 4 by omega) with rfl | rfl | rfl | rfl | rfl
  · rfl
  · exact det_full1 f
  · exact det_full2 f
  · exact det_full3 f
  · exact det_full4 f
/-! ### Another order -/
def perF (f : Nat → Nat → Int) (q : List Nat) (i j : Nat) : Int := f (q.getD i 0) (q.getD j 0)
theorem ords1 : ords 1 = [[0]] := by decide +kernel
theorem ords2 : ords 2 = [[0, 1], [1, 0]] := by decide +kernel
theorem ords3 : ords 3 = [[0, 1, 2], [0, 2, 1], [1, 0, 2], [1, 2, 0], [2, 0, 1], [2, 1, 0]] := by decide +kernel
theorem ords4 : ords 4 = [[0, 1, 2, 3], [0, 1, 3, 2], [0, 2, 1, 3], [0, 2, 3, 1], [0, 3, 1, 2], [0, 3, 2, 1], [1, 0, 2, 3], [1, 0, 3, 2], [1, 2, 0, 3], [1, 2, 3, 0], [1, 3, 0, 2], [1, 3, 2, 0],
  [2, 0, 1, 3], [2, 0, 3, 1], [2, 1, 0, 3], [2, 1, 3, 0], [2, 3, 0, 1], [2, 3, 1, 0], [3, 0, 1, 2], [3, 0, 2, 1], [3, 1, 0, 2], [3, 1, 2, 0], [3, 2, 0, 1], [3, 2, 1, 0]] := by decide +kernel
theorem per2 (f : Nat → Nat → Int) : ∀ q ∈ ords 2, PF 2 (perF f q) = PF 2 f := by
  rw [ords2]
  simp only [List.forall_mem_cons, List.forall_mem_nil, and_true]
  refine ⟨?_, ?_⟩ <;> simp [PF, P2, perF, List.getD] <;> grind
theorem per3 (f : Nat → Nat → Int) : ∀ q ∈ ords 3, PF 3 (perF f q) = PF 3 f := by
  rw [ords3]
  simp only [List.forall_mem_cons, List.forall_mem_nil, and_true]
  refine ⟨?_, ?_, ?_, ?_, ?_, ?_⟩ <;> simp [PF, P3, perF, List.getD] <;> grind
set_option maxHeartbeats 4000000 in
theorem per4 (f : Nat → Nat → Int) : ∀ q ∈ ords 4, PF 4 (perF f q) = PF 4 f := by
  rw [ords4]
  simp only [List.forall_mem_cons, List.forall_mem_nil, and_true]
  refine ⟨?_, ?_, ?_, ?_, ?_, ?_, ?_, ?_, ?_, ?_, ?_, ?_, ?_, ?_, ?_, ?_, ?_, ?_, ?_, ?_, ?_, ?_, ?_, ?_⟩ <;> simp [PF, P4, P3, perF, List.getD] <;> grind
theorem per_all (n : Nat) (h : n ≤ 4) (f : Nat → Nat → Int) (q : List Nat) (hq : q ∈ ords n) : PF n (perF f q) = PF n f := by
  rcases (show n = 0 ∨ n = 1 ∨ n = 2 ∨ n = 3 ∨ n = 4 by omega) with rfl | rfl | rfl | rfl | rfl
  · rfl
  · rw [ords1] at hq
    obtain rfl := List.mem_singleton.1 hq
    rfl
  · exact per2 f q hq
  · exact per3 f q hq
  · exact per4 f q hq
end Go.Proofs.YtcmnkhblnlmfpaaGreatDoor
namespace Go.Proofs.YtcmnkhblnlmfpaaGreatDoor
open Go.RowKit

theorem MatI.rowI4 {A B : Nat} {w : World} {a : Option Addr} {n cap : Nat} {m : List (List Int)} (h : MatI A B w (.slice a n cap) m) {j : Nat} (hj : j < m.length) :
    ∃ b hv, a = some ⟨b, 0, none⟩ ∧ w.cell? ⟨b, j, none⟩ = some hv ∧ RowI A B w hv (m.getD j []) := by
  obtain ⟨hs, h1, h2, h3, _⟩ := h
  obtain ⟨hv, h4, h5⟩ := h3 j hj
  rcases h1.2 with ⟨_, he⟩ | ⟨g, cap', cur, hval, _⟩
  · omega
  · have ha : a = some ⟨g, 0, none⟩ := by injection hval
    have hn : n = m.length := by injection hval
    subst ha
    subst hn
    exact ⟨g, hv, rfl, by rw [h1.cellAt j (by omega)]; exact h4, by rw [getD_row m j hj]; exact h5⟩

theorem sameIn_grown4 {A B : Nat} {w w' : World} {S : Option Nat} (hg : w.grownBy w' S) (hB : B ≤ w.heap.size) (hS : ∀ g, S = some g → g < A ∨ B ≤ g) : SameIn A B w w' := fun k h1 h2 =>
  hg.block k (by omega) (fun e => by have := hS k e.symm; omega)
theorem bit_test : ∀ t : Nat, t < 16 → ∀ c : Nat, c < 4 → ((bits BinOp.and IntKind.i64 ((t : Int) / 2 ^ c) 1) == 1) = t.testBit c := by decide +kernel
theorem sets_pred (n t : Nat) (h : 1 ≤ t) : (setsL n (t - 1)).map intL ++ [intL (setK t n)] = (setsL n t).map intL := by
  obtain ⟨k, rfl⟩ : ∃ k, t = k + 1 := ⟨t - 1, by omega⟩
  rw [← setsL_step n k, List.map_append]; rfl
def tabS (n : Nat) : List (List Int) := (setsL n (2 ^ n - 1)).map intL
/-! ### append(row, x) where the row may be empty -/
set_option maxRecDepth 100000 in
theorem append_intL {ops : Array Oper} {rest : List Oper} {o : Oper} {a : Act} {Q : Exit → Act → World → Prop} {s x : Operand} {A q : Nat} {v : Value} {l : List Int} {wr : World}
    (hM : RowI A wr.heap.size wr v l) (hA : A ≤ wr.heap.size) (hq : q = wr.heap.size) (n : Int) (hgd : o.guard = none)
    (ho : o.op = .call { callee := .builtin .append, args := #[s, x], argTypes := #[25, 25] }) (hs : a.eval s = v)
    (hx : a.eval x = .slice (some ⟨q, 0, none⟩) 1 1) (hlen : l.length ≤ 4194304)
    (h : ∀ v' w', RowI A w'.heap.size w' v' (l ++ [n]) → wr.grownBy w' v.ownBlock → (∀ g, v'.ownBlock = some g → v.ownBlock = some g ∨ wr.heap.size ≤ g) → wpList Tryz.prog ops Q rest (a.put o.dst v') w') :
    wpList Tryz.prog ops Q (o :: rest) a (wr.alloc (.cells #[.int .i64 n] 3)) := by
  subst hq
  obtain ⟨h1, h2⟩ := hM
  obtain ⟨i0, hi, hz0, hz1, hz2⟩ := info_parts Tryz.infoInt
  have h1a := h1.alloc (.cells #[.int .i64 n] 3)
  have hnew : ∀ j u, [Value.int .i64 n][j]? = some u → (wr.alloc (.cells #[.int .i64 n] 3)).cell? ((⟨wr.heap.size, 0, none⟩ : Addr).add j) = some u := by
    intro j u hu
    match j, hu with
    | 0, hu =>
      simp at hu
      subst hu
      rw [Addr.add_lit, cell_of_row _ wr.heap.size 0 _ _ _ (MapKept.heap_alloc wr _).1]
      rfl
    | j + 1, hu => simp at hu
  have hone : ∀ u ∈ [Value.int .i64 n], u.oneCell' = true := by
    intro u hu
    simp at hu
    subst hu
    rfl
  have hlv : (intsV l).length = l.length := intsV_len l
  obtain ⟨v', w', hr, h3, h4, _⟩ := run_append_own (P := Tryz.prog) (wr.alloc (.cells #[.int .i64 n] 3)) A 25 o.type 3 i0 (.int .i64 0) 1 8 Tryz.underlying25 hi hz0 hz1 hz2 rfl (by omega) v l.length (intsV l) h1a ⟨wr.heap.size, 0, none⟩ 1 1 [.int .i64 n] rfl hnew hone (by unfold maxLen; omega) (by omega) (by simp; omega)
  have hloc : ∀ g, v'.ownBlock = some g → v.ownBlock = some g ∨ wr.heap.size ≤ g := by
    rcases h1.2 with ⟨rfl, he⟩ | ⟨g, cap, cur, rfl, hAg, hg, hn, hc, hsz, ht⟩
    · have hr2 := run_append_nil (P := Tryz.prog) (wr.alloc (.cells #[.int .i64 n] 3)) 25 o.type 3 i0 (.int .i64 0) Tryz.underlying25 hi hz0 ⟨wr.heap.size, 0, none⟩ 1 1 [.int .i64 n] (by rw [hz1]; rfl) hnew (by omega) (by omega) (by rw [hz2]; omega)
      rw [hr] at hr2
      injection hr2 with e1 e2
      subst e1
      intro g' hg'
      right
      have : (wr.alloc (.cells #[.int .i64 n] 3)).heap.size = g' := by simpa [Value.ownBlock] using hg'
      simp at this
      omega
    · have hga : (wr.alloc (.cells #[.int .i64 n] 3)).heap[g]? = some (.cells cur 3 (0, 0)) := by
        rw [(MapKept.heap_alloc wr _).2 g (Array.getElem?_eq_some_iff.1 hg).1]; exact hg
      by_cases hroom : l.length + 1 ≤ cap
      · have hr2 := run_append_room (P := Tryz.prog) (wr.alloc (.cells #[.int .i64 n] 3)) 25 o.type 3 i0 Tryz.underlying25 hi g l.length cap cur hga ⟨wr.heap.size, 0, none⟩ 1 1 [.int .i64 n] (by rw [hz1]; rfl) hnew hone hroom (by rw [hz1]; simp; omega)
        rw [hr] at hr2
        injection hr2 with e1 e2
        subst e1
        intro g' hg'
        exact Or.inl hg'
      · have hr2 := run_append_grow (P := Tryz.prog) (wr.alloc (.cells #[.int .i64 n] 3)) 25 o.type 3 i0 (.int .i64 0) Tryz.underlying25 hi hz0 ⟨g, 0, none⟩ l.length cap (intsV l) (by rw [hz1, hlv]; omega) (h1a.cells (g := g) rfl) ⟨wr.heap.size, 0, none⟩ 1 1 [.int .i64 n] (by rw [hz1]; rfl) hnew (by omega) (by omega) (growslice_fits (by omega) (by rw [hz2]; omega))
        rw [hr] at hr2
        injection hr2 with e1 e2
        subst e1
        intro g' hg'
        right
        have : (wr.alloc (.cells #[.int .i64 n] 3)).heap.size = g' := by simpa [Value.ownBlock] using hg'
        simp at this
        omega
  refine Lib.wpList_append_run _ hgd s x 25 25 ho _ _ hs hx v' w' hr ?_
  refine h v' w' ⟨?_, fun g hgg => (h3.lt g hgg).2⟩ ⟨h4.os, h4.tape, h4.output, by have := h4.size; simp at this; omega, fun k hk hn => ?_⟩ hloc
  · have e : intsV l ++ [.int .i64 n] = intsV (l ++ [n]) := by simp [intsV]
    rw [e] at h3
    rw [List.length_append]
    exact h3
  · rw [h4.block k (by simp; omega) hn]
    exact (MapKept.heap_alloc wr _).2 k hk

/-! ### Minors -/
/-- One set of the table: the matrix of its points and its minor. -/
theorem minor_ok {m : List (List Int)} (hI : IsC m) {t : Nat} (ht : t < 2 ^ m.length - 1) :
    subM m (intL (setK (t + 1) m.length)) = pick m (intL (setK (t + 1) m.length)) ∧ subB m (intL (setK (t + 1) m.length)) = true ∧ (setK (t + 1) m.length).length ≤ 4 ∧
      (pick m (intL (setK (t + 1) m.length))).length = (setK (t + 1) m.length).length ∧ Rows0 (pick m (intL (setK (t + 1) m.length))) (setK (t + 1) m.length).length (setK (t + 1) m.length).length ∧ Bd (pick m (intL (setK (t + 1) m.length))) := by
  have hs := set_sub hI ht
  have h4 := hI.2.2.2
  have hr := pick_rows m (intL (setK (t + 1) m.length))
  rw [intL_len] at hr
  exact ⟨subM_yes hs, subB_yes hs, Nat.le_trans (setK_len _ _) h4, by rw [pick_len, intL_len], hr, pick_bd (isC_bd hI) _⟩

end Go.Proofs.YtcmnkhblnlmfpaaGreatDoor
namespace Go.Proofs.YtcmnkhblnlmfpaaGreatDoor
open Go.RowKit

def connB (m : Nat) : Bool := decide (m = 1)
theorem connB_int (L : Nat) : ((L : Int) == 1) = connB L := by
  unfold connB
  by_cases h : L = 1
  · subst h; rfl
  · rw [decide_eq_false h, beq_eq_false_iff_ne]; omega

set_option maxHeartbeats 1000000 in
set_option maxRecDepth 100000 in
theorem coni_any (B : Nat) (v : Value) (m : List (List Int)) (w : World) (h : MatB B w v m) (hB : B ≤ w.heap.size) (hf : RowsFit m) :
    Calls Tryz.prog 115 #[v] w fun e w' => e = .returned (.bool (connB (partsV m).length)) ∧ Below w.heap.size w w' := by
  have HL := Lib.hid (connB_int (partsV m).length)
  have HP := Lib.hid (parti_any B v m w h hB hf)
  go_enter Tryz.func115, Tryz.ntmps115
  go_wp2_with fail
  refine HP.out.mono ?_
  rintro e w2 ⟨x, rfl, hx, hb⟩
  obtain ⟨xa, xcap, rfl⟩ := hx.1.slice
  have HB := Lib.hid hb
  clear hx hb
  generalize hpl : (partsV m).length = L at *
  have HPL := Lib.hid hpl; clear hpl
  go_wp2_with fail
  go_ret
  exact ⟨ret_boolean (by rw [HPL.out]; exact HL.out), HB.out⟩

/-! ### HasCycle -/
def cntK (E : Nat → Nat → Bool) (k j : Nat) : Nat := ((List.range j).filter (E k)).length
theorem cntK_le (E : Nat → Nat → Bool) (k j : Nat) : cntK E k j ≤ j := Nat.le_trans (List.length_filter_le _ _) (by rw [List.length_range]; exact Nat.le_refl _)
theorem cntK_yes {E : Nat → Nat → Bool} {k j : Nat} (h : E k j = true) : cntK E k (j + 1) = cntK E k j + 1 := by
  unfold cntK
  rw [List.range_succ, List.filter_append]
  simp [h]
theorem cntK_no {E : Nat → Nat → Bool} {k j : Nat} (h : E k j = false) : cntK E k (j + 1) = cntK E k j := by
  unfold cntK
  rw [List.range_succ, List.filter_append]
  simp [h]
theorem edgesN_succ (E : Nat → Nat → Bool) (k : Nat) : edgesN E (k + 1) = edgesN E k + cntK E k k := by
  unfold edgesN cntK
  rw [List.range_succ, List.map_append, List.sum_append]
  simp
theorem edgesN_le (E : Nat → Nat → Bool) (k : Nat) (hk : k ≤ 5) : edgesN E k ≤ 4 * k := by
  induction k with
  | zero => exact Nat.le_refl _
  | succ k ih =>
    rw [edgesN_succ]
    have h1 := ih (by omega)
    have h2 := cntK_le E k k
    omega
noncomputable def endsV (m : List (List Int)) (k : Nat) : Nat := ((List.range k).map fun i => (nbs m ((i : Nat) : Int)).length).sum
theorem endsV_succ (m : List (List Int)) (k : Nat) : endsV m (k + 1) = endsV m k + (nbs m (k : Int)).length := by
  unfold endsV
  rw [List.range_succ, List.map_append, List.sum_append]
  simp
theorem endsV_bad {m : List (List Int)} (h : ¬ IsC m) (k : Nat) : endsV m k = 0 := by
  induction k with
  | zero => rfl
  | succ k ih => rw [endsV_succ, ih, nbs_no (fun hh => h hh.1)]; rfl
theorem endsV_le {m : List (List Int)} (k : Nat) (hk : k ≤ m.length) : endsV m k ≤ 16 := by
  by_cases h : IsC m
  · have h4 := h.2.2.2
    have : endsV m k ≤ 4 * k := by
      clear hk
      induction k with
      | zero => exact Nat.le_refl _
      | succ k ih => rw [endsV_succ]; have := nbs_len m (k : Int); omega
    omega
  · rw [endsV_bad h]; omega
theorem endsV_good {m : List (List Int)} (h : IsC m) (k : Nat) (hk : k ≤ m.length) : endsV m k = endsN (nbG m m.length) k := by
  unfold endsV endsN
  congr 1
  apply List.map_congr_left
  intro i hi
  have hi := List.mem_range.1 hi
  rw [nbs_yes ⟨h, by omega⟩, nbK_eq, intL_len]
  rfl
open Classical in
noncomputable def cycB (m : List (List Int)) : Bool := decide (IsC m ∧ (m.length : Int) - ((partsV m).length : Nat) < ((edgesN (nbF m) m.length : Nat) : Int))
open Classical in
theorem cycB_good {m : List (List Int)} (h : IsC m) : cycB m = decide ((m.length : Int) - ((partsV m).length : Nat) < ((edgesN (nbF m) m.length : Nat) : Int)) := by
  unfold cycB
  rw [decide_eq_decide]
  exact ⟨fun h => h.2, fun h' => ⟨h, h'⟩⟩
open Classical in
theorem cycB_bad {m : List (List Int)} (h : ¬ IsC m) : cycB m = false := decide_eq_false (fun hh => h hh.1)

end Go.Proofs.YtcmnkhblnlmfpaaGreatDoor
namespace Go.Proofs.YtcmnkhblnlmfpaaGreatDoor
open Go.RowKit

/-! ### IsFinite -/
open Classical in
noncomputable def finB (m : List (List Int)) : Bool := decide (IsC m ∧ (witV m).length = 0)
open Classical in
theorem finB_yes {m : List (List Int)} (h : IsC m) : finB m = decide ((witV m).length = 0) := by
  unfold finB
  rw [decide_eq_decide]
  exact ⟨fun h => h.2, fun h' => ⟨h, h'⟩⟩
open Classical in
theorem finB_no {m : List (List Int)} (h : ¬ IsC m) : finB m = false := decide_eq_false (fun hh => h hh.1)
theorem len_int0 (L : Nat) : ((L : Int) == 0) = decide (L = 0) := by
  by_cases h : L = 0
  · subst h; rfl
  · rw [decide_eq_false h, beq_eq_false_iff_ne]; omega

end Go.Proofs.YtcmnkhblnlmfpaaGreatDoor
namespace Go.Proofs.YtcmnkhblnlmfpaaGreatDoor
open Go.RowKit

def affC (c : Bool) (l : List Int) : Prop := c = true ∧ l.getD (l.length - 1) 0 = 0 ∧ ∀ i, i + 1 < l.length → 0 < l.getD i 0
open Classical in
noncomputable def affB (c : Bool) (l : List Int) : Bool := decide (affC c l)
open Classical in
theorem affB_yes {c : Bool} {l : List Int} (h : affC c l) : affB c l = true := decide_eq_true h
open Classical in
theorem affB_no {c : Bool} {l : List Int} (h : ¬ affC c l) : affB c l = false := decide_eq_false h
theorem conn_isC {m : List (List Int)} (h : connB (partsV m).length = true) : IsC m := Classical.byContradiction fun hn => by
  rw [partsV_no hn] at h
  exact absurd h (by decide)
theorem minV_pos {m : List (List Int)} (h : IsC m) : 1 ≤ (minV m).length := by
  rw [minV_yes h, minK_len]
  rcases (show m.length = 1 ∨ m.length = 2 ∨ m.length = 3 ∨ m.length = 4 by have := h.2.2; omega) with e | e | e | e <;> rw [e] <;> decide

end Go.Proofs.YtcmnkhblnlmfpaaGreatDoor
namespace Go.Proofs.YtcmnkhblnlmfpaaGreatDoor
open Go.RowKit

def eF (a : List (List Int)) (L : List Nat) (i j : Nat) : Int := entry a (L.getD i 0) (L.getD j 0)
def mapK (q S : List Nat) : List Nat := S.map fun i => q.getD i 0
theorem mapK_len (q S : List Nat) : (mapK q S).length = S.length := by simp [mapK]
theorem mapK_get (q S : List Nat) (i : Nat) (h : i < S.length) : (mapK q S).getD i 0 = q.getD (S.getD i 0) 0 := by simp [mapK, List.getD, h]
theorem fullF_congr {f g : Nat → Nat → Int} {n : Nat} (h : ∀ i j, i < n → j < n → f i j = g i j) : fullF f n = fullF g n := by
  unfold fullF rowF
  apply List.map_congr_left
  intro i hi
  apply List.map_congr_left
  intro j hj
  exact h i j (List.mem_range.1 hi) (List.mem_range.1 hj)
theorem pick_eF (a : List (List Int)) (L : List Nat) : pick a (intL L) = fullF (eF a L) L.length := by
  unfold pick
  rw [intL_len]
  refine fullF_congr fun i j hi hj => ?_
  unfold ptsF eF
  rw [intL_get _ _ hi, intL_get _ _ hj]; rfl
theorem pick_pick (a : List (List Int)) (q S : List Nat) (hS : ∀ i, i < S.length → S.getD i 0 < q.length) : pick (pick a (intL q)) (intL S) = pick a (intL (mapK q S)) := by
  rw [pick_eF (pick a (intL q)) S, pick_eF a (mapK q S), mapK_len]
  refine fullF_congr fun i j hi hj => ?_
  unfold eF
  rw [pick_eF a q, fullM_entry _ _ _ _ (hS i hi) (hS j hj)]
  unfold eF
  rw [mapK_get _ _ _ hi, mapK_get _ _ _ hj]
theorem det_map (a : List (List Int)) (S r : List Nat) (k : Nat) (hk : k ≤ 4) (hr : r ∈ ords k) (hl : S.length = k) : detF k (pick a (intL (mapK S r))) = detF k (pick a (intL S)) := by
  have hrl : r.length = k := (show ∀ k, k ≤ 4 → ∀ r ∈ ords k, r.length = k by decide +kernel) k hk r hr
  have e : fullF (eF a (mapK S r)) k = fullF (perF (eF a S) r) k := fullF_congr fun i j hi hj => by
    unfold perF eF
    rw [mapK_get _ _ _ (by omega), mapK_get _ _ _ (by omega)]
  rw [pick_eF, pick_eF, mapK_len, hrl, hl, e, det_full k hk, det_full k hk, per_all k hk (eF a S) r hr]

/-! ### Minors -/
def SetMap (n : Nat) (q : List Nat) (t u : Nat) : Prop := ∃ r ∈ ords (setK (u + 1) n).length, mapK q (setK (t + 1) n) = mapK (setK (u + 1) n) r ∧ (setK (t + 1) n).length = (setK (u + 1) n).length ∧ (t = 2 ^ n - 2 ↔ u = 2 ^ n - 2)
instance (n : Nat) (q : List Nat) (t u : Nat) : Decidable (SetMap n q t u) := by unfold SetMap; infer_instance
def MapOk (n : Nat) : Prop := ∀ q ∈ ords n, (∀ t, t < 2 ^ n - 1 → ∃ u, u < 2 ^ n - 1 ∧ SetMap n q t u) ∧ (∀ u, u < 2 ^ n - 1 → ∃ t, t < 2 ^ n - 1 ∧ SetMap n q t u)
instance (n : Nat) : Decidable (MapOk n) := by unfold MapOk; infer_instance
theorem map_ok1 : MapOk 1 := by decide +kernel
theorem map_ok2 : MapOk 2 := by decide +kernel
theorem map_ok3 : MapOk 3 := by decide +kernel
theorem map_ok4 : MapOk 4 := by decide +kernel
theorem map_ok (n : Nat) (h1 : 1 ≤ n) (h4 : n ≤ 4) : MapOk n := by
  rcases (show n = 1 ∨ n = 2 ∨ n = 3 ∨ n = 4 by omega) with rfl | rfl | rfl | rfl
  · exact map_ok1
  · exact map_ok2
  · exact map_ok3
  · exact map_ok4
theorem ords_lt : ∀ n, n ≤ 4 → ∀ q ∈ ords n, q.length = n ∧ ∀ i, i < n → q.getD i 0 < n := by decide +kernel
theorem min_map {a : List (List Int)} {q : List Nat} {n t u : Nat} (hn : a.length = n) (h4 : n ≤ 4) (hq : q ∈ ords n) (ht : t < 2 ^ n - 1) (hb : (pick a (intL q)).length = n) (h : SetMap n q t u) : minP (pick a (intL q)) t = minP a u := by
  obtain ⟨r, hr, h1, h2, _⟩ := h
  obtain ⟨hql, hqn⟩ := ords_lt n h4 q hq
  unfold minP
  rw [hb, hn, pick_pick a q _ (fun i hi => by rw [hql]; exact ((sets_ok n h4 t ht).2 i hi).1), h1, h2]
  exact det_map a _ r _ (Nat.le_trans (setK_len _ _) h4) hr rfl

/-! ### What the functions say, by minors -/
theorem fin_iff {m : List (List Int)} (hI : IsC m) : finB m = true ↔ ∀ t, t < 2 ^ m.length - 1 → 0 < minP m t := by
  rw [finB_yes hI, decide_eq_true_eq]
  have hlen : ∀ t, t < 2 ^ m.length - 1 → (setK (t + 1) m.length).length ≠ 0 := fun t ht => (sets_ok m.length hI.2.2.2 t ht).1
  cases hw : witT m (2 ^ m.length - 1) with
  | none =>
    rw [witV_none hI hw]
    refine ⟨fun _ t ht => ?_, fun _ => rfl⟩
    unfold witT at hw
    have := List.find?_eq_none.1 hw t (List.mem_range.2 ht)
    simp at this
    omega
  | some t =>
    rw [witV_hit hI hw, intL_len]
    have ht : t < 2 ^ m.length - 1 := List.mem_range.1 (List.mem_of_find?_eq_some hw)
    refine ⟨fun h => absurd h (hlen t ht), fun h => ?_⟩
    have h1 := h t ht
    have h2 := List.find?_some hw
    simp at h2
    omega
theorem aff_iff {m : List (List Int)} (hI : IsC m) (c : Bool) : affB c (minV m) = true ↔ c = true ∧ minP m (2 ^ m.length - 2) = 0 ∧ ∀ t, t < 2 ^ m.length - 2 → 0 < minP m t := by
  have hn : 1 ≤ 2 ^ m.length - 1 := by
    rcases (show m.length = 1 ∨ m.length = 2 ∨ m.length = 3 ∨ m.length = 4 by have := hI.2.2; omega) with e | e | e | e <;> rw [e] <;> decide
  have hget : ∀ t, t < 2 ^ m.length - 1 → (minV m).getD t 0 = minP m t := fun t ht => by rw [minV_yes hI]; simp [minK, List.getD, ht]
  have hlen : (minV m).length = 2 ^ m.length - 1 := by rw [minV_yes hI, minK_len]
  have key : affC c (minV m) ↔ c = true ∧ minP m (2 ^ m.length - 2) = 0 ∧ ∀ t, t < 2 ^ m.length - 2 → 0 < minP m t := by
    unfold affC
    rw [hlen, hget _ (by omega)]
    have e : 2 ^ m.length - 1 - 1 = 2 ^ m.length - 2 := by omega
    rw [e]
    refine ⟨fun ⟨h1, h2, h3⟩ => ⟨h1, h2, fun t ht => ?_⟩, fun ⟨h1, h2, h3⟩ => ⟨h1, h2, fun t ht => ?_⟩⟩
    · have := h3 t (by omega)
      rwa [hget t (by omega)] at this
    · rw [hget t (by omega)]
      exact h3 t (by omega)
  by_cases h : affC c (minV m)
  · rw [affB_yes h]
    exact ⟨fun _ => key.1 h, fun _ => rfl⟩
  · rw [affB_no h]
    exact ⟨fun h' => by simp at h', fun h' => absurd (key.2 h') h⟩
/-! ### Another order -/
theorem fin_inv {a : List (List Int)} {q : List Nat} (hI : IsC a) (hq : q ∈ ords a.length) (hB : IsC (pick a (intL q))) (hb : (pick a (intL q)).length = a.length) : finB (pick a (intL q)) = finB a := by
  rw [Bool.eq_iff_iff, fin_iff hB, fin_iff hI, hb]
  have hm := map_ok a.length hI.2.2.1 hI.2.2.2 q hq
  refine ⟨fun h u hu => ?_, fun h t ht => ?_⟩
  · obtain ⟨t, ht, hs⟩ := hm.2 u hu
    rw [← min_map rfl hI.2.2.2 hq ht hb hs]
    exact h t ht
  · obtain ⟨u, hu, hs⟩ := hm.1 t ht
    rw [min_map rfl hI.2.2.2 hq ht hb hs]
    exact h u hu
theorem aff_inv {a : List (List Int)} {q : List Nat} {c : Bool} (hI : IsC a) (hq : q ∈ ords a.length) (hB : IsC (pick a (intL q))) (hb : (pick a (intL q)).length = a.length) : affB c (minV (pick a (intL q))) = affB c (minV a) := by
  rw [Bool.eq_iff_iff, aff_iff hB, aff_iff hI, hb]
  have hm := map_ok a.length hI.2.2.1 hI.2.2.2 q hq
  have hn : 1 ≤ 2 ^ a.length - 1 := by
    rcases (show a.length = 1 ∨ a.length = 2 ∨ a.length = 3 ∨ a.length = 4 by have := hI.2.2; omega) with e | e | e | e <;> rw [e] <;> decide
  have hlast : minP (pick a (intL q)) (2 ^ a.length - 2) = minP a (2 ^ a.length - 2) := by
    obtain ⟨u, hu, hs⟩ := hm.1 (2 ^ a.length - 2) (by omega)
    have hue : u = 2 ^ a.length - 2 := hs.choose_spec.2.2.2.1 rfl
    rw [min_map rfl hI.2.2.2 hq (by omega) hb hs, hue]
  rw [hlast]
  refine ⟨fun ⟨h1, h2, h⟩ => ⟨h1, h2, fun u hu => ?_⟩, fun ⟨h1, h2, h⟩ => ⟨h1, h2, fun t ht => ?_⟩⟩
  · obtain ⟨t, ht, hs⟩ := hm.2 u (by omega)
    have hne : t ≠ 2 ^ a.length - 2 := fun e => by have := hs.choose_spec.2.2.2.1 e; omega
    rw [← min_map rfl hI.2.2.2 hq ht hb hs]
    exact h t (by omega)
  · obtain ⟨u, hu, hs⟩ := hm.1 t (by omega)
    have hne : u ≠ 2 ^ a.length - 2 := fun e => by have := hs.choose_spec.2.2.2.2 e; omega
    rw [min_map rfl hI.2.2.2 hq (by omega) hb hs]
    exact h u (by omega)
end Go.Proofs.YtcmnkhblnlmfpaaGreatDoor
