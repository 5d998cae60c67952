/-
  The laws' own helpers on ints and matrices: sizes, equality, copies: what each call returns.
  The model's range test: what the call returns.
  IsCartan of the model: what the call returns.
-/
import Derived.BigQuiet
import Derived.Deep.QuietTactic
import Derived.OwnWalk
import Derived.Lib.Hide
import Derived.Test.YtfjeghalkmkgoaaGreatDoorFW03
namespace Go.Proofs.YtfjeghalkmkgoaaGreatDoor
open Go.RowKit

def szSum (m : List (List Int)) : Nat := m.length + (m.map List.length).sum
def szI (left n : Nat) : Int := if n ≤ left then (left : Int) - n else -1
theorem szI_yes {left n : Nat} (h : n ≤ left) : szI left n = (left : Int) - n := if_pos h
theorem szI_no {left n : Nat} (h : ¬ n ≤ left) : szI left n = -1 := if_neg h
theorem ret_int {a b : Int} (h : a = b) : Ending.returned (.int .i64 a) = .returned (.int .i64 b) := by rw [h]

theorem sum_take_succ (m : List (List Int)) (k : Nat) (h : k < m.length) : ((m.take (k + 1)).map List.length).sum = ((m.take k).map List.length).sum + m[k].length := by
  rw [List.take_succ_eq_append_getElem h, List.map_append, List.sum_append]
  simp only [List.map_cons, List.map_nil, List.sum_cons, List.sum_nil]; omega
theorem sum_take_le (m : List (List Int)) (k : Nat) : ((m.take k).map List.length).sum ≤ (m.map List.length).sum := by
  have h := congrArg List.sum (congrArg (List.map List.length) (List.take_append_drop k m))
  rw [List.map_append, List.sum_append] at h
  omega

def SzRel (n : Nat) (m : List (List Int)) (left k r : Nat) : Prop := r + n + ((m.take k).map List.length).sum = left
/-- What every row of a value that is read keeps to. -/
def RowsFit (m : List (List Int)) : Prop := m.length ≤ maxLen ∧ ∀ j (h : j < m.length), m[j].length ≤ maxLen

/-- Two lists are the same. -/
def eqL (a b : List Int) : Bool := decide (a = b)
theorem eqL_yes {a b : List Int} (h : a = b) : eqL a b = true := decide_eq_true h
theorem eqL_no {a b : List Int} (h : ¬ a = b) : eqL a b = false := decide_eq_false h
theorem ret_boolean {a b : Bool} (h : a = b) : Ending.returned (.bool a) = .returned (.bool b) := by rw [h]
def Pre (a b : List Int) (k : Nat) : Prop := a.take k = b.take k
theorem pre_step {a b : List Int} {k : Nat} (ha : k < a.length) (hb : k < b.length) (h : Pre a b k) (he : a[k] = b[k]) : Pre a b (k + 1) := by
  unfold Pre at *
  rw [List.take_succ_eq_append_getElem ha, List.take_succ_eq_append_getElem hb, h, he]

/-- Two matrices are the same. -/
def eqM (a b : List (List Int)) : Bool := decide (a = b)
theorem eqM_yes {a b : List (List Int)} (h : a = b) : eqM a b = true := decide_eq_true h
theorem eqM_no {a b : List (List Int)} (h : ¬ a = b) : eqM a b = false := decide_eq_false h
def PreM (a b : List (List Int)) (k : Nat) : Prop := a.take k = b.take k
theorem preM_step {a b : List (List Int)} {k : Nat} (ha : k < a.length) (hb : k < b.length) (h : PreM a b k) (he : a[k] = b[k]) : PreM a b (k + 1) := by
  unfold PreM at *
  rw [List.take_succ_eq_append_getElem ha, List.take_succ_eq_append_getElem hb, h, he]
theorem RowB.drewN {B : Nat} {w : World} {v : Value} {l : List Int} (h : RowB B w v l) (q : Nat) : RowB B (w.drewN q) v l := h

/-- A callee that only draws, met in a region behind other draws. -/
theorem quiet_more {P : Program} {f : FuncId} {args : Array Value} {w : World} {v : Value} (h : ∀ x, Calls P f args (w.drewN x) fun e w' => e = .returned v ∧ ∃ m, w' = (w.drewN x).drewN m) (a n : Nat) :
    Calls P f args (w.drewN (a + n)) fun e w'' => e = .returned v ∧ ∃ m, w'' = w.drewN (a + m) :=
  (h (a + n)).mono fun _ _ ⟨he, m, hm⟩ => ⟨he, n + m, by rw [hm, World.drewN_drewN, Nat.add_assoc]⟩

/-! ### Copies -/
def intsV (l : List Int) : List Value := l.map (Value.int .i64)
theorem intsV_len (l : List Int) : (intsV l).length = l.length := by simp [intsV]
def cpSt (l : List Int) (k : Nat) : List Int := l.take k ++ List.replicate (l.length - k) 0
theorem cpSt_zero (l : List Int) : cpSt l 0 = List.replicate l.length 0 := by simp [cpSt]
theorem cpSt_end (l : List Int) : cpSt l l.length = l := by simp [cpSt]
theorem cpSt_len (l : List Int) (k : Nat) (h : k ≤ l.length) : (cpSt l k).length = l.length := by
  simp only [cpSt, List.length_append, List.length_take, List.length_replicate]; omega
theorem cpSt_step (l : List Int) (k : Nat) (h : k < l.length) : cpSt l (k + 1) = (cpSt l k).set k l[k] := by
  have hl := cpSt_len l k (by omega)
  apply List.ext_getElem?
  intro i
  rw [List.getElem?_set]
  by_cases hi : k = i
  · subst hi
    rw [if_pos rfl, if_pos (by omega)]
    unfold cpSt
    rw [List.getElem?_append_left (by rw [List.length_take]; omega), List.getElem?_take_of_lt (by omega), List.getElem?_eq_getElem h]
  · rw [if_neg hi]
    unfold cpSt
    rcases Nat.lt_or_ge i k with h1 | h1
    · rw [List.getElem?_append_left (by rw [List.length_take]; omega), List.getElem?_append_left (by rw [List.length_take]; omega), List.getElem?_take_of_lt (by omega), List.getElem?_take_of_lt h1]
    · rw [List.getElem?_append_right (by rw [List.length_take]; omega), List.getElem?_append_right (by rw [List.length_take]; omega)]
      simp only [List.length_take, List.getElem?_replicate]
      rw [Nat.min_eq_left (by omega), Nat.min_eq_left (by omega)]
      by_cases h2 : i < l.length
      · rw [if_pos (by omega), if_pos (by omega)]
      · rw [if_neg (by omega), if_neg (by omega)]
theorem cpSt_cells (l : List Int) (k : Nat) (h : k < l.length) : (intsV (cpSt l k)).set k (.int .i64 l[k]) = intsV (cpSt l (k + 1)) := by
  rw [cpSt_step l k h]; simp [intsV, List.map_set]
theorem cpSt_cell (l : List Int) (k : Nat) (h : k < l.length) : ∃ c : Value, (intsV (cpSt l k))[k]? = some c := by
  have hl := cpSt_len l k (by omega)
  exact ⟨_, List.getElem?_eq_getElem (by rw [intsV_len]; omega)⟩
theorem madeI64 (n : Nat) : (madeCells (Value.int .i64 0).cells n).toList = intsV (List.replicate n 0) := by
  apply List.ext_getElem
  · simp [madeCells, intsV]
  · intro i h1 h2
    simp [madeCells, intsV, Value.cells, Nat.mod_one]
theorem Tryz.infoInt : (Tryz.prog.info? 3).map (fun i => (i.zero, i.size, i.bytes)) = some (some (.int .i64 0), 1, 8) := by kernel_rfl

theorem blk_set {w : World} {C : Nat} {cs : Array Value} {t : TypeId} (hC : w.heap[C]? = some (.cells cs t (0, 0))) (j : Nat) (v : Value) : (w.setCell ⟨C, j, none⟩ v).heap[C]? = some (.cells (cs.setIfInBounds j v) t (0, 0)) := by
  unfold World.setCell
  simp only [Array.getElem?_modify, if_pos, hC, Option.map_some, Option.isSome_none, Bool.false_eq_true, if_false]
theorem blk_other {w : World} {C k : Nat} (j : Nat) (v : Value) (hne : k ≠ C) : (w.setCell ⟨C, j, none⟩ v).heap[k]? = w.heap[k]? := by
  unfold World.setCell
  simp [Array.getElem?_modify, hne.symm]

/-- The headers of the rows, as the copy lays them: row j in block O + 1 + j. -/
def hdr (O : Nat) (m : List (List Int)) (j : Nat) : Value := .slice (some ⟨O + 1 + j, 0, none⟩) (m.getD j []).length (m.getD j []).length
def hdrSt (O : Nat) (m : List (List Int)) (k : Nat) : List Value := (List.range m.length).map fun j => if j < k then hdr O m j else .slice none 0 0
theorem hdrSt_len (O : Nat) (m : List (List Int)) (k : Nat) : (hdrSt O m k).length = m.length := by simp [hdrSt]
theorem hdrSt_step (O : Nat) (m : List (List Int)) (k : Nat) (_h : k < m.length) : (hdrSt O m k).set k (hdr O m k) = hdrSt O m (k + 1) := by
  apply List.ext_getElem
  · simp [hdrSt]
  · intro i h1 h2
    have hi : i < m.length := by simpa [hdrSt] using h2
    rw [List.getElem_set]
    by_cases e : k = i
    · subst e; simp [hdrSt]
    · rw [if_neg e]
      simp only [hdrSt, List.getElem_map, List.getElem_range]
      by_cases h3 : i < k
      · rw [if_pos h3, if_pos (by omega)]
      · rw [if_neg h3, if_neg (by omega)]
theorem hdrSt_zero (O : Nat) (m : List (List Int)) : hdrSt O m 0 = List.replicate m.length (.slice none 0 0) := by
  apply List.ext_getElem
  · simp [hdrSt]
  · intro i h1 h2; simp [hdrSt]
theorem hdrSt_get (O : Nat) (m : List (List Int)) (k j : Nat) (hj : j < m.length) (hk : j < k) : (hdrSt O m k)[j]? = some (hdr O m j) := by
  simp [hdrSt, hj, hk]
theorem hdrSt_old (O : Nat) (m : List (List Int)) (k : Nat) (hk : k < m.length) : (hdrSt O m k)[k]? = some (.slice none 0 0) := by
  simp [hdrSt, hk]

/-- A matrix as the copy lays it: the headers in block O, row j in block O + 1 + j; the first k rows are there. -/
def CopySt (O : Nat) (m : List (List Int)) (k : Nat) (w : World) : Prop :=
  w.heap[O]? = some (.cells (hdrSt O m k).toArray 25 (0, 0)) ∧ w.heap.size = O + 1 + k ∧ ∀ j (h : j < m.length), j < k → w.heap[O + 1 + j]? = some (.cells (intsV m[j]).toArray 3 (0, 0))
theorem row_cells {w : World} {b : Nat} {l : List Int} {t : TypeId} (h : w.heap[b]? = some (.cells (intsV l).toArray t (0, 0))) (B : Nat) (hB : b < B) (cap : Nat) : RowB B w (.slice (some ⟨b, 0, none⟩) l.length cap) l := by
  refine Or.inr ⟨b, 0, cap, rfl, hB, fun j hj => ?_⟩
  rw [cell_of_row w b (0 + j) _ _ _ h]
  simp [intsV, hj]
theorem CopySt.mat {O : Nat} {m : List (List Int)} {w : World} (h : CopySt O m m.length w) (cap : Nat) : MatB (O + 1 + m.length) w (.slice (some ⟨O, 0, none⟩) m.length cap) m := by
  obtain ⟨h1, h2, h3⟩ := h
  refine Or.inr ⟨O, 0, cap, rfl, by omega, fun j hj => ⟨hdr O m j, ?_, ?_⟩⟩
  · rw [cell_of_row w O (0 + j) _ _ _ h1]
    have := hdrSt_get O m m.length j hj hj
    simpa using this
  · have hg : m.getD j [] = m[j] := by simp [List.getD, hj]
    unfold hdr
    rw [hg]
    exact row_cells (h3 j hj hj) _ (by omega) _
theorem copy_step {O : Nat} {m : List (List Int)} {k : Nat} {w : World} (h : CopySt O m k w) (hk : k < m.length) :
    CopySt O m (k + 1) ((w.alloc (.cells (intsV m[k]).toArray 3)).setCell ⟨O, k, none⟩ (hdr O m k)) := by
  obtain ⟨h1, h2, h3⟩ := h
  have hO : (w.alloc (.cells (intsV m[k]).toArray 3)).heap[O]? = some (.cells (hdrSt O m k).toArray 25 (0, 0)) := by
    rw [(MapKept.heap_alloc w _).2 O (by omega)]; exact h1
  refine ⟨?_, ?_, ?_⟩
  · rw [blk_set hO k, ← hdrSt_step O m k hk]
    congr 2
    simp
  · rw [World.size_setCell, World.size_alloc]; omega
  · intro j hj hjk
    have hne : O + 1 + j ≠ O := by omega
    rw [blk_other _ _ hne]
    rcases Nat.lt_or_ge j k with h' | h'
    · rw [(MapKept.heap_alloc w _).2 (O + 1 + j) (by omega)]; exact h3 j hj h'
    · have : j = k := by omega
      subst this
      rw [show O + 1 + j = w.heap.size by omega]
      exact (MapKept.heap_alloc w _).1

def Small (m : List (List Int)) : Prop := m.length ≤ 1048576 ∧ ∀ j (h : j < m.length), m[j].length ≤ 1048576
theorem Tryz.infoRow : (Tryz.prog.info? 25).map (fun i => (i.zero, i.size, i.bytes)) = some (some (.slice none 0 0), 1, 24) := by kernel_rfl
theorem madeRows (n : Nat) : (madeCells (Value.slice none 0 0).cells n).toList = List.replicate n (.slice none 0 0) := by
  apply List.ext_getElem
  · simp [madeCells]
  · intro i h1 h2
    simp [madeCells, Value.cells, Nat.mod_one]
theorem hdr_eq (O : Nat) (m : List (List Int)) (k : Nat) (h : k < m.length) : hdr O m k = .slice (some ⟨O + 1 + k, 0, none⟩) m[k].length m[k].length := by
  unfold hdr
  have hg : m.getD k [] = m[k] := by simp [List.getD, h]
  rw [hg]

end Go.Proofs.YtfjeghalkmkgoaaGreatDoor
namespace Go.Proofs.YtfjeghalkmkgoaaGreatDoor
open Go.RowKit

def inB (x a b : Int) : Bool := decide (a ≤ x ∧ x ≤ b)
theorem inB_yes {x a b : Int} (h : a ≤ x ∧ x ≤ b) : inB x a b = true := decide_eq_true h
theorem inB_no {x a b : Int} (h : ¬ (a ≤ x ∧ x ≤ b)) : inB x a b = false := decide_eq_false h
set_option maxHeartbeats 400000 in
theorem l1in_any (x a b : Int) (w : World) :
    Calls Tryz.prog 34 #[.int .i64 x, .int .i64 a, .int .i64 b] w fun e w' => e = .returned (.bool (decide (a ≤ x ∧ x ≤ b))) ∧ w = w' := by
  go_enter Tryz.func34, Tryz.ntmps34
  go_wp2
  all_goals (go_ret; exact ⟨ret_boolean (by simp; try omega), rfl⟩)
theorem l1in_q (x a b : Int) (c : Bool) (hc : inB x a b = c) (w : World) (q : Nat) :
    Calls Tryz.prog 34 #[.int .i64 x, .int .i64 a, .int .i64 b] (w.drewN q) fun e w' => e = .returned (.bool c) ∧ ∃ m, w' = (w.drewN q).drewN m :=
  (l1in_any x a b (w.drewN q)).mono fun e w' ⟨he, hw⟩ => ⟨by rw [he]; exact ret_boolean hc, 0, hw.symm⟩
end Go.Proofs.YtfjeghalkmkgoaaGreatDoor
namespace Go.Proofs.YtfjeghalkmkgoaaGreatDoor
open Go.RowKit

def entry (m : List (List Int)) (i j : Nat) : Int := (m.getD i []).getD j 0
def okC (m : List (List Int)) (i j : Nat) : Prop := (i = j ∧ entry m i j = 2) ∨ (i ≠ j ∧ (-3 ≤ entry m i j ∧ entry m i j ≤ 0) ∧ (entry m i j = 0 ↔ entry m j i = 0))
def IsC (m : List (List Int)) : Prop := (∀ i, i < m.length → (m.getD i []).length = m.length) ∧ (∀ i j, i < m.length → j < m.length → okC m i j) ∧ 1 ≤ m.length ∧ m.length ≤ 4
def IsAns (m : List (List Int)) (e : Ending) : Prop := (IsC m ∧ e = .returned (.bool true)) ∨ (¬ IsC m ∧ e = .returned (.bool false))
def Rows0 (m : List (List Int)) (n k : Nat) : Prop := ∀ i, i < k → (m.getD i []).length = n
def Ok0 (m : List (List Int)) (n k j : Nat) : Prop := (∀ i c, i < k → c < n → okC m i c) ∧ ∀ c, c < j → okC m k c
theorem ans_f {m : List (List Int)} (h : ¬ IsC m) : IsAns m (.returned (.bool false)) := Or.inr ⟨h, rfl⟩
theorem rows0_step {m : List (List Int)} {n k : Nat} (h : Rows0 m n k) (hk : (m.getD k []).length = n) : Rows0 m n (k + 1) := fun i hi => by
  rcases Nat.lt_or_ge i k with h' | h'
  · exact h i h'
  · have : i = k := by omega
    subst this; exact hk
theorem ok0_step {m : List (List Int)} {n k j : Nat} (h : Ok0 m n k j) (hk : okC m k j) : Ok0 m n k (j + 1) := ⟨h.1, fun c hc => by
  rcases Nat.lt_or_ge c j with h' | h'
  · exact h.2 c h'
  · have : c = j := by omega
    subst this; exact hk⟩
theorem ok0_row {m : List (List Int)} {n k : Nat} (h : Ok0 m n k n) : Ok0 m n (k + 1) 0 := ⟨fun i c hi hc => by
  rcases Nat.lt_or_ge i k with h' | h'
  · exact h.1 i c h' hc
  · have : i = k := by omega
    subst this; exact h.2 c hc, fun c hc => by omega⟩
theorem getD_row (m : List (List Int)) (i : Nat) (h : i < m.length) : m.getD i [] = m[i] := by simp [List.getD, h]

/-- One entry of a square matrix: the row's header and the cell. -/
theorem MatB.entry {B : Nat} {w : World} {a : Option Addr} {n cap : Nat} {m : List (List Int)} (h : MatB B w (.slice a n cap) m) (hr : Rows0 m n n) {i j : Nat} (hi : i < n) (hj : j < n) :
    ∃ b off rb roff rcap, a = some ⟨b, off, none⟩ ∧ w.cell? ⟨b, off + i, none⟩ = some (.slice (some ⟨rb, roff, none⟩) n rcap) ∧ w.cell? ⟨rb, roff + j, none⟩ = some (.int .i64 (entry m i j)) := by
  obtain ⟨b, off, hil, rfl, hb, ra, rcap, hc, hrow⟩ := h.get hi
  have hg := getD_row m i hil
  have hlen : m[i].length = n := by rw [← hg]; exact hr i hi
  rw [hlen] at hc hrow
  obtain ⟨rb, roff, hjl, rfl, _, hcell⟩ := hrow.get hj
  refine ⟨b, off, rb, roff, rcap, rfl, hc, ?_⟩
  rw [hcell]
  unfold Go.Proofs.YtfjeghalkmkgoaaGreatDoor.entry
  rw [hg]
  simp [List.getD, hjl]

set_option maxHeartbeats 4000000 in
set_option maxRecDepth 100000 in
theorem isc_any (B : Nat) (v : Value) (m : List (List Int)) (w : World) (h : MatB B w v m) (hf : RowsFit m) :
    Calls Tryz.prog 11 #[v] w fun e w' => IsAns m e ∧ ∃ q, w' = w.drewN q := by
  obtain ⟨a, cap, rfl⟩ := h.slice
  have hl := hf.1
  have HR := Lib.hid h; clear h
  have HF := Lib.hid hf; clear hf
  generalize hn : m.length = n at *
  unfold maxLen at hl
  have HN := Lib.hid hn; clear hn
  go_enter Tryz.func11, Tryz.ntmps11
  go_wp2_with fail
  go_loop [3] (fun i => ∃ k : Nat, k ≤ n ∧ i = .int .i64 k ∧ Rows0 m n k) (fun i => n - (intOf i).toNat)
  case atStart => exact ⟨0, Nat.zero_le _, rfl, fun i hi => by omega⟩
  case round =>
    obtain ⟨k, hk, rfl, hr⟩ := hrel
    have HRW := Lib.hid hr; clear hr
    by_cases hlt : k < n
    · obtain ⟨b, off, hkl, rfl, hb, ra, rcap, hc, hrow⟩ := HR.out.get hlt
      have hrl := HF.out.2 k hkl
      unfold maxLen at hrl
      have hg := getD_row m k hkl
      clear hrow
      by_cases he : m[k].length = n
      · have hst := rows0_step HRW.out (by rw [hg]; exact he)
        have HST := Lib.hid hst; clear hst hg
        generalize m[k].length = r at *
        have hq : ((r : Int) != (n : Int)) = false := by rw [bne_eq_false_iff_eq]; omega
        have hr1 : r ≤ n := by omega
        have hr2 : n ≤ r := by omega
        clear he
        go_wp2_with fail
        go_round
        case rel => exact ⟨k + 1, by omega, by go_num, HST.out⟩
        case measure => simp [intOf]; omega
      · have hbad : ¬ IsC m := fun hi => he (by have := hi.1 k (by rw [HN.out]; exact hlt); rw [hg, HN.out] at this; exact this)
        have HBAD := Lib.hid hbad; clear hbad hg
        generalize m[k].length = r at *
        have hq : ((r : Int) != (n : Int)) = true := by rw [bne_iff_ne]; omega
        clear he
        go_wp2_with fail
        go_ret
        exact ⟨ans_f HBAD.out, 0, rfl⟩
    · obtain rfl : n = k := by omega
      go_wp2_with fail
      go_loopw [4] (fun i wr => ∃ (k q : Nat), k ≤ n ∧ i = .int .i64 k ∧ wr = w.drewN q ∧ Ok0 m n k 0) (fun i _ => n - (intOf i).toNat)
      case atStart => exact ⟨0, 0, Nat.zero_le _, rfl, rfl, fun i c hi _ => by omega, fun c hc => by omega⟩
      case round =>
        obtain ⟨k, q, hk2, rfl, rfl, ho⟩ := hrel
        have HO := Lib.hid ho; clear ho
        by_cases hkn : k < n
        · go_wp2_with fail
          go_loopw [5] (fun i wr => ∃ (j q : Nat), j ≤ n ∧ i = .int .i64 j ∧ wr = w.drewN q ∧ Ok0 m n k j) (fun i _ => n - (intOf i).toNat)
          case atStart => exact ⟨0, q, Nat.zero_le _, rfl, rfl, HO.out⟩
          case round =>
            obtain ⟨j, q2, hj, rfl, rfl, hoj⟩ := hrel
            have HOJ := Lib.hid hoj; clear hoj
            by_cases hjn : j < n
            · obtain ⟨b, off, rb, roff, rcap, rfl, hc1, hx⟩ := HR.out.entry HRW.out hkn hjn
              obtain ⟨b', off', rb', roff', rcap', hab, hc2, hy⟩ := HR.out.entry HRW.out hjn hkn
              injection hab with hab
              injection hab with hab1 hab2
              subst hab1
              subst hab2
              have hst : okC m k j → Ok0 m n k (j + 1) := ok0_step HOJ.out
              have hbd : ¬ okC m k j → ¬ IsC m := fun h1 h2 => h1 (h2.2.1 k j (by rw [HN.out]; exact hkn) (by rw [HN.out]; exact hjn))
              have hok : okC m k j ↔ ((k = j ∧ entry m k j = 2) ∨ (k ≠ j ∧ (-3 ≤ entry m k j ∧ entry m k j ≤ 0) ∧ (entry m k j = 0 ↔ entry m j k = 0))) := Iff.rfl
              have HSTP := Lib.hid hst; clear hst
              have HBDP := Lib.hid hbd; clear hbd
              have HOK := Lib.hid hok; clear hok
              generalize entry m k j = x at *
              generalize entry m j k = y at *
              by_cases hkj : k = j
              · subst hkj
                have g1 : ((k : Int) == (k : Int)) = true := by rw [beq_iff_eq]
                by_cases hx2 : x = 2
                · have HST := Lib.hid (HSTP.out (HOK.out.2 (Or.inl ⟨rfl, hx2⟩)))
                  have g3 : (x != 2) = false := by rw [bne_eq_false_iff_eq]; exact hx2
                  clear hx2
                  go_wp2_with fail
                  go_quiet (fail)
                  go_wp2_with fail
                  exact ⟨⟨k + 1, q2 + nq, by omega, by go_num, rfl, HST.out⟩, by simp [intOf]; omega⟩
                · have HBAD := Lib.hid (HBDP.out (fun h => by rcases HOK.out.1 h with h | h; exact hx2 h.2; exact h.1 rfl))
                  have g3 : (x != 2) = true := by rw [bne_iff_ne]; exact hx2
                  clear hx2
                  go_wp2_with fail
                  go_quiet (fail)
                  go_wp2_with fail
                  go_ret
                  exact ⟨ans_f HBAD.out, _, World.drewN_drewN _ _ _⟩
              · have g1 : ((k : Int) == (j : Int)) = false := by rw [beq_eq_false_iff_ne]; omega
                have g2 : ((k : Int) != (j : Int)) = true := by rw [bne_iff_ne]; omega
                by_cases hin : -3 ≤ x ∧ x ≤ 0
                · have HIN := Lib.hid (inB_yes hin)
                  by_cases hz : x = 0 ↔ y = 0
                  · have HST := Lib.hid (HSTP.out (HOK.out.2 (Or.inr ⟨hkj, hin, hz⟩)))
                    have g5 : ((x == 0) == (y == 0)) = true := by
                      rw [beq_iff_eq, Bool.eq_iff_iff, beq_iff_eq, beq_iff_eq]; exact hz
                    clear hin hz hkj
                    go_wp2_with fail
                    go_quiet (((go_at_call 34; exact quiet_more (fun q => l1in_q _ _ _ _ HIN.out w q) _ _)))
                    go_wp2_with fail
                    exact ⟨⟨j + 1, q2 + nq, by omega, by go_num, rfl, HST.out⟩, by simp [intOf]; omega⟩
                  · have HBAD := Lib.hid (HBDP.out (fun h => by rcases HOK.out.1 h with h | h; exact hkj h.1; exact hz h.2.2))
                    have g5 : ((x == 0) == (y == 0)) = false := by
                      rw [beq_eq_false_iff_ne]; intro e; rw [Bool.eq_iff_iff, beq_iff_eq, beq_iff_eq] at e; exact hz e
                    clear hin hz hkj
                    go_wp2_with fail
                    go_quiet (((go_at_call 34; exact quiet_more (fun q => l1in_q _ _ _ _ HIN.out w q) _ _)))
                    go_wp2_with fail
                    go_ret
                    exact ⟨ans_f HBAD.out, _, World.drewN_drewN _ _ _⟩
                · have HIN := Lib.hid (inB_no hin)
                  have HBAD := Lib.hid (HBDP.out (fun h => by rcases HOK.out.1 h with h | h; exact hkj h.1; exact hin h.2.1))
                  clear hin hkj
                  go_wp2_with fail
                  go_quiet (((go_at_call 34; exact quiet_more (fun q => l1in_q _ _ _ _ HIN.out w q) _ _)))
                  go_wp2_with fail
                  go_ret
                  exact ⟨ans_f HBAD.out, _, World.drewN_drewN _ _ _⟩
            · obtain rfl : n = j := by omega
              go_wp2_with fail
              exact ⟨⟨k + 1, q2, by omega, by go_num, rfl, ok0_row HOJ.out⟩, by simp [intOf]; omega⟩
        · obtain rfl : n = k := by omega
          by_cases hin : 1 ≤ n ∧ n ≤ 4
          · have hgood : IsC m := ⟨by rw [HN.out]; exact HRW.out, by rw [HN.out]; exact HO.out.1, by rw [HN.out]; exact hin.1, by rw [HN.out]; exact hin.2⟩
            have HG := Lib.hid hgood
            have hb : inB (n : Int) 1 4 = true := inB_yes (by omega)
            have HB := Lib.hid hb; clear hb hgood hin
            go_wp2_with (go_at_call 34; refine (l1in_q _ _ _ true HB.out w q).mono ?_; rintro e w' ⟨rfl, mm, rfl⟩)
            go_ret
            exact ⟨Or.inl ⟨HG.out, rfl⟩, _, rfl⟩
          · have hbad : ¬ IsC m := fun h => hin (by have := h.2.2; rw [HN.out] at this; exact this)
            have HG := Lib.hid hbad
            have hb : inB (n : Int) 1 4 = false := inB_no (by omega)
            have HB := Lib.hid hb; clear hb hbad hin
            go_wp2_with (go_at_call 34; refine (l1in_q _ _ _ false HB.out w q).mono ?_; rintro e w' ⟨rfl, mm, rfl⟩)
            go_ret
            exact ⟨Or.inr ⟨HG.out, rfl⟩, _, rfl⟩
end Go.Proofs.YtfjeghalkmkgoaaGreatDoor
