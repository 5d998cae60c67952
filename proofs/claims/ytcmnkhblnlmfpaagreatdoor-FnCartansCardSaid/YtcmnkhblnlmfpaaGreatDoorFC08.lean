/-
  Appends onto rows and matrices of the call's own: many ints at once, zeros, a row; in the order of the text and inside a region without order.
  NeighboursOf of the model and of the program: what each call returns.
-/
import Derived.Deep.RegionLaw
import Derived.Test.YtcmnkhblnlmfpaaGreatDoorFC04
import Derived.Test.YtcmnkhblnlmfpaaGreatDoorZeros
import Derived.Test.YtcmnkhblnlmfpaaGreatDoorFC05
import Derived.Test.YtcmnkhblnlmfpaaGreatDoorFC06
namespace Go.Proofs.YtcmnkhblnlmfpaaGreatDoor
open Go.RowKit

/-- What an append onto a row leaves. -/
abbrev AfterRow (A : Nat) (wr : World) (l : List Int) (h : Value → World → Prop) : Prop :=
  ∀ v' w', RowI A w'.heap.size w' v' l → (∀ W C, C ≤ A → Below C W wr → Below C W w') → wr.heap.size ≤ w'.heap.size → h v' w'
abbrev AfterMat (A : Nat) (wr : World) (m : List (List Int)) (h : Value → World → Prop) : Prop :=
  ∀ v' w', MatI A w'.heap.size w' v' m → (∀ W C, C ≤ A → Below C W wr → Below C W w') → wr.heap.size ≤ w'.heap.size → h v' w'

theorem wp_ints {o : Oper} {a : Act} {K : Act → World → Prop} {Q : Exit → Act → World → Prop} {s x : Operand} {A B : Nat} {v xv : Value} {l l2 : List Int} {wr : World}
    (hM : RowI A wr.heap.size wr v l) (hA : A ≤ wr.heap.size) (hr : RowB B wr xv l2) (h0 : l2 ≠ [])
    (ho : o.op = .call { callee := .builtin .append, args := #[s, x], argTypes := #[25, 25] }) (hs : a.eval s = v) (hx : a.eval x = xv) (hlen : l.length + l2.length ≤ 4194304)
    (h : AfterRow A wr (l ++ l2) fun v' w' => K (a.put o.dst v') w') : o.wp Tryz.prog a wr K Q := by
  obtain ⟨h1, h2⟩ := hM
  obtain ⟨i0, hi, hz0, hz1, hz2⟩ := info_parts Tryz.infoInt
  rcases hr with ⟨h', _⟩ | ⟨b, off, cap, rfl, hb, hc⟩
  · exact absurd h' h0
  have hl2 : (intsV l2).length = l2.length * 1 := by rw [intsV_len]; omega
  refine wp_append_own wr s x 25 ho A 3 i0 (.int .i64 0) 1 8 Tryz.underlying25 hi hz0 hz1 hz2 rfl (by omega) v l.length (intsV l) hs h1 ⟨b, off, none⟩ l2.length cap (intsV l2) hx hl2 (fun j u hu => ?_) (fun u hu => ?_) (by unfold maxLen; omega) (by omega) hA ?_
  · have hj : j < l2.length := by have := (List.getElem?_eq_some_iff.1 hu).1; rwa [intsV_len] at this
    rw [Addr.add_lit, hc j hj, ← hu]
    simp [intsV, hj]
  · obtain ⟨n, _, rfl⟩ := List.mem_map.1 hu
    rfl
  · intro v' w' ho' hg _
    refine h v' w' ⟨?_, fun g hgg => (ho'.lt g hgg).2⟩ (fun W C hC hb => ?_) hg.size
    · have e : intsV l ++ intsV l2 = intsV (l ++ l2) := by simp [intsV]
      rw [e] at ho'
      rw [List.length_append]
      exact ho'
    · exact hb.grown hg (by omega) (fun k hk => by have := (h1.lt k hk).1; omega)

/-- 'append(row, xs...)', xs not empty. -/
theorem append_ints {ops : Array Oper} {rest : List Oper} {o : Oper} {a : Act} {Q : Exit → Act → World → Prop} {s x : Operand} {A B : Nat} {v xv : Value} {l l2 : List Int} {wr : World}
    (hM : RowI A wr.heap.size wr v l) (hA : A ≤ wr.heap.size) (hr : RowB B wr xv l2) (h0 : l2 ≠ []) (hlen : l.length + l2.length ≤ 4194304) (hgd : o.guard = none)
    (ho : o.op = .call { callee := .builtin .append, args := #[s, x], argTypes := #[25, 25] }) (hs : a.eval s = v) (hx : a.eval x = xv)
    (h : AfterRow A wr (l ++ l2) fun v' w' => wpList Tryz.prog ops Q rest (a.put o.dst v') w') : wpList Tryz.prog ops Q (o :: rest) a wr :=
  wpList_plain hgd fun _ hK => wp_ints hM hA hr h0 ho hs hx hlen fun v' w' h2 h3 h4 => hK _ _ (h v' w' h2 h3 h4)
theorem step_ints {ops : Array Oper} {o : Oper} {a : Act} {K : Act → World → Prop} {Q : Exit → Act → World → Prop} {E : Prop} {s x : Operand} {A B : Nat} {v xv : Value} {l l2 : List Int} {wr : World}
    (hM : RowI A wr.heap.size wr v l) (hA : A ≤ wr.heap.size) (hr : RowB B wr xv l2) (h0 : l2 ≠ []) (hlen : l.length + l2.length ≤ 4194304) (hgd : o.guard = none)
    (ho : o.op = .call { callee := .builtin .append, args := #[s, x], argTypes := #[25, 25] }) (hs : a.eval s = v) (hx : a.eval x = xv)
    (h : AfterRow A wr (l ++ l2) fun v' w' => K (a.put o.dst v') w') : if Region.wanted o (yielded ops a.tmps) = true then Oper.wp Tryz.prog o a wr K Q else E := by
  have hw : Region.wanted o (yielded ops a.tmps) = true := by simp [Region.wanted, hgd]
  rw [if_pos hw]
  exact wp_ints hM hA hr h0 ho hs hx hlen h

/-- 'append(row, make([]int, n)...)', n at least 1, row not empty. -/
theorem append_zeros {ops : Array Oper} {rest : List Oper} {o : Oper} {a : Act} {Q : Exit → Act → World → Prop} {s x : Operand} {A : Nat} {v : Value} {l : List Int} {wr : World}
    (hM : RowI A wr.heap.size wr v l) (hA : A ≤ wr.heap.size) (h0 : l ≠ []) (n : Nat) (hn : 0 < n) (hlen : l.length + n ≤ 4194304) (hgd : o.guard = none)
    (ho : o.op = .call { callee := .builtin .append, args := #[s, x], argTypes := #[25, 3] }) (hs : a.eval s = v) (hx : a.eval x = .int .i64 (n : Int))
    (h : AfterRow A wr (l ++ List.replicate n 0) fun v' w' => wpList Tryz.prog ops Q rest (a.put o.dst v') w') : wpList Tryz.prog ops Q (o :: rest) a wr := by
  obtain ⟨h1, h2⟩ := hM
  obtain ⟨i0, hi, hz0, hz1, hz2⟩ := info_parts Tryz.infoInt
  obtain ⟨ra, rcap, rfl⟩ : ∃ g cap, v = .slice (some ⟨g, 0, none⟩) l.length cap := by
    rcases h1.2 with ⟨_, hl⟩ | ⟨g, cap, cur, hv, _⟩
    · exact absurd (List.eq_nil_of_length_eq_zero hl) h0
    · exact ⟨g, cap, hv⟩
  obtain ⟨v', w', hrun, ho', hg⟩ := run_append_zeros (P := Tryz.prog) wr A 25 3 o.type 3 i0 (.int .i64 0) 8 .i64 .i64 Tryz.underlying25 Tryz.underlying3 hi hz0 hz1 hz2 rfl rfl ra rcap l.length (intsV l) h1 n hn (by unfold maxLen; omega) (by omega) hA
  refine Lib.wpList_append_run wr hgd s x 25 3 ho _ _ hs hx v' w' hrun ?_
  refine h v' w' ⟨?_, fun g hgg => (ho'.lt g hgg).2⟩ (fun W C hC hb => ?_) hg.size
  · have e : intsV l ++ List.replicate n (.int .i64 0) = intsV (l ++ List.replicate n 0) := by simp [intsV]
    rw [e] at ho'
    rw [List.length_append, List.length_replicate]
    exact ho'
  · have h9 : A ≤ ra := (h1.lt ra rfl).1
    exact hb.grown hg (by omega) (fun k hk => by injection hk with hk; omega)

theorem wp_row {o : Oper} {a : Act} {K : Act → World → Prop} {Q : Exit → Act → World → Prop} {s x : Operand} {A B C gl : Nat} {v rv : Value} {m : List (List Int)} {l : List Int} {w : World}
    (hM : MatI A B w v m) (hr : RowI B C w rv l) (hAB : A ≤ B) (hBw : B ≤ w.heap.size) (hCw : C ≤ w.heap.size) (hnew : w.heap[gl]? = some (.cells #[rv] 25 (0, 0)))
    (ho : o.op = .call { callee := .builtin .append, args := #[s, x], argTypes := #[24, 24] }) (hs : a.eval s = v)
    (hx : a.eval x = .slice (some ⟨gl, 0, none⟩) 1 1) (hlen : m.length ≤ 1048576)
    (h : AfterMat A w (m ++ [l]) fun v' w' => K (a.put o.dst v') w') : o.wp Tryz.prog a w K Q := by
  obtain ⟨hh, h1, h2, h3, h4⟩ := hM
  obtain ⟨i0, hi, hz0, hz1, hz2⟩ := info_parts Tryz.infoRow
  have hll : hh.length = m.length := by have := h1.1; omega
  have hone : rv.oneCell' = true := by
    obtain ⟨ra, rcap, rfl⟩ := hr.slice
    rfl
  refine wp_append_own w s x 24 ho A 25 i0 (.slice none 0 0) 1 24 Tryz.underlying24 hi hz0 hz1 hz2 rfl (by omega) v m.length hh hs h1 ⟨gl, 0, none⟩ 1 1 [rv] hx rfl (fun j u hu => ?_) (fun u hu => ?_) (by unfold maxLen; omega) (by omega) (by omega) ?_
  · match j, hu with
    | 0, hu =>
      simp at hu
      subst hu
      rw [Addr.add_lit, cell_of_row w gl 0 _ _ _ hnew]
      rfl
    | j + 1, hu => simp at hu
  · simp at hu
    subst hu
    exact hone
  · intro v' w' ho' hg _
    have hlh : (hh ++ [rv]).length = m.length + 1 := by simp [hll]
    have hM' := mat_snoc h1 h2 h3 h4 (hr.mono (Nat.le_refl _) hCw) hAB hBw (by rw [hlh]; exact ho') hg
    exact h v' w' hM' (fun W C hC hb => hb.grown hg (by omega) (fun k hk => by have := (h1.lt k hk).1; omega)) hg.size
theorem append_row2 {ops : Array Oper} {rest : List Oper} {o : Oper} {a : Act} {Q : Exit → Act → World → Prop} {s x : Operand} {A B C gl : Nat} {v rv : Value} {m : List (List Int)} {l : List Int} {w : World}
    (hM : MatI A B w v m) (hr : RowI B C w rv l) (hAB : A ≤ B) (hBw : B ≤ w.heap.size) (hCw : C ≤ w.heap.size) (hnew : w.heap[gl]? = some (.cells #[rv] 25 (0, 0))) (hlen : m.length ≤ 1048576) (hgd : o.guard = none)
    (ho : o.op = .call { callee := .builtin .append, args := #[s, x], argTypes := #[24, 24] }) (hs : a.eval s = v) (hx : a.eval x = .slice (some ⟨gl, 0, none⟩) 1 1)
    (h : AfterMat A w (m ++ [l]) fun v' w' => wpList Tryz.prog ops Q rest (a.put o.dst v') w') : wpList Tryz.prog ops Q (o :: rest) a w :=
  wpList_plain hgd fun _ hK => wp_row hM hr hAB hBw hCw hnew ho hs hx hlen fun v' w' h2 h3 h4 => hK _ _ (h v' w' h2 h3 h4)
theorem step_row {ops : Array Oper} {o : Oper} {a : Act} {K : Act → World → Prop} {Q : Exit → Act → World → Prop} {E : Prop} {s x : Operand} {A B C gl : Nat} {v rv : Value} {m : List (List Int)} {l : List Int} {w : World}
    (hM : MatI A B w v m) (hr : RowI B C w rv l) (hAB : A ≤ B) (hBw : B ≤ w.heap.size) (hCw : C ≤ w.heap.size) (hnew : w.heap[gl]? = some (.cells #[rv] 25 (0, 0))) (hlen : m.length ≤ 1048576) (hgd : o.guard = none)
    (ho : o.op = .call { callee := .builtin .append, args := #[s, x], argTypes := #[24, 24] }) (hs : a.eval s = v) (hx : a.eval x = .slice (some ⟨gl, 0, none⟩) 1 1)
    (h : AfterMat A w (m ++ [l]) fun v' w' => K (a.put o.dst v') w') : if Region.wanted o (yielded ops a.tmps) = true then Oper.wp Tryz.prog o a w K Q else E := by
  have hw : Region.wanted o (yielded ops a.tmps) = true := by simp [Region.wanted, hgd]
  rw [if_pos hw]
  exact wp_row hM hr hAB hBw hCw hnew ho hs hx hlen h

theorem RowI.alloc {A B : Nat} {w : World} {v : Value} {l : List Int} (h : RowI A B w v l) (o : Obj) : RowI A B (w.alloc o) v l := ⟨h.1.alloc o, h.2⟩
theorem row_made (w : World) (n : Nat) (hn : n ≤ 1048576) : RowI w.heap.size (w.alloc (.cells (intsV (List.replicate n 0)).toArray 3)).drew.heap.size (w.alloc (.cells (intsV (List.replicate n 0)).toArray 3)).drew (.slice (some ⟨w.heap.size, 0, none⟩) n n) (List.replicate n 0) := by
  refine ⟨?_, fun g hg => ?_⟩
  · have h := World.ownsRow_lit (base := w.heap.size) (e := 3) (size := 1) w (intsV (List.replicate n 0)).toArray n (Nat.le_refl _) (by unfold maxLen; omega) (by simp [intsV])
    have e : (List.replicate n (0 : Int)).length = n := by simp
    rw [e]
    exact h.drew
  · have : w.heap.size = g := by simpa [Value.ownBlock] using hg
    show g < (w.alloc _).heap.size
    simp; omega
theorem mat_behind {A : Nat} {w w0 w1 : World} {v : Value} {m : List (List Int)} (hM : MatI A w.heap.size w v m) (h0 : Below w.heap.size w w0) (hb : ∀ (W : World) (C : Nat), C ≤ w.heap.size → Below C W w0 → Below C W w1) (o : Obj) :
    MatI A w.heap.size (w1.alloc o) v m := by
  have h1 := hb w w.heap.size (Nat.le_refl _) h0
  exact hM.same (SameIn.of_below (h1.alloc h1.size o) (Nat.le_refl _))
end Go.Proofs.YtcmnkhblnlmfpaaGreatDoor
namespace Go.Proofs.YtcmnkhblnlmfpaaGreatDoor
open Go.RowKit

def nbF (m : List (List Int)) (i j : Nat) : Bool := decide (j ≠ i ∧ entry m i j ≠ 0)
def nbK (m : List (List Int)) (i k : Nat) : List Int := ((List.range k).filter (nbF m i)).map fun (j : Nat) => (j : Int)
theorem nbK_yes {m : List (List Int)} {i k : Nat} (h1 : k ≠ i) (h2 : entry m i k ≠ 0) : nbK m i k ++ [(k : Int)] = nbK m i (k + 1) := by
  have h : nbF m i k = true := decide_eq_true ⟨h1, h2⟩
  unfold nbK
  rw [List.range_succ, List.filter_append, List.map_append]
  simp [h]
theorem nbK_no {m : List (List Int)} {i k : Nat} (h' : ¬ (k ≠ i ∧ entry m i k ≠ 0)) : nbK m i k = nbK m i (k + 1) := by
  have h : nbF m i k = false := decide_eq_false h'
  unfold nbK
  rw [List.range_succ, List.filter_append, List.map_append]
  simp [h]
theorem nbK_len (m : List (List Int)) (i k : Nat) : (nbK m i k).length ≤ k := by
  unfold nbK
  rw [List.length_map]
  exact Nat.le_trans (List.length_filter_le _ _) (by simp)
/-- What NeighboursOf returns. -/
def NbOk (m : List (List Int)) (i : Int) : Prop := IsC m ∧ (0 ≤ i ∧ i ≤ (m.length : Int) - 1)
open Classical in
noncomputable def nbs (m : List (List Int)) (i : Int) : List Int := if NbOk m i then nbK m i.toNat m.length else []
theorem nbs_yes {m : List (List Int)} {i : Int} (h : NbOk m i) : nbs m i = nbK m i.toNat m.length := if_pos h
theorem nbs_no {m : List (List Int)} {i : Int} (h : ¬ NbOk m i) : nbs m i = [] := if_neg h
theorem nbs_len (m : List (List Int)) (i : Int) : (nbs m i).length ≤ 4 := by
  by_cases h : NbOk m i
  · rw [nbs_yes h]; exact Nat.le_trans (nbK_len _ _ _) h.1.2.2.2
  · rw [nbs_no h]; simp
theorem makesS_nil {w w' : World} {x : Value} {l : List Int} (hl : l = []) (h : RowI w.heap.size w'.heap.size w' x []) (hb : Below w.heap.size w w') : MakesS w l (.returned x) w' :=
  ⟨x, rfl, by rw [hl]; exact ⟨h, Nat.le_refl _⟩, hb⟩
theorem RowI.nil (A B : Nat) (w : World) : RowI A B w (.slice none 0 0) [] := ⟨World.ownsRow_nil _ _ _ _, fun g h => by simp [Value.ownBlock] at h⟩

set_option maxHeartbeats 2000000 in
set_option maxRecDepth 100000 in
theorem nbs_good (B : Nat) (v : Value) (m : List (List Int)) (p : Nat) (w : World) (h : MatB B w v m) (hB : B ≤ w.heap.size) (hf : RowsFit m) (hI : IsC m) (hp : p < m.length) :
    Calls Tryz.prog 116 #[v, .int .i64 p] w (MakesS w (nbK m p m.length)) := by
  obtain ⟨a, cap, rfl⟩ := h.slice
  have hl := hf.1
  have HR := Lib.hid h; clear h
  have HF := Lib.hid hf; clear hf
  have hrows : Rows0 m m.length m.length := hI.1
  have hn4 := hI.2.2
  have HC := Lib.hid (isB_yes hI)
  have HRW := Lib.hid hrows
  clear hI hrows
  generalize hn : m.length = n at *
  unfold maxLen at hl
  have HN := Lib.hid hn; clear hn
  have HI := Lib.hid (inB_yes (x := (p : Int)) (a := 0) (b := (n : Int) - 1) (by omega))
  go_enter Tryz.func116, Tryz.ntmps116
  go_wp2_with fail
  go_loopw [5, 6] (fun o i wr => ∃ (k : Nat) (wq : World), wq = wr ∧ k ≤ n ∧ i = .int .i64 k ∧ RowI w.heap.size wq.heap.size wq o (nbK m p k) ∧ Below w.heap.size w wq) (fun _ i _ => n - (intOf i).toNat)
  case atStart => exact ⟨0, _, rfl, Nat.zero_le _, rfl, row_empty w, (Below.refl _ _).alloc (Nat.le_refl _) _⟩
  case round =>
    obtain ⟨k, wq, rfl, hk, rfl, hM, hb⟩ := hrel
    have HM := Lib.hid hM; clear hM
    have HB := Lib.hid hb; clear hb
    by_cases hlt : k < n
    · have hlt' : decide (k < n) = true := decide_eq_true hlt
      go_wp2_with fail
      refine (isc_w B _ m true HC.out _ (HR.out.below HB.out hB) HF.out).mono ?_
      rintro e w2 ⟨rfl, hb2⟩
      have HM2 := Lib.hid (HM.out.step hb2)
      have HB2 := Lib.hid (HB.out.trans (hb2.mono HB.out.size))
      clear hb2 HM HB
      go_wp2_with fail
      refine (l1in_c _ _ _ true HI.out _).mono ?_; rintro e w' ⟨rfl, rfl⟩
      obtain ⟨b, off, rb, roff, rcap, rfl, hc1, hx⟩ := (HR.out.below HB2.out hB).entry HRW.out hp hlt
      by_cases hkp : k = p
      · have hq : ((k : Int) != (p : Int)) = false := by rw [bne_eq_false_iff_eq]; omega
        have HST := Lib.hid (nbK_no (m := m) (i := p) (k := k) (fun h => h.1 hkp))
        clear hkp
        go_wp2_with fail
        exact ⟨⟨k + 1, _, rfl, by omega, by go_num, by rw [← HST.out]; exact HM2.out, HB2.out⟩, by simp [intOf]; omega⟩
      · have hq : ((k : Int) != (p : Int)) = true := by rw [bne_iff_ne]; omega
        by_cases hx0 : entry m p k = 0
        · have HST := Lib.hid (nbK_no (m := m) (i := p) (k := k) (fun h => h.2 hx0))
          rw [hx0] at hx
          clear hkp hx0
          go_wp2_with fail
          exact ⟨⟨k + 1, _, rfl, by omega, by go_num, by rw [← HST.out]; exact HM2.out, HB2.out⟩, by simp [intOf]; omega⟩
        · have HST := Lib.hid (nbK_yes hkp hx0)
          have hx1 : (entry m p k != 0) = true := by rw [bne_iff_ne]; exact hx0
          have hsz := HB2.out.size
          have hrl : (nbK m p k).length ≤ 4194304 := by have := nbK_len m p k; omega
          have HRL := Lib.hid hrl; clear hrl
          clear hkp hx0
          generalize entry m p k = x at *
          go_wp2_with (at_builtin; go_must (refine append_int HM2.out hsz (k : Int) rfl rfl rfl rfl HRL.out ?_; intro v' w3 hr3 hb3 hz3))
          rw [HST.out] at hr3
          have HR3 := Lib.hid hr3
          have HB3 := Lib.hid (hb3 w w.heap.size (Nat.le_refl _) HB2.out)
          exact ⟨⟨k + 1, _, rfl, by omega, by go_num, HR3.out, HB3.out⟩, by simp [intOf]; omega⟩
    · obtain rfl : k = n := by omega
      have hlt' : decide (k < k) = false := by simp
      go_wp2_with fail
      go_ret
      exact ⟨_, rfl, ⟨HM.out, Nat.le_refl _⟩, HB.out⟩

set_option maxHeartbeats 2000000 in
set_option maxRecDepth 100000 in
theorem nbs_any (B : Nat) (v : Value) (m : List (List Int)) (i : Int) (w : World) (h : MatB B w v m) (hB : B ≤ w.heap.size) (hf : RowsFit m) :
    Calls Tryz.prog 116 #[v, .int .i64 i] w (MakesS w (nbs m i)) := by
  by_cases hok : NbOk m i
  · rw [nbs_yes hok]
    obtain ⟨hI, h0, h1⟩ := hok
    obtain ⟨p, rfl⟩ := Int.eq_ofNat_of_zero_le h0
    exact nbs_good B v m p w h hB hf hI (by omega)
  · rw [nbs_no hok]
    obtain ⟨a, cap, rfl⟩ := h.slice
    have hl := hf.1
    have HR := Lib.hid h; clear h
    have HF := Lib.hid hf; clear hf
    by_cases hI : IsC m
    · have hi : ¬ (0 ≤ i ∧ i ≤ (m.length : Int) - 1) := fun h => hok ⟨hI, h⟩
      have HC := Lib.hid (isB_yes hI)
      have hn1 := hI.2.2.1
      clear hI hok
      generalize hn : m.length = n at *
      unfold maxLen at hl
      have HI := Lib.hid (inB_no hi)
      clear hi
      go_enter Tryz.func116, Tryz.ntmps116
      go_wp2_with fail
      go_loopw [5, 6] (fun o i wr => i = .int .i64 0 ∧ o = .slice (some ⟨w.heap.size, 0, none⟩) 0 0 ∧ wr = w.alloc (.cells #[] 3)) (fun _ _ _ => 0)
      case atStart => exact ⟨rfl, rfl, rfl⟩
      case round =>
        obtain ⟨rfl, rfl, rfl⟩ := hrel
        have hb : Below w.heap.size w (w.alloc (.cells #[] 3)) := (Below.refl _ _).alloc (Nat.le_refl _) _
        have HB := Lib.hid hb; clear hb
        go_wp2_with fail
        refine (isc_w B _ m true HC.out _ (HR.out.below HB.out hB) HF.out).mono ?_
        rintro e w2 ⟨rfl, hb2⟩
        have HB2 := Lib.hid hb2; clear hb2
        go_wp2_with fail
        refine (l1in_c _ _ _ false HI.out _).mono ?_; rintro e w' ⟨rfl, rfl⟩
        go_wp2_with fail
        go_ret
        exact makesS_nil rfl ((row_empty w).step HB2.out) (HB.out.trans (HB2.out.mono HB.out.size))
    · have HC := Lib.hid (isB_no hI)
      clear hI hok
      generalize hn : m.length = n at *
      unfold maxLen at hl
      have HN := Lib.hid hn; clear hn
      go_enter Tryz.func116, Tryz.ntmps116
      go_wp2_with fail
      go_loopw [5, 6] (fun o i wr => i = .int .i64 0 ∧ o = .slice (some ⟨w.heap.size, 0, none⟩) 0 0 ∧ wr = w.alloc (.cells #[] 3)) (fun _ _ _ => 0)
      case atStart => exact ⟨rfl, rfl, rfl⟩
      case round =>
        obtain ⟨rfl, rfl, rfl⟩ := hrel
        have hb : Below w.heap.size w (w.alloc (.cells #[] 3)) := (Below.refl _ _).alloc (Nat.le_refl _) _
        have HB := Lib.hid hb; clear hb
        by_cases h0 : 0 < n
        · go_wp2_with fail
          refine (isc_w B _ m false HC.out _ (HR.out.below HB.out hB) HF.out).mono ?_
          rintro e w2 ⟨rfl, hb2⟩
          have HB2 := Lib.hid hb2; clear hb2
          go_wp2_with fail
          go_ret
          exact makesS_nil rfl ((row_empty w).step HB2.out) (HB.out.trans (HB2.out.mono HB.out.size))
        · have hd : decide (0 < n) = false := decide_eq_false h0
          go_wp2_with fail
          go_ret
          exact makesS_nil rfl (row_empty w) HB.out

set_option maxHeartbeats 2000000 in
set_option maxRecDepth 100000 in
theorem nbi_good (B : Nat) (v : Value) (m : List (List Int)) (p : Nat) (w : World) (h : MatB B w v m) (hB : B ≤ w.heap.size) (hf : RowsFit m) (hI : IsC m) (hp : p < m.length) :
    Calls Tryz.prog 126 #[v, .int .i64 p] w (MakesS w (nbK m p m.length)) := by
  obtain ⟨a, cap, rfl⟩ := h.slice
  have hl := hf.1
  have HR := Lib.hid h; clear h
  have HF := Lib.hid hf; clear hf
  have hrows : Rows0 m m.length m.length := hI.1
  have hn4 := hI.2.2
  have HC := Lib.hid (isB_yes hI)
  have HRW := Lib.hid hrows
  clear hI hrows
  generalize hn : m.length = n at *
  unfold maxLen at hl
  have HN := Lib.hid hn; clear hn
  have HI := Lib.hid (ptB_yes (i := (p : Int)) (n := n) (by omega))
  go_enter Tryz.func126, Tryz.ntmps126
  go_wp2_with fail
  refine (icm_w B _ m true HC.out _ HR.out HF.out).mono ?_
  rintro e w1 ⟨rfl, hb1⟩
  have HB1 := Lib.hid hb1; clear hb1
  go_wp2_with fail
  refine (pt_c _ _ _ _ true HI.out _ hl).mono ?_; rintro e w' ⟨rfl, rfl⟩
  obtain ⟨b, off, rb, roff, rcap, rfl, hbB, hrB, hc1, hx⟩ := HR.out.line HRW.out hp
  have HX := Lib.hid hx; clear hx
  have hc1' := (HB1.out.cell (p := ⟨b, off + p, none⟩) (by show b < _; omega)).trans hc1
  clear hc1
  go_wp2_with fail
  clear hc1'
  go_loopw [5, 22] (fun o i wr => ∃ (k : Nat) (wq : World), wq = wr ∧ k ≤ n ∧ i = .int .i64 k ∧ RowI w.heap.size wq.heap.size wq o (nbK m p k) ∧ Below w.heap.size w wq) (fun _ i _ => n - (intOf i).toNat)
  case atStart => exact ⟨0, _, rfl, Nat.zero_le _, rfl, RowI.nil _ _ _, HB1.out⟩
  case round =>
    obtain ⟨k, wq, rfl, hk, rfl, hM, hb⟩ := hrel
    have HM := Lib.hid hM; clear hM
    have HB := Lib.hid hb
    have hsz := hb.size
    clear hb
    by_cases hlt : k < n
    · have hx := (HB.out.cell (p := ⟨rb, roff + k, none⟩) (by show rb < _; omega)).trans (HX.out k hlt)
      by_cases hkp : k = p
      · have hq : ((k : Int) != (p : Int)) = false := by rw [bne_eq_false_iff_eq]; omega
        have HST := Lib.hid (nbK_no (m := m) (i := p) (k := k) (fun h => h.1 hkp))
        clear hkp
        go_wp2_with fail
        exact ⟨⟨k + 1, _, rfl, by omega, by go_num, by rw [← HST.out]; exact HM.out, HB.out⟩, by simp [intOf]; omega⟩
      · have hq : ((k : Int) != (p : Int)) = true := by rw [bne_iff_ne]; omega
        by_cases hx0 : entry m p k = 0
        · have HST := Lib.hid (nbK_no (m := m) (i := p) (k := k) (fun h => h.2 hx0))
          rw [hx0] at hx
          clear hkp hx0
          go_wp2_with fail
          exact ⟨⟨k + 1, _, rfl, by omega, by go_num, by rw [← HST.out]; exact HM.out, HB.out⟩, by simp [intOf]; omega⟩
        · have HST := Lib.hid (nbK_yes hkp hx0)
          have hx1 : (entry m p k != 0) = true := by rw [bne_iff_ne]; exact hx0
          have hrl : (nbK m p k).length ≤ 4194304 := by have := nbK_len m p k; omega
          have HRL := Lib.hid hrl; clear hrl
          clear hkp hx0
          generalize entry m p k = x at *
          go_wp2_with (at_builtin; go_must (refine append_int HM.out hsz (k : Int) rfl rfl rfl rfl HRL.out ?_; intro v' w3 hr3 hb3 hz3))
          rw [HST.out] at hr3
          have HR3 := Lib.hid hr3
          have HB3 := Lib.hid (hb3 w w.heap.size (Nat.le_refl _) HB.out)
          exact ⟨⟨k + 1, _, rfl, by omega, by go_num, HR3.out, HB3.out⟩, by simp [intOf]; omega⟩
    · obtain rfl : k = n := by omega
      go_wp2_with fail
      go_ret
      exact ⟨_, rfl, ⟨HM.out, Nat.le_refl _⟩, HB.out⟩

set_option maxHeartbeats 2000000 in
set_option maxRecDepth 100000 in
theorem nbi_any (B : Nat) (v : Value) (m : List (List Int)) (i : Int) (w : World) (h : MatB B w v m) (hB : B ≤ w.heap.size) (hf : RowsFit m) :
    Calls Tryz.prog 126 #[v, .int .i64 i] w (MakesS w (nbs m i)) := by
  by_cases hok : NbOk m i
  · rw [nbs_yes hok]
    obtain ⟨hI, h0, h1⟩ := hok
    obtain ⟨p, rfl⟩ := Int.eq_ofNat_of_zero_le h0
    exact nbi_good B v m p w h hB hf hI (by omega)
  · rw [nbs_no hok]
    obtain ⟨a, cap, rfl⟩ := h.slice
    have hl := hf.1
    have HR := Lib.hid h; clear h
    have HF := Lib.hid hf; clear hf
    by_cases hI : IsC m
    · have hi : ¬ (0 ≤ i ∧ i ≤ (m.length : Int) - 1) := fun h => hok ⟨hI, h⟩
      have HC := Lib.hid (isB_yes hI)
      clear hI hok
      generalize hn : m.length = n at *
      unfold maxLen at hl
      have HI := Lib.hid (ptB_no hi)
      clear hi
      go_enter Tryz.func126, Tryz.ntmps126
      go_wp2_with fail
      refine (icm_w B _ m true HC.out _ HR.out HF.out).mono ?_
      rintro e w1 ⟨rfl, hb1⟩
      have HB1 := Lib.hid hb1; clear hb1
      go_wp2_with fail
      refine (pt_c _ _ _ _ false HI.out _ hl).mono ?_; rintro e w' ⟨rfl, rfl⟩
      go_wp2_with fail
      go_ret
      exact makesS_nil rfl (RowI.nil _ _ _) HB1.out
    · have HC := Lib.hid (isB_no hI)
      clear hI hok
      generalize hn : m.length = n at *
      unfold maxLen at hl
      have HN := Lib.hid hn; clear hn
      go_enter Tryz.func126, Tryz.ntmps126
      go_wp2_with fail
      refine (icm_w B _ m false HC.out _ HR.out HF.out).mono ?_
      rintro e w1 ⟨rfl, hb1⟩
      have HB1 := Lib.hid hb1; clear hb1
      go_wp2_with fail
      go_ret
      exact makesS_nil rfl (RowI.nil _ _ _) HB1.out
end Go.Proofs.YtcmnkhblnlmfpaaGreatDoor
