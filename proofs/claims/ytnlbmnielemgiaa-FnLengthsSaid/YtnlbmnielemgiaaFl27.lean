/-
  SubCartan of the model: what the call returns.
  Nothing: the program of this seat calls no sort of the library (the name is imported by texts that serve other seats too).
  A search through a graph of at most four points, as both sides walk it, and what it finds (no walk here).
-/
import Derived.Test.YtnlbmnielemgiaaFl25
import Derived.Shelf.Sort.Plain
import Derived.Test.YtnlbmnielemgiaaProg
import Derived.Test.YtnlbmnielemgiaaFl01
namespace Go.Proofs.Ytnlbmnielemgiaa
open Go.RowKit

set_option maxHeartbeats 2000000 in
set_option maxRecDepth 100000 in
theorem l3set_any (B B' : Nat) (v v' : Value) (m : List (List Int)) (l : List Int) (c : Bool) (hc : decide (setB m.length l = true ∧ isB m = true) = c) (w : World) (h : MatB B w v m) (h' : RowB B' w v' l) (hf : RowsFit m) (hll : l.length ≤ maxLen) :
    Calls Try.prog 135 #[v, v'] w fun e w' => e = .returned (.bool c) ∧ Below w.heap.size w w' := by
  obtain ⟨a, cap, rfl⟩ := h.slice
  obtain ⟨a', cap', rfl⟩ := h'.slice
  have hl := hf.1
  have HR := Lib.hid h; clear h
  have HL := Lib.hid h'; clear h'
  have HF := Lib.hid hf; clear hf
  have HNO := Lib.hid (fun (k : Nat) (hk : k < l.length) (h : ¬ setC m.length l k) => show c = false by rw [← hc, setB_no (isSet_no hk h)]; simp)
  have HYES := Lib.hid (fun (h : SetTo m.length l l.length) => show c = isB m by rw [← hc, setB_yes h]; cases isB m <;> simp)
  clear hc
  generalize hn : m.length = n at *
  generalize hln : l.length = L at *
  unfold maxLen at hl hll
  go_enter Try.func135, Try.ntmps135
  go_wp2_with fail
  go_loopw [5] (fun i wr => ∃ k q : Nat, k ≤ L ∧ i = .int .i64 k ∧ wr = w.drewN q ∧ SetTo n l k) (fun i _ => L - (intOf i).toNat)
  case atStart => exact ⟨0, 0, Nat.zero_le _, rfl, rfl, fun i hi => by omega⟩
  case round =>
    obtain ⟨k, q, hk, rfl, rfl, hs⟩ := hrel
    have HS := Lib.hid hs; clear hs
    by_cases hlt : k < L
    · have hlt' : decide (k < L) = true := decide_eq_true hlt
      obtain ⟨lb, loff, rfl, hlb, hlc⟩ := HL.out.getD hlt
      by_cases hin : 0 ≤ l.getD k 0 ∧ l.getD k 0 ≤ (n : Int) - 1
      · have HIN := Lib.hid (inB_yes hin)
        by_cases hk0 : k = 0
        · subst hk0
          rw [Nat.add_zero] at hlc
          have HST := Lib.hid (setTo_step HS.out ⟨hin, fun h => absurd h.1 (by omega)⟩)
          clear hin
          generalize l.getD 0 0 = x at *
          go_wp2_with fail
          go_quiet (((go_at_call 87; exact quiet_more (fun q => l1in_q _ _ _ _ HIN.out w q) _ _)))
          go_wp2_with fail
          exact ⟨⟨1, q + nq, by omega, rfl, rfl, HST.out⟩, by simp [intOf]; omega⟩
        · obtain ⟨j, rfl⟩ : ∃ j, k = j + 1 := ⟨k - 1, by omega⟩
          have hpc := HL.out.prev (j := j) (by omega)
          have hg : decide ((0 : Int) < ((j + 1 : Nat) : Int)) = true := decide_eq_true (by omega)
          have hsub : ((j + 1 : Nat) : Int) - 1 = (j : Int) := by omega
          by_cases hle : l.getD (j + 1) 0 ≤ l.getD j 0
          · have HBAD := Lib.hid (HNO.out (j + 1) hlt (fun h => h.2 ⟨by omega, by simpa using hle⟩))
            have hle2 : decide (l.getD (j + 1) 0 ≤ l.getD j 0) = true := decide_eq_true hle
            clear hin
            generalize l.getD (j + 1) 0 = x at *
            generalize l.getD j 0 = y at *
            go_wp2_with fail
            go_quiet (((go_at_call 87; exact quiet_more (fun q => l1in_q _ _ _ _ HIN.out w q) _ _)))
            go_wp2_with fail
            go_ret
            exact ⟨ret_boolean HBAD.out.symm, by rw [World.drewN_drewN]; exact below_drewN _⟩
          · have HST := Lib.hid (setTo_step HS.out ⟨hin, fun h => hle (by simpa using h.2)⟩)
            have hle2 : decide (l.getD (j + 1) 0 ≤ l.getD j 0) = false := decide_eq_false hle
            clear hin
            generalize l.getD (j + 1) 0 = x at *
            generalize l.getD j 0 = y at *
            go_wp2_with fail
            go_quiet (((go_at_call 87; exact quiet_more (fun q => l1in_q _ _ _ _ HIN.out w q) _ _)))
            go_wp2_with fail
            exact ⟨⟨j + 1 + 1, q + nq, by omega, by go_num, rfl, HST.out⟩, by simp [intOf]; omega⟩
      · have HIN := Lib.hid (inB_no hin)
        have HBAD := Lib.hid (HNO.out k hlt (fun h => hin h.1))
        clear hin
        generalize l.getD k 0 = x at *
        go_wp2_with fail
        go_quiet (((go_at_call 87; exact quiet_more (fun q => l1in_q _ _ _ _ HIN.out w q) _ _)))
        go_wp2_with fail
        go_ret
        exact ⟨ret_boolean HBAD.out.symm, by rw [World.drewN_drewN]; exact below_drewN _⟩
    · obtain rfl : k = L := by omega
      have hlt' : decide (k < k) = false := by simp
      go_wp2_with fail
      refine (isc_w B _ m (isB m) rfl (w.drewN q) (show MatB B (w.drewN q) _ _ from HR.out) HF.out).mono ?_
      rintro e w2 ⟨rfl, hb2⟩
      have HB2 := Lib.hid hb2; clear hb2
      go_wp2_with fail
      go_ret
      exact ⟨ret_boolean (HYES.out HS.out).symm, (below_drewN q).trans HB2.out⟩

/-! ### The two loops that fill the result -/
/-- 'append(row, x)' as a step of a region that draws its order: the literal's block lies at g. -/
theorem step_lit {ops : Array Oper} {o : Oper} {a : Act} {K : Act → World → Prop} {Q : Exit → Act → World → Prop} {E : Prop} {s x : Operand} {A : Nat} {v : Value} {l : List Int} {wr : World} (n : Int) (g : Nat)
    (hM : RowI A wr.heap.size wr v l) (hA : A ≤ wr.heap.size) (hg : wr.heap[g]? = some (.cells #[.int .i64 n] 3 (0, 0))) (hlen : l.length + [n].length ≤ 4194304) (hgd : o.guard = none)
    (ho : o.op = .call { callee := .builtin .append, args := #[s, x], argTypes := #[25, 25] }) (hs : a.eval s = v) (hx : a.eval x = .slice (some ⟨g, 0, none⟩) 1 1)
    (h : AfterRow A wr (l ++ [n]) fun v' w' => K (a.put o.dst v') w') : if Region.wanted o (yielded ops a.tmps) = true then Oper.wp Try.prog o a wr K Q else E :=
  step_ints (l2 := [n]) (B := g + 1) hM hA (Or.inr ⟨g, 0, 1, rfl, by omega, fun j hj => by
    obtain rfl : j = 0 := by simp at hj; omega
    rw [cell_of_row wr g (0 + 0) _ _ _ hg]; rfl⟩) (by simp) hlen hgd ho hs hx h
set_option maxHeartbeats 4000000 in
set_option maxRecDepth 100000 in
theorem subs_any (B B' : Nat) (v v' : Value) (m : List (List Int)) (l : List Int) (w : World) (h : MatB B w v m) (h' : RowB B' w v' l) (hB : B ≤ w.heap.size) (hB' : B' ≤ w.heap.size) (hf : RowsFit m) (hll : l.length ≤ maxLen) :
    Calls Try.prog 124 #[v, v'] w (MakesM2 w (subM m l) (.bool (subB m l))) := by
  obtain ⟨a, cap, rfl⟩ := h.slice
  obtain ⟨a', cap', rfl⟩ := h'.slice
  have hl := hf.1
  have HR := Lib.hid h; clear h
  have HL := Lib.hid h'; clear h'
  have HF := Lib.hid hf; clear hf
  unfold maxLen at hl hll
  have he : Below w.heap.size w (w.alloc (.cells #[] 25)) := (Below.refl _ _).alloc (Nat.le_refl _) _
  have HE := Lib.hid he; clear he
  by_cases hok : SubOk m l
  · obtain ⟨hI, h0, hs⟩ := hok
    have hok : SubOk m l := ⟨hI, h0, hs⟩
    have HM := Lib.hid (subM_yes hok)
    have HB := Lib.hid (subB_yes hok)
    have HS := Lib.hid (show decide (setB m.length l = true ∧ isB m = true) = true by rw [setB_yes hs, isB_yes hI]; rfl)
    have HPT := Lib.hid (isSet_pt hs)
    have hlen := isSet_len hs
    have hn4 := hI.2.2.2
    have HRW := Lib.hid hI.1
    have hL0 : l.length ≠ 0 := fun e => h0 (List.eq_nil_of_length_eq_zero e)
    clear hok hI hs h0
    have HPK := Lib.hid (show pick m l = fullF (ptsF m l) l.length from rfl)
    generalize pick m l = R at *
    generalize subM m l = R' at *
    generalize subB m l = c at *
    generalize hn : m.length = n at *
    have HN := Lib.hid hn; clear hn
    generalize hln : l.length = L at *
    have HLN := Lib.hid hln; clear hln
    have hz : ((L : Int) == 0) = false := by rw [beq_eq_false_iff_ne]; omega
    go_enter Try.func124, Try.ntmps124
    go_wp2_with fail
    refine (l3set_any B B' _ _ m l true (by rw [HN.out]; exact HS.out) _ (HR.out.below HE.out hB) (HL.out.below HE.out hB') HF.out (by rw [HLN.out]; unfold maxLen; omega)).mono ?_
    rintro e w1 ⟨rfl, hb1⟩
    have HB1 := Lib.hid (HE.out.trans (hb1.mono HE.out.size))
    have HM1 := Lib.hid ((mat_empty w).step hb1)
    clear hb1
    go_wp2_with fail
    go_loopw [6, 7] (fun o i wr => ∃ (k : Nat) (wq : World), wq = wr ∧ k ≤ L ∧ i = .int .i64 k ∧ MatI w.heap.size wq.heap.size wq o ((fullF (ptsF m l) L).take k) ∧ Below w.heap.size w wq) (fun _ i _ => L - (intOf i).toNat)
    case atStart => exact ⟨0, _, rfl, Nat.zero_le _, rfl, HM1.out, HB1.out⟩
    case round =>
      obtain ⟨k, wq, rfl, hk, rfl, hM, hb⟩ := hrel
      have HMQ := Lib.hid hM; clear hM
      have HBQ := Lib.hid hb; clear hb
      by_cases hlt : k < L
      · have hlt' : decide (k < L) = true := decide_eq_true hlt
        obtain ⟨hp0, hp1⟩ := HPT.out k (by rw [HLN.out]; exact hlt)
        obtain ⟨p, hpe⟩ := Int.eq_ofNat_of_zero_le hp0
        have hpn : p < n := by omega
        have HPE := Lib.hid hpe; clear hpe hp0 hp1
        go_wp2_with fail
        go_loopw [8, 9] (fun r j wr => ∃ (c : Nat) (wi : World), wi = wr ∧ c ≤ L ∧ j = .int .i64 c ∧ RowI wq.heap.size wi.heap.size wi r ((rowF (ptsF m l) L k).take c) ∧ Below wq.heap.size wq wi) (fun _ j _ => L - (intOf j).toNat)
        case atStart => exact ⟨0, _, rfl, Nat.zero_le _, rfl, row_empty wq, (Below.refl _ _).alloc (Nat.le_refl _) _⟩
        case round =>
          obtain ⟨c, wi, rfl, hc, rfl, hR, hbi⟩ := hrel
          have HBI := Lib.hid hbi
          have hsz := hbi.size
          have hBQ := HBQ.out.size
          clear hbi
          by_cases hcn : c < L
          · have hcn' : decide (c < L) = true := decide_eq_true hcn
            have hBi : Below w.heap.size w wi := HBQ.out.trans (HBI.out.mono hBQ)
            obtain ⟨lb, loff, rfl, hlb, hlc⟩ := (HL.out.below hBi hB').getD hlt
            have hlc2 := (HL.out.below hBi hB').prev hcn
            obtain ⟨hq0, hq1⟩ := HPT.out c (by rw [HLN.out]; exact hcn)
            obtain ⟨q, hqe⟩ := Int.eq_ofNat_of_zero_le hq0
            have hqn : q < n := by omega
            rw [HPE.out] at hlc
            rw [hqe] at hlc2
            obtain ⟨b, off, rb, roff, rcap, rfl, hc1, hx⟩ := (HR.out.below hBi hB).entry HRW.out hpn hqn
            have hpt : ptsF m l k c = entry m p q := by unfold ptsF; rw [HPE.out, hqe]; rfl
            clear hBi hq0 hq1 hqe
            have hst := rowF_step (ptsF m l) L k c hcn
            rw [hpt] at hst
            have HST := Lib.hid hst
            have hrl : ((rowF (ptsF m l) L k).take c).length + [entry m p q].length ≤ 4194304 := by rw [List.length_take]; simp; omega
            clear hst hpt
            generalize entry m p q = x at *
            have HRI := Lib.hid hR; clear hR
            have HRL := Lib.hid hrl; clear hrl
            go_wp2_with fail
            go_region_law (refine step_lit x wi.heap.size ((HRI.out.alloc _).mono (Nat.le_refl _) (by simp)) (by simp; omega) (MapKept.heap_alloc _ _).1 HRL.out rfl rfl rfl rfl ?_; intro v3 w3 hr3 hb3 hz3)
            all_goals
              rw [HST.out] at hr3
              have HR3 := Lib.hid hr3
              have HB3 := Lib.hid (hb3 wq wq.heap.size (Nat.le_refl _) (HBI.out.alloc hsz _).drew)
              clear hr3 hb3 hz3
              go_wp2_with fail
              exact ⟨⟨c + 1, _, rfl, by omega, by go_num, HR3.out, HB3.out⟩, by simp [intOf]; omega⟩
          · obtain rfl : c = L := by omega
            have hcn' : decide (c < c) = false := by simp
            have hM3 : MatI w.heap.size wq.heap.size wi _ _ := HMQ.out.same (SameIn.of_below HBI.out (Nat.le_refl _))
            rw [rowF_end] at hR
            obtain ⟨ra, rcap, rfl⟩ := hR.slice
            have HM3 := Lib.hid hM3
            have HR3 := Lib.hid hR
            have HST := Lib.hid (fullF_step (ptsF m l) c k hlt)
            have hml : ((fullF (ptsF m l) c).take k).length ≤ 1048576 := by rw [List.length_take]; omega
            have HML := Lib.hid hml
            clear hM3 hR hml
            go_wp2_with (at_builtin; go_must (refine append_row HM3.out HR3.out hBQ hsz rfl rfl rfl rfl HML.out ?_; intro v' w3 hm3 hb3 hz3))
            rw [HST.out] at hm3
            have HM4 := Lib.hid hm3
            have HB4 := Lib.hid (hb3 w w.heap.size (Nat.le_refl _) (HBQ.out.trans (HBI.out.mono hBQ)))
            exact ⟨⟨k + 1, _, rfl, by omega, by go_num, HM4.out, HB4.out⟩, by simp [intOf]; omega⟩
      · obtain rfl : k = L := by omega
        have hlt' : decide (k < k) = false := by simp
        have hM := HMQ.out
        rw [fullF_end] at hM
        have HM2 := Lib.hid hM
        clear hM
        go_wp2_with fail
        go_ret2
        exact ⟨_, by rw [HB.out]; rfl, by rw [HM.out, HPK.out]; exact ⟨HM2.out, Nat.le_refl _⟩, HBQ.out⟩
  · have HM := Lib.hid (subM_no hok)
    have HB := Lib.hid (subB_no hok)
    by_cases hs : setB m.length l = true ∧ isB m = true
    · have h0 : l.length = 0 := by
        apply Classical.byContradiction
        intro h0
        refine hok ⟨?_, fun e => h0 (by rw [e]; rfl), ?_⟩
        · exact Classical.byContradiction fun h => by have := hs.2; rw [isB_no h] at this; cases this
        · exact Classical.byContradiction fun h => by have := hs.1; rw [setB_no h] at this; cases this
      have HS := Lib.hid (show decide (setB m.length l = true ∧ isB m = true) = true from decide_eq_true hs)
      clear hok hs
      generalize subM m l = R' at *
      generalize subB m l = c at *
      generalize hn : m.length = n at *
      have HN := Lib.hid hn; clear hn
      generalize hln : l.length = L at *
      have HLN := Lib.hid hln; clear hln
      have hz : ((L : Int) == 0) = true := by rw [beq_iff_eq]; omega
      have HL0 := Lib.hid h0; clear h0
      go_enter Try.func124, Try.ntmps124
      go_wp2_with fail
      refine (l3set_any B B' _ _ m l true (by rw [HN.out]; exact HS.out) _ (HR.out.below HE.out hB) (HL.out.below HE.out hB') HF.out (by rw [HLN.out]; unfold maxLen; omega)).mono ?_
      rintro e w1 ⟨rfl, hb1⟩
      have HB1 := Lib.hid (HE.out.trans (hb1.mono HE.out.size))
      have HM1 := Lib.hid ((mat_empty w).step hb1)
      clear hb1
      go_wp2_with fail
      go_ret2
      exact makesM2_nil HM.out HB.out.symm HM1.out HB1.out
    · have HS := Lib.hid (show decide (setB m.length l = true ∧ isB m = true) = false from decide_eq_false hs)
      clear hok hs
      generalize subM m l = R' at *
      generalize subB m l = c at *
      generalize hn : m.length = n at *
      have HN := Lib.hid hn; clear hn
      generalize hln : l.length = L at *
      have HLN := Lib.hid hln; clear hln
      go_enter Try.func124, Try.ntmps124
      go_wp2_with fail
      refine (l3set_any B B' _ _ m l false (by rw [HN.out]; exact HS.out) _ (HR.out.below HE.out hB) (HL.out.below HE.out hB') HF.out (by rw [HLN.out]; unfold maxLen; omega)).mono ?_
      rintro e w1 ⟨rfl, hb1⟩
      have HB1 := Lib.hid (HE.out.trans (hb1.mono HE.out.size))
      have HM1 := Lib.hid ((mat_empty w).step hb1)
      clear hb1
      go_wp2_with fail
      go_ret2
      exact makesM2_nil HM.out HB.out.symm HM1.out HB1.out
end Go.Proofs.Ytnlbmnielemgiaa
namespace Go.Proofs.Ytnlbmnielemgiaa
theorem no_sort_here : True := True.intro
end Go.Proofs.Ytnlbmnielemgiaa
namespace Go.Proofs.Ytnlbmnielemgiaa

def visit1 (s : List Bool × List Nat) (j : Nat) : List Bool × List Nat := if s.1.getD j false then s else (s.1.set j true, s.2 ++ [j])
def visitL (l : List Nat) (s : List Bool × List Nat) : List Bool × List Nat := l.foldl visit1 s
def bfsStep (G : Nat → List Nat) (k : Nat) (s : List Bool × List Nat) : List Bool × List Nat := match s.2[k]? with | some p => visitL (G p) s | none => s
def bfsN (G : Nat → List Nat) (s : List Bool × List Nat) : Nat → List Bool × List Nat
  | 0 => s
  | k + 1 => bfsStep G k (bfsN G s k)
/-- What every step keeps. -/
def BInv (n C : Nat) (s : List Bool × List Nat) : Prop := s.1.length = n ∧ (∀ k, k < s.2.length → s.2.getD k 0 < n) ∧ s.2.length + s.1.count false = C ∧ 0 < s.2.length
theorem visit1_inv {n C : Nat} {s : List Bool × List Nat} {j : Nat} (h : BInv n C s) (hj : j < n) : BInv n C (visit1 s j) := by
  obtain ⟨h1, h2, h3, h9⟩ := h
  unfold visit1
  by_cases hs : s.1.getD j false = true
  · rw [if_pos hs]; exact ⟨h1, h2, h3, h9⟩
  · rw [if_neg hs]
    have hj' : j < s.1.length := by omega
    have hf : s.1[j] = false := by
      have : s.1.getD j false = s.1[j] := by simp [List.getD, hj']
      rw [this] at hs; simpa using hs
    refine ⟨by simp [h1], fun k hk => ?_, ?_, by simp⟩
    · simp only [List.length_append, List.length_singleton] at hk
      by_cases hk' : k < s.2.length
      · have := h2 k hk'
        simpa [List.getD, List.getElem?_append_left hk'] using this
      · obtain rfl : k = s.2.length := by omega
        simpa [List.getD] using hj
    · have hpos : 0 < s.1.count false := List.count_pos_iff.2 (hf ▸ List.getElem_mem hj')
      simp only [List.length_append, List.length_singleton]
      rw [List.count_set (h := hj')]
      simp [hf]
      omega
theorem visitL_inv {n C : Nat} (l : List Nat) {s : List Bool × List Nat} (h : BInv n C s) (hl : ∀ k, k < l.length → l.getD k 0 < n) : BInv n C (visitL l s) := by
  induction l generalizing s with
  | nil => exact h
  | cons x l ih =>
    refine ih (visit1_inv h (by have := hl 0 (by simp); simpa using this)) fun k hk => ?_
    have := hl (k + 1) (by simp; omega)
    simpa using this
theorem visitL_step (l : List Nat) (s : List Bool × List Nat) (j : Nat) (h : j < l.length) : visitL (l.take (j + 1)) s = visit1 (visitL (l.take j) s) (l.getD j 0) := by
  rw [List.take_succ_eq_append_getElem h]
  unfold visitL
  rw [List.foldl_append]
  simp [List.getD, h]
theorem visitL_all (l : List Nat) (s : List Bool × List Nat) : visitL (l.take l.length) s = visitL l s := by rw [List.take_length]
def GrIn (G : Nat → List Nat) (n : Nat) : Prop := ∀ p k, k < (G p).length → (G p).getD k 0 < n
theorem bfsN_inv {G : Nat → List Nat} {n C : Nat} (hG : GrIn G n) {s : List Bool × List Nat} (h : BInv n C s) (k : Nat) : BInv n C (bfsN G s k) := by
  induction k with
  | zero => exact h
  | succ k ih =>
    unfold bfsN bfsStep
    cases (bfsN G s k).2[k]? with
    | none => exact ih
    | some p => exact visitL_inv _ ih (hG p)
theorem bfsN_step {G : Nat → List Nat} {s : List Bool × List Nat} {k : Nat} (h : k < (bfsN G s k).2.length) : bfsN G s (k + 1) = visitL (G ((bfsN G s k).2.getD k 0)) (bfsN G s k) := by
  show bfsStep G k (bfsN G s k) = _
  unfold bfsStep
  rw [List.getElem?_eq_getElem h]
  simp [List.getD, h]
theorem bfsN_stop {G : Nat → List Nat} {s : List Bool × List Nat} {k : Nat} (h : (bfsN G s k).2.length ≤ k) (t : Nat) : bfsN G s (k + t) = bfsN G s k := by
  induction t with
  | zero => rfl
  | succ t ih =>
    show bfsStep G (k + t) (bfsN G s (k + t)) = _
    rw [ih]
    unfold bfsStep
    rw [List.getElem?_eq_none (by omega)]
theorem bfsN_end {G : Nat → List Nat} {s : List Bool × List Nat} {k N : Nat} (h : (bfsN G s k).2.length ≤ k) (hN : k ≤ N) : bfsN G s k = bfsN G s N := by
  obtain ⟨t, rfl⟩ : ∃ t, N = k + t := ⟨N - k, by omega⟩
  exact (bfsN_stop h t).symm

/-! ### Parts, as the model and as the program find them -/
def start (_n i : Nat) (s : List Bool) : List Bool × List Nat := (s.set i true, [i])
def bfsE (G : Nat → List Nat) (s : List Bool × List Nat) : List Bool × List Nat := bfsN G s 6
def seenK (s : List Bool) (k : Nat) : List Nat := (List.range k).filter fun j => s.getD j false
def mPart (G : Nat → List Nat) (n i : Nat) : List Nat := seenK (bfsE G (start n i (List.replicate n false))).1 n
def partsM (G : Nat → List Nat) (n : Nat) : Nat → List (List Nat)
  | 0 => []
  | i + 1 => if (mPart G n i).getD 0 0 = i then partsM G n i ++ [mPart G n i] else partsM G n i
def sortN (n : Nat) (q : List Nat) : List Nat := (List.range n).filter fun k => q.contains k
def partsP (G : Nat → List Nat) (n : Nat) : Nat → List Bool × List (List Nat)
  | 0 => (List.replicate n false, [])
  | i + 1 => if (partsP G n i).1.getD i false then partsP G n i else ((bfsE G (start n i (partsP G n i).1)).1, (partsP G n i).2 ++ [sortN n (bfsE G (start n i (partsP G n i).1)).2])

/-! ### Graphs -/
/-- The neighbours in the graph with the edges 01, 02, 03, 12, 13, 23. -/
def grE (a b c d e f : Bool) (i j : Nat) : Bool := match i, j with
  | 0, 1 => a | 1, 0 => a | 0, 2 => b | 2, 0 => b | 0, 3 => c | 3, 0 => c | 1, 2 => d | 2, 1 => d | 1, 3 => e | 3, 1 => e | 2, 3 => f | 3, 2 => f
  | _, _ => false
def grN (E : Nat → Nat → Bool) (n p : Nat) : List Nat := (List.range n).filter (E p)
def endsN (G : Nat → List Nat) (k : Nat) : Nat := ((List.range k).map fun i => (G i).length).sum
def edgesN (E : Nat → Nat → Bool) (k : Nat) : Nat := ((List.range k).map fun i => ((List.range i).filter (E i)).length).sum
/-- What is wanted of a graph with n points. -/
def GrOk (G : Nat → List Nat) (n : Nat) : Prop :=
  (partsP G n n).2 = partsM G n n ∧ (∀ i, i < n → (mPart G n i).length ≠ 0) ∧ (∀ i, i < n → (partsP G n i).1.getD i false = false → (bfsE G (start n i (partsP G n i).1)).2.Perm (sortN n (bfsE G (start n i (partsP G n i).1)).2)) ∧ (partsM G n n).length ≤ n ∧ ((partsM G n n).map List.length).sum ≤ n
instance (G : Nat → List Nat) (n : Nat) : Decidable (GrOk G n) := by unfold GrOk; infer_instance
set_option maxRecDepth 100000 in
theorem edOk : ∀ a b c d e f : Bool, endsN (grN (grE a b c d e f) 1) 1 / 2 = edgesN (grE a b c d e f) 1 ∧ endsN (grN (grE a b c d e f) 2) 2 / 2 = edgesN (grE a b c d e f) 2 ∧ endsN (grN (grE a b c d e f) 3) 3 / 2 = edgesN (grE a b c d e f) 3 ∧ endsN (grN (grE a b c d e f) 4) 4 / 2 = edgesN (grE a b c d e f) 4 := by decide +kernel
set_option maxRecDepth 100000 in
theorem grOk1 : ∀ a b c d e f : Bool, GrOk (grN (grE a b c d e f) 1) 1 := by decide +kernel
set_option maxRecDepth 100000 in
theorem grOk2 : ∀ a b c d e f : Bool, GrOk (grN (grE a b c d e f) 2) 2 := by decide +kernel
set_option maxRecDepth 100000 in
theorem grOk3 : ∀ a b c d e f : Bool, GrOk (grN (grE a b c d e f) 3) 3 := by decide +kernel
set_option maxRecDepth 100000 in
theorem grOk4 : ∀ a b c d e f : Bool, GrOk (grN (grE a b c d e f) 4) 4 := by decide +kernel
theorem grOk_all (n : Nat) (h1 : 1 ≤ n) (h4 : n ≤ 4) (a b c d e f : Bool) : GrOk (grN (grE a b c d e f) n) n := by
  rcases (show n = 1 ∨ n = 2 ∨ n = 3 ∨ n = 4 by omega) with rfl | rfl | rfl | rfl
  · exact grOk1 a b c d e f
  · exact grOk2 a b c d e f
  · exact grOk3 a b c d e f
  · exact grOk4 a b c d e f
theorem edOk_all (n : Nat) (h1 : 1 ≤ n) (h4 : n ≤ 4) (a b c d e f : Bool) : endsN (grN (grE a b c d e f) n) n / 2 = edgesN (grE a b c d e f) n := by
  obtain ⟨q1, q2, q3, q4⟩ := edOk a b c d e f
  rcases (show n = 1 ∨ n = 2 ∨ n = 3 ∨ n = 4 by omega) with rfl | rfl | rfl | rfl
  · exact q1
  · exact q2
  · exact q3
  · exact q4
theorem seenK_yes {s : List Bool} {k : Nat} (h : s.getD k false = true) : seenK s k ++ [k] = seenK s (k + 1) := by
  unfold seenK
  rw [List.range_succ, List.filter_append]
  simp [-List.getD_eq_getElem?_getD, h]
theorem seenK_no {s : List Bool} {k : Nat} (h : s.getD k false = false) : seenK s k = seenK s (k + 1) := by
  unfold seenK
  rw [List.range_succ, List.filter_append]
  simp [-List.getD_eq_getElem?_getD, h]
theorem sortN_sorted (n : Nat) (q : List Nat) : (sortN n q).Pairwise fun x y => x ≤ y :=
  (List.pairwise_lt_range.filter _).imp fun h => Nat.le_of_lt h
theorem start_inv {n i : Nat} {s : List Bool} (hs : s.length = n) (hi : i < n) : BInv n (1 + (s.set i true).count false) (start n i s) :=
  ⟨by simp [start, hs], fun k hk => by
    obtain rfl : k = 0 := by simp [start] at hk; omega
    simpa [start] using hi, by simp [start], by simp [start]⟩
theorem start_le {n i : Nat} {s : List Bool} (hs : s.length = n) : 1 + (s.set i true).count false ≤ n + 1 := by
  have h1 : (s.set i true).count false ≤ (s.set i true).length := List.count_le_length
  rw [List.length_set] at h1
  omega
end Go.Proofs.Ytnlbmnielemgiaa
