/-
  ParseCartan of the model: what the call returns.
  A range over a function whose iterator keeps state in cells of its own, and hands over a list that is known beforehand (over any program): what the iterator owes, and the statement's law.
  strings.SplitSeq's iterator: what it owes where the separator is one byte: the pieces, one by one; its string lies in a cell of its own.
-/
import Derived.Test.YtcmnkhblnlmfpaaGreatDoorFW17
import Derived.Test.YtcmnkhblnlmfpaaGreatDoorFW18
import Derived.RangeFuncNested
import Derived.RangeFuncBound
import Derived.RangeFuncCalls
import Derived.RangeFuncLeaves
import Derived.Shelf.Abstract
import Derived.WalkKit
import Derived.OwnWalkIn
import Derived.TacticsInMore
import Derived.LoopNIn
import Derived.LoopIn
import Derived.Test.YtcmnkhblnlmfpaaGreatDoorShelfD
import Derived.Test.YtcmnkhblnlmfpaaGreatDoorShelfJ
namespace Go.Proofs.YtcmnkhblnlmfpaaGreatDoor
open Go.RowKit

open Classical in
noncomputable def numL (l : List UInt8) : Int := if POk l then PV l else 9
theorem numL_yes {l : List UInt8} (h : POk l) : numL l = PV l := if_pos h
theorem numL_no {l : List UInt8} (h : ¬ POk l) : numL l = 9 := if_neg h
set_option maxHeartbeats 1000000 in
theorem pnum_any (s : ByteArray) (w : World) (hs : s.size ≤ maxLen) :
    Calls Tryz.prog 72 #[.string s, .int .i64 9] w fun e w' => e = .returned (.int .i64 (numL s.data.toList)) ∧ Below w.heap.size w w' := by
  go_enter Tryz.func72, Tryz.ntmps72
  go_wp2_with fail
  refine (pars_any s _ hs).mono ?_
  rintro e w1 ⟨ha, hb1⟩
  have HB1 := Lib.hid hb1; clear hb1
  rcases ha with ⟨h, rfl⟩ | ⟨h, rfl⟩
  · have HN := Lib.hid (numL_yes h)
    clear h
    generalize PV s.data.toList = v at *
    go_wp2_with fail
    go_ret
    exact ⟨ret_int HN.out.symm, HB1.out⟩
  · have HN := Lib.hid (numL_no h)
    clear h
    go_wp2_with fail
    go_ret
    exact ⟨ret_int HN.out.symm, HB1.out⟩

noncomputable def rowN (l : List UInt8) : List Int := (cutLD 44 l).map numL
noncomputable def parM (l : List UInt8) : List (List Int) := (cutLD 59 l).map rowN
theorem rowN_len (l : List UInt8) : (rowN l).length ≤ l.length + 1 := by have := cutL_lenD 44 l; simp [rowN]; omega
theorem parM_len (l : List UInt8) : (parM l).length ≤ l.length + 1 := by have := cutL_lenD 59 l; simp [parM]; omega
def PcOk (l : List UInt8) : Prop := l ≠ [] ∧ fmtM (parM l) = l
open Classical in
noncomputable def pcB (l : List UInt8) : Bool := decide (PcOk l)
open Classical in
theorem pcB_yes {l : List UInt8} (h : PcOk l) : pcB l = true := decide_eq_true h
open Classical in
theorem pcB_no {l : List UInt8} (h : ¬ PcOk l) : pcB l = false := decide_eq_false h
noncomputable def pcM (l : List UInt8) : List (List Int) := if pcB l = true then parM l else []
theorem pcM_yes {l : List UInt8} (h : PcOk l) : pcM l = parM l := if_pos (pcB_yes h)
theorem pcM_no {l : List UInt8} (h : ¬ PcOk l) : pcM l = [] := by unfold pcM; rw [pcB_no h]; rfl
theorem toB_get (xs : List (List UInt8)) (j : Nat) (h : j < (toBD xs).length) : (toBD xs)[j] = ⟨(xs[j]'(by simpa [toBD] using h)).toArray⟩ := by simp [toBD]
theorem rowN_snoc (l : List UInt8) (j : Nat) (h : j < (cutLD 44 l).length) : (rowN l).take j ++ [numL (cutLD 44 l)[j]] = (rowN l).take (j + 1) := by
  rw [List.take_succ_eq_append_getElem (by simpa [rowN] using h)]; simp [rowN]
theorem parM_snoc (l : List UInt8) (k : Nat) (h : k < (cutLD 59 l).length) : (parM l).take k ++ [rowN (cutLD 59 l)[k]] = (parM l).take (k + 1) := by
  rw [List.take_succ_eq_append_getElem (by simpa [parM] using h)]; simp [parM]
theorem makesM2_no {w w' : World} {x : Value} {m : List (List Int)} {c : Bool} (hm : m = []) (hc : false = c) (h : MatI w.heap.size w'.heap.size w' x []) (hb : Below w.heap.size w w') : MakesM2 w m (.bool c) (.returned (.tuple #[x, .bool false])) w' :=
  ⟨x, by rw [hc], by rw [hm]; exact ⟨h, Nat.le_refl _⟩, hb⟩
theorem str_empty {s : ByteArray} (h : s.data.toList = []) : s.toList.isEmpty = true := by rw [ByteArray.toList_eq, h]; rfl
theorem str_full {s : ByteArray} (h : ¬ s.data.toList = []) : s.toList.isEmpty = false := by
  rw [ByteArray.toList_eq]; cases hs : s.data.toList with
  | nil => exact absurd hs h
  | cons a l => rfl

set_option maxHeartbeats 4000000 in
set_option maxRecDepth 100000 in
theorem pcs_any (s : ByteArray) (w : World) (hs : s.size ≤ 1048576) :
    Calls Tryz.prog 41 #[.string s] w (MakesM2 w (pcM s.data.toList) (.bool (pcB s.data.toList))) := by
  obtain ⟨l, hl⟩ : ∃ l, l = s.data.toList := ⟨_, rfl⟩
  have hsl : s.size = l.length := by rw [hl]; exact Array.length_toList.symm
  have hcn := cutL_lenD 59 l
  have HCM := Lib.hid (cutL_mem_len 59 l)
  have HSN := Lib.hid (parM_snoc l)
  have HPL : Hid ((parM l).length = (cutLD 59 l).length) := Lib.hid (by simp [parM])
  have HCB : Hid (cutBD 59 s = toBD (cutLD 59 l)) := Lib.hid (by rw [hl]; rfl)
  rw [← hl]
  have HL := Lib.hid hl; clear hl
  have hnum : ((59 : UInt8).toNat : Int) = 59 := rfl
  have hct := cut_anyD 59 s (w.alloc (.cells #[] 25)) hs
  rw [hnum, HCB.out] at hct
  have HCT := Lib.hid hct
  clear hct hnum
  obtain ⟨n, hn⟩ : ∃ n, (toBD (cutLD 59 l)).length = n := ⟨_, rfl⟩
  have hn2 : (cutLD 59 l).length = n := by rw [← hn]; simp [toBD]
  have HN := Lib.hid hn
  have HN2 := Lib.hid hn2
  clear hn
  rw [hn2] at hcn
  clear hn2
  go_enter Tryz.func41, Tryz.ntmps41
  go_wp2_with fail
  refine HCT.out.mono ?_
  rintro e w1 ⟨x1, rfl, hr1, hb1⟩
  obtain ⟨ra1, rc1, rfl⟩ := hr1.slice
  rw [HN.out] at hr1 ⊢
  have HR1 := Lib.hid hr1
  have hal : Below w.heap.size w (w.alloc (.cells #[] 25)) := (Below.refl _ _).alloc (Nat.le_refl _) _
  have hM0 := (mat_empty w).step hb1
  have HM0 := Lib.hid hM0
  have HB0 := Lib.hid (hal.trans (hb1.mono hal.size))
  have HT1 := Lib.hid hr1
  clear hr1 hM0 hal hb1
  go_wp2_with fail
  go_loopw [4, 6] (fun o i wr => ∃ (k : Nat) (wq : World), wq = wr ∧ k ≤ n ∧ i = .int .i64 k ∧ MatI w.heap.size wq.heap.size wq o ((parM l).take k) ∧ Below w.heap.size w wq ∧ RowTD (w.alloc (.cells #[] 25)).heap.size wq.heap.size wq (.slice ra1 n rc1) (toBD (cutLD 59 l))) (fun _ i _ => n - (intOf i).toNat)
  case atStart => exact ⟨0, _, rfl, Nat.zero_le _, rfl, HM0.out, HB0.out, HT1.out⟩
  case round =>
    clear HM0 HB0 HR1 HT1
    obtain ⟨k, wq, rfl, hk, rfl, hM, hb, ht⟩ := hrel
    have HM := Lib.hid hM; clear hM
    have hsq := hb.size
    have HB := Lib.hid hb; clear hb
    have HT := Lib.hid ht; clear ht
    by_cases hlt : k < n
    · have hkl : k < (cutLD 59 l).length := by rw [HN2.out]; exact hlt
      have hkb : k < (toBD (cutLD 59 l)).length := by rw [HN.out]; exact hlt
      obtain ⟨g1, rfl, hg1, hcell⟩ := HT.out.get hkb
      rw [toB_get] at hcell
      have hcell' : (wq.alloc (.cells #[] 3)).cell? ⟨g1, k, none⟩ = _ := (World.cell?_alloc_past _ _ _ hg1).trans hcell
      have hml := HCM.out _ (List.getElem_mem hkl)
      have HST := Lib.hid (HSN.out k hkl)
      have hpl : ((parM l).take k).length ≤ 1048577 := by rw [List.length_take, HPL.out, HN2.out]; omega
      have HPK := Lib.hid hpl
      clear hpl
      generalize (cutLD 59 l)[k] = r at *
      have hcn2 := cutL_lenD 44 r
      have HCM2 := Lib.hid (cutL_mem_len 44 r)
      have HSN2 := Lib.hid (rowN_snoc r)
      have HALL2 : Hid ((rowN r).take (cutLD 44 r).length = rowN r) := Lib.hid (List.take_of_length_le (by simp [rowN]))
      have hct := cut_anyD 44 ⟨r.toArray⟩ (wq.alloc (.cells #[] 3)) (by rw [ba_list]; omega)
      rw [show ((44 : UInt8).toNat : Int) = 44 from rfl, show cutBD 44 ⟨r.toArray⟩ = toBD (cutLD 44 r) from rfl] at hct
      have HCT2 := Lib.hid hct
      clear hct
      obtain ⟨n2, hn⟩ : ∃ n, (toBD (cutLD 44 r)).length = n := ⟨_, rfl⟩
      have hn2 : (cutLD 44 r).length = n2 := by rw [← hn]; simp [toBD]
      have HM1 := Lib.hid hn
      have HM2 := Lib.hid hn2
      clear hn
      rw [hn2] at hcn2 HALL2
      clear hn2
      go_wp2_with fail
      clear hcell' hcell
      refine HCT2.out.mono ?_
      rintro e w3 ⟨x3, rfl, hr3, hb3⟩
      obtain ⟨ra3, rc3, rfl⟩ := hr3.slice
      rw [HM1.out] at hr3 ⊢
      have HR3 := Lib.hid hr3
      have hal : Below wq.heap.size wq (wq.alloc (.cells #[] 3)) := (Below.refl _ _).alloc (Nat.le_refl _) _
      have hR0 := (row_empty wq).step hb3
      have HR0 := Lib.hid hR0
      have hb4 := hal.trans (hb3.mono hal.size)
      have HB4 := Lib.hid hb4
      clear hr3 hR0 hal hb3 hb4
      go_wp2_with fail
      go_loopw [7, 9] (fun o i wr => ∃ (j : Nat) (wi : World), wi = wr ∧ j ≤ n2 ∧ i = .int .i64 j ∧ RowI wq.heap.size wi.heap.size wi o ((rowN r).take j) ∧ Below wq.heap.size wq wi ∧ RowTD (wq.alloc (.cells #[] 3)).heap.size wi.heap.size wi (.slice ra3 n2 rc3) (toBD (cutLD 44 r))) (fun _ i _ => n2 - (intOf i).toNat)
      case atStart => exact ⟨0, _, rfl, Nat.zero_le _, rfl, HR0.out, HB4.out, HR3.out⟩
      case round =>
        clear HR0 HB4 HR3
        obtain ⟨j, wi, rfl, hj, rfl, hrr, hb, ht⟩ := hrel
        have HRI := Lib.hid hrr; clear hrr
        have hsi := hb.size
        have HBI := Lib.hid hb; clear hb
        have HTI := Lib.hid ht; clear ht
        by_cases hjn : j < n2
        · have hjl : j < (cutLD 44 r).length := by rw [HM2.out]; exact hjn
          have hjb : j < (toBD (cutLD 44 r)).length := by rw [HM1.out]; exact hjn
          obtain ⟨g3, rfl, hg3, hcell⟩ := HTI.out.get hjb
          rw [toB_get] at hcell
          have hml2 := HCM2.out _ (List.getElem_mem hjl)
          have HST2 := Lib.hid (HSN2.out j hjl)
          generalize (cutLD 44 r)[j] = f at *
          have hnc := pnum_any ⟨f.toArray⟩ wi (by rw [ba_list]; unfold maxLen; omega)
          rw [show (⟨f.toArray⟩ : ByteArray).data.toList = f from rfl] at hnc
          have HNC := Lib.hid hnc
          clear hnc
          generalize numL f = y at *
          go_wp2_with fail
          clear hcell
          refine HNC.out.mono ?_
          rintro e w5 ⟨rfl, hb5⟩
          have hri5 := HRI.out.step hb5
          have hs5 : wq.heap.size ≤ w5.heap.size := Nat.le_trans hsi hb5.size
          have HRI5 := Lib.hid hri5
          have HB5 := Lib.hid (HBI.out.trans (hb5.mono hsi))
          have HT5 := Lib.hid (HTI.out.step hb5)
          have hlen : ((rowN r).take j).length ≤ 4194304 := by rw [List.length_take]; omega
          have HLEN := Lib.hid hlen
          clear hri5 hb5 hlen
          go_wp2_with (at_builtin; go_must (refine append_intGD HRI5.out hs5 y HST2.out rfl rfl rfl rfl HLEN.out ?_))
          intro v' w6 hr6 hb6 hz6 ht6
          have HR7 := Lib.hid hr6
          have HB7 := Lib.hid (hb6 wq wq.heap.size (Nat.le_refl _) HB5.out)
          have HT7 := Lib.hid ((ht6 _ _ _ _ HT5.out).mono hz6)
          clear hr6 hb6 hz6 ht6
          go_wp2_with fail
          exact ⟨⟨j + 1, _, rfl, by omega, by go_num, HR7.out, HB7.out, HT7.out⟩, by simp [intOf]; omega⟩
        · obtain rfl : j = n2 := by omega
          have hri := HRI.out
          rw [HALL2.out] at hri
          obtain ⟨xa, xn, xc, rfl⟩ := hri.slice3
          have HRI2 := Lib.hid hri
          have HMI := Lib.hid (HM.out.same (SameIn.of_below HBI.out (Nat.le_refl _)))
          have HTI2 := Lib.hid ((HT.out.same (SameIn.of_below HBI.out (Nat.le_refl _))).mono hsi)
          clear hri
          go_wp2_with (at_builtin; go_must (refine append_rowG HMI.out HRI2.out hsq hsi HST.out rfl rfl rfl rfl HPK.out ?_))
          intro v' w6 hm6 hb6 hz6 ht6
          have HM7 := Lib.hid hm6
          have HB7 := Lib.hid (hb6 w w.heap.size (Nat.le_refl _) (HB.out.trans (HBI.out.mono hsq)))
          have HT7 := Lib.hid ((ht6 _ _ _ _ HTI2.out).mono hz6)
          clear hm6 hb6 hz6 ht6
          go_wp2_with fail
          exact ⟨⟨k + 1, _, rfl, by omega, by go_num, HM7.out, HB7.out, HT7.out⟩, by simp [intOf]; omega⟩
    · obtain rfl : k = n := by omega
      have hM := HM.out
      rw [← HN2.out, ← HPL.out, List.take_length] at hM
      obtain ⟨xa, xc, rfl⟩ := hM.slice
      have HMF := Lib.hid hM
      have hfit : RowsFit (parM l) := by
        refine ⟨by rw [HPL.out, HN2.out]; unfold maxLen; omega, fun j hj => ?_⟩
        have hj2 : j < (cutLD 59 l).length := by rw [← HPL.out]; exact hj
        have e : (parM l)[j] = rowN (cutLD 59 l)[j] := by simp [parM]
        have h1 := rowN_len (cutLD 59 l)[j]
        have h2 := HCM.out _ (List.getElem_mem hj2)
        rw [e]; unfold maxLen; omega
      have HFM := Lib.hid (fms_any wq.heap.size (.slice xa (parM l).length xc) (parM l) wq hM.matB (Nat.le_refl _) hfit)
      clear hM hfit
      by_cases h0 : l = []
      · have h1 := str_empty (s := s) (by rw [← HL.out]; exact h0)
        have HP := Lib.hid (pcM_no (l := l) (fun h => h.1 h0))
        have HPB := Lib.hid (pcB_no (l := l) (fun h => h.1 h0))
        clear h0
        go_wp2_with fail
        go_ret2
        exact makesM2_no HP.out HPB.out.symm ((mat_empty wq).mono hsq (Nat.le_refl _)) (HB.out.alloc hsq _)
      · have h1 := str_full (s := s) (by rw [← HL.out]; exact h0)
        go_wp2_with fail
        refine HFM.out.mono ?_
        rintro e w5 ⟨rfl, hb5⟩
        have HB5 := Lib.hid (HB.out.trans (hb5.mono hsq))
        have hs5 := Nat.le_trans hsq hb5.size
        have HM5 := Lib.hid (HMF.out.step hb5)
        clear hb5
        by_cases he : fmtM (parM l) = l
        · have hq := neq_no (l := fmtM (parM l)) (s := s) (by rw [← HL.out]; exact he)
          have hok : PcOk l := ⟨h0, he⟩
          have HP := Lib.hid (pcM_yes hok)
          have HPB := Lib.hid (pcB_yes hok)
          clear hok he h0
          generalize fmtM (parM l) = ft at *
          go_wp2_with fail
          go_ret2
          refine ⟨.slice xa (parM l).length xc, ?_, by rw [HP.out]; exact ⟨HM5.out, Nat.le_refl _⟩, HB5.out⟩
          rw [HPB.out]
          rfl
        · have hq := neq_yes (l := fmtM (parM l)) (s := s) (by rw [← HL.out]; exact he)
          have HP := Lib.hid (pcM_no (l := l) (fun h => he h.2))
          have HPB := Lib.hid (pcB_no (l := l) (fun h => he h.2))
          clear he h0
          generalize fmtM (parM l) = ft at *
          go_wp2_with fail
          go_ret2
          exact makesM2_no HP.out HPB.out.symm ((mat_empty w5).mono hs5 (Nat.le_refl _)) (HB5.out.alloc hs5 _)
end Go.Proofs.YtcmnkhblnlmfpaaGreatDoor
namespace Go.Proofs.YtcmnkhblnlmfpaaGreatDoor
open Go.RowKit Go.Shelf

/-- What the iterator owes: R k: its own cells before element k is handed over; Ab: a step of its own. -/
def GivesB (F : Fence) (n : Nat) (P : Program) (g : Nat) (lb : Array Value) (xs : List (Array Value)) (R : Nat → World → Prop) (Ab : World → World → Prop) : Prop :=
  ∀ (l : Nat) (J : Nat → World → Prop) (Jx : World → Prop) (W : World), (∀ k A B, J k A → Ab A B → J k B) →
    (∀ k (h : k < xs.length) W1, J k W1 → R k W1 → YieldAt F (n - 1) P l xs[k] W1 fun e W' => (e = .returned (.bool true) ∧ J (k + 1) W' ∧ R k W') ∨ (e = .returned (.bool false) ∧ Jx W')) →
    J 0 W → R 0 W → CallsIn F n P g (#[.func (.yield l) #[] #[]] ++ lb) W fun e W' => (∃ v, e = .returned v) ∧ (J xs.length W' ∨ Jx W')

/-- What is asked behind a round's body: it goes on, or it returns; the loop's record lies as it lay. -/
def roundEnd (l : Nat) (o : Option Obj) (I R Ix : World → Prop) : Exit → Act → World → Prop
  | .normal, _, W' => W'.heap[l]? = o ∧ I W' ∧ R W'
  | .ret, _, W' => W'.heap[l]? = o ∧ Ix W'
  | _, _, _ => False

theorem range_gives {F : Fence} {n : Nat} {P : Program} {g : Operand} {ps : Array Tmp} {assign body : Code} {Q : Exit → Act → World → Prop} {a : Act} {w : World}
    (h1 : 1 ≤ n) {gf : Nat} {lb : Array Value} (hg : a.eval g = .func (.func gf) #[] lb) (hFg : F.fn gf) (eg : ∀ args w, (callFunc gf args).run P w = .ok (.enter gf args) w)
    {xs : List (Array Value)} {R : Nat → World → Prop} {Ab : World → World → Prop} (hseq : GivesB F (n - 1) P gf lb xs R Ab) (hps : ∀ x ∈ xs, x.size = ps.size)
    (l D : Nat) (mark : List Deferred) (W1 : FuncId → World) (he : ∀ fn, (Instr.enterLoop fn a.tmps ps assign body F.round).run P w = .ok (l, mark) (W1 fn))
    (hl : ∀ fn, (W1 fn).heap[l]? = some (.loop { state := .ready, pending := none, fn := fn, tmps := a.tmps, params := ps, assign := assign, body := body, defers := D }))
    (I : Nat → World → Prop) (Ix : World → Prop)
    (hIp : ∀ k W r r', I k W → W.heap[l]? = some (.loop r) → I k (W.putObj l (.loop r'))) (hXp : ∀ W r r', Ix W → W.heap[l]? = some (.loop r) → Ix (W.putObj l (.loop r')))
    (hRp : ∀ k W r r', R k W → W.heap[l]? = some (.loop r) → R k (W.putObj l (.loop r'))) (hIa : ∀ k A B, I k A → Ab A B → I k B) (hla : ∀ A B, Ab A B → B.heap[l]? = A.heap[l]?)
    (h0 : ∀ fn, I 0 (W1 fn) ∧ R 0 (W1 fn)) (act : (k : Nat) → k < xs.length → Act)
    (hassign : ∀ k (h : k < xs.length) W (K : Act → World → Prop), K (act k h) W → assign.wpIn (F.inRound l) (n - 1 - 1) P (Exit.then K (fun _ _ _ => False)) { tmps := (ps.zip xs[k]).foldl (fun t (p, v) => t.setIfInBounds p v) a.tmps, defers := [] } W)
    (hbody : ∀ k (h : k < xs.length) W r, W.heap[l]? = some (.loop r) → I k W → R k W → body.wpIn (F.inRound l) (n - 1 - 1) P (roundEnd l (some (.loop r)) (I (k + 1)) (R k) Ix) (act k h) W)
    (hdone : ∀ W, I xs.length W → Q .normal { a with defers := mark ++ a.defers } W) (hstop : ∀ W, Ix W → Code.ret.wpIn F n P Q { a with defers := mark ++ a.defers } W) :
    (Code.rangeFunc g ps assign body).wpIn F n P Q a w := by
  refine wpIn_rangeFunc fun fn hfn => ?_
  obtain ⟨rec, hrec⟩ : ∃ rec : LoopState → Option Code → Loop, rec = fun st pe => { state := st, pending := pe, fn := fn, tmps := a.tmps, params := ps, assign := assign, body := body, defers := D } := ⟨_, rfl⟩
  have hl0 : (W1 fn).heap[l]? = some (.loop (rec .ready none)) := by rw [hrec]; exact hl fn
  refine ⟨l, mark, W1 fn, { target := .fn (.func gf) lb, args := #[.func (.yield l) #[] #[]] }, W1 fn, gf, #[.func (.yield l) #[] #[]] ++ lb, W1 fn, he fn, ?_, ?_, ?_, fun _ => h1, ?_⟩
  · simp only [resolve, hg]
    simp [go_sem]
  · intro f' hf'
    simp [Target.leads] at hf'
    subst hf'
    exact hFg
  · simp [invoke, go_sem, eg]
  · refine (hseq l (fun k W => I k W ∧ W.heap[l]? = some (.loop (rec .ready none))) (fun W => Ix W ∧ W.heap[l]? = some (.loop (rec .done (some .ret)))) (W1 fn)
      (fun k A B hj hab => ⟨hIa k A B hj.1 hab, (hla A B hab).trans hj.2⟩) (fun k hk W hj hr => ?_) ⟨(h0 fn).1, hl0⟩ (h0 fn).2).mono ?_
    · obtain ⟨hi, hrl⟩ := hj
      have hlt : l < W.heap.size := (Array.getElem?_eq_some_iff.1 hrl).1
      have hy := run_yield (P := P) (args := xs[k]) hrl (by rw [hrec]; exact hps _ (List.getElem_mem hk))
      rw [hrec] at hy
      refine ⟨fn, _, assign, body, hy, roundIn_of_wpIn hfn (hassign k hk W _ ?_)⟩
      refine ⟨_, run_beginRound hrl (by rw [hrec]), ?_⟩
      have hl2 : (W.putObj l (.loop { rec .ready none with state := .busy })).heap[l]? = some (.loop { rec .ready none with state := .busy }) := World.putObj_heap_same hlt
      refine wpIn_mono (hbody k hk _ _ hl2 (hIp k W _ _ hi hrl) (hRp k W _ _ hr hrl)) ?_
      rintro e a3 W3 hp
      cases e with
      | normal =>
        obtain ⟨hl3, hi3, hr3⟩ := hp
        have hlt3 : l < W3.heap.size := (Array.getElem?_eq_some_iff.1 hl3).1
        have hend := run_endRound (P := P) none hl3
        refine ⟨_, _, hend, .inl ⟨rfl, ⟨hIp _ _ _ _ hi3 hl3, ?_⟩, hRp _ _ _ _ hr3 hl3⟩⟩
        rw [World.putObj_heap_same hlt3, hrec]; rfl
      | ret =>
        obtain ⟨hl3, hi3⟩ := hp
        have hlt3 : l < W3.heap.size := (Array.getElem?_eq_some_iff.1 hl3).1
        have hend := run_endRound (P := P) (some .ret) hl3
        refine ⟨_, _, hend, .inr ⟨rfl, hXp _ _ _ hi3 hl3, ?_⟩⟩
        rw [World.putObj_heap_same hlt3, hrec]; rfl
      | exit id => exact hp.elim
      | goto t => exact hp.elim
      | panic ch => exact hp.elim
      | outgrown => exact hp.elim
    · rintro e W2 ⟨⟨v, rfl⟩, (⟨hi, hrl⟩ | ⟨hi, hrl⟩)⟩
      · have hend := run_endLoop (P := P) hrl (by rw [hrec]; simp)
        have hpe : (rec .ready none).pending = none := by rw [hrec]
        rw [hpe] at hend
        exact ⟨none, _, hend, hdone _ (hIp _ _ _ _ hi hrl)⟩
      · have hend := run_endLoop (P := P) hrl (by rw [hrec]; simp)
        have hpe : (rec .done (some .ret)).pending = some .ret := by rw [hrec]
        rw [hpe] at hend
        exact ⟨some .ret, _, hend, hstop _ (hXp _ _ _ hi hrl)⟩
end Go.Proofs.YtcmnkhblnlmfpaaGreatDoor
namespace Go.Proofs.YtcmnkhblnlmfpaaGreatDoor
open Go.RowKit Go.Shelf
attribute [local go_sem] Oper.semAt_some

theorem idx_find (c : UInt8) : ∀ (l : List UInt8), (Lib.indexByte l c = -1 ∧ c ∉ l) ∨ ∃ a b, l = a ++ c :: b ∧ c ∉ a ∧ Lib.indexByte l c = (a.length : Int)
  | [] => .inl ⟨rfl, by simp⟩
  | x :: l => by
    unfold Lib.indexByte
    by_cases hx : x = c
    · exact .inr ⟨[], l, by simp [hx], by simp, by simp [hx]⟩
    · rcases idx_find c l with ⟨h, hn⟩ | ⟨a, b, h, hn, hi⟩
      · exact .inl ⟨by simp [hx, h], by simp [hn, Ne.symm hx]⟩
      · exact .inr ⟨x :: a, b, by simp [h], by simp [hn, Ne.symm hx], by rw [hi]; simp [hx]⟩

/-- The bytes of a list as a string's value. -/
def strL (l : List UInt8) : Value := .string ⟨l.toArray⟩
/-- The iterator's cells, before piece k is handed over. -/
def SplitR (c : UInt8) (l : List UInt8) (B : Nat) (k : Nat) (W : World) : Prop :=
  ∃ rest : List UInt8, Boxed W B 9 (strL rest) ∧ Boxed W (B + 1) 9 (strL [c]) ∧ Boxed W (B + 2) 3 (.int .i64 0) ∧ (cutLD c l).drop k = cutLD c rest ∧ rest.length ≤ l.length
/-- The iterator's own step. -/
def SplitAb (B : Nat) (W W' : World) : Prop := ∃ v, W' = W.setCell ⟨B, 0, none⟩ v
/-- How long the string in the iterator's cell is. -/
def cellLen (B : Nat) (W : World) : Nat := match W.cell? ⟨B, 0, none⟩ with | some (.string s) => s.size | _ => 0
theorem cellLen_eq {B : Nat} {W : World} {rest : List UInt8} {t : TypeId} (h : Boxed W B t (strL rest)) : cellLen B W = rest.length := by
  unfold cellLen; rw [h.cell]; simp [strL, ByteArray.size]
theorem SplitR.start {c : UInt8} {l : List UInt8} {B : Nat} {W : World} (h1 : Boxed W B 9 (strL l)) (h2 : Boxed W (B + 1) 9 (strL [c])) (h3 : Boxed W (B + 2) 3 (.int .i64 0)) : SplitR c l B 0 W :=
  ⟨l, h1, h2, h3, by simp, Nat.le_refl _⟩
theorem SplitR.mono {c : UInt8} {l : List UInt8} {B k : Nat} {W W' : World} (h : SplitR c l B k W) (hk : ∀ b t v, B ≤ b → b ≤ B + 2 → Boxed W b t v → Boxed W' b t v) : SplitR c l B k W' := by
  obtain ⟨rest, h1, h2, h3, h4, h5⟩ := h
  exact ⟨rest, hk _ _ _ (by omega) (by omega) h1, hk _ _ _ (by omega) (by omega) h2, hk _ _ _ (by omega) (by omega) h3, h4, h5⟩

theorem cutL_inj {c : UInt8} {a b : List UInt8} (h : cutLD c a = cutLD c b) : a = b := by
  have := cutL_join c a
  rw [h, cutL_join] at this
  exact this.symm
theorem SplitR.get {c : UInt8} {l rest : List UInt8} {B k : Nat} {W : World} (h : SplitR c l B k W) (hd : (cutLD c l).drop k = cutLD c rest) :
    Boxed W B 9 (strL rest) ∧ Boxed W (B + 1) 9 (strL [c]) ∧ Boxed W (B + 2) 3 (.int .i64 0) := by
  obtain ⟨r', h1, h2, h3, h4, _⟩ := h
  obtain rfl : r' = rest := cutL_inj (h4.symm.trans hd)
  exact ⟨h1, h2, h3⟩
theorem drop_head {α : Type} {xs ys : List α} {k : Nat} {x : α} (h : xs.drop k = x :: ys) : ∃ hk : k < xs.length, xs[k] = x ∧ xs.drop (k + 1) = ys := by
  have hk : k < xs.length := by
    rcases Nat.lt_or_ge k xs.length with h' | h'
    · exact h'
    · rw [List.drop_eq_nil_of_le h'] at h; cases h
  rw [List.drop_eq_getElem_cons hk] at h
  cases h
  exact ⟨hk, rfl, rfl⟩

set_option maxRecDepth 100000 in
set_option maxHeartbeats 1000000 in
theorem split_gives (n : Nat) (hn : 1 ≤ n) (c : UInt8) (l : List UInt8) (hl : l.length ≤ 1048576) (B : Nat) :
    GivesB Fence.wide n Tryz.prog 123 #[.pointer (some ⟨B + 1, 0, none⟩), .pointer (some ⟨B, 0, none⟩), .pointer (some ⟨B + 2, 0, none⟩)] ((cutLD c l).map fun x => #[strL x]) (SplitR c l B) (SplitAb B) := by
  intro lp J Jx W hJ hY h0 hR0
  have hlen : ((cutLD c l).map fun x => #[strL x]).length = (cutLD c l).length := by simp
  refine callsIn_of_wp Tryz.func123 rfl trivial ?_ rfl
  simp only [Tryz.ntmps123, List.size_toArray, List.length_cons, List.length_nil, Nat.reduceAdd, Nat.reduceSub, Array.replicate_succ, Array.replicate_zero, List.push_toArray, List.append_toArray, List.nil_append, List.cons_append]
  obtain ⟨r0, b1, b2, b3, hd0, hr0⟩ := hR0
  have hc2 : W.cell? ⟨B + 1, 0, none⟩ = some (.string ⟨#[c]⟩) := b2.cell
  have hz2 : (⟨#[c]⟩ : ByteArray).size = 1 := rfl
  gi_wp2
  gi_loopw [] (fun W' => ∃ k, SplitR c l B k W' ∧ J k W') (fun W' => cellLen B W')
  case atStart => exact ⟨0, ⟨r0, b1, b2, b3, hd0, hr0⟩, h0⟩
  case round =>
    obtain ⟨k, ⟨rest, c1, c2, c3, hd, hr⟩, hj⟩ := hrel
    have e1 : wr.cell? ⟨B, 0, none⟩ = some (.string ⟨rest.toArray⟩) := c1.cell
    have e2 : wr.cell? ⟨B + 1, 0, none⟩ = some (.string ⟨#[c]⟩) := c2.cell
    have e3 := c3.cell
    have e4 := c1.frozen
    have hkl : k < (cutLD c l).length := by
      rcases Nat.lt_or_ge k (cutLD c l).length with h | h
      · exact h
      · rw [List.drop_eq_nil_of_le h] at hd; exact absurd hd.symm (cutL_neD c rest)
    have hlen0 : cellLen B wr = rest.length := cellLen_eq c1
    have hix := Tryz.strings_Index_one ⟨rest.toArray⟩ c wr
    simp only at hix
    rcases idx_find c rest with ⟨hi, hn0⟩ | ⟨a, b, hab, hna, hi⟩
    · rw [hi] at hix
      rw [cutL_freeD c rest hn0] at hd
      obtain ⟨hk, hx, hd1⟩ := drop_head hd
      have hlast : k + 1 = (cutLD c l).length := by
        have := congrArg List.length hd1; simp at this; omega
      have hy1 := hY k (by rw [hlen]; exact hk) wr hj ⟨rest, c1, c2, c3, by rw [hd, cutL_freeD c rest hn0], hr⟩
      rw [List.getElem_map, hx] at hy1
      obtain ⟨fn, tmps, assign, body, hy, hR⟩ := hy1
      dsimp only [strL] at hy
      clear hY hJ
      gi_wp2_with (refine ⟨trivial, ?_⟩; gi_at_call 125; refine (callsIn_wide.2 hix).mono ?_; rintro e w' ⟨rfl, rfl⟩)
      refine hR.mono ?_
      rintro e W3 (⟨rfl, hJ3, -⟩ | ⟨rfl, hJx3⟩)
      · gi_wp2
        go_end0
        exact ⟨⟨_, rfl⟩, .inl (by rw [hlen, ← hlast]; exact hJ3)⟩
      · gi_wp2
        go_end0
        exact ⟨⟨_, rfl⟩, .inr hJx3⟩
    · rw [hi] at hix
      have hdr := hd
      rw [hab, cutL_atD c a b hna] at hd
      obtain ⟨hk, hx, hd1⟩ := drop_head hd
      have hal : a.length + 1 ≤ rest.length := by rw [hab]; simp
      have hbl : b.length + (a.length + 1) = rest.length := by rw [hab]; simp; omega
      have hy1 := hY k (by rw [hlen]; exact hk) wr hj ⟨rest, c1, c2, c3, hdr, hr⟩
      rw [List.getElem_map, hx] at hy1
      obtain ⟨fn, tmps, assign, body, hy, hR⟩ := hy1
      dsimp only [strL] at hy
      clear hY
      have hsz : (⟨rest.toArray⟩ : ByteArray).size = rest.length := by simp [ByteArray.size]
      have hal64 : a.length ≤ 1048576 := by omega
      have hs1 : ∀ (w : World), (Instr.slice 9 (.string ⟨rest.toArray⟩) none (some (.int .i64 (a.length : Int))) none).run Tryz.prog w = .ok (.string ⟨a.toArray⟩) w := by
        intro w
        have := run_slice_string_h (P := Tryz.prog) w 9 ⟨rest.toArray⟩ Tryz.underlying9 .i64 (a.length : Int) (by omega) (by rw [hsz]; omega)
        rw [this, ByteArray.extract_mk, hab]
        simp
      have hdm : rest.drop (a.length + 1) = b := by rw [hab, show a ++ c :: b = (a ++ [c]) ++ b by simp, show a.length + 1 = (a ++ [c]).length by simp, List.drop_left]
      have hs2 : ∀ (w : World), (Instr.slice 9 (.string ⟨rest.toArray⟩) (some (.int .i64 ((a.length : Int) + 1))) none none).run Tryz.prog w = .ok (.string ⟨b.toArray⟩) w := by
        intro w
        have := run_slice_string_l (P := Tryz.prog) w 9 ⟨rest.toArray⟩ Tryz.underlying9 .i64 ((a.length : Int) + 1) (by omega) (by rw [hsz]; omega)
        rw [this, ByteArray.extract_mk, hsz, show ((a.length : Int) + 1).toNat = a.length + 1 by omega, hdm, List.take_of_length_le (by omega)]
      generalize hA : (⟨a.toArray⟩ : ByteArray) = sa at *
      generalize hB : (⟨b.toArray⟩ : ByteArray) = sb at *
      generalize hS : (⟨rest.toArray⟩ : ByteArray) = sr at *
      have HD := Lib.hid hd; have HDR := Lib.hid hdr; have HD1 := Lib.hid hd1; have HAB := Lib.hid hab
      clear hd hdr hd1 hab hdm
      gi_wp2_with (refine ⟨trivial, ?_⟩; gi_at_call 125; refine (callsIn_wide.2 hix).mono ?_; rintro e w' ⟨rfl, rfl⟩)
      refine hR.mono ?_
      rintro e W3 (⟨rfl, hJ3, hR3⟩ | ⟨rfl, hJx3⟩)
      · obtain ⟨d1, d2, d3⟩ := hR3.get HDR.out
        have f1 : W3.cell? ⟨B, 0, none⟩ = some (.string sr) := by rw [← hS]; exact d1.cell
        have f2 : W3.cell? ⟨B + 1, 0, none⟩ = some (.string ⟨#[c]⟩) := d2.cell
        have f4 := d1.frozen
        gi_wp2
        go_roundw
        case rel =>
          refine ⟨k + 1, ⟨b, ?_, d2.other (by omega) _, d3.other (by omega) _, by rw [HD1.out], by omega⟩, hJ _ _ _ hJ3 ⟨_, rfl⟩⟩
          rw [← hB]
          exact d1.set _
        case measure =>
          rw [hlen0, cellLen_eq (rest := b) (by unfold strL; rw [hB]; exact d1.set _)]
          omega
      · gi_wp2
        refine bodyPost_ret (results_none rfl _ _ _) rfl ?_
        exact ⟨⟨_, rfl⟩, .inr hJx3⟩
end Go.Proofs.YtcmnkhblnlmfpaaGreatDoor
