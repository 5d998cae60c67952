/-
  Weights: what ParseWeight answers, and what the model's ParseWeight returns.
  Boxed variables and loops' records: what stays as it was (over any program but for the rows' type).
-/
import Derived.Test.YtfjeghalkmkgoaaGreatDoorFW18
import Derived.Test.YtfjeghalkmkgoaaGreatDoorFW25
import Derived.Test.YtfjeghalkmkgoaaGreatDoorFW24
import Derived.Test.YtfjeghalkmkgoaaGreatDoorFW23
import Derived.Test.YtfjeghalkmkgoaaGreatDoorFW07
namespace Go.Proofs.YtfjeghalkmkgoaaGreatDoor
open Go.RowKit

open Classical in
noncomputable def numX (o : Int) (l : List UInt8) : Int := if POk l then PV l else o
theorem numX_yes {o : Int} {l : List UInt8} (h : POk l) : numX o l = PV l := if_pos h
theorem numX_no {o : Int} {l : List UInt8} (h : ¬ POk l) : numX o l = o := if_neg h
def rowPV (l : List UInt8) : List Int := (cutLD 44 l).map PV
noncomputable def rowX (o : Int) (l : List UInt8) : List Int := (cutLD 44 l).map (numX o)
def RowOk (l : List UInt8) : Prop := ∀ f ∈ cutLD 44 l, POk f
theorem rowX_ok {o : Int} {l : List UInt8} (h : RowOk l) : rowX o l = rowPV l := List.map_congr_left fun f hf => numX_yes (h f hf)
theorem rowN_ok {l : List UInt8} (h : RowOk l) : rowN l = rowPV l := List.map_congr_left fun f hf => numL_yes (h f hf)
theorem rowX_len (o : Int) (l : List UInt8) : (rowX o l).length = (cutLD 44 l).length := by simp [rowX]
theorem rowPV_len (l : List UInt8) : (rowPV l).length = (cutLD 44 l).length := by simp [rowPV]
theorem rowX_snoc (o : Int) (l : List UInt8) (j : Nat) (h : j < (cutLD 44 l).length) : (rowX o l).take j ++ [numX o (cutLD 44 l)[j]] = (rowX o l).take (j + 1) := by
  rw [List.take_succ_eq_append_getElem (by simpa [rowX] using h)]; simp [rowX]
theorem rowPV_snoc (l : List UInt8) (j : Nat) (h : j < (cutLD 44 l).length) : (rowPV l).take j ++ [PV (cutLD 44 l)[j]] = (rowPV l).take (j + 1) := by
  rw [List.take_succ_eq_append_getElem (by simpa [rowPV] using h)]; simp [rowPV]
theorem pv_fit {l : List UInt8} (h : POk l) : -1000000000 ≤ PV l ∧ PV l ≤ 1000000000 := by
  have h1 := sv_small (l.take 11) 9 h.1
  unfold PV pval
  split <;> omega
theorem rowX_fits (l : List UInt8) : Fits (rowX 1001 l) := fun x hx => by
  obtain ⟨f, hf, rfl⟩ := List.mem_map.1 hx
  by_cases h : POk f
  · rw [numX_yes h]; have := pv_fit h; omega
  · rw [numX_no h]; omega
theorem isWt_mem {m : List (List Int)} {l : List Int} (h : IsWt m l) : ∀ x ∈ l, -1000 ≤ x ∧ x ≤ 1000 := fun x hx => by
  obtain ⟨j, hj, rfl⟩ := List.getElem_of_mem hx
  have := h.1 j hj
  have e : l.getD j 0 = l[j] := by simp [List.getD, hj]
  rwa [e] at this
def PwtOk (m : List (List Int)) (l : List UInt8) : Prop := RowOk l ∧ IsWt m (rowPV l)
open Classical in
noncomputable def pwtB (m : List (List Int)) (l : List UInt8) : Bool := decide (PwtOk m l)
open Classical in
theorem pwtB_yes {m : List (List Int)} {l : List UInt8} (h : PwtOk m l) : pwtB m l = true := decide_eq_true h
open Classical in
theorem pwtB_no {m : List (List Int)} {l : List UInt8} (h : ¬ PwtOk m l) : pwtB m l = false := decide_eq_false h
noncomputable def pwtL (m : List (List Int)) (l : List UInt8) : List Int := if pwtB m l = true then rowPV l else []
theorem pwtL_yes {m : List (List Int)} {l : List UInt8} (h : PwtOk m l) : pwtL m l = rowPV l := if_pos (pwtB_yes h)
theorem pwtL_no {m : List (List Int)} {l : List UInt8} (h : ¬ PwtOk m l) : pwtL m l = [] := by unfold pwtL; rw [pwtB_no h]; rfl
theorem pwtL_len (m : List (List Int)) (l : List UInt8) : (pwtL m l).length ≤ 4 := by
  by_cases h : PwtOk m l
  · rw [pwtL_yes h, h.2.2.2]; exact h.2.2.1.2.2.2
  · rw [pwtL_no h]; simp
/-- The model's condition. -/
theorem pwt_iff (m : List (List Int)) (l : List UInt8) : (rowT (rowX 1001 l) = l ∧ IsWt m (rowX 1001 l)) ↔ PwtOk m l := by
  constructor
  · rintro ⟨_, h2⟩
    have hok : RowOk l := fun f hf => Classical.byContradiction fun hn => by
      have h3 := isWt_mem h2 1001 (by
        have := List.mem_map.2 ⟨f, hf, numX_no (o := 1001) hn⟩
        exact this)
      omega
    rw [rowX_ok hok] at h2
    exact ⟨hok, h2⟩
  · rintro ⟨h1, h2⟩
    rw [rowX_ok h1]
    refine ⟨?_, h2⟩
    rw [← rowN_ok h1]
    exact row_back h1
set_option maxHeartbeats 1000000 in
theorem pnumx_any (o : Int) (s : ByteArray) (w : World) (hs : s.size ≤ maxLen) :
    Calls Tryz.prog 47 #[.string s, .int .i64 o] w fun e w' => e = .returned (.int .i64 (numX o s.data.toList)) ∧ Below w.heap.size w w' := by
  go_enter Tryz.func47, Tryz.ntmps47
  go_wp2_with fail
  refine (pars_any s _ hs).mono ?_
  rintro e w1 ⟨ha, hb1⟩
  have HB1 := Lib.hid hb1; clear hb1
  rcases ha with ⟨h, rfl⟩ | ⟨h, rfl⟩
  · have HN := Lib.hid (numX_yes (o := o) h)
    clear h
    generalize PV s.data.toList = v at *
    go_wp2_with fail
    go_ret
    exact ⟨ret_int HN.out.symm, HB1.out⟩
  · have HN := Lib.hid (numX_no (o := o) h)
    clear h
    go_wp2_with fail
    go_ret
    exact ⟨ret_int HN.out.symm, HB1.out⟩
theorem makesS2_no {w w' : World} {x : Value} {l : List Int} {c : Bool} (hm : l = []) (hc : false = c) (h : RowI w.heap.size w'.heap.size w' x []) (hb : Below w.heap.size w w') : MakesS2 w l (.bool c) (.returned (.tuple #[x, .bool false])) w' :=
  ⟨x, by rw [hc], by rw [hm]; exact ⟨h, Nat.le_refl _⟩, hb⟩
set_option maxHeartbeats 4000000 in
set_option maxRecDepth 100000 in
theorem pwts_any (B : Nat) (v : Value) (m : List (List Int)) (s : ByteArray) (w : World) (h : MatB B w v m) (hB : B ≤ w.heap.size) (hf : RowsFit m) (hs : s.size ≤ 1048576) :
    Calls Tryz.prog 20 #[v, .string s] w (MakesS2 w (pwtL m s.data.toList) (.bool (pwtB m s.data.toList))) := by
  have HIS := Lib.hid (fun (B' : Nat) (v' : Value) (l : List Int) (wx : World) (hb : Below w.heap.size w wx) (h' : RowB B' wx v' l) (hl : l.length ≤ maxLen) => (iswts_any B B' v v' m l wx (h.below hb hB) h' hf hl).mono (R' := fun e w' => e = .returned (.bool (wtB m l)) ∧ Below wx.heap.size wx w') fun e w' ⟨h1, q, h2⟩ => ⟨h1, by rw [h2]; exact below_drewN q⟩)
  obtain ⟨ma, mcap, rfl⟩ := h.slice
  clear h
  obtain ⟨l, hl⟩ : ∃ l, l = s.data.toList := ⟨_, rfl⟩
  have hsl : s.size = l.length := by rw [hl]; exact Array.length_toList.symm
  have hcn := cutL_lenD 44 l
  have HCM := Lib.hid (cutL_mem_len 44 l)
  have HSN := Lib.hid (rowX_snoc 1001 l)
  have HPL := Lib.hid (rowX_len 1001 l)
  have HCB : Hid (cutBD 44 s = toBD (cutLD 44 l)) := Lib.hid (by rw [hl]; rfl)
  have HFT := Lib.hid (rowX_fits l)
  have HIF := Lib.hid (pwt_iff m l)
  rw [← hl]
  have HL := Lib.hid hl; clear hl
  have hnum : ((44 : UInt8).toNat : Int) = 44 := rfl
  have hct := cut_anyD 44 s (w.alloc (.cells #[] 3)) hs
  rw [hnum, HCB.out] at hct
  have HCT := Lib.hid hct
  clear hct hnum
  obtain ⟨n, hn⟩ : ∃ n, (toBD (cutLD 44 l)).length = n := ⟨_, rfl⟩
  have hn2 : (cutLD 44 l).length = n := by rw [← hn]; simp [toBD]
  have HN := Lib.hid hn
  have HN2 := Lib.hid hn2
  clear hn
  rw [hn2] at hcn
  clear hn2
  have hlm := hf.1
  unfold maxLen at hlm
  clear hf
  generalize m.length = mn at *
  go_enter Tryz.func20, Tryz.ntmps20
  go_wp2_with fail
  refine HCT.out.mono ?_
  rintro e w1 ⟨x1, rfl, hr1, hb1⟩
  obtain ⟨ra1, rc1, rfl⟩ := hr1.slice
  rw [HN.out] at hr1 ⊢
  have HR1 := Lib.hid hr1
  have hal : Below w.heap.size w (w.alloc (.cells #[] 3)) := (Below.refl _ _).alloc (Nat.le_refl _) _
  have hM0 := (row_empty w).step hb1
  have HM0 := Lib.hid hM0
  have HB0 := Lib.hid (hal.trans (hb1.mono hal.size))
  clear hr1 hM0 hal hb1 HCT
  go_wp2_with fail
  go_loopw [6, 8] (fun o i wr => ∃ (j : Nat) (wi : World), wi = wr ∧ j ≤ n ∧ i = .int .i64 j ∧ RowI w.heap.size wi.heap.size wi o ((rowX 1001 l).take j) ∧ Below w.heap.size w wi ∧ RowTD (w.alloc (.cells #[] 3)).heap.size wi.heap.size wi (.slice ra1 n rc1) (toBD (cutLD 44 l))) (fun _ i _ => n - (intOf i).toNat)
  case atStart => exact ⟨0, _, rfl, Nat.zero_le _, rfl, HM0.out, HB0.out, HR1.out⟩
  case round =>
    clear HM0 HB0 HR1
    obtain ⟨j, wi, rfl, hj, rfl, hrr, hb, ht⟩ := hrel
    have HRI := Lib.hid hrr; clear hrr
    have hsi := hb.size
    have HBI := Lib.hid hb; clear hb
    have HTI := Lib.hid ht; clear ht
    by_cases hjn : j < n
    · have hjl : j < (cutLD 44 l).length := by rw [HN2.out]; exact hjn
      have hjb : j < (toBD (cutLD 44 l)).length := by rw [HN.out]; exact hjn
      obtain ⟨g3, rfl, hg3, hcell⟩ := HTI.out.get hjb
      rw [toB_get] at hcell
      have hml2 := HCM.out _ (List.getElem_mem hjl)
      have HST2 := Lib.hid (HSN.out j hjl)
      generalize (cutLD 44 l)[j] = f at *
      have hnc := pnumx_any 1001 ⟨f.toArray⟩ wi (by rw [ba_list]; unfold maxLen; omega)
      rw [show (⟨f.toArray⟩ : ByteArray).data.toList = f from rfl] at hnc
      have HNC := Lib.hid hnc
      have hlen : ((rowX 1001 l).take j).length ≤ 4194304 := by rw [List.length_take]; omega
      have HLEN := Lib.hid hlen
      clear hnc hlen
      generalize numX 1001 f = y at *
      go_wp2_with fail
      clear hcell
      refine HNC.out.mono ?_
      rintro e w5 ⟨rfl, hb5⟩
      have hri5 := HRI.out.step hb5
      have hs5 : w.heap.size ≤ w5.heap.size := Nat.le_trans hsi hb5.size
      have HRI5 := Lib.hid hri5
      have HB5 := Lib.hid (HBI.out.trans (hb5.mono hsi))
      have HT5 := Lib.hid (HTI.out.step hb5)
      clear hri5 hb5
      go_wp2_with (at_builtin; go_must (refine append_intGD HRI5.out hs5 y HST2.out rfl rfl rfl rfl HLEN.out ?_))
      intro v' w6 hr6 hb6 hz6 ht6
      have HR7 := Lib.hid hr6
      have HB7 := Lib.hid (hb6 w w.heap.size (Nat.le_refl _) HB5.out)
      have HT7 := Lib.hid ((ht6 _ _ _ _ HT5.out).mono hz6)
      clear hr6 hb6 hz6 ht6
      go_wp2_with fail
      exact ⟨⟨j + 1, _, rfl, by omega, by go_num, HR7.out, HB7.out, HT7.out⟩, by simp [intOf]; omega⟩
    · obtain rfl : j = n := by omega
      have hri := HRI.out
      rw [← HN2.out, ← HPL.out, List.take_length] at hri
      obtain ⟨xa, xc, rfl⟩ := hri.slice
      have HRF := Lib.hid hri
      have hd : decide (j < j) = false := by simp
      have hxl : (rowX 1001 l).length = j := by rw [HPL.out, HN2.out]
      have HFM := Lib.hid (fmtws_any wi.heap.size (.slice xa (rowX 1001 l).length xc) (rowX 1001 l) wi hri.rowB (Nat.le_refl _) (by omega) HFT.out)
      have HWT := Lib.hid (fun (wx : World) (hb : Below w.heap.size w wx) (hr : RowB wx.heap.size wx (.slice xa (rowX 1001 l).length xc) (rowX 1001 l)) => HIS.out wx.heap.size _ (rowX 1001 l) wx hb hr (by unfold maxLen; omega))
      rw [hxl] at HFM HWT HRF ⊢
      clear hri hxl HIS
      go_wp2_with fail
      refine HFM.out.mono ?_
      rintro e w5 ⟨rfl, hb5⟩
      have HB5 := Lib.hid (HBI.out.trans (hb5.mono hsi))
      have hs5 := Nat.le_trans hsi hb5.size
      have HR5 := Lib.hid (HRF.out.step hb5)
      clear hb5
      by_cases he : rowT (rowX 1001 l) = l
      · have hq := neq_no (l := rowT (rowX 1001 l)) (s := s) (by rw [← HL.out]; exact he)
        have HW5 := Lib.hid (HWT.out w5 HB5.out HR5.out.rowB)
        by_cases hW : IsWt m (rowX 1001 l)
        · have hok : PwtOk m l := HIF.out.1 ⟨he, hW⟩
          have HP := Lib.hid (pwtL_yes hok)
          have HPB := Lib.hid (pwtB_yes hok)
          have HRX := Lib.hid (rowX_ok (o := 1001) hok.1)
          rw [wtB_yes hW] at HW5
          clear hok he hW HWT HIF
          generalize rowT (rowX 1001 l) = ft at *
          go_wp2_with fail
          refine HW5.out.mono ?_
          rintro e w6 ⟨rfl, hb6⟩
          have HB6 := Lib.hid (HB5.out.trans (hb6.mono hs5))
          have HR6 := Lib.hid (HR5.out.step hb6)
          clear hb6
          go_wp2_with fail
          go_ret2
          refine ⟨.slice xa j xc, ?_, by rw [HP.out, ← HRX.out]; exact ⟨HR6.out, Nat.le_refl _⟩, HB6.out⟩
          rw [HPB.out]
          rfl
        · have hok : ¬ PwtOk m l := fun h => hW (HIF.out.2 h).2
          have HP := Lib.hid (pwtL_no hok)
          have HPB := Lib.hid (pwtB_no hok)
          rw [wtB_no hW] at HW5
          clear hok he hW HWT HIF
          generalize rowT (rowX 1001 l) = ft at *
          go_wp2_with fail
          refine HW5.out.mono ?_
          rintro e w6 ⟨rfl, hb6⟩
          have HB6 := Lib.hid (HB5.out.trans (hb6.mono hs5))
          have hs6 := HB6.out.size
          clear hb6
          go_wp2_with fail
          go_ret2
          exact makesS2_no HP.out HPB.out.symm ((row_empty w6).mono hs6 (Nat.le_refl _)) (HB6.out.alloc hs6 _)
      · have hq := neq_yes (l := rowT (rowX 1001 l)) (s := s) (by rw [← HL.out]; exact he)
        have hok : ¬ PwtOk m l := fun h => he (HIF.out.2 h).1
        have HP := Lib.hid (pwtL_no hok)
        have HPB := Lib.hid (pwtB_no hok)
        clear hok he HWT HIF
        generalize rowT (rowX 1001 l) = ft at *
        go_wp2_with fail
        go_ret2
        exact makesS2_no HP.out HPB.out.symm ((row_empty w5).mono hs5 (Nat.le_refl _)) (HB5.out.alloc hs5 _)
end Go.Proofs.YtfjeghalkmkgoaaGreatDoor
namespace Go.Proofs.YtfjeghalkmkgoaaGreatDoor
open Go.RowKit Go.Shelf
attribute [local go_sem] Oper.semAt_some

theorem boxed_other {W : World} {B B' : Nat} {t : TypeId} {v : Value} (h : Boxed W B t v) (hne : B ≠ B') (u : Value) : Boxed (W.setCell ⟨B', 0, none⟩ u) B t v := h.kept (grownBy_setCell' W B' u) (fun e => hne (Option.some.inj e))
theorem boxed_below {W W' : World} {b A : Nat} {t : TypeId} {v : Value} (h : Boxed W b t v) (hb : Below A W W') (hA : b < A) : Boxed W' b t v := (hb.block b hA).trans h
theorem GivesB.inRound {F : Fence} {n : Nat} {P : Program} {g : Nat} {lb : Array Value} {xs : List (Array Value)} {R : Nat → World → Prop} {Ab : World → World → Prop} (l : Nat) (h : GivesB F n P g lb xs R Ab) : GivesB (F.inRound l) n P g lb xs R Ab := h
theorem enter_outer {P : Program} {W : World} {l D : Nat} (hD : W.heap.size = D) (hl : l = D + 1) (fn : FuncId) (tmps : Array Value) (ps : Array Tmp) (assign body : Code) :
    (Instr.enterLoop fn tmps ps assign body none).run P W = .ok (l, [{ target := .collected D, args := #[] }]) ((W.alloc (.deferred (some []))).alloc (.loop { state := .ready, pending := none, fn := fn, tmps := tmps, params := ps, assign := assign, body := body, defers := D })) := by
  subst hD hl; exact run_enterLoop_outer ..
theorem heap_last {W : World} {l : Nat} (hl : W.heap.size = l) (o : Obj) : (W.alloc o).heap[l]? = some o := by subst hl; exact World.alloc_heap_new _ _
theorem enter_inner {P : Program} {W : World} {l : Nat} (hl : W.heap.size = l) {l0 : Nat} {r0 : Loop} (h : W.heap[l0]? = some (.loop r0)) (fn : FuncId) (tmps : Array Value) (ps : Array Tmp) (assign body : Code) :
    (Instr.enterLoop fn tmps ps assign body (some l0)).run P W = .ok (l, []) (W.alloc (.loop { state := .ready, pending := none, fn := fn, tmps := tmps, params := ps, assign := assign, body := body, defers := r0.defers })) := by
  subst hl; exact run_enterLoop_inner h ..
def nilS : Value := .slice none 0 0
theorem sameIn_grownD {A B x : Nat} {W W' : World} (hg : W.grownBy W' (some x)) (hB : B ≤ W.heap.size) (hx : x < A) : SameIn A B W W' := fun k h1 h2 => hg.block k (by omega) (fun e => by have := Option.some.inj e; omega)
theorem heap_grown {W W' : World} {x k : Nat} {o : Obj} (h : W.heap[k]? = some o) (hg : W.grownBy W' (some x)) (hx : k ≠ x) : W'.heap[k]? = some o :=
  (hg.block k (Array.getElem?_eq_some_iff.1 h).1 (fun e => hx (Option.some.inj e))).trans h
theorem RowI.other {A B x : Nat} {W W' : World} {v : Value} {l : List Int} (h : RowI A B W v l) (hg : W.grownBy W' (some x)) (hx : x < A) : RowI A B W' v l :=
  h.grown hg (by
    cases hv : v.ownBlock with
    | none => exact .inl rfl
    | some g => exact .inr fun e => by have h1 := (h.1.lt g hv).1; have := Option.some.inj e; omega)
end Go.Proofs.YtfjeghalkmkgoaaGreatDoor
