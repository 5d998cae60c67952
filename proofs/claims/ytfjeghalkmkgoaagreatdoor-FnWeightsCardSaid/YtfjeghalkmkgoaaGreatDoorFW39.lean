/-
  Words: what the program's IsWord returns.
  Weights: what the program's impl.ActOnWeight returns (printed by mk_apc.py).
  Weights: what the program's ActOnWeight returns (the text that later folders keep under this name).
  Weights: what the model's reflections, ones, sums and columns return.
-/
import Derived.Deep.QuietTactic
import Derived.BigQuiet
import Derived.Test.YtfjeghalkmkgoaaGreatDoorFW25
import Derived.Test.YtfjeghalkmkgoaaGreatDoorFW18
import Derived.Test.YtfjeghalkmkgoaaGreatDoorFW07
import Derived.Test.YtfjeghalkmkgoaaGreatDoorFW38
import Derived.Test.YtfjeghalkmkgoaaGreatDoorFW34
import Derived.Deep.RegionLaw
import Derived.Test.YtfjeghalkmkgoaaGreatDoorFW17
namespace Go.Proofs.YtfjeghalkmkgoaaGreatDoor
open Go.RowKit

open Classical in
noncomputable def letB (n : Nat) (l : List Int) : Bool := decide (LetTo n l l.length)
open Classical in
theorem letB_yes {n : Nat} {l : List Int} (h : LetTo n l l.length) : letB n l = true := decide_eq_true h
open Classical in
theorem letB_no {n : Nat} {l : List Int} (h : ¬ LetTo n l l.length) : letB n l = false := decide_eq_false h
open Classical in
theorem wordB_is (m : List (List Int)) (l : List Int) : wordB m l = (isB m && decide (l.length ≤ 15) && letB m.length l) := by
  by_cases hI : IsC m
  · by_cases h15 : l.length ≤ 15
    · by_cases hl : LetTo m.length l l.length
      · rw [wordB_yes ⟨hl, hI, h15⟩, isB_yes hI, decide_eq_true h15, letB_yes hl]; rfl
      · rw [wordB_no (fun h => hl h.1), letB_no hl, Bool.and_false]
    · rw [wordB_no (fun h => h15 h.2.2), decide_eq_false h15, Bool.and_false, Bool.false_and]
  · rw [wordB_no (fun h => hI h.2.1), isB_no hI, Bool.false_and, Bool.false_and]

set_option maxHeartbeats 2000000 in
set_option maxRecDepth 100000 in
theorem hop_any (B : Nat) (v : Value) (l : List Int) (ma : Option Addr) (n mcap : Nat) (w : World) (h : RowB B w v l) (hl : l.length ≤ maxLen) (hn : n ≤ 2 ^ 63 - 1) :
    Calls Tryz.prog 73 #[v, .slice ma n mcap] w fun e w' => e = .returned (.bool (letB n l)) ∧ w = w' := by
  obtain ⟨a, cap, rfl⟩ := h.slice
  have HL := Lib.hid h
  have HPT := Lib.hid (fun (i : Int) (c : Bool) (hc : ptB i n = c) => pt_c ma n mcap i c hc w hn)
  clear h hn
  unfold maxLen at hl
  have HNO := Lib.hid (fun (k : Nat) (hk : k < l.length) (h : ¬ (0 ≤ l.getD k 0 ∧ l.getD k 0 ≤ (n : Int) - 1)) => letB_no (n := n) (l := l) (fun h' => h (h' k hk)))
  have HYES := Lib.hid (fun (h : LetTo n l l.length) => letB_yes h)
  generalize letB n l = R at *
  generalize hln : l.length = L at *
  have HLN := Lib.hid hln; clear hln
  go_enter Tryz.func73, Tryz.ntmps73
  go_wp2_with fail
  go_loop [9] (fun i => ∃ (k : Nat), k ≤ L ∧ i = .int .i64 k ∧ Hid (LetTo n l k)) (fun i => L - (intOf i).toNat)
  case atStart => exact ⟨0, Nat.zero_le _, rfl, Lib.hid (letTo_zero _ _)⟩
  case round =>
    obtain ⟨k, hk, rfl, hs⟩ := hrel
    by_cases hlt : k < L
    · obtain ⟨b, off, rfl, hb, hc⟩ := HL.out.getD hlt
      by_cases hin : 0 ≤ l.getD k 0 ∧ l.getD k 0 ≤ (n : Int) - 1
      · have HST := Lib.hid (letTo_step hs.out hin)
        have HC := Lib.hid (HPT.out _ true (ptB_yes hin))
        clear hin hs
        generalize l.getD k 0 = x at *
        go_wp2_with fail
        refine HC.out.mono ?_
        rintro e w' ⟨rfl, rfl⟩
        go_wp2_with fail
        exact ⟨⟨k + 1, by omega, by go_num, HST⟩, by simp [intOf]; omega⟩
      · have HBAD := Lib.hid (HNO.out k hlt hin)
        have HC := Lib.hid (HPT.out _ false (ptB_no hin))
        clear hin hs
        generalize l.getD k 0 = x at *
        go_wp2_with fail
        refine HC.out.mono ?_
        rintro e w' ⟨rfl, rfl⟩
        go_wp2_with fail
        go_ret
        exact ⟨ret_boolean HBAD.out.symm, rfl⟩
    · obtain rfl : k = L := by omega
      have HE := Lib.hid (HYES.out hs.out)
      clear HNO HYES hs
      go_wp2_with fail
      go_ret
      exact ⟨ret_boolean HE.out.symm, rfl⟩

set_option maxHeartbeats 2000000 in
set_option maxRecDepth 100000 in
theorem iswi_any (B B' : Nat) (v v' : Value) (m : List (List Int)) (l : List Int) (w : World) (h : MatB B w v m) (h' : RowB B' w v' l) (hf : RowsFit m) (hl : l.length ≤ maxLen) :
    Calls Tryz.prog 61 #[v, v'] w fun e w' => e = .returned (.bool (wordB m l)) ∧ ∃ q, w' = w.drewN q := by
  obtain ⟨a, cap, rfl⟩ := h.slice
  have HISC := Lib.hid (fun c (hc : isB m = c) => icm_0 B _ m c hc w h hf)
  have hml := hf.1
  unfold maxLen at hml
  have HOP := Lib.hid (fun q => hop_any B' v' l a m.length cap (w.drewN q) (h'.drewN q) hl (by omega))
  obtain ⟨a', cap', rfl⟩ := h'.slice
  rw [wordB_is]
  unfold maxLen at hl
  clear h h' hf
  generalize m.length = n at *
  generalize hln : l.length = L at *
  generalize letB n l = R at *
  have HLN := Lib.hid hln; clear hln
  generalize isB m = ib at *
  cases ib with
  | false =>
    go_enter Tryz.func61, Tryz.ntmps61
    go_wp2_with fail
    refine (HISC.out _ rfl).mono ?_
    rintro e w' ⟨rfl, q, rfl⟩
    go_wp2_with fail
    go_ret
    exact ⟨ret_boolean (by simp), q, rfl⟩
  | true =>
    by_cases h15 : L ≤ 15
    · have hd : decide ((L : Int) ≤ 15) = true := decide_eq_true (by omega)
      have hd2 : decide (L ≤ 15) = true := decide_eq_true h15
      have HD := Lib.hid hd2; clear hd2
      go_enter Tryz.func61, Tryz.ntmps61
      go_wp2_with fail
      refine (HISC.out _ rfl).mono ?_
      rintro e w' ⟨rfl, q, rfl⟩
      go_wp2_with fail
      refine (HOP.out q).mono ?_
      rintro e w' ⟨rfl, rfl⟩
      go_wp2_with fail
      go_ret
      exact ⟨ret_boolean (by rw [HD.out]; simp), q, rfl⟩
    · have hd : decide ((L : Int) ≤ 15) = false := decide_eq_false (by omega)
      have hd2 : decide (L ≤ 15) = false := decide_eq_false h15
      have HD := Lib.hid hd2; clear hd2
      go_enter Tryz.func61, Tryz.ntmps61
      go_wp2_with fail
      refine (HISC.out _ rfl).mono ?_
      rintro e w' ⟨rfl, q, rfl⟩
      go_wp2_with fail
      go_ret
      exact ⟨ret_boolean (by rw [HD.out]; simp), q, rfl⟩
end Go.Proofs.YtfjeghalkmkgoaaGreatDoor
namespace Go.Proofs.YtfjeghalkmkgoaaGreatDoor
open Go.RowKit

set_option maxHeartbeats 4000000 in
set_option maxRecDepth 100000 in
theorem rblW_any (B B1 B2 : Nat) (v v1 v2 : Value) (m : List (List Int)) (ws l : List Int) (w : World) (h : MatB B w v m) (h1 : RowB B1 w v1 ws) (h2 : RowB B2 w v2 l) (hB : B ≤ w.heap.size) (hB1 : B1 ≤ w.heap.size) (hB2 : B2 ≤ w.heap.size)
    (hf : RowsFit m) (hws : ws.length ≤ 1048576) (hl : l.length ≤ 1048576) :
    Calls Tryz.prog 39 #[v, v1, v2, .func (.func 33) #[] #[]] w (MakesS w (actL m ws l)) := by
  have HCL := Lib.hid (cloi_any B2 v2 l w h2 hB2 hl)
  have HIW := Lib.hid (fun (wx : World) (hb : Below w.heap.size w wx) => iswi_any B B1 v v1 m ws wx (h.below hb hB) (h1.below hb hB1) hf (by unfold maxLen; omega))
  by_cases hok : ActOk m ws l
  · rw [actL_yes hok]
    obtain ⟨hW, hll⟩ := hok
    have HAP := Lib.hid (fun (g xc : Nat) (wx : World) (hb : Below w.heap.size w wx) (hx : RowF 3 w.heap.size wx g xc l []) => aplw_any 3 w.heap.size B g xc xc v v1 m ws l [] wx (h.below hb hB) (RowN.of (h1.below hb hB1) (Nat.le_trans hB1 hx.lt.1) (Nat.le_trans hB1 hb.size)) hx hB hW.2.1 hW.1 hws hll)
    have HWB := Lib.hid (wordB_yes hW)
    rw [HWB.out] at HIW
    have hn1 := hW.2.1.2.2.1
    have HLL := Lib.hid hll
    have HAL := Lib.hid ((actW_len m ws l).trans hll)
    obtain ⟨a, cap, rfl⟩ := h.slice
    obtain ⟨a1, cap1, rfl⟩ := h1.slice
    obtain ⟨a2, cap2, rfl⟩ := h2.slice
    clear h h1 h2 hf hW HWB hws
    rw [hll] at HCL ⊢
    generalize m.length = n at *
    generalize ws.length = L at *
    have heq : ((n : Int) == (n : Int)) = true := by simp
    generalize actW m ws l = R at *
    go_enter Tryz.func39, Tryz.ntmps39
    go_wp2_with fail
    refine HCL.out.mono ?_
    rintro e w1 ⟨x, rfl, ⟨hx, _⟩, hb⟩
    have HB := Lib.hid hb
    have HIW2 := Lib.hid (HIW.out _ HB.out)
    obtain ⟨g, xc, rfl, hg1, hg2⟩ := hx.at' (by rw [hll]; exact hn1)
    rw [hll] at hx ⊢
    have HX := Lib.hid (RowF.ofI hx hll)
    clear hx hb HIW hll
    go_wp2_with fail
    refine HIW2.out.mono ?_
    rintro e w2 ⟨rfl, q, rfl⟩
    have HB2 := Lib.hid (HB.out.trans ((below_drewN (w := w1) q).mono HB.out.size))
    have HX2 := Lib.hid (HX.out.below (below_drewN (w := w1) q) hg2)
    have HC := Lib.hid (HAP.out g xc _ HB2.out HX2.out)
    clear HX HB HIW2 HCL
    go_wp2_with fail
    refine HC.out.mono ?_
    rintro e w3 ⟨rfl, hr, hg⟩
    have HR := Lib.hid (hr.toI HAL.out)
    have HB3 := Lib.hid (HB2.out.grown hg HB2.out.size (fun j hj => by have := Option.some.inj hj; omega))
    clear hr hg HC HAP
    go_wp2_with fail
    go_ret
    exact ⟨_, rfl, ⟨HR.out, Nat.le_refl _⟩, HB3.out⟩
  · rw [actL_no hok]
    have hlm := hf.1
    unfold maxLen at hlm
    obtain ⟨a, cap, rfl⟩ := h.slice
    obtain ⟨a1, cap1, rfl⟩ := h1.slice
    obtain ⟨a2, cap2, rfl⟩ := h2.slice
    by_cases hW : IsW m ws
    · have hne : ((l.length : Int) == (m.length : Int)) = false := by rw [beq_eq_false_iff_ne]; intro e; exact hok ⟨hW, by omega⟩
      have HWB := Lib.hid (wordB_yes hW)
      rw [HWB.out] at HIW
      clear hok hW h h1 h2 hf hws HWB
      generalize m.length = n at *
      generalize ws.length = L at *
      generalize l.length = n2 at *
      go_enter Tryz.func39, Tryz.ntmps39
      go_wp2_with fail
      refine HCL.out.mono ?_
      rintro e w1 ⟨x, rfl, ⟨hx, _⟩, hb⟩
      have HX := Lib.hid hx; have HB := Lib.hid hb; have HIW2 := Lib.hid (HIW.out _ HB.out)
      clear hx hb HIW HCL
      go_wp2_with fail
      refine HIW2.out.mono ?_
      rintro e w2 ⟨rfl, q, rfl⟩
      go_wp2_with fail
      go_ret
      exact ⟨_, rfl, ⟨HX.out.step (below_drewN q), Nat.le_refl _⟩, HB.out.trans ((below_drewN q).mono HB.out.size)⟩
    · have HWB := Lib.hid (wordB_no hW)
      rw [HWB.out] at HIW
      clear hok hW h h1 h2 hf hws HWB
      generalize m.length = n at *
      generalize ws.length = L at *
      generalize l.length = n2 at *
      go_enter Tryz.func39, Tryz.ntmps39
      go_wp2_with fail
      refine HCL.out.mono ?_
      rintro e w1 ⟨x, rfl, ⟨hx, _⟩, hb⟩
      have HX := Lib.hid hx; have HB := Lib.hid hb; have HIW2 := Lib.hid (HIW.out _ HB.out)
      clear hx hb HIW HCL
      go_wp2_with fail
      refine HIW2.out.mono ?_
      rintro e w2 ⟨rfl, q, rfl⟩
      go_wp2_with fail
      go_ret
      exact ⟨_, rfl, ⟨HX.out.step (below_drewN q), Nat.le_refl _⟩, HB.out.trans ((below_drewN q).mono HB.out.size)⟩
set_option maxHeartbeats 1000000 in
set_option maxRecDepth 100000 in
theorem acti_any (B B1 B2 : Nat) (v v1 v2 : Value) (m : List (List Int)) (ws l : List Int) (w : World) (h : MatB B w v m) (h1 : RowB B1 w v1 ws) (h2 : RowB B2 w v2 l) (hB : B ≤ w.heap.size) (hB1 : B1 ≤ w.heap.size) (hB2 : B2 ≤ w.heap.size)
    (hf : RowsFit m) (hws : ws.length ≤ 1048576) (hl : l.length ≤ 1048576) :
    Calls Tryz.prog 14 #[v, v1, v2] w (MakesS w (actL m ws l)) := by
  have HO := Lib.hid (rblW_any B B1 B2 v v1 v2 m ws l w h h1 h2 hB hB1 hB2 hf hws hl)
  clear h h1 h2 hf
  go_enter Tryz.func14, Tryz.ntmps14
  go_wp2_with fail
  refine HO.out.mono ?_
  rintro e w1 ⟨x, rfl, hx, hb⟩
  have HX := Lib.hid hx; have HB := Lib.hid hb
  clear hx hb
  go_wp2_with fail
  go_ret
  exact ⟨_, rfl, HX.out, HB.out⟩
end Go.Proofs.YtfjeghalkmkgoaaGreatDoor
namespace Go.Proofs.YtfjeghalkmkgoaaGreatDoor
theorem wtA_is_ApC : True := True.intro
end Go.Proofs.YtfjeghalkmkgoaaGreatDoor
namespace Go.Proofs.YtfjeghalkmkgoaaGreatDoor
open Go.RowKit

/-- 'append(row, x)' as a step of a region that draws its order: the literal's block lies at g. -/
theorem step_lit6 {ops : Array Oper} {o : Oper} {a : Act} {K : Act → World → Prop} {Q : Exit → Act → World → Prop} {E : Prop} {s x : Operand} {A : Nat} {v : Value} {l : List Int} {wr : World} (n : Int) (g : Nat)
    (hM : RowI A wr.heap.size wr v l) (hA : A ≤ wr.heap.size) (hg : wr.heap[g]? = some (.cells #[.int .i64 n] 3 (0, 0))) (hlen : l.length + [n].length ≤ 4194304) (hgd : o.guard = none)
    (ho : o.op = .call { callee := .builtin .append, args := #[s, x], argTypes := #[25, 25] }) (hs : a.eval s = v) (hx : a.eval x = .slice (some ⟨g, 0, none⟩) 1 1)
    (h : AfterRow A wr (l ++ [n]) fun v' w' => K (a.put o.dst v') w') : if Region.wanted o (yielded ops a.tmps) = true then Oper.wp Tryz.prog o a wr K Q else E :=
  step_ints (l2 := [n]) (B := g + 1) hM hA (Or.inr ⟨g, 0, 1, rfl, by omega, fun j hj => by
    obtain rfl : j = 0 := by simp at hj; omega
    rw [cell_of_row wr g (0 + 0) _ _ _ hg]; rfl⟩) (by simp) hlen hgd ho hs hx h

set_option maxHeartbeats 4000000 in
set_option maxRecDepth 100000 in
theorem l6r_any (B B' : Nat) (v v' : Value) (m : List (List Int)) (l : List Int) (i : Nat) (w : World) (h : MatB B w v m) (h' : RowB B' w v' l) (hB : B ≤ w.heap.size) (hB' : B' ≤ w.heap.size) (hI : IsC m) (hll : l.length = m.length) (hi : i < m.length) :
    Calls Tryz.prog 35 #[v, .int .i64 i, v'] w (MakesS w (reflL m i l)) := by
  obtain ⟨a, cap, rfl⟩ := h.slice
  obtain ⟨a', cap', rfl⟩ := h'.slice
  have HR := Lib.hid h; have HL := Lib.hid h'
  clear h h'
  have hn4 := hI.2.2.2
  have HRW := Lib.hid (show Rows0 m m.length m.length from hI.1)
  have HST := Lib.hid (fun k => reflK_step m i l k)
  have HKL := Lib.hid (fun k => reflK_len m i l k)
  have HEN := Lib.hid (show reflL m i l = reflK m i l m.length from by unfold reflL; rw [hll])
  clear hI
  rw [hll] at HL ⊢
  generalize hn : m.length = n at *
  have HN := Lib.hid hn; have HLN := Lib.hid hll
  clear hn hll
  go_enter Tryz.func35, Tryz.ntmps35
  go_wp2_with fail
  go_loopw [7, 8] (fun o i' wr => ∃ (k : Nat) (wq : World), wq = wr ∧ k ≤ n ∧ i' = .int .i64 k ∧ RowI w.heap.size wq.heap.size wq o (reflK m i l k) ∧ Below w.heap.size w wq) (fun _ i' _ => n - (intOf i').toNat)
  case atStart => exact ⟨0, _, rfl, Nat.zero_le _, rfl, row_empty w, (Below.refl _ _).alloc (Nat.le_refl _) _⟩
  case round =>
    obtain ⟨k, wq, rfl, hk, rfl, hM, hb⟩ := hrel
    have HM := Lib.hid hM; clear hM
    have hsq := hb.size
    have HB := Lib.hid hb; clear hb
    by_cases hlt : k < n
    · have hlt' : decide (k < n) = true := decide_eq_true hlt
      obtain ⟨b, off, rb, roff, rcap, rfl, hc1, hx⟩ := (HR.out.below HB.out hB).entry HRW.out hlt hi
      obtain ⟨b', off', rfl, hbb, hy⟩ := (HL.out.below HB.out hB').getD hlt
      obtain ⟨b2, off2, he2, _, hz⟩ := (HL.out.below HB.out hB').getD hi
      have hz : wq.cell? ⟨b', off' + i, none⟩ = some (.int .i64 (l.getD i 0)) := by injection he2 with he2; injection he2 with e1 e2; subst e1; subst e2; exact hz
      have HS := Lib.hid (HST.out k)
      have HRL := Lib.hid (show (reflK m i l k).length + [reflE m i l k].length ≤ 4194304 by rw [HKL.out]; simp; omega)
      have HE := Lib.hid (show reflE m i l k = subW (l.getD k 0) (mulW (l.getD i 0) (entry m k i)) from rfl)
      clear hbb he2
      generalize reflE m i l k = E at *
      generalize l.getD k 0 = x at *
      generalize l.getD i 0 = z at *
      generalize entry m k i = y at *
      obtain ⟨pr, hpr⟩ : ∃ pr, pr = mulW z y := ⟨_, rfl⟩
      have h1 : IntKind.i64.wrap (z * y) = pr := by rw [hpr, wrapk]; rfl
      have h2 : wrap64 (z * y) = pr := by rw [hpr]; rfl
      have h3 : IntKind.i64.wrap (x - pr) = E := by rw [HE.out, hpr, wrapk]; rfl
      have h4 : wrap64 (x - pr) = E := by rw [HE.out, hpr]; rfl
      clear hpr HE
      go_wp2_with fail
      go_region_law (refine step_lit6 E wq.heap.size ((HM.out.alloc _).mono (Nat.le_refl _) (by simp)) (by simp; omega) (MapKept.heap_alloc _ _).1 HRL.out rfl rfl rfl rfl ?_; intro v3 w3 hr3 hb3 hz3)
      all_goals
        rw [HS.out] at hr3
        have HR3 := Lib.hid hr3
        have HB3 := Lib.hid (hb3 w w.heap.size (Nat.le_refl _) (HB.out.alloc hsq _).drew)
        clear hr3 hb3 hz3 h1 h2 h3 h4
        go_wp2_with fail
        exact ⟨⟨k + 1, _, rfl, by omega, by go_num, HR3.out, HB3.out⟩, by simp [intOf]; omega⟩
    · obtain rfl : k = n := by omega
      have hlt' : decide (k < k) = false := by simp
      go_wp2_with fail
      go_ret
      exact ⟨_, rfl, ⟨by rw [HEN.out]; exact HM.out, Nat.le_refl _⟩, HB.out⟩
end Go.Proofs.YtfjeghalkmkgoaaGreatDoor
