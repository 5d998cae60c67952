/-
  Braid moves: what the model's BraidAt returns (printed by mk_bra.py).
-/
import Derived.Deep.RegionHeld3
import Derived.Test.YtnlbmnielemgiaaFl35
import Derived.Test.YtnlbmnielemgiaaFl06
import Derived.Test.YtnlbmnielemgiaaFl19
namespace Go.Proofs.Ytnlbmnielemgiaa
open Go.RowKit

theorem brN_def (m : List (List Int)) (q : List Int) (t : Nat) : brN m q t = bond m (q.getD t 0) (q.getD (t + 1) 0) := rfl
/-- A part of a row of the call's own. -/
theorem RowI.part {A B b n cap : Nat} {w : World} {l : List Int} (h : RowI A B w (.slice (some ⟨b, 0, none⟩) n cap) l) (hn : l.length = n) {i j : Nat} (hij : i ≤ j) (hj : j ≤ n) (a : Option Addr) (sc : Nat) (ha : i < j → a = some ⟨b, i, none⟩) :
    RowB B w (.slice a (j - i) sc) ((l.drop i).take (j - i)) := by
  have hl : ((l.drop i).take (j - i)).length = j - i := by rw [List.length_take, List.length_drop]; omega
  by_cases h0 : i = j
  · refine Or.inl ⟨List.eq_nil_of_length_eq_zero (by rw [hl]; omega), a, sc, by rw [h0, Nat.sub_self]⟩
  · rw [ha (by omega)]
    refine Or.inr ⟨b, i, sc, by rw [hl], h.2 b rfl, fun k hk => ?_⟩
    rw [hl] at hk
    have h1 := h.1
    rw [hn] at h1
    rw [h1.cellAt (i + k) (by omega)]
    simp [intsV, show i + k < l.length by omega]
set_option maxHeartbeats 8000000 in
set_option maxRecDepth 100000 in
theorem bats_any (B A : Nat) (v v' : Value) (m : List (List Int)) (q : List Int) (at_ : Int) (w : World) (h : MatB B w v m) (h' : RowI A w.heap.size w v' q) (hB : B ≤ w.heap.size) (hf : RowsFit m) (hq : q.length ≤ 1048576) (hat : -1048576 ≤ at_ ∧ at_ ≤ 1048576) :
    Calls Try.prog 72 #[v, v', .int .i64 at_] w (MakesS2 w (brL m q at_) (.bool (brB m q at_))) := by
  have HIW := Lib.hid (fun (x : Nat) => isws_any B w.heap.size v v' m q (w.drewN x) (h.below (below_drewN x) hB) (h'.rowB.drewN x) hf (by unfold maxLen; omega))
  have HQ := Lib.hid h'.rowB
  have HLN := Lib.hid (show ([] : List Int).length + q.length ≤ 4194304 by simp; omega)
  have hsub : IntKind.i64.wrap ((q.length : Int) - 2) = (q.length : Int) - 2 := by rw [IntKind.wrap_i64]; omega
  have HBQ := Lib.hid (fun n => below_drewN (w := w) n)
  by_cases hW : IsW m q
  · have HWB := Lib.hid (wordB_yes hW)
    rw [HWB.out] at HIW
    by_cases hin : 0 ≤ at_ ∧ at_ ≤ (q.length : Int) - 2
    · have HIN := Lib.hid (fun (x : Nat) => (l1in_c at_ 0 ((q.length : Int) - 2) true (inB_yes hin) (w.drewN x)).mono (R' := fun e w' => e = .returned (.bool true) ∧ ∃ m, w' = (w.drewN x).drewN m) fun e w' ⟨h1, h2⟩ => ⟨h1, 0, h2.symm⟩)
      obtain ⟨t, rfl⟩ := Int.eq_ofNat_of_zero_le hin.1
      have ht : t + 1 < q.length := by omega
      obtain ⟨b, cap', rfl, _, hbw⟩ := h'.at' (by omega)
      have h1 := h'.1
      have hc0 : w.cell? ⟨b, t, none⟩ = some (.int .i64 (q.getD t 0)) := by rw [h1.cellAt t (by omega)]; simp [intsV, show t < q.length by omega]
      have hc1 : w.cell? ⟨b, t + 1, none⟩ = some (.int .i64 (q.getD (t + 1) 0)) := by rw [h1.cellAt (t + 1) (by omega)]; simp [intsV, show t + 1 < q.length by omega]
      by_cases heq : q.getD t 0 = q.getD (t + 1) 0
      · have hno : ¬ BrOk m q (t : Int) := fun h => h.2.2.1 heq
        rw [brL_no hno, brB_no hno]
        rw [← heq] at hc1
        obtain ⟨a, cap, rfl⟩ := h.slice
        clear h h' h1 hf hW HWB hin hno heq
        generalize q.getD t 0 = x at *
        generalize hqn : q.length = n at *
        have HQN := Lib.hid hqn; clear hqn
        go_enter Try.func72, Try.ntmps72
        go_wp2_with fail
        go_quiet (first | (go_at_call 64; exact quiet_one HIW.out _) | (go_at_call 87; exact quiet_one HIN.out _))
        have HB1 := Lib.hid (HBQ.out nq)
        clear HIW HBQ HIN hc0 hc1
        have hb0 : Below (w.drewN nq).heap.size (w.drewN nq) ((w.drewN nq).alloc (.cells #[] 3)) := (Below.refl _ _).alloc (Nat.le_refl _) _
        have HXB := Lib.hid ((HQ.out.below HB1.out (Nat.le_refl _)).below (hb0.mono HB1.out.size) (Nat.le_refl _))
        have hs0 : (w.drewN nq).heap.size ≤ ((w.drewN nq).alloc (.cells #[] 3)).heap.size := by simp
        clear hb0
        go_wp2_with (at_builtin; go_must (refine append_intsA (row_empty (w.drewN nq)) hs0 HXB.out (by rw [HQN.out]; exact HLN.out) rfl rfl rfl rfl ?_))
        intro v3 w3 hr3 hb3 hz3
        have hr3 : RowI (w.drewN nq).heap.size w3.heap.size w3 v3 q := by simpa using hr3
        have hb3' := hb3 (w.drewN nq) (w.drewN nq).heap.size (Nat.le_refl _) ((Below.refl _ _).alloc (Nat.le_refl _) _)
        have HR3 := Lib.hid (hr3.mono HB1.out.size (Nat.le_refl _))
        have HB3 := Lib.hid (HB1.out.trans (hb3'.mono HB1.out.size))
        clear hb3 hz3 hr3 hb3' hs0
        go_wp2_with fail
        go_ret2
        exact ⟨_, rfl, ⟨HR3.out, Nat.le_refl _⟩, HB3.out⟩
      · have hne : (q.getD t 0 == q.getD (t + 1) 0) = false := by rw [beq_eq_false_iff_ne]; exact heq
        have HBO := Lib.hid (fun (x : Nat) => bonds_any B v m (q.getD t 0) (q.getD (t + 1) 0) (w.drewN x) (h.below (below_drewN x) hB) hf)
        rw [← brN_def] at HBO
        obtain ⟨hup, hlow⟩ : -1 ≤ brN m q t ∧ brN m q t ≤ 6 := ⟨bond_up _ _ _, bond_low _ _ _⟩
        have hwt : IntKind.i64.wrap ((q.length : Int) - (t : Int)) = (q.length : Int) - (t : Int) := by rw [IntKind.wrap_i64]; omega
        have hwp : IntKind.i64.wrap ((t : Int) + 1) = (t : Int) + 1 := by rw [IntKind.wrap_i64]; omega
        have hcapq : q.length ≤ cap' := h'.roomB rfl
        by_cases h2 : brN m q t < 2
        · have hno : ¬ BrOk m q (t : Int) := fun h => by have := h.2.2.2.1.1; rw [Int.toNat_natCast] at this; omega
          rw [brL_no hno, brB_no hno]
          obtain ⟨a, cap, rfl⟩ := h.slice
          clear h h' h1 hf hW HWB hin hno heq
          generalize q.getD t 0 = x at *
          generalize q.getD (t + 1) 0 = y at *
          generalize brN m q t = p at *
          generalize hqn : q.length = n at *
          have HQN := Lib.hid hqn; clear hqn
          go_enter Try.func72, Try.ntmps72
          go_wp2_with fail
          go_quiet (first | (go_at_call 64; exact quiet_one HIW.out _) | (go_at_call 87; exact quiet_one HIN.out _))
          generalize nq = q1
          go_wp2_with fail
          go_quiet (first | (go_at_call 103; first | (with_reducible exact quiet_one HBO.out _) | (with_reducible exact quiet_more HBO.out _ _)))
          generalize nq = q2
          have hd2 : decide (p < 2) = true := decide_eq_true h2
          go_wp2_with fail
          go_quiet (fail)
          generalize nq = q3
          have HB1 := Lib.hid (HBQ.out (q1 + q2 + q3))
          clear HIW HBQ HIN hc0 hc1
          have hb0 : Below (w.drewN (q1 + q2 + q3)).heap.size (w.drewN (q1 + q2 + q3)) ((w.drewN (q1 + q2 + q3)).alloc (.cells #[] 3)) := (Below.refl _ _).alloc (Nat.le_refl _) _
          have HXB := Lib.hid ((HQ.out.below HB1.out (Nat.le_refl _)).below (hb0.mono HB1.out.size) (Nat.le_refl _))
          have hs0 : (w.drewN (q1 + q2 + q3)).heap.size ≤ ((w.drewN (q1 + q2 + q3)).alloc (.cells #[] 3)).heap.size := by simp
          clear hb0
          go_wp2_with (at_builtin; go_must (refine append_intsA (row_empty (w.drewN (q1 + q2 + q3))) hs0 HXB.out (by rw [HQN.out]; exact HLN.out) rfl rfl rfl rfl ?_))
          intro v3 w3 hr3 hb3 hz3
          have hr3 : RowI (w.drewN (q1 + q2 + q3)).heap.size w3.heap.size w3 v3 q := by simpa using hr3
          have hb3' := hb3 (w.drewN (q1 + q2 + q3)) (w.drewN (q1 + q2 + q3)).heap.size (Nat.le_refl _) ((Below.refl _ _).alloc (Nat.le_refl _) _)
          have HR3 := Lib.hid (hr3.mono HB1.out.size (Nat.le_refl _))
          have HB3 := Lib.hid (HB1.out.trans (hb3'.mono HB1.out.size))
          clear hb3 hz3 hr3 hb3' hs0
          go_wp2_with fail
          go_ret2
          exact ⟨_, rfl, ⟨HR3.out, Nat.le_refl _⟩, HB3.out⟩
        · by_cases h3 : (q.length : Int) - (t : Int) < brN m q t
          · have hno : ¬ BrOk m q (t : Int) := fun h => by have := h.2.2.2.1.2; rw [Int.toNat_natCast] at this; omega
            rw [brL_no hno, brB_no hno]
            obtain ⟨a, cap, rfl⟩ := h.slice
            clear h h' h1 hf hW HWB hin hno heq
            generalize q.getD t 0 = x at *
            generalize q.getD (t + 1) 0 = y at *
            generalize brN m q t = p at *
            generalize hqn : q.length = n at *
            have HQN := Lib.hid hqn; clear hqn
            go_enter Try.func72, Try.ntmps72
            go_wp2_with fail
            go_quiet (first | (go_at_call 64; exact quiet_one HIW.out _) | (go_at_call 87; exact quiet_one HIN.out _))
            generalize nq = q1
            go_wp2_with fail
            go_quiet (first | (go_at_call 103; first | (with_reducible exact quiet_one HBO.out _) | (with_reducible exact quiet_more HBO.out _ _)))
            generalize nq = q2
            have hd2 : decide (p < 2) = false := decide_eq_false (by omega)
            have hd3 : decide ((n : Int) - (t : Int) < p) = true := decide_eq_true (by omega)
            go_wp2_with fail
            go_quiet (fail)
            generalize nq = q3
            have HB1 := Lib.hid (HBQ.out (q1 + q2 + q3))
            clear HIW HBQ HIN hc0 hc1
            have hb0 : Below (w.drewN (q1 + q2 + q3)).heap.size (w.drewN (q1 + q2 + q3)) ((w.drewN (q1 + q2 + q3)).alloc (.cells #[] 3)) := (Below.refl _ _).alloc (Nat.le_refl _) _
            have HXB := Lib.hid ((HQ.out.below HB1.out (Nat.le_refl _)).below (hb0.mono HB1.out.size) (Nat.le_refl _))
            have hs0 : (w.drewN (q1 + q2 + q3)).heap.size ≤ ((w.drewN (q1 + q2 + q3)).alloc (.cells #[] 3)).heap.size := by simp
            clear hb0
            go_wp2_with (at_builtin; go_must (refine append_intsA (row_empty (w.drewN (q1 + q2 + q3))) hs0 HXB.out (by rw [HQN.out]; exact HLN.out) rfl rfl rfl rfl ?_))
            intro v3 w3 hr3 hb3 hz3
            have hr3 : RowI (w.drewN (q1 + q2 + q3)).heap.size w3.heap.size w3 v3 q := by simpa using hr3
            have hb3' := hb3 (w.drewN (q1 + q2 + q3)) (w.drewN (q1 + q2 + q3)).heap.size (Nat.le_refl _) ((Below.refl _ _).alloc (Nat.le_refl _) _)
            have HR3 := Lib.hid (hr3.mono HB1.out.size (Nat.le_refl _))
            have HB3 := Lib.hid (HB1.out.trans (hb3'.mono HB1.out.size))
            clear hb3 hz3 hr3 hb3' hs0
            go_wp2_with fail
            go_ret2
            exact ⟨_, rfl, ⟨HR3.out, Nat.le_refl _⟩, HB3.out⟩
          · obtain ⟨p, hp⟩ : ∃ p : Nat, brN m q t = (p : Int) := Int.eq_ofNat_of_zero_le (by omega)
            have hp2 : ¬ ((p : Int) < 2) := by rw [← hp]; exact h2
            have hp3 : ¬ ((q.length : Int) - (t : Int) < (p : Int)) := by rw [← hp]; exact h3
            have hd2 : decide ((p : Int) < 2) = false := decide_eq_false hp2
            have hd3 : decide ((q.length : Int) - (t : Int) < (p : Int)) = false := decide_eq_false hp3
            obtain ⟨e, he⟩ : ∃ e, e = t + p := ⟨_, rfl⟩
            have htp : IntKind.i64.wrap ((t : Int) + (p : Int)) = (e : Int) := by rw [IntKind.wrap_i64]; omega
            have hb0 : (0 : Int) ≤ (t : Int) := by omega
            have hbn : (t : Int) < (q.length : Int) := by omega
            have hbp : (0 : Int) ≤ (t : Int) + 1 := by omega
            have hbn1 : (t : Int) + 1 < (q.length : Int) := by omega
            have hbe : (t : Int) ≤ (e : Int) := by omega
            have hbe0 : (0 : Int) ≤ (e : Int) := by omega
            have hbec : (e : Int) ≤ (cap' : Int) := by omega
            have hen : e ≤ q.length := by omega
            have hn15 : q.length ≤ 15 := hW.2.2
            have hbtc : (t : Int) ≤ (cap' : Int) := by omega
            have hben : (e : Int) ≤ (q.length : Int) := by omega
            have HET := Lib.hid he
            have hct : ¬ cap' = t := by omega
            rw [hp] at HBO
            have HYES := Lib.hid (fun (h : eqwB ((q.drop t).take (e - t)) (altL (q.getD t 0) (q.getD (t + 1) 0) (p : Int)) = true) => show brB m q (t : Int) = true ∧ brL m q (t : Int) = q.take t ++ altL (q.getD (t + 1) 0) (q.getD t 0) (p : Int) ++ q.drop e from by
              have h4 := cmpW_zero.1 (of_decide_eq_true h)
              have hok : BrOk m q (t : Int) := ⟨hW, hin, by rw [Int.toNat_natCast]; exact heq, by rw [Int.toNat_natCast, hp]; omega, by rw [Int.toNat_natCast, hp, Int.toNat_natCast, show p = e - t by omega]; rw [show ((e - t : Nat) : Int) = (p : Int) by omega]; exact h4⟩
              refine ⟨brB_yes hok, ?_⟩
              rw [brL_yes hok, Int.toNat_natCast]
              unfold brV
              rw [hp, Int.toNat_natCast, show t + p = e by omega])
            have HNO := Lib.hid (fun (h : eqwB ((q.drop t).take (e - t)) (altL (q.getD t 0) (q.getD (t + 1) 0) (p : Int)) = false) => show brB m q (t : Int) = false ∧ brL m q (t : Int) = q from by
              have h4 := of_decide_eq_false h
              have hno : ¬ BrOk m q (t : Int) := fun hok => h4 (cmpW_zero.2 (by
                have h5 := hok.2.2.2.2
                rw [Int.toNat_natCast, hp, Int.toNat_natCast] at h5
                rw [show e - t = p by omega]; exact h5))
              exact ⟨brB_no hno, brL_no hno⟩)
            obtain ⟨a, cap, rfl⟩ := h.slice
            generalize hx : q.getD t 0 = x at *
            generalize hy : q.getD (t + 1) 0 = y at *
            have HPX := Lib.hid hx; have HPY := Lib.hid hy
            clear hx hy
            have HH := Lib.hid h'
            clear h h' h1 h2 h3 hf hW HWB hin heq he
            have HPP := Lib.hid hp; clear hp
            generalize brB m q (t : Int) = R2 at *
            generalize brL m q (t : Int) = R1 at *
            generalize hqn : q.length = n at *
            have HQN := Lib.hid hqn; clear hqn
            go_enter Try.func72, Try.ntmps72
            go_wp2_with fail
            go_quiet (first | (go_at_call 64; exact quiet_one HIW.out _) | (go_at_call 87; exact quiet_one HIN.out _))
            generalize nq = q1
            go_wp2_with fail
            go_quiet (first | (go_at_call 103; first | (with_reducible exact quiet_one HBO.out _) | (with_reducible exact quiet_more HBO.out _ _)))
            generalize nq = q2
            go_wp2_with fail
            obtain ⟨wz, hwz⟩ : ∃ wz, wz = (w.drewN q1).drewN q2 := ⟨_, rfl⟩
            rw [← hwz]
            have HBZ := Lib.hid (show Below w.heap.size w wz from by rw [hwz]; exact (HBQ.out q1).trans ((below_drewN (w := w.drewN q1) q2).mono (Nat.le_refl _)))
            have HHZ := Lib.hid (show RowI A wz.heap.size wz (.slice (some ⟨b, 0, none⟩) n cap') q from by rw [hwz]; exact (HH.out.step (below_drewN q1)).step (below_drewN q2))
            have hcz0 : wz.cell? ⟨b, t, none⟩ = some (.int .i64 x) := by rw [hwz]; exact hc0
            have hcz1 : wz.cell? ⟨b, t + 1, none⟩ = some (.int .i64 y) := by rw [hwz]; exact hc1
            have hbz : b < wz.heap.size := by rw [hwz]; exact hbw
            clear hwz hc0 hc1 HIW HIN HBO
            have HKS := Lib.hid (fun w2 (hb : Below wz.heap.size wz w2) => (⟨hb, (hb.cell (p := ⟨b, t, none⟩) hbz).trans hcz0, (hb.cell (p := ⟨b, t + 1, none⟩) hbz).trans hcz1⟩ : Below wz.heap.size wz w2 ∧ w2.cell? ⟨b, t, none⟩ = some (.int .i64 x) ∧ w2.cell? ⟨b, t + 1, none⟩ = some (.int .i64 y)))
            have hp15 : (p : Int) ≤ 9223372036854775807 := by omega
            have HPQ := Lib.hid (HHZ.out.part HQN.out (show t ≤ e by have := HET.out; omega) hen (some ⟨b, t, none⟩) (cap' - t) (fun _ => rfl))
            have HLA := Lib.hid (show (altL x y (p : Int)).length ≤ maxLen from by have := altL_le x y (p : Int); unfold maxLen; omega)
            have HLP := Lib.hid (show ((q.drop t).take (e - t)).length ≤ maxLen from by rw [List.length_take]; unfold maxLen; omega)
            go_region_held3 (fun w' => Below wz.heap.size wz w' ∧ w'.cell? ⟨b, t, none⟩ = some (.int .i64 x) ∧ w'.cell? ⟨b, t + 1, none⟩ = some (.int .i64 y)) (first | exact HKS.out _ (Below.refl _ _).drew | exact HKS.out _ hbW | exact HKS.out _ hbE)
              (first
                | (go_at_call 104; refine (alts_any x y (p : Int) _ hp15 (by omega)).mono ?_; rintro e w5 ⟨z, rfl, ⟨hz, _⟩, hb5⟩; have hbW : Below wz.heap.size wz w5 := (Below.refl wz.heap.size wz).drew.trans hb5; have HZ := Lib.hid hz.rowB; clear hz hb5)
                | (go_at_call 76; refine (eqws_any w5.heap.size _ _ ((q.drop t).take (e - t)) (altL x y (p : Int)) w5 ((HPQ.out.below hbW (Nat.le_refl _)).mono hbW.size) HZ.out HLP.out HLA.out).mono ?_; rintro e w6 ⟨rfl, nq6, rfl⟩; have hbE : Below wz.heap.size wz (w5.drewN nq6) := hbW.trans ((below_drewN (w := w5) nq6).mono hbW.size)))
            generalize eqwB ((q.drop t).take (e - t)) (altL x y (p : Int)) = eb at *
            cases eb with
            | false =>
              obtain ⟨hr2, hr1⟩ := HNO.out rfl
              subst hr2
              have HR1 := Lib.hid hr1
              clear hr1
              clear HYES HNO
              have HB1 := Lib.hid (HBZ.out.trans (hbE.mono HBZ.out.size))
              clear hbE hbW HZ HPQ HKS hcz0 hcz1
              have hb0 : Below (w5.drewN nq6).heap.size (w5.drewN nq6) ((w5.drewN nq6).alloc (.cells #[] 3)) := (Below.refl _ _).alloc (Nat.le_refl _) _
              have HXB := Lib.hid ((HQ.out.below HB1.out (Nat.le_refl _)).below (hb0.mono HB1.out.size) (Nat.le_refl _))
              have hs0 : (w5.drewN nq6).heap.size ≤ ((w5.drewN nq6).alloc (.cells #[] 3)).heap.size := by simp
              clear hb0
              go_wp2_with (at_builtin; go_must (refine append_intsA (row_empty (w5.drewN nq6)) hs0 HXB.out (by rw [HQN.out]; exact HLN.out) rfl rfl rfl rfl ?_))
              intro v3 w3 hr3 hb3 hz3
              have hr3 : RowI (w5.drewN nq6).heap.size w3.heap.size w3 v3 q := by simpa using hr3
              have hb3' := hb3 (w5.drewN nq6) (w5.drewN nq6).heap.size (Nat.le_refl _) ((Below.refl _ _).alloc (Nat.le_refl _) _)
              have HR3 := Lib.hid (hr3.mono HB1.out.size (Nat.le_refl _))
              have HB3 := Lib.hid (HB1.out.trans (hb3'.mono HB1.out.size))
              clear hb3 hz3 hr3 hb3' hs0
              go_wp2_with fail
              go_ret2
              exact ⟨_, rfl, ⟨by rw [HR1.out]; exact HR3.out, Nat.le_refl _⟩, HB3.out⟩
            | true =>
              by_cases hce : cap' = e
              · have hne1 : n = e := by omega
                subst hce
                subst hne1
                obtain ⟨hr2, hr1⟩ := HYES.out rfl
                subst hr2
                have HR1 := Lib.hid hr1
                clear hr1
                clear HYES HNO
                have HPL := Lib.hid (HHZ.out.part HQN.out (Nat.zero_le t) (show t ≤ n by omega) (some ⟨b, 0, none⟩) n (fun _ => rfl))
                rw [Nat.sub_zero, List.drop_zero] at HPL
                have HPR := Lib.hid (HHZ.out.part HQN.out hen (Nat.le_refl n) (some ⟨b, 0, none⟩) (n - n) (fun h => absurd h (by omega)))
                have hdr : (q.drop n).take (n - n) = q.drop n := List.take_of_length_le (by rw [List.length_drop, HQN.out]; exact Nat.le_refl _)
                rw [hdr] at HPR
                rw [Nat.sub_self] at HPR
                clear hdr
                have HLT1 := Lib.hid (show (q.take t).length ≤ 1048576 from by rw [List.length_take]; omega)
                have HLT2 := Lib.hid (show (altL y x (p : Int)).length ≤ 1048576 from by have := altL_le y x (p : Int); omega)
                have HLT3 := Lib.hid (show (q.take t ++ altL y x (p : Int)).length ≤ 1048576 from by rw [List.length_append, List.length_take]; have := altL_le y x (p : Int); omega)
                have HLT4 := Lib.hid (show (q.drop n).length ≤ 1048576 from by rw [List.length_drop]; have := HQN.out; omega)
                obtain ⟨wy, hwy⟩ : ∃ wy, wy = w5.drewN nq6 := ⟨_, rfl⟩
                rw [← hwy] at hbE ⊢
                have HBY := Lib.hid hbE
                have hcy0 := (hbE.cell (p := ⟨b, t, none⟩) hbz).trans hcz0
                have hcy1 := (hbE.cell (p := ⟨b, t + 1, none⟩) hbz).trans hcz1
                have hby : b < wy.heap.size := Nat.lt_of_lt_of_le hbz hbE.size
                have hzy := hbE.size
                clear hwy hbE hbW HZ HPQ HKS hcz0 hcz1
                have HKY := Lib.hid (fun w2 (hb : Below wy.heap.size wy w2) => (⟨hb, (hb.cell (p := ⟨b, t, none⟩) hby).trans hcy0, (hb.cell (p := ⟨b, t + 1, none⟩) hby).trans hcy1⟩ : Below wy.heap.size wy w2 ∧ w2.cell? ⟨b, t, none⟩ = some (.int .i64 x) ∧ w2.cell? ⟨b, t + 1, none⟩ = some (.int .i64 y)))
                go_wp2_with fail
                go_region_held3 (fun w' => Below wy.heap.size wy w' ∧ w'.cell? ⟨b, t, none⟩ = some (.int .i64 x) ∧ w'.cell? ⟨b, t + 1, none⟩ = some (.int .i64 y)) (first | exact HKY.out _ (Below.refl _ _).drew | exact HKY.out _ hbA | exact HKY.out _ hbC | exact HKY.out _ hbD)
                  (first
                    | (go_at_call 104; refine (alts_any y x (p : Int) _ hp15 (by omega)).mono ?_; rintro e' w7 ⟨z2, rfl, ⟨hz2, _⟩, hb7⟩; have hbA : Below wy.heap.size wy w7 := (Below.refl wy.heap.size wy).drew.trans hb7; have HZ2 := Lib.hid hz2.rowB; clear hz2 hb7)
                    | (go_at_call 28; refine (cats_any w7.heap.size w7.heap.size (.slice (some ⟨b, 0, none⟩) t n) z2 (q.take t) (altL y x (p : Int)) w7 ((HPL.out.below (HBY.out.trans (hbA.mono hzy)) (Nat.le_refl _)).mono (Nat.le_trans hzy hbA.size)) HZ2.out (Nat.le_refl _) (Nat.le_refl _) HLT1.out HLT2.out).mono ?_; rintro e' w8 ⟨z3, rfl, ⟨hz3, _⟩, hb8⟩; have hbC : Below wy.heap.size wy w8 := hbA.trans (hb8.mono hbA.size); have HZ3 := Lib.hid hz3.rowB; clear hz3 hb8)
                    | (go_at_call 28; refine (cats_any w8.heap.size w8.heap.size z3 (.slice (some ⟨b, 0, none⟩) 0 0) (q.take t ++ altL y x (p : Int)) (q.drop n) w8 HZ3.out ((HPR.out.below (HBY.out.trans (hbC.mono hzy)) (Nat.le_refl _)).mono (Nat.le_trans hzy hbC.size)) (Nat.le_refl _) (Nat.le_refl _) HLT3.out HLT4.out).mono ?_; rintro e' w9 ⟨z4, rfl, ⟨hz4, _⟩, hb9⟩; have hbD : Below wy.heap.size wy w9 := hbC.trans (hb9.mono hbC.size); have HZ4 := Lib.hid (hz4.mono (Nat.le_trans HBZ.out.size (Nat.le_trans hzy hbC.size)) (Nat.le_refl _)); clear hz4 hb9))
                have HBF := Lib.hid (HBZ.out.trans (HBY.out.mono HBZ.out.size) |>.trans (hbD.mono (Nat.le_trans HBZ.out.size hzy)))
                clear HKY hcy0 hcy1
                go_wp2_with fail
                go_ret2
                exact ⟨_, rfl, ⟨by rw [HR1.out]; exact HZ4.out, Nat.le_refl _⟩, HBF.out⟩
              · have hnce : ¬ cap' = e := hce
                obtain ⟨hr2, hr1⟩ := HYES.out rfl
                subst hr2
                have HR1 := Lib.hid hr1
                clear hr1
                clear HYES HNO
                have HPL := Lib.hid (HHZ.out.part HQN.out (Nat.zero_le t) (show t ≤ n by omega) (some ⟨b, 0, none⟩) cap' (fun _ => rfl))
                rw [Nat.sub_zero, List.drop_zero] at HPL
                have HPR := Lib.hid (HHZ.out.part HQN.out hen (Nat.le_refl n) (some ⟨b, e, none⟩) (cap' - e) (fun _ => rfl))
                have hdr : (q.drop e).take (n - e) = q.drop e := List.take_of_length_le (by rw [List.length_drop, HQN.out]; exact Nat.le_refl _)
                rw [hdr] at HPR
                clear hdr
                have HLT1 := Lib.hid (show (q.take t).length ≤ 1048576 from by rw [List.length_take]; omega)
                have HLT2 := Lib.hid (show (altL y x (p : Int)).length ≤ 1048576 from by have := altL_le y x (p : Int); omega)
                have HLT3 := Lib.hid (show (q.take t ++ altL y x (p : Int)).length ≤ 1048576 from by rw [List.length_append, List.length_take]; have := altL_le y x (p : Int); omega)
                have HLT4 := Lib.hid (show (q.drop e).length ≤ 1048576 from by rw [List.length_drop]; have := HQN.out; omega)
                obtain ⟨wy, hwy⟩ : ∃ wy, wy = w5.drewN nq6 := ⟨_, rfl⟩
                rw [← hwy] at hbE ⊢
                have HBY := Lib.hid hbE
                have hcy0 := (hbE.cell (p := ⟨b, t, none⟩) hbz).trans hcz0
                have hcy1 := (hbE.cell (p := ⟨b, t + 1, none⟩) hbz).trans hcz1
                have hby : b < wy.heap.size := Nat.lt_of_lt_of_le hbz hbE.size
                have hzy := hbE.size
                clear hwy hbE hbW HZ HPQ HKS hcz0 hcz1
                have HKY := Lib.hid (fun w2 (hb : Below wy.heap.size wy w2) => (⟨hb, (hb.cell (p := ⟨b, t, none⟩) hby).trans hcy0, (hb.cell (p := ⟨b, t + 1, none⟩) hby).trans hcy1⟩ : Below wy.heap.size wy w2 ∧ w2.cell? ⟨b, t, none⟩ = some (.int .i64 x) ∧ w2.cell? ⟨b, t + 1, none⟩ = some (.int .i64 y)))
                go_wp2_with fail
                go_region_held3 (fun w' => Below wy.heap.size wy w' ∧ w'.cell? ⟨b, t, none⟩ = some (.int .i64 x) ∧ w'.cell? ⟨b, t + 1, none⟩ = some (.int .i64 y)) (first | exact HKY.out _ (Below.refl _ _).drew | exact HKY.out _ hbA | exact HKY.out _ hbC | exact HKY.out _ hbD)
                  (first
                    | (go_at_call 104; refine (alts_any y x (p : Int) _ hp15 (by omega)).mono ?_; rintro e' w7 ⟨z2, rfl, ⟨hz2, _⟩, hb7⟩; have hbA : Below wy.heap.size wy w7 := (Below.refl wy.heap.size wy).drew.trans hb7; have HZ2 := Lib.hid hz2.rowB; clear hz2 hb7)
                    | (go_at_call 28; refine (cats_any w7.heap.size w7.heap.size (.slice (some ⟨b, 0, none⟩) t cap') z2 (q.take t) (altL y x (p : Int)) w7 ((HPL.out.below (HBY.out.trans (hbA.mono hzy)) (Nat.le_refl _)).mono (Nat.le_trans hzy hbA.size)) HZ2.out (Nat.le_refl _) (Nat.le_refl _) HLT1.out HLT2.out).mono ?_; rintro e' w8 ⟨z3, rfl, ⟨hz3, _⟩, hb8⟩; have hbC : Below wy.heap.size wy w8 := hbA.trans (hb8.mono hbA.size); have HZ3 := Lib.hid hz3.rowB; clear hz3 hb8)
                    | (go_at_call 28; refine (cats_any w8.heap.size w8.heap.size z3 (.slice (some ⟨b, e, none⟩) (n - e) (cap' - e)) (q.take t ++ altL y x (p : Int)) (q.drop e) w8 HZ3.out ((HPR.out.below (HBY.out.trans (hbC.mono hzy)) (Nat.le_refl _)).mono (Nat.le_trans hzy hbC.size)) (Nat.le_refl _) (Nat.le_refl _) HLT3.out HLT4.out).mono ?_; rintro e' w9 ⟨z4, rfl, ⟨hz4, _⟩, hb9⟩; have hbD : Below wy.heap.size wy w9 := hbC.trans (hb9.mono hbC.size); have HZ4 := Lib.hid (hz4.mono (Nat.le_trans HBZ.out.size (Nat.le_trans hzy hbC.size)) (Nat.le_refl _)); clear hz4 hb9))
                have HBF := Lib.hid (HBZ.out.trans (HBY.out.mono HBZ.out.size) |>.trans (hbD.mono (Nat.le_trans HBZ.out.size hzy)))
                clear HKY hcy0 hcy1
                go_wp2_with fail
                go_ret2
                exact ⟨_, rfl, ⟨by rw [HR1.out]; exact HZ4.out, Nat.le_refl _⟩, HBF.out⟩
    · have hno : ¬ BrOk m q at_ := fun h => hin h.2.1
      have HIN := Lib.hid (fun (x : Nat) => (l1in_c at_ 0 ((q.length : Int) - 2) false (inB_no hin) (w.drewN x)).mono (R' := fun e w' => e = .returned (.bool false) ∧ ∃ m, w' = (w.drewN x).drewN m) fun e w' ⟨h1, h2⟩ => ⟨h1, 0, h2.symm⟩)
      rw [brL_no hno, brB_no hno]
      obtain ⟨a, cap, rfl⟩ := h.slice
      obtain ⟨a', cap', rfl⟩ := h'.slice
      clear h h' hf hW HWB hin hno
      generalize hqn : q.length = n at *
      have HQN := Lib.hid hqn; clear hqn
      go_enter Try.func72, Try.ntmps72
      go_wp2_with fail
      go_quiet (first | (go_at_call 64; exact quiet_one HIW.out _) | (go_at_call 87; exact quiet_one HIN.out _))
      have HB1 := Lib.hid (HBQ.out nq)
      clear HIW HBQ HIN
      have hb0 : Below (w.drewN nq).heap.size (w.drewN nq) ((w.drewN nq).alloc (.cells #[] 3)) := (Below.refl _ _).alloc (Nat.le_refl _) _
      have HXB := Lib.hid ((HQ.out.below HB1.out (Nat.le_refl _)).below (hb0.mono HB1.out.size) (Nat.le_refl _))
      have hs0 : (w.drewN nq).heap.size ≤ ((w.drewN nq).alloc (.cells #[] 3)).heap.size := by simp
      clear hb0
      go_wp2_with (at_builtin; go_must (refine append_intsA (row_empty (w.drewN nq)) hs0 HXB.out (by rw [HQN.out]; exact HLN.out) rfl rfl rfl rfl ?_))
      intro v3 w3 hr3 hb3 hz3
      have hr3 : RowI (w.drewN nq).heap.size w3.heap.size w3 v3 q := by simpa using hr3
      have hb3' := hb3 (w.drewN nq) (w.drewN nq).heap.size (Nat.le_refl _) ((Below.refl _ _).alloc (Nat.le_refl _) _)
      have HR3 := Lib.hid (hr3.mono HB1.out.size (Nat.le_refl _))
      have HB3 := Lib.hid (HB1.out.trans (hb3'.mono HB1.out.size))
      clear hb3 hz3 hr3 hb3' hs0
      go_wp2_with fail
      go_ret2
      exact ⟨_, rfl, ⟨HR3.out, Nat.le_refl _⟩, HB3.out⟩
  · have hno : ¬ BrOk m q at_ := fun h => hW h.1
    have HWB := Lib.hid (wordB_no hW)
    rw [HWB.out] at HIW
    rw [brL_no hno, brB_no hno]
    obtain ⟨a, cap, rfl⟩ := h.slice
    obtain ⟨a', cap', rfl⟩ := h'.slice
    clear h h' hf hW HWB hno
    generalize hqn : q.length = n at *
    have HQN := Lib.hid hqn; clear hqn
    go_enter Try.func72, Try.ntmps72
    go_wp2_with fail
    go_quiet (first | (go_at_call 64; exact quiet_one HIW.out _))
    have HB1 := Lib.hid (HBQ.out nq)
    clear HIW HBQ
    have hb0 : Below (w.drewN nq).heap.size (w.drewN nq) ((w.drewN nq).alloc (.cells #[] 3)) := (Below.refl _ _).alloc (Nat.le_refl _) _
    have HXB := Lib.hid ((HQ.out.below HB1.out (Nat.le_refl _)).below (hb0.mono HB1.out.size) (Nat.le_refl _))
    have hs0 : (w.drewN nq).heap.size ≤ ((w.drewN nq).alloc (.cells #[] 3)).heap.size := by simp
    clear hb0
    go_wp2_with (at_builtin; go_must (refine append_intsA (row_empty (w.drewN nq)) hs0 HXB.out (by rw [HQN.out]; exact HLN.out) rfl rfl rfl rfl ?_))
    intro v3 w3 hr3 hb3 hz3
    have hr3 : RowI (w.drewN nq).heap.size w3.heap.size w3 v3 q := by simpa using hr3
    have hb3' := hb3 (w.drewN nq) (w.drewN nq).heap.size (Nat.le_refl _) ((Below.refl _ _).alloc (Nat.le_refl _) _)
    have HR3 := Lib.hid (hr3.mono HB1.out.size (Nat.le_refl _))
    have HB3 := Lib.hid (HB1.out.trans (hb3'.mono HB1.out.size))
    clear hb3 hz3 hr3 hb3' hs0
    go_wp2_with fail
    go_ret2
    exact ⟨_, rfl, ⟨HR3.out, Nat.le_refl _⟩, HB3.out⟩
end Go.Proofs.Ytnlbmnielemgiaa
