/-
  Exchange and deletion: what the model's ReplayDeletions returns.
  Two lists of the call's own apart from each other, each in a block of its own; how long the answers of ReduceByDeletion are.
  A law that takes a list of ints: what the argument reads as.
  The last step of every law (over any program): a call that only made new memory and answered true leaves its arguments reading as they read.
  Two closed facts of this seat's program.
-/
import Derived.Test.YtbmghddmilgngaaLc36
import Derived.ProofKit
import Derived.Test.YtbmghddmilgngaaLc01
import Derived.Test.YtbmghddmilgngaaRows
namespace Go.Proofs.Ytbmghddmilgngaa
open Go.RowKit

set_option maxHeartbeats 4000000 in
set_option maxRecDepth 100000 in
theorem rpys_e (v vl : Value) (ws l : List Int) (w : World) (h : RowB w.heap.size w v ws) (h' : RowB w.heap.size w vl l) (hw : ws.length ≤ 1048576) (hl : l.length ≤ 1048576) :
    Calls Try.prog 29 #[v, vl] w (MakesS2 w (rpL ws l) (.bool (rpB ws l))) := by
  have HW := Lib.hid h; have HL := Lib.hid h'
  have HD1 := Lib.hid (fun (X : List Int) (hX : X.length ≤ 1048576) (j : Int) (x : Value) (wx : World) (hy : RowB wx.heap.size wx x X) => dels_e x X j wx hy hX)
  have HST := Lib.hid (fun (X : List Int) (k : Nat) (h : rpS X (l.drop k) = rpS ws l) (hk : k + 1 < l.length) (hp : pairB X.length (l.getD k 0) (l.getD (k + 1) 0) = true) => rp_step h hk hp)
  have HBD := Lib.hid (fun (X : List Int) (k : Nat) (h : rpS X (l.drop k) = rpS ws l) (hk : k + 1 < l.length) (hp : pairB X.length (l.getD k 0) (l.getD (k + 1) 0) = false) => rp_bad h hk hp)
  have HLA := Lib.hid (fun (X : List Int) (k : Nat) (h : rpS X (l.drop k) = rpS ws l) (hk : ¬ k + 1 < l.length) => rp_last h hk)
  have HWL := Lib.hid hw
  have HWL4 := Lib.hid (show ([] : List Int).length + ws.length ≤ 4194304 by simp; omega)
  have H0 := Lib.hid (show rpS ws (l.drop 0) = rpS ws l by rw [List.drop_zero])
  obtain ⟨la, lcap, rfl⟩ := h'.slice
  obtain ⟨va, vcap, rfl⟩ := h.slice
  have hb0 : Below w.heap.size w (w.alloc (.cells #[] 3)) := (Below.refl _ _).alloc (Nat.le_refl _) _
  have hs0 : w.heap.size ≤ (w.alloc (.cells #[] 3)).heap.size := by simp
  have HWA := Lib.hid (HW.out.upE hb0)
  clear h h' hw
  generalize rpL ws l = RL at *
  generalize rpB ws l = RB at *
  generalize rpS ws l = RS at *
  generalize hn : l.length = n at *
  have HNL := Lib.hid hn; clear hn
  generalize hwn : ws.length = wn at *
  have HWN := Lib.hid hwn; clear hwn
  go_enter Try.func29, Try.ntmps29
  go_wp2_with (at_builtin; go_must (refine append_intsA (row_empty w) hs0 HWA.out (by rw [HWN.out]; exact HWL4.out) rfl rfl rfl rfl ?_))
  intro v3 w3 hr3 hb3 hz3
  have hr3 : RowI w.heap.size w3.heap.size w3 v3 ws := by simpa using hr3
  have hb3' := hb3 w w.heap.size (Nat.le_refl _) hb0
  have HR3 := Lib.hid hr3
  have HB3 := Lib.hid hb3'
  clear hb3 hz3 hr3 hb3' hs0 hb0 HWA
  go_wp2_with fail
  go_loopw [6, 7] (fun x o wr => ∃ (k : Nat) (X : List Int) (wq : World), wq = wr ∧ k ≤ n ∧ o = .int .i64 k ∧ Hid (X.length ≤ 1048576) ∧ Hid (rpS X (l.drop k) = RS) ∧ RowI w.heap.size wq.heap.size wq x X ∧ Below w.heap.size w wq) (fun _ o _ => n - (RowKit.intOf o).toNat)
  case atStart => exact ⟨0, ws, _, rfl, Nat.zero_le _, rfl, Lib.hid (by rw [HWN.out]; exact HWL.out), H0, HR3.out, HB3.out⟩
  case round =>
    obtain ⟨k, X, wq, rfl, hk, rfl, HXL, HRS, hx, hb⟩ := hrel
    clear HR3 HB3 H0
    have HX := Lib.hid hx; have HB := Lib.hid hb
    clear hb
    have hwk : IntKind.i64.wrap ((k : Int) + 1) = (k : Int) + 1 := by rw [IntKind.wrap_i64]; omega
    obtain ⟨xa, xcap, rfl⟩ := hx.rowB.slice
    clear hx
    have hl' : RowB w.heap.size wq (.slice la n lcap) l := HL.out.below HB.out (Nat.le_refl _)
    by_cases hlt : k + 1 < n
    · have hd : decide ((k : Int) + 1 < (n : Int)) = true := decide_eq_true (by omega)
      obtain ⟨b, off, rfl, hbs, hc0, hc1⟩ := hl'.two hlt
      have hwk2 : IntKind.i64.wrap ((k : Int) + 2) = (k : Int) + 2 := by rw [IntKind.wrap_i64]; omega
      have hk0 : (0 : Int) ≤ (k : Int) := by omega
      have hkn : (k : Int) < (n : Int) := by omega
      have hk1 : (0 : Int) ≤ (k : Int) + 1 := by omega
      have hk2 : (k : Int) + 1 < (n : Int) := by omega
      have hk3 : ((k : Int) + 1).toNat = k + 1 := by omega
      clear hl'
      cases hp : pairB X.length (l.getD k 0) (l.getD (k + 1) 0)
      · have HR := Lib.hid (HBD.out X k HRS.out (by omega) hp)
        have HWQ := Lib.hid (fun (x : Nat) => (HW.out.below HB.out (Nat.le_refl _)).below ((below_drewN (w := wq) x).mono HB.out.size) (Nat.le_refl _))
        have HBQ := Lib.hid (fun (x : Nat) => HB.out.trans ((below_drewN (w := wq) x).mono HB.out.size))
        have hnp := of_decide_eq_false hp
        have hpar : l.getD k 0 < 0 ∨ (¬ l.getD k 0 < 0 ∧ l.getD (k + 1) 0 ≤ l.getD k 0) ∨ (¬ l.getD k 0 < 0 ∧ ¬ l.getD (k + 1) 0 ≤ l.getD k 0 ∧ (X.length : Int) ≤ l.getD (k + 1) 0) := by omega
        have HPAR := Lib.hid hpar
        clear hp hnp hpar HST HBD HLA HD1
        generalize l.getD k 0 = p at *
        generalize l.getD (k + 1) 0 = q at *
        generalize X.length = xn at *
        have hb1 : ∀ wx : World, Below wx.heap.size wx (wx.alloc (.cells #[] 3)) := fun wx => (Below.refl _ _).alloc (Nat.le_refl _) _
        have HFI := Lib.hid (fun (wx : World) (hbx : Below w.heap.size w wx) => ((HW.out.below hbx (Nat.le_refl _)).below ((hb1 wx).mono hbx.size) (Nat.le_refl _)))
        clear hb1
        rcases HPAR.out with h1 | ⟨h1, h2⟩ | ⟨h1, h2, h3⟩
        · have d1 : decide (p < 0) = true := decide_eq_true h1
          clear HPAR h1
          go_wp2_with fail
          go_quiet (fail)
          replace HB := Lib.hid (HBQ.out nq)
          have HXB := Lib.hid (HFI.out _ HB.out)
          have hs0 : (wq.drewN nq).heap.size ≤ ((wq.drewN nq).alloc (.cells #[] 3)).heap.size := by simp
          clear HWQ HBQ HFI hc0 hc1
          go_wp2_with (at_builtin; go_must (refine append_intsA (row_empty (wq.drewN nq)) hs0 HXB.out (by rw [HWN.out]; exact HWL4.out) rfl rfl rfl rfl ?_))
          intro v4 w4 hr4 hb4 hz4
          have hr4 : RowI (wq.drewN nq).heap.size w4.heap.size w4 v4 ws := by simpa using hr4
          have hb4' := hb4 (wq.drewN nq) (wq.drewN nq).heap.size (Nat.le_refl _) ((Below.refl _ _).alloc (Nat.le_refl _) _)
          have HR4 := Lib.hid (hr4.mono HB.out.size (Nat.le_refl _))
          have HB4 := Lib.hid (HB.out.trans (hb4'.mono HB.out.size))
          clear hb4 hz4 hr4 hb4' hs0
          go_wp2_with fail
          go_ret2
          rw [HR.out.1, HR.out.2]
          exact ⟨_, rfl, ⟨HR4.out, Nat.le_refl _⟩, HB4.out⟩
        · have d1 : decide (p < 0) = false := decide_eq_false h1
          have d2 : decide (q ≤ p) = true := decide_eq_true h2
          have d3 : decide (p ≥ q) = true := decide_eq_true h2
          clear HPAR h1 h2
          go_wp2_with fail
          go_quiet (fail)
          replace HB := Lib.hid (HBQ.out nq)
          have HXB := Lib.hid (HFI.out _ HB.out)
          have hs0 : (wq.drewN nq).heap.size ≤ ((wq.drewN nq).alloc (.cells #[] 3)).heap.size := by simp
          clear HWQ HBQ HFI hc0 hc1
          go_wp2_with (at_builtin; go_must (refine append_intsA (row_empty (wq.drewN nq)) hs0 HXB.out (by rw [HWN.out]; exact HWL4.out) rfl rfl rfl rfl ?_))
          intro v4 w4 hr4 hb4 hz4
          have hr4 : RowI (wq.drewN nq).heap.size w4.heap.size w4 v4 ws := by simpa using hr4
          have hb4' := hb4 (wq.drewN nq) (wq.drewN nq).heap.size (Nat.le_refl _) ((Below.refl _ _).alloc (Nat.le_refl _) _)
          have HR4 := Lib.hid (hr4.mono HB.out.size (Nat.le_refl _))
          have HB4 := Lib.hid (HB.out.trans (hb4'.mono HB.out.size))
          clear hb4 hz4 hr4 hb4' hs0
          go_wp2_with fail
          go_ret2
          rw [HR.out.1, HR.out.2]
          exact ⟨_, rfl, ⟨HR4.out, Nat.le_refl _⟩, HB4.out⟩
        · have d1 : decide (p < 0) = false := decide_eq_false h1
          have d2 : decide (q ≤ p) = false := decide_eq_false h2
          have d3 : decide ((xn : Int) ≤ q) = true := decide_eq_true h3
          clear HPAR h1 h2 h3
          go_wp2_with fail
          go_quiet (fail)
          replace HB := Lib.hid (HBQ.out nq)
          have HXB := Lib.hid (HFI.out _ HB.out)
          have hs0 : (wq.drewN nq).heap.size ≤ ((wq.drewN nq).alloc (.cells #[] 3)).heap.size := by simp
          clear HWQ HBQ HFI hc0 hc1
          go_wp2_with (at_builtin; go_must (refine append_intsA (row_empty (wq.drewN nq)) hs0 HXB.out (by rw [HWN.out]; exact HWL4.out) rfl rfl rfl rfl ?_))
          intro v4 w4 hr4 hb4 hz4
          have hr4 : RowI (wq.drewN nq).heap.size w4.heap.size w4 v4 ws := by simpa using hr4
          have hb4' := hb4 (wq.drewN nq) (wq.drewN nq).heap.size (Nat.le_refl _) ((Below.refl _ _).alloc (Nat.le_refl _) _)
          have HR4 := Lib.hid (hr4.mono HB.out.size (Nat.le_refl _))
          have HB4 := Lib.hid (HB.out.trans (hb4'.mono HB.out.size))
          clear hb4 hz4 hr4 hb4' hs0
          go_wp2_with fail
          go_ret2
          rw [HR.out.1, HR.out.2]
          exact ⟨_, rfl, ⟨HR4.out, Nat.le_refl _⟩, HB4.out⟩
      · obtain ⟨c, d, ec, ed, hcd, hdl, hrs, he2, he1, hle⟩ := HST.out X k HRS.out (by omega) hp
        rw [ec] at hc0; rw [ed] at hc1
        have HRS2 := Lib.hid hrs
        have HXL2 := Lib.hid (Nat.le_trans hle HXL.out)
        have HXL1 := Lib.hid (show (X.eraseIdx d).length ≤ 1048576 from Nat.le_trans (List.length_eraseIdx_le _ _) HXL.out)
        have HCP := Lib.hid (fun (x : Nat) => (HD1.out X HXL.out (d : Int) _ (wq.drewN x).drew (HX.out.rowB.upE (below_drewN x).drew)))
        have HCP2 := Lib.hid (fun (z : Value) (wx : World) (hz : RowB wx.heap.size wx z (X.eraseIdx d)) => (HD1.out (X.eraseIdx d) HXL1.out (c : Int) z wx hz))
        rw [he1] at HCP he2
        rw [he2] at HCP2
        have HKS := Lib.hid (fun (w2 : World) (hb : Below wq.heap.size wq w2) => (⟨hb, (hb.cell (p := ⟨b, off + k, none⟩) (by show b < wq.heap.size; have := HB.out.size; omega)).trans hc0, (hb.cell (p := ⟨b, off + (k + 1), none⟩) (by show b < wq.heap.size; have := HB.out.size; omega)).trans hc1⟩ : Below wq.heap.size wq w2 ∧ w2.cell? ⟨b, off + k, none⟩ = some (.int .i64 (c : Int)) ∧ w2.cell? ⟨b, off + (k + 1), none⟩ = some (.int .i64 (d : Int))))
        have HBD2 := Lib.hid (fun (x : Nat) => (below_drewN (w := wq) x).drew)
        have d1 : decide ((c : Int) < 0) = false := decide_eq_false (by omega)
        have d2 : decide ((d : Int) ≤ (c : Int)) = false := decide_eq_false (by omega)
        have d3 : decide ((X.length : Int) ≤ (d : Int)) = false := decide_eq_false (by omega)
        have d4 : decide (d ≤ c) = false := decide_eq_false (by omega)
        have d5 : decide (X.length ≤ d) = false := decide_eq_false (by omega)
        clear hp HST HBD HLA HD1 ec ed hcd hdl hrs hle HXL HRS he1 he2 HXL1
        generalize (X.eraseIdx d).eraseIdx c = Y at *
        generalize X.eraseIdx d = Z at *
        generalize X.length = xn at *
        go_wp2_with fail
        go_quiet (fail)
        clear hc0 hc1
        have HCQ := Lib.hid (HCP.out nq)
        have HBE := Lib.hid (HBD2.out nq)
        clear HCP HBD2
        go_wp2_with fail
        go_region_held3 (fun w' => Below wq.heap.size wq w' ∧ w'.cell? ⟨b, off + k, none⟩ = some (.int .i64 (c : Int)) ∧ w'.cell? ⟨b, off + (k + 1), none⟩ = some (.int .i64 (d : Int))) (first | exact HKS.out _ HBE.out | exact HKS.out _ hbW2 | exact HKS.out _ hbW)
          (first
            | (go_at_call 19; refine (HCP2.out z w6 HZ.out).mono ?_; rintro e7 w7 ⟨y, rfl, hy, hb7⟩; have hbW2 : Below wq.heap.size wq w7 := hbW.trans (hb7.mono hbW.size); have HY := Lib.hid (hy.1.mono (Nat.le_trans HB.out.size hbW.size) (Nat.le_refl _)); clear hy hb7)
            | (go_at_call 19; refine HCQ.out.mono ?_; rintro e6 w6 ⟨z, rfl, hz, hb6⟩; have hbW : Below wq.heap.size wq w6 := HBE.out.trans hb6; have HZ := Lib.hid hz.1.rowB; clear hz hb6))
        replace HB := Lib.hid (HB.out.trans (hbW2.mono HB.out.size))
        clear HKS HCQ HBE hbW hbW2 HX HZ HCP2
        go_wp2_with fail
        exact ⟨⟨k + 2, Y, _, rfl, by omega, by go_num, HXL2, HRS2, HY.out, HB.out⟩, by simp [RowKit.intOf]; omega⟩
    · have hd : decide ((k : Int) + 1 < (n : Int)) = false := decide_eq_false (by omega)
      have HR := Lib.hid (HLA.out X k HRS.out (by omega))
      have hm : (n : Int).tmod 2 = ((n % 2 : Nat) : Int) := by rw [Int.tmod_eq_emod_of_nonneg (by omega)]; omega
      have hmz : (((n % 2 : Nat) : Int) == 0) = decide (n % 2 = 0) := by
        by_cases h : n % 2 = 0
        · rw [h]; rfl
        · rw [decide_eq_false h, beq_eq_false_iff_ne]; omega
      clear HST HBD HLA HD1 hl'
      generalize X.length = xn at *
      generalize n % 2 = r at *
      go_wp2_with fail
      go_ret2
      rw [HR.out.1, HR.out.2]
      exact ⟨_, rfl, ⟨HX.out, Nat.le_refl _⟩, HB.out⟩
end Go.Proofs.Ytbmghddmilgngaa
namespace Go.Proofs.Ytbmghddmilgngaa
open Go.RowKit

theorem RowI.block {A B g : Nat} {w : World} {v : Value} {l : List Int} (h : RowI A B w v l) (hg : v.ownBlock = some g) : RowI g (g + 1) w v l := by
  obtain ⟨⟨h1, h2⟩, h3⟩ := h
  refine ⟨⟨h1, ?_⟩, fun k hk => by rw [hg] at hk; have := Option.some.inj hk; omega⟩
  rcases h2 with ⟨rfl, _⟩ | ⟨g', cap, cur, rfl, hb, rest⟩
  · simp [Value.ownBlock] at hg
  · obtain rfl : g' = g := by simpa [Value.ownBlock] using hg
    exact .inr ⟨g', cap, cur, rfl, Nat.le_refl _, rest⟩
theorem RowI.noBlock {A B : Nat} {w : World} {v : Value} {l : List Int} (h : RowI A B w v l) (hg : v.ownBlock = none) : RowI A A w v l :=
  ⟨h.1, fun k hk => by rw [hg] at hk; cases hk⟩
theorem parts_two {A B : Nat} {w : World} {x y : Value} {l1 l2 : List Int} (hx : OwnS A B w x l1) (hy : OwnS A B w y l2) (hap : x.ownBlock = none ∨ x.ownBlock ≠ y.ownBlock) :
    ∃ A1 B1 A2 B2, OwnS A1 B1 w x l1 ∧ OwnS A2 B2 w y l2 ∧ (B1 ≤ A2 ∨ B2 ≤ A1) ∧ A ≤ A1 ∧ A ≤ A2 := by
  cases e1 : x.ownBlock with
  | none =>
    by_cases hAw : A ≤ w.heap.size
    · cases e2 : y.ownBlock with
      | none => exact ⟨A, A, A, A, ⟨hx.1.noBlock e1, hAw⟩, ⟨hy.1.noBlock e2, hAw⟩, .inl (Nat.le_refl _), Nat.le_refl _, Nat.le_refl _⟩
      | some b =>
        have hb := hy.1.1.lt b e2
        exact ⟨A, A, b, b + 1, ⟨hx.1.noBlock e1, hAw⟩, ⟨hy.1.block e2, by omega⟩, .inl hb.1, Nat.le_refl _, hb.1⟩
    · have hBA : B ≤ A := by have := hx.2; omega
      have hy0 : y.ownBlock = none := by
        cases e2 : y.ownBlock with
        | none => rfl
        | some b => exfalso; have h1 := hy.1.1.lt b e2; omega
      exact ⟨A, B, A, B, hx, hy, .inl hBA, Nat.le_refl _, Nat.le_refl _⟩
  | some a =>
    have ha := hx.1.1.lt a e1
    cases e2 : y.ownBlock with
    | none => exact ⟨a, a + 1, A, A, ⟨hx.1.block e1, by omega⟩, ⟨hy.1.noBlock e2, by omega⟩, .inr ha.1, ha.1, Nat.le_refl _⟩
    | some b =>
      have hb := hy.1.1.lt b e2
      have hne : a ≠ b := fun e => by
        rcases hap with h | h
        · rw [e1] at h; cases h
        · exact h (by rw [e1, e2, e])
      refine ⟨a, a + 1, b, b + 1, ⟨hx.1.block e1, by omega⟩, ⟨hy.1.block e2, by omega⟩, ?_, ha.1, hb.1⟩
      omega
theorem rdS_lens (m : List (List Int)) : ∀ (k : Nat) (X O : List Int), (rdS m k X O).1.length ≤ X.length ∧ (rdS m k X O).2.length ≤ O.length + 2 * k
  | 0, X, O => ⟨Nat.le_refl _, Nat.le_refl _⟩
  | k + 1, X, O => by
    unfold rdS
    cases h : dlP m X with
    | none => exact ⟨Nat.le_refl _, by show O.length ≤ _; omega⟩
    | some p =>
      have h1 := rdS_lens m k (delL (delL X (p.2 : Int)) (p.1 : Int)) (O ++ [(p.1 : Int), (p.2 : Int)])
      have h2 := delL_le (delL X (p.2 : Int)) (p.1 : Int)
      have h3 := delL_le X (p.2 : Int)
      have h4 : (O ++ [(p.1 : Int), (p.2 : Int)]).length = O.length + 2 := by rw [List.length_append]; rfl
      refine ⟨?_, ?_⟩
      · show (rdS m k _ _).1.length ≤ _
        exact Nat.le_trans h1.1 (Nat.le_trans h2 h3)
      · show (rdS m k _ _).2.length ≤ _
        have := h1.2; omega
end Go.Proofs.Ytbmghddmilgngaa
namespace Go.Proofs.Ytbmghddmilgngaa
open Go.ChangeShapes Go.WideShapes Go.ChangeAt Go.ChangeMaps Go.RowKit

set_option maxRecDepth 100000 in
theorem row_open {H : Type} {enc : TypeId × Value → H} {W : World} {base : Nat} {v : Value} {d : DataW H} {ps : List MemPlace} (hval : Value.okWide Try.prog W .any base 25 v)
    (h : DataW.Trod enc Try.prog W 0 (fun _ => true) true 25 v d ps) : ∃ l : List Int, RowB W.heap.size W v l ∧ l.length ≤ maxLen := by
  obtain ⟨a0, len, cap, rfl⟩ := okWide_slice Try.underlying25 hval
  obtain ⟨fuel, hf⟩ := h
  have ce : Try.prog.cellsOf 3 = 1 := by kernel_rfl
  rcases open_ints Try.underlying25 Try.underlying3 ce hf with ⟨hcs, _⟩ | ⟨a, len', cap', zs, hcs, _, hl, hm, hz, _, hc, _⟩
  · simp [Value.cells] at hcs
    obtain ⟨rfl, rfl, rfl⟩ := hcs
    exact ⟨[], Or.inl ⟨rfl, none, 0, rfl⟩, Nat.zero_le _⟩
  · simp [Value.cells] at hcs
    obtain ⟨rfl, rfl, rfl⟩ := hcs
    have hz' : zs.length = cap := by simpa using hz
    refine ⟨zs.take len, ?_, by rw [List.length_take]; omega⟩
    by_cases hl0 : len = 0
    · subst hl0
      exact Or.inl ⟨by simp, _, _, rfl⟩
    · obtain ⟨b, off, spot⟩ := a
      have h0 := hc 0 (by omega)
      have hspot : spot = none := by simpa [Addr.add] using World.cell?_spot h0
      subst hspot
      have hb : b < W.heap.size := by
        have := World.block_lt_of_cell? W _ h0
        simpa [Addr.add] using this
      have hlen : (zs.take len).length = len := by rw [List.length_take]; omega
      refine Or.inr ⟨b, off, cap, by rw [hlen], hb, fun j hj => ?_⟩
      have hj' : j < len := by omega
      have hadd : (⟨b, off, none⟩ : Addr).add j = ⟨b, off + j, none⟩ := by unfold Addr.add; split <;> simp_all
      have h1 := hc j (by omega)
      rw [hadd] at h1
      rw [h1]
      simp [List.getD, show j < zs.length by omega]
end Go.Proofs.Ytbmghddmilgngaa
namespace Go.Proofs.Ytbmghddmilgngaa
open Go.ChangeShapes Go.WideShapes Go.ChangeAt Go.ChangeMaps Go.RowKit

section
variable {H : Type} {enc : TypeId × Value → H} {P : Program}

def rowed (P : Program) (ts : List TypeId) : Bool := ts.all fun t => P.readableRec t && decide (t < P.types.size)

theorem stays_all (hl : laidOutB P = true) {W W' : World} (hb : Below W.heap.size W W') (sp : Nat → Bool) :
    ∀ {ts : List TypeId} {vs : List Value} {ds : List (DataW H)} {p : List MemPlace}, rowed P ts = true → (∀ x ∈ p, x.block < W.heap.size) → (∀ x ∈ p, sp x.block = true) →
      DataW.TrodAll enc P W 0 (fun _ => true) true ts vs ds p → DataW.TrodAll enc P W' 0 sp true ts vs ds p
  | [], _, _, _, _, _, _, h => by
    obtain ⟨rfl, rfl, rfl⟩ := trodAll_nil h
    rfl
  | t :: ts, _, _, _, hr, hlt, hs, h => by
    obtain ⟨v, vs', d, ds', p, q, rfl, rfl, rfl, h1, h2⟩ := trodAll_cons h
    simp only [rowed, List.all_cons, Bool.and_eq_true, decide_eq_true_eq] at hr
    have hp : ∀ x ∈ p, x.block < W.heap.size := fun x hx => hlt x (by simp [hx])
    refine ⟨p, q, WideElems.Trod_stays hl hr.1.1 hr.1.2 h1 (fun x hx => hb.same (hp x hx)) (fun x hx => hs x (by simp [hx])), ?_, rfl⟩
    exact stays_all hl hb sp (ts := ts) hr.2 (fun x hx => hlt x (by simp [hx])) (fun x hx => hs x (by simp [hx])) h2

/-- What a law leaves behind: it answered true, and below the old heap's end nothing has turned. -/
theorem law_post {f : Func} {s : ChangeSpec} {W W' : World} {args : Array Value} {ds gs : List (DataW H)} {before : List MemPlace} {tb : TypeId}
    (hl : laidOutB P = true) (hr : rowed P f.params.toList = true) (hv : s.vars = []) (hres : f.resultTypes = #[tb]) (htb : P.underlying tb = some .bool)
    (hW : DataW.Whole enc P f.params.toList s.vars false W args.toList ds gs before)
    (hfn : s.fn H (ds ++ gs) = { results := [.lit (.bool true)], args := ds }) (hb : Below W.heap.size W W') :
    s.post enc P f false true false false W args (.bool true) W' := by
  have hlt : ∀ p ∈ before, p.block < W.heap.size := fun p hp => hW.lt p hp
  have hW0 := hW
  obtain ⟨p, q, hA, hV, rfl, hz, -⟩ := hW
  rw [hv] at hV
  obtain ⟨rfl, rfl⟩ := trodVars_none hV
  have hrl : (Value.bool true).resultList f.resultTypes.size = [.bool true] := by rw [hres]; rfl
  have hR : ∀ (b : Nat) (sp : Nat → Bool) (hd : Bool), DataW.TrodAll enc P W' b sp hd f.resultTypes.toList ((Value.bool true).resultList f.resultTypes.size) (s.fn H (ds ++ [])).results [] := by
    intro b sp hd
    rw [hrl, hres, hfn]
    exact trodAll_mk1 (shut_bool htb true)
  have hA' : ∀ sp : Nat → Bool, (∀ x ∈ p, sp x.block = true) → DataW.TrodAll enc P W' 0 sp true f.params.toList args.toList (s.fn H (ds ++ [])).args p := by
    intro sp hs
    rw [hfn]
    exact stays_all hl hb sp hr (fun x hx => hlt x (by simp [hx])) hs hA
  have hV' : ∀ sp : Nat → Bool, DataW.TrodVars enc P W' sp s.vars (s.fn H (ds ++ [])).vars [] := by
    intro sp
    rw [hfn, hv]
    rfl
  refine ⟨ds, [], p ++ [], [], p, [], hW0, hR _ _ _, hA' _ (fun x hx => by simpa using hlt x (by simp [hx])), hV' _, World.keptBut_mono (fun x hx => ?_) (hb.frame (· ∈ p ++ [])), fun h => by cases h⟩
  exact ⟨hx, Or.inr (Or.inl (by simpa using hx))⟩
end
end Go.Proofs.Ytbmghddmilgngaa
namespace Go.Proofs.Ytbmghddmilgngaa
theorem seat_own : ownKnob Try.prog.godebug = none := by kernel_rfl
theorem seat_laidOut : laidOutB Try.prog = true := by kernel_rfl
end Go.Proofs.Ytbmghddmilgngaa
