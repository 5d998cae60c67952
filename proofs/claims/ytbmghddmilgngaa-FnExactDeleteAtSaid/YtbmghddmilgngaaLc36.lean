/-
  Exchange and deletion: what the program's ReduceByDeletion returns.
  Exchange and deletion: what ReplayDeletions returns, the model's and the program's.
-/
import Derived.Test.YtbmghddmilgngaaLc35
import Derived.Test.YtbmghddmilgngaaLc31
namespace Go.Proofs.Ytbmghddmilgngaa
open Go.RowKit

def lenV : Value → Nat | .slice _ n _ => n | _ => 0
/-- A list that is read, apart from a row of the call's own. -/
def Ap (X : List Int) (x o : Value) : Prop := X = [] ∨ ∀ g, x.ownBlock = some g → o.ownBlock ≠ some g
theorem ap_new {X X' : List Int} {x x' o : Value} {C : Nat} (h : Ap X x o) (hX : X ≠ []) (hx : ∀ g, x'.ownBlock = some g → x.ownBlock = some g ∨ C ≤ g) (ho : ∀ g, o.ownBlock = some g → g < C) : Ap X' x' o := by
  rcases h with h | h
  · exact absurd h hX
  · refine .inr fun g hg e => ?_
    rcases hx g hg with h1 | h1
    · exact h g h1 e
    · have := ho g e; omega
theorem ap_put {X : List Int} {x o o' : Value} {C : Nat} {w : World} (h : Ap X x o) (hx : RowB C w x X) (ho : ∀ g, o'.ownBlock = some g → o.ownBlock = some g ∨ C ≤ g) : Ap X x o' := by
  rcases h with h | h
  · exact .inl h
  · rcases hx with ⟨h0, _⟩ | ⟨b, off, cap, rfl, hb, _⟩
    · exact .inl h0
    · refine .inr fun g hg e => ?_
      obtain rfl : b = g := by simpa [Value.ownBlock] using hg
      rcases ho b e with h1 | h1
      · exact h b rfl h1
      · omega
theorem RowB.apart {B : Nat} {w w' : World} {X : List Int} {x o : Value} (h : RowB B w x X) (hB : B ≤ w.heap.size) (hg : w.grownBy w' o.ownBlock) (ha : Ap X x o) : RowB B w' x X := by
  rcases h with h | ⟨b, off, cap, rfl, hb, hc⟩
  · exact .inl h
  · refine .inr ⟨b, off, cap, rfl, hb, fun j hj => ?_⟩
    rcases ha with h0 | h0
    · rw [h0] at hj; simp at hj
    · rw [← hc j hj]
      have hbk : w'.heap[b]? = w.heap[b]? := hg.block b (by omega) (fun e => h0 b rfl e.symm)
      unfold World.cell?
      simp only
      rw [hbk]
set_option maxHeartbeats 4000000 in
set_option maxRecDepth 100000 in
theorem rbdi_e (v vw : Value) (m : List (List Int)) (ws : List Int) (w : World) (h : MatB w.heap.size w v m) (hr : RowB w.heap.size w vw ws) (hv : Roomy vw) (hf : RowsFit m) (hl : ws.length ≤ 1048576) :
    Calls Try.prog 25 #[v, vw] w (MakesSS w (rdS m 15 ws []).1 (rdS m 15 ws []).2) := by
  have HX := Lib.hid h; have HW := Lib.hid hr; have HV := Lib.hid hv
  have HDP := Lib.hid (fun (X : List Int) (hX : X.length ≤ 1048576) (x : Value) (wx : World) (hx : MatB wx.heap.size wx v m) (hy : RowB wx.heap.size wx x X) (hvx : Roomy x) => dpi_e v x m X wx hx hy hvx hf hX)
  have HWP := Lib.hid (fun (X : List Int) (hX : X.length ≤ 1048576) (a b : Nat) (hab : a < b) (hb : b < X.length) (x : Value) (wx : World) (hy : RowB wx.heap.size wx x X) (hvx : Roomy x) => wop_e x X a b wx hy hvx hab hb hX)
  have HCL := Lib.hid (fun (X : List Int) (hX : X.length ≤ 1048576) (x : Value) (wx : World) (hy : RowB wx.heap.size wx x X) => clone_any _ x X wx hy (Nat.le_refl _) hX)
  have HIT := Lib.hid (fun (X O : List Int) (T : List Int × List Int) (t : Nat) (h : dlB m X = true) (hl : t = 0 ∨ X.length + 2 * t ≤ 15) (hT : rdS m (15 - t) X O = T) => rd_hit h hl hT)
  have HMI := Lib.hid (fun (X O : List Int) (T : List Int × List Int) (k : Nat) (h : dlB m X = false) (hT : rdS m k X O = T) => rd_miss h hT)
  obtain ⟨T, hT⟩ : ∃ T, rdS m 15 ws [] = T := ⟨_, rfl⟩
  rw [hT]
  have HT0 := Lib.hid hT
  have HL0 := Lib.hid hl
  have HB := Lib.hid (Below.refl w.heap.size w)
  clear h hr hv hf hl hT
  go_enter Try.func25, Try.ntmps25
  go_wp2_with fail
  go_loopw [6, 7] (fun x o wr => ∃ (t : Nat) (X O : List Int) (wq : World), wq = wr ∧ Hid (t = 0 ∨ X.length + 2 * t ≤ 15) ∧ Hid (X.length ≤ 1048576) ∧ Hid (O.length ≤ 2 * t) ∧ Hid (rdS m (15 - t) X O = T) ∧ RowB wq.heap.size wq x X ∧ Roomy x ∧ RowI w.heap.size wq.heap.size wq o O ∧ Ap X x o ∧ Below w.heap.size w wq) (fun x _ _ => lenV x)
  case atStart => exact ⟨0, ws, [], _, rfl, Lib.hid (.inl rfl), HL0, Lib.hid (by simp), HT0, HW.out, HV.out, RowI.nil' _ _ _, .inr (fun g _ h => by simp [Value.ownBlock] at h), HB.out⟩
  case round =>
    obtain ⟨t, X, O, wq, rfl, HTL, HXL, HOL, HTT, hR, hV, hO, hA, hb⟩ := hrel
    clear HW HV HB
    have HR := Lib.hid hR; have HRV := Lib.hid hV; have HO := Lib.hid hO; have HAP := Lib.hid hA; have HB := Lib.hid hb
    clear hV hO hA hb
    obtain ⟨xa, xcap, rfl⟩ := hR.slice
    clear hR
    have HC := Lib.hid (HDP.out X HXL.out _ wq ((HX.out.below HB.out (Nat.le_refl _)).mono HB.out.size) HR.out HRV.out)
    cases hdl : dlB m X
    · have HTV := Lib.hid (HMI.out X O T (15 - t) hdl HTT.out)
      rw [hdl] at HC
      have HCX := Lib.hid (fun (x : Value) (wx : World) (hy : RowB wx.heap.size wx x X) => HCL.out X HXL.out x wx hy)
      clear hdl HIT HMI HWP HTT HCL
      generalize X.length = xn at *
      go_wp2_with fail
      refine HC.out.mono ?_
      rintro e w4 ⟨rfl, hb⟩
      replace HR := Lib.hid (HR.out.upE hb); replace HO := Lib.hid (HO.out.step hb)
      replace HB := Lib.hid (HB.out.trans (hb.mono HB.out.size))
      clear hb HC
      have HK := Lib.hid (HCX.out _ w4 HR.out)
      clear HCX
      go_wp2_with fail
      refine HK.out.mono ?_
      rintro e w5 ⟨y, rfl, hy, hb⟩
      have HA5 := Lib.hid (apart_of hy.1 HO.out.2 (Nat.le_refl _))
      have HY := Lib.hid (hy.1.mono HB.out.size (Nat.le_refl _))
      replace HO := Lib.hid (HO.out.step hb)
      replace HB := Lib.hid (HB.out.trans (hb.mono HB.out.size))
      clear hy hb HK HR
      go_wp2_with fail
      go_ret2
      exact ⟨_, _, rfl, ⟨by rw [HTV.out]; exact HY.out, Nat.le_refl _⟩, ⟨by rw [HTV.out]; exact HO.out, Nat.le_refl _⟩, HA5.out, HB.out⟩
    · obtain ⟨a, b, e1, e2, hab, hbl, hle1, hle2, hle3, hT2⟩ := HIT.out X O T t hdl HTL.out HTT.out
      rw [hdl, e1, e2] at HC
      have HXN := Lib.hid (show X ≠ [] from fun h => by rw [h] at hbl; simp at hbl)
      have HT2 := Lib.hid hT2
      have HTL2 := Lib.hid (show t + 1 = 0 ∨ ((X.eraseIdx b).eraseIdx a).length + 2 * (t + 1) ≤ 15 from .inr hle3)
      have HXL2 := Lib.hid (show ((X.eraseIdx b).eraseIdx a).length ≤ 1048576 by omega)
      have HOL2 := Lib.hid (show (O ++ [(a : Int), (b : Int)]).length ≤ 2 * (t + 1) by rw [List.length_append]; have := HOL.out; have h2 : [(a : Int), (b : Int)].length = 2 := rfl; omega)
      have HO4 := Lib.hid (show O.length ≤ 4194304 by have := HOL.out; omega)
      have HME := Lib.hid (show ((X.eraseIdx b).eraseIdx a).length < X.length by omega)
      have HCW := Lib.hid (fun (x : Value) (wx : World) (hy : RowB wx.heap.size wx x X) (hvx : Roomy x) => HWP.out X HXL.out a b hab hbl x wx hy hvx)
      clear hdl e1 e2 hab hbl hle1 hle2 hle3 hT2 HTT HIT HMI HWP HTL HOL HCL HXL
      generalize (X.eraseIdx b).eraseIdx a = Y at *
      generalize hxn : X.length = xn at *
      clear hxn
      go_wp2_with fail
      refine HC.out.mono ?_
      rintro e w4 ⟨rfl, hb⟩
      replace HR := Lib.hid (HR.out.upE hb); replace HO := Lib.hid (HO.out.step hb)
      replace HB := Lib.hid (HB.out.trans (hb.mono HB.out.size))
      clear hb HC
      go_wp2_with fail
      refine (HCW.out _ w4 HR.out HRV.out).mono ?_
      rintro e w5 ⟨y, rfl, hy, ⟨hvy, hoy⟩, hb⟩
      have HAP5 := Lib.hid (ap_new (X' := Y) HAP.out HXN.out hoy HO.out.2)
      have HVY := Lib.hid hvy
      obtain ⟨ya, yc, rfl⟩ := hy.slice
      have HY := Lib.hid hy
      replace HO := Lib.hid (HO.out.step hb)
      replace HB := Lib.hid (HB.out.trans (hb.mono HB.out.size))
      clear hb hy hvy hoy HR HRV HAP HCW HXN
      have hs5 := HB.out.size
      generalize hyn : Y.length = yn at *
      go_wp2_with (at_builtin; go_must (refine append_int2P HO.out hs5 rfl (a : Int) (b : Int) rfl rfl rfl rfl HO4.out ?_; intro v8 w8 hr8 hg8 hl8))
      have HR8 := Lib.hid ((RowB.apart HY.out (Nat.le_refl _) hg8 HAP5.out).mono hg8.size)
      have HO8 := Lib.hid hr8
      have HAP8 := Lib.hid (ap_put HAP5.out HY.out hl8)
      have HB8 := Lib.hid (HB.out.grown hg8 hs5 (fun j hj => (HO.out.1.lt j hj).1))
      clear hr8 hg8 hl8
      go_wp2_with fail
      exact ⟨⟨t + 1, Y, _, _, rfl, by rw [hyn]; exact HTL2, by rw [hyn]; exact HXL2, HOL2, HT2, HR8.out, HVY.out, HO8.out, HAP8.out, HB8.out⟩, by have := HME.out; simp [lenV]; omega⟩
end Go.Proofs.Ytbmghddmilgngaa
namespace Go.Proofs.Ytbmghddmilgngaa
open Go.RowKit

theorem quiet_one10 {P : Program} {f : FuncId} {args : Array Value} {w : World} {v : Value} (h : ∀ x, Calls P f args (w.drewN x) fun e w' => e = .returned v ∧ ∃ m, w' = (w.drewN x).drewN m) (n : Nat) :
    Calls P f args (w.drewN n) fun e w'' => e = .returned v ∧ ∃ m, w'' = w.drewN m :=
  (h n).mono fun _ _ ⟨he, m, hm⟩ => ⟨he, n + m, by rw [hm, World.drewN_drewN]⟩
/-- One pair is played. -/
theorem rp_step {ws l X : List Int} {k : Nat} (h : rpS X (l.drop k) = rpS ws l) (hk : k + 1 < l.length) (hp : pairB X.length (l.getD k 0) (l.getD (k + 1) 0) = true) : ∃ a b : Nat, l.getD k 0 = (a : Int) ∧ l.getD (k + 1) 0 = (b : Int) ∧ a < b ∧ b < X.length ∧ rpS ((X.eraseIdx b).eraseIdx a) (l.drop (k + 2)) = rpS ws l ∧ delL (delL X (b : Int)) (a : Int) = (X.eraseIdx b).eraseIdx a ∧ delL X (b : Int) = X.eraseIdx b ∧ ((X.eraseIdx b).eraseIdx a).length ≤ X.length := by
  have hp := of_decide_eq_true hp
  have h2 := rpS_two (X := X) hk
  rw [h] at h2
  obtain ⟨a, ha⟩ : ∃ a : Nat, l.getD k 0 = (a : Int) := ⟨(l.getD k 0).toNat, by omega⟩
  obtain ⟨b, hb⟩ : ∃ b : Nat, l.getD (k + 1) 0 = (b : Int) := ⟨(l.getD (k + 1) 0).toNat, by omega⟩
  rw [ha, hb] at h2 hp
  have hbl : b < X.length := by omega
  have e1 : delL X (b : Int) = X.eraseIdx b := delL_nat hbl
  have e2 : delL (delL X (b : Int)) (a : Int) = (X.eraseIdx b).eraseIdx a := by rw [e1, delL_nat (by rw [List.length_eraseIdx, if_pos hbl]; omega)]
  rw [if_neg (by omega), e2] at h2
  exact ⟨a, b, ha, hb, by omega, hbl, h2.symm, e2, e1, Nat.le_trans (List.length_eraseIdx_le _ _) (List.length_eraseIdx_le _ _)⟩
theorem rp_bad {ws l X : List Int} {k : Nat} (h : rpS X (l.drop k) = rpS ws l) (hk : k + 1 < l.length) (hp : pairB X.length (l.getD k 0) (l.getD (k + 1) 0) = false) : rpL ws l = ws ∧ rpB ws l = false := by
  have hp := of_decide_eq_false hp
  have h2 := rpS_two (X := X) hk
  rw [h, if_pos (by omega)] at h2
  exact rp_none h2
theorem rp_last {ws l X : List Int} {k : Nat} (h : rpS X (l.drop k) = rpS ws l) (hk : ¬ k + 1 < l.length) : rpL ws l = X ∧ rpB ws l = decide (l.length % 2 = 0) := by
  rw [rpS_few hk] at h
  exact rp_some h.symm
/-- Two neighbours of a row. -/
theorem RowB.two {B : Nat} {w : World} {a : Option Addr} {n cap : Nat} {l : List Int} (h : RowB B w (.slice a n cap) l) {k : Nat} (hk : k + 1 < n) :
    ∃ b off, a = some ⟨b, off, none⟩ ∧ b < B ∧ w.cell? ⟨b, off + k, none⟩ = some (.int .i64 (l.getD k 0)) ∧ w.cell? ⟨b, off + (k + 1), none⟩ = some (.int .i64 (l.getD (k + 1) 0)) := by
  rcases h with ⟨_, a', c, e⟩ | ⟨b, off, c, e, hb, hc⟩
  · injection e with e1 e2 e3; omega
  · injection e with e1 e2 e3
    subst e1; subst e2
    refine ⟨b, off, rfl, hb, ?_, ?_⟩
    · rw [hc k (by omega)]; simp [List.getD, show k < l.length by omega]
    · rw [hc (k + 1) hk]; simp [List.getD, hk]
set_option maxHeartbeats 4000000 in
set_option maxRecDepth 100000 in
theorem rpyi_e (v vl : Value) (ws l : List Int) (w : World) (h : RowB w.heap.size w v ws) (h' : RowB w.heap.size w vl l) (hv : Roomy v) (hw : ws.length ≤ 1048576) (hl : l.length ≤ 1048576) :
    Calls Try.prog 28 #[v, vl] w (MakesS2 w (rpL ws l) (.bool (rpB ws l))) := by
  have HW := Lib.hid h; have HL := Lib.hid h'; have HV := Lib.hid hv
  have HWP := Lib.hid (fun (X : List Int) (hX : X.length ≤ 1048576) (a b : Nat) (hab : a < b) (hb : b < X.length) (x : Value) (wx : World) (hy : RowB wx.heap.size wx x X) (hvx : Roomy x) => wop_e x X a b wx hy hvx hab hb hX)
  have HCL := Lib.hid (fun (X : List Int) (hX : X.length ≤ 1048576) (x : Value) (wx : World) (hy : RowB wx.heap.size wx x X) => clone_any _ x X wx hy (Nat.le_refl _) hX)
  have HCW := Lib.hid (fun (wx : World) (hy : RowB wx.heap.size wx v ws) => cloi_any _ v ws wx hy (Nat.le_refl _) hw)
  have HST := Lib.hid (fun (X : List Int) (k : Nat) (h : rpS X (l.drop k) = rpS ws l) (hk : k + 1 < l.length) (hp : pairB X.length (l.getD k 0) (l.getD (k + 1) 0) = true) => rp_step h hk hp)
  have HBD := Lib.hid (fun (X : List Int) (k : Nat) (h : rpS X (l.drop k) = rpS ws l) (hk : k + 1 < l.length) (hp : pairB X.length (l.getD k 0) (l.getD (k + 1) 0) = false) => rp_bad h hk hp)
  have HLA := Lib.hid (fun (X : List Int) (k : Nat) (h : rpS X (l.drop k) = rpS ws l) (hk : ¬ k + 1 < l.length) => rp_last h hk)
  have HWL := Lib.hid hw
  have HB := Lib.hid (Below.refl w.heap.size w)
  have H0 := Lib.hid (show rpS ws (l.drop 0) = rpS ws l by rw [List.drop_zero])
  obtain ⟨la, lcap, rfl⟩ := h'.slice
  obtain ⟨va, vcap, rfl⟩ := h.slice
  clear h h' hv hw
  generalize rpL ws l = RL at *
  generalize rpB ws l = RB at *
  generalize rpS ws l = RS at *
  generalize hn : l.length = n at *
  have HNL := Lib.hid hn; clear hn
  generalize hwn : ws.length = wn at *
  have HWN := Lib.hid hwn; clear hwn
  go_enter Try.func28, Try.ntmps28
  go_wp2_with fail
  go_loopw [6, 7] (fun x o wr => ∃ (k : Nat) (X : List Int) (wq : World), wq = wr ∧ k ≤ n ∧ o = .int .i64 k ∧ Hid (X.length ≤ 1048576) ∧ Hid (rpS X (l.drop k) = RS) ∧ RowB wq.heap.size wq x X ∧ Roomy x ∧ RowB wq.heap.size wq (.slice va wn vcap) ws ∧ RowB wq.heap.size wq (.slice la n lcap) l ∧ Below w.heap.size w wq) (fun _ o _ => n - (RowKit.intOf o).toNat)
  case atStart => exact ⟨0, ws, _, rfl, Nat.zero_le _, rfl, Lib.hid (by rw [HWN.out]; exact HWL.out), H0, HW.out, HV.out, HW.out, HL.out, HB.out⟩
  case round =>
    obtain ⟨k, X, wq, rfl, hk, rfl, HXL, HRS, hx, hvx, hw', hl', hb⟩ := hrel
    clear HW HL HB H0
    have HX := Lib.hid hx; have HXV := Lib.hid hvx; have HW := Lib.hid hw'; have HL := Lib.hid hl'; have HB := Lib.hid hb
    clear hvx hw' hb
    have hwk : IntKind.i64.wrap ((k : Int) + 1) = (k : Int) + 1 := by rw [IntKind.wrap_i64]; omega
    obtain ⟨xa, xcap, rfl⟩ := hx.slice
    clear hx
    by_cases hlt : k + 1 < n
    · have hd : decide ((k : Int) + 1 < (n : Int)) = true := decide_eq_true (by omega)
      obtain ⟨b, off, rfl, hbs, hc0, hc1⟩ := hl'.two hlt
      have HPR := Lib.hid (fun (x : Nat) => (hpr_e xa X.length xcap (l.getD k 0) (l.getD (k + 1) 0) (wq.drewN x)).mono (R' := fun e w' => e = .returned (.bool (pairB X.length (l.getD k 0) (l.getD (k + 1) 0))) ∧ ∃ m, w' = (wq.drewN x).drewN m) fun e w' ⟨h1, h2⟩ => ⟨h1, 0, h2⟩)
      have hwk2 : IntKind.i64.wrap ((k : Int) + 2) = (k : Int) + 2 := by rw [IntKind.wrap_i64]; omega
      have hk0 : (0 : Int) ≤ (k : Int) := by omega
      have hkn : (k : Int) < (n : Int) := by omega
      have hk1 : (0 : Int) ≤ (k : Int) + 1 := by omega
      have hk2 : (k : Int) + 1 < (n : Int) := by omega
      have hk3 : ((k : Int) + 1).toNat = k + 1 := by omega
      clear hl'
      cases hp : pairB X.length (l.getD k 0) (l.getD (k + 1) 0)
      · have HR := Lib.hid (HBD.out X k HRS.out (by omega) hp)
        rw [hp] at HPR
        have HWQ := Lib.hid (fun (x : Nat) => HW.out.upE (below_drewN x))
        have HBQ := Lib.hid (fun (x : Nat) => HB.out.trans ((below_drewN (w := wq) x).mono HB.out.size))
        clear hp HST HBD HLA HWP HCL
        generalize l.getD k 0 = p at *
        generalize l.getD (k + 1) 0 = q at *
        generalize X.length = xn at *
        go_wp2_with fail
        go_quiet ((go_at_call 60; exact quiet_one10 HPR.out _))
        have HK := Lib.hid (HCW.out _ (HWQ.out nq))
        replace HB := Lib.hid (HBQ.out nq)
        clear HWQ HBQ HCW HPR hc0 hc1
        go_wp2_with fail
        refine HK.out.mono ?_
        rintro e w5 ⟨y, rfl, hy, hb⟩
        have HY := Lib.hid (hy.1.mono HB.out.size (Nat.le_refl _))
        replace HB := Lib.hid (HB.out.trans (hb.mono HB.out.size))
        clear hy hb HK
        go_wp2_with fail
        go_ret2
        rw [HR.out.1, HR.out.2]
        exact ⟨_, rfl, ⟨HY.out, Nat.le_refl _⟩, HB.out⟩
      · obtain ⟨c, d, ec, ed, hcd, hdl, hrs, _, _, hle⟩ := HST.out X k HRS.out (by omega) hp
        rw [hp, ec, ed] at HPR
        rw [ec] at hc0; rw [ed] at hc1
        have HRS2 := Lib.hid hrs
        have HXL2 := Lib.hid (Nat.le_trans hle HXL.out)
        have HCP := Lib.hid (fun (x : Nat) => HWP.out X HXL.out c d hcd hdl _ (wq.drewN x).drew (HX.out.upE (below_drewN x).drew) HXV.out)
        have HKS := Lib.hid (fun (w2 : World) (hb : Below wq.heap.size wq w2) => (⟨hb, (hb.cell (p := ⟨b, off + k, none⟩) hbs).trans hc0, (hb.cell (p := ⟨b, off + (k + 1), none⟩) hbs).trans hc1⟩ : Below wq.heap.size wq w2 ∧ w2.cell? ⟨b, off + k, none⟩ = some (.int .i64 (c : Int)) ∧ w2.cell? ⟨b, off + (k + 1), none⟩ = some (.int .i64 (d : Int))))
        have HBD2 := Lib.hid (fun (x : Nat) => (below_drewN (w := wq) x).drew)
        clear hp HST HBD HLA HWP HCL ec ed hcd hdl hrs hle HXL HRS
        generalize (X.eraseIdx d).eraseIdx c = Y at *
        generalize X.length = xn at *
        go_wp2_with fail
        go_quiet ((go_at_call 60; exact quiet_one10 HPR.out _))
        clear hc0 hc1 HPR
        have HCQ := Lib.hid (HCP.out nq)
        have HBE := Lib.hid (HBD2.out nq)
        clear HCP HBD2
        go_wp2_with fail
        go_region_held3 (fun w' => Below wq.heap.size wq w' ∧ w'.cell? ⟨b, off + k, none⟩ = some (.int .i64 (c : Int)) ∧ w'.cell? ⟨b, off + (k + 1), none⟩ = some (.int .i64 (d : Int))) (first | exact HKS.out _ HBE.out | exact HKS.out _ hbW)
          (first
            | (go_at_call 56; refine HCQ.out.mono ?_; rintro e6 w6 ⟨y, rfl, hy, ⟨hvy, _⟩, hb6⟩; have hbW : Below wq.heap.size wq w6 := HBE.out.trans hb6; have HY := Lib.hid hy; have HVY := Lib.hid hvy; clear hy hvy hb6))
        replace HW := Lib.hid (HW.out.upE hbW); replace HL := Lib.hid (HL.out.upE hbW)
        replace HB := Lib.hid (HB.out.trans (hbW.mono HB.out.size))
        clear HKS HCQ HBE hbW HX HXV
        go_wp2_with fail
        exact ⟨⟨k + 2, Y, _, rfl, by omega, by go_num, HXL2, HRS2, HY.out, HVY.out, HW.out, HL.out, HB.out⟩, by simp [RowKit.intOf]; omega⟩
    · have hd : decide ((k : Int) + 1 < (n : Int)) = false := decide_eq_false (by omega)
      have HR := Lib.hid (HLA.out X k HRS.out (by omega))
      have HK := Lib.hid (HCL.out X HXL.out _ wq HX.out)
      have hm : (n : Int).tmod 2 = ((n % 2 : Nat) : Int) := by rw [Int.tmod_eq_emod_of_nonneg (by omega)]; omega
      have hmz : (((n % 2 : Nat) : Int) == 0) = decide (n % 2 = 0) := by
        by_cases h : n % 2 = 0
        · rw [h]; rfl
        · rw [decide_eq_false h, beq_eq_false_iff_ne]; omega
      clear HST HBD HLA HWP HCL hl'
      generalize X.length = xn at *
      generalize n % 2 = r at *
      go_wp2_with fail
      refine HK.out.mono ?_
      rintro e w5 ⟨y, rfl, hy, hb⟩
      have HY := Lib.hid (hy.1.mono HB.out.size (Nat.le_refl _))
      replace HB := Lib.hid (HB.out.trans (hb.mono HB.out.size))
      clear hy hb HK
      go_wp2_with fail
      go_ret2
      rw [HR.out.1, HR.out.2]
      exact ⟨_, rfl, ⟨HY.out, Nat.le_refl _⟩, HB.out⟩
end Go.Proofs.Ytbmghddmilgngaa
