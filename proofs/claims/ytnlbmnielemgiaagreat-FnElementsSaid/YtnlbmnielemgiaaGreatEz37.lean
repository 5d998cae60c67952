/-
  Lengths: what the program's OrderOfElement returns (printed by mk_rog.py).
  Plain facts on numbers and bytes (no program): bit operations on small numbers.
-/
import Derived.Test.YtnlbmnielemgiaaGreatEz29
import Derived.Test.YtnlbmnielemgiaaGreatEz21
import Derived.Test.YtnlbmnielemgiaaGreatEz36
import Derived.WalkKit
import Derived.Laws.Bits64b
import Derived.Laws.Bits128
import Derived.Laws.BitsAllLaws
namespace Go.Proofs.YtnlbmnielemgiaaGreat
open Go.RowKit

set_option maxHeartbeats 4000000 in
set_option maxRecDepth 100000 in
theorem ordi_yes (B B' : Nat) (v v' : Value) (m : List (List Int)) (ws : List Int) (w : World) (h : MatB B w v m) (h' : RowB B' w v' ws) (hB : B ≤ w.heap.size) (hB' : B' ≤ w.heap.size) (hf : RowsFit m) (hw : ws.length ≤ 1048576) (hW : IsW m ws) (fin : Bool) (hfin : finB m = fin) (hgo : (decide (7 < (nrmL m ws).length) && !fin) = false) :
    Calls Tryz.prog 30 #[v, v'] w fun e w' => e = .returned (.int .i64 (ordS m (nrmL m ws) 60 1 (imgW m ws))) ∧ Below w.heap.size w w' := by
  have HN := Lib.hid (nrmi_any B B' v v' m ws w h h' hB hB' hf hw)
  rw [wordB_yes hW] at HN
  have HFN := Lib.hid (fun (wx : World) (hb : Below w.heap.size w wx) => fini_any B v m wx (h.below hb hB) (Nat.le_trans hB hb.size) hf)
  rw [hfin] at HFN
  have hx15 : (nrmL m ws).length ≤ 15 := Nat.le_trans (nrm_le hW).1 hW.2.2
  have hxl := (nrm_word hW).1
  have hI := hW.2.1
  have HPS := Lib.hid (pow_start hW)
  have HIO := Lib.hid (fun (x : Value) (wx : World) (hb : Below w.heap.size w wx) (hx : RowB wx.heap.size wx x (nrmL m ws)) => show Calls Tryz.prog 42 #[v, x] wx fun e w' => e = .returned (imV (imgW m ws)) ∧ Below wx.heap.size wx w' from by
    have := iorho_any B wx.heap.size v x m (nrmL m ws) wx (h.below hb hB) hx (Nat.le_trans hB hb.size) (Nat.le_refl _) hf hI hxl (by omega)
    rw [nrm_img hW] at this; exact this)
  have HML := Lib.hid (fun (p : List Int) (hp : PowI m (nrmL m ws) p) (wx : World) (hb : Below w.heap.size w wx) => show Calls Tryz.prog 59 #[v, imV p] wx fun e w' => e = .returned (.int .i64 (frmI m 31 p).length) ∧ Below wx.heap.size wx w' from by
    obtain ⟨L, hr⟩ := hp.ret
    exact iml_any B v m p L wx (h.below hb hB) (Nat.le_trans hB hb.size) hI hr)
  have HAC := Lib.hid (fun (p : List Int) (hp : PowI m (nrmL m ws) p) (G : Nat) (x : Value) (wx : World) (hb : Below w.heap.size w wx) (hG : w.heap.size ≤ G) (hi : Im4 wx G p) (hx : RowN G wx.heap.size wx x (nrmL m ws)) => acim_any B G v x m (nrmL m ws) p wx (h.below hb hB) hx hi (Nat.le_trans hB hG) hI hxl (by omega) hp.len)
  have HNX := Lib.hid (fun (p : List Int) (hp : PowI m (nrmL m ws) p) (h15 : (frmI m 31 p).length ≤ 15) => pow_next hI hxl hx15 hp h15)
  have HZ := Lib.hid (fun k p => ordS_zero m (nrmL m ws) k p)
  have HO1 := Lib.hid (fun (f k : Nat) (p : List Int) (h : (frmI m 31 p).length = 0) => ordS_one (m := m) (x := nrmL m ws) (f := f) (k := k) h)
  have HOF := Lib.hid (fun (f k : Nat) (p : List Int) (h : 15 < (frmI m 31 p).length) => ordS_far (m := m) (x := nrmL m ws) (f := f) (k := k) h)
  have HOM := Lib.hid (fun (f k : Nat) (p : List Int) (h0 : (frmI m 31 p).length ≠ 0) (h : ¬ 15 < (frmI m 31 p).length) => ordS_more (m := m) (x := nrmL m ws) (f := f) (k := k) h0 h)
  have hgo' := hgo
  generalize nrmL m ws = x at *
  generalize hR : ordS m x 60 1 (imgW m ws) = R at *
  have HR0 := Lib.hid hR; clear hR
  obtain ⟨a, cap, rfl⟩ := h.slice
  obtain ⟨a', cap', rfl⟩ := h'.slice
  clear h h' hf hW hxl hfin hgo hI
  generalize ws.length = nw at *
  have HX15 := Lib.hid hx15
  generalize hxn : x.length = xn at *
  have HXN := Lib.hid hxn; clear hxn
  obtain ⟨x0, x1, x2, x3, hv, hp⟩ := imV_parts (imgW m ws)
  rw [hv] at HIO
  have HPD := Lib.hid hp
  clear hv hp
  go_enter Tryz.func30, Tryz.ntmps30
  go_wp2_with fail
  refine HN.out.mono ?_
  rintro e w1 ⟨xv, rfl, ⟨hx, _⟩, hb1⟩
  obtain ⟨xa, xcap, rfl⟩ := hx.slice
  have HB1 := Lib.hid hb1
  have HXR := Lib.hid hx.rowB
  rw [HXN.out] at HXR ⊢
  have HFC := Lib.hid (HFN.out w1 hb1)
  clear hx hb1 HN HFN
  by_cases h7 : 7 < xn
  · have hd7 : decide (7 < xn) = true := decide_eq_true h7
    have hq7 : (7 : Int) < (xn : Int) := by omega
    have hr7 : decide ((7 : Int) < (xn : Int)) = true := decide_eq_true hq7
    have hft : fin = true := by cases fin with
      | true => rfl
      | false => rw [hd7] at hgo'; exact absurd hgo' (by simp)
    subst hft
    clear hgo' h7
    go_wp2_with fail
    refine HFC.out.mono ?_
    rintro e w2 ⟨rfl, hb2⟩
    have HBZ := Lib.hid (HB1.out.trans (hb2.mono HB1.out.size))
    have HXZ := Lib.hid ((HXR.out.below hb2 (Nat.le_refl _)).mono hb2.size)
    clear hb2 HFC HXR
    have HIC := Lib.hid (HIO.out _ w2 HBZ.out HXZ.out)
    clear HIO
    go_wp2_with fail
    refine HIC.out.mono ?_
    rintro e w3 ⟨rfl, hb3⟩
    have HB3 := Lib.hid (HBZ.out.trans (hb3.mono HBZ.out.size))
    have HX3 := Lib.hid ((HXZ.out.below hb3 (Nat.le_refl _)).mono hb3.size)
    have HI4 := Lib.hid (Im4.new (w := w3) HPD.out)
    have hb4 : Below w3.heap.size w3 (w3.alloc (.cells #[.int .i64 x0, .int .i64 x1, .int .i64 x2, .int .i64 x3] 50)) := (Below.refl _ _).alloc (Nat.le_refl _) _
    have HX4 := Lib.hid (HX3.out.below hb4 (Nat.le_refl _))
    have HB4 := Lib.hid (HB3.out.trans (hb4.mono HB3.out.size))
    have hw3 := HB3.out.size
    have HG4 := Lib.hid (World.grownBy.refl (w3.alloc (.cells #[.int .i64 x0, .int .i64 x1, .int .i64 x2, .int .i64 x3] 50)) (some w3.heap.size))
    have hz4 : (w3.alloc (.cells #[.int .i64 x0, .int .i64 x1, .int .i64 x2, .int .i64 x3] 50)).heap.size = w3.heap.size + 1 := by simp
    have HZ4 := Lib.hid hz4
    clear hb3 hb4 HIC hz4
    go_wp2_with fail
    go_loopw [8] (fun n wr => ∃ (k : Nat) (p : List Int) (wq : World), wq = wr ∧ 1 ≤ k ∧ k ≤ 61 ∧ n = .int .i64 k ∧ Hid (PowI m x p) ∧ Im4 wq w3.heap.size p ∧ Hid (ordS m x (61 - k) k p = R) ∧ (w3.alloc (.cells #[.int .i64 x0, .int .i64 x1, .int .i64 x2, .int .i64 x3] 50)).grownBy wq (some w3.heap.size)) (fun n _ => 61 - (intOf n).toNat)
    case atStart => exact ⟨1, imgW m ws, _, rfl, by omega, by omega, rfl, HPS, HI4.out, HR0, HG4.out⟩
    case round =>
      obtain ⟨k, p, wq, rfl, hk1, hk, rfl, HP, hi, HRQ, hg⟩ := hrel
      have HG := Lib.hid hg
      have HI := Lib.hid hi
      have hlt := hi.lt
      have hbq3 := below_of_grown hg (Nat.le_refl _) (by rw [HZ4.out]; omega)
      have HBQ := Lib.hid (HB4.out.grown hg HB4.out.size (fun j hj => by have := Option.some.inj hj; omega))
      have HXQ := Lib.hid (HX4.out.below hbq3 (Nat.le_refl _))
      obtain ⟨y0, y1, y2, y3, hv, hp⟩ := imV_parts p
      obtain ⟨c0, c1, c2, c3⟩ := hi.cell hp
      have HMC := Lib.hid (HML.out p HP.out wq HBQ.out)
      rw [hv] at HMC
      clear hg hi hbq3 hv hp
      by_cases hk60 : k ≤ 60
      · have hdk : decide ((k : Int) ≤ 60) = true := decide_eq_true (by omega)
        go_wp2_with fail
        refine HMC.out.mono ?_
        rintro e w5 ⟨rfl, hb5⟩
        have HB5 := Lib.hid (HBQ.out.trans (hb5.mono HBQ.out.size))
        have HI5 := Lib.hid (HI.out.below hb5 hlt)
        have HX5 := Lib.hid (HXQ.out.below hb5 (Nat.le_of_lt hlt))
        have HG5 := Lib.hid (grown_blw HG.out (hb5.mono HG.out.size))
        clear hb5 HMC c0 c1 c2 c3
        by_cases h0 : (frmI m 31 p).length = 0
        · have hv := HRQ.out
          rw [show 61 - k = (60 - k) + 1 by omega, HO1.out (60 - k) k p h0] at hv
          have HV := Lib.hid hv
          clear hv
          rw [h0]
          go_wp2_with fail
          go_ret
          exact ⟨by rw [← HV.out]; rfl, HB5.out⟩
        · have hz : (((frmI m 31 p).length : Int) == 0) = false := by rw [beq_eq_false_iff_ne]; omega
          have hrq := HRQ.out
          by_cases h15 : 15 < (frmI m 31 p).length
          · rw [HOF.out (61 - k) k p h15] at hrq
            have HV := Lib.hid hrq
            clear hrq
            have hd15 : decide (15 < (frmI m 31 p).length) = true := decide_eq_true h15
            have hq15 : (15 : Int) < ((frmI m 31 p).length : Int) := by omega
            have hr15 : decide ((15 : Int) < ((frmI m 31 p).length : Int)) = true := decide_eq_true hq15
            generalize (frmI m 31 p).length = yl at *
            go_wp2_with fail
            go_ret
            exact ⟨by rw [← HV.out]; rfl, HB5.out⟩
          · rw [show 61 - k = (60 - k) + 1 by omega, HOM.out (60 - k) k p h0 h15] at hrq
            have HV := Lib.hid (show ordS m x (61 - (k + 1)) (k + 1) (actW m x p) = R from by rw [show 61 - (k + 1) = 60 - k by omega]; exact hrq)
            have HNW := Lib.hid (HNX.out p HP.out (by omega)).2
            have HAL := Lib.hid (HAC.out p HP.out w3.heap.size _ w5 HB5.out HB3.out.size HI5.out (RowN.of HX5.out (Nat.le_refl _) (Nat.le_of_lt HI5.out.lt)))
            have hd15 : decide (15 < (frmI m 31 p).length) = false := decide_eq_false h15
            have hq15 : ¬ (15 : Int) < ((frmI m 31 p).length : Int) := by omega
            have hr15 : decide ((15 : Int) < ((frmI m 31 p).length : Int)) = false := decide_eq_false hq15
            clear hrq
            generalize (frmI m 31 p).length = yl at *
            go_wp2_with fail
            refine HAL.out.mono ?_
            rintro e w6 ⟨rfl, q1, q2⟩
            have HI6 := Lib.hid q1
            have HG6 := Lib.hid (grown_trans HG5.out q2)
            clear q1 q2 HAL
            go_wp2_with fail
            exact ⟨⟨k + 1, actW m x p, _, rfl, by omega, by omega, by go_num, HNW, HI6.out, HV, HG6.out⟩, by simp [intOf]; omega⟩
      · obtain rfl : k = 61 := by omega
        have hv := HRQ.out
        rw [Nat.sub_self, HZ.out] at hv
        have HV := Lib.hid hv
        clear hv c0 c1 c2 c3
        go_wp2_with fail
        go_ret
        exact ⟨by rw [← HV.out]; rfl, HBQ.out⟩
  · have hd7 : decide (7 < xn) = false := decide_eq_false h7
    have hq7 : ¬ (7 : Int) < (xn : Int) := by omega
    have hr7 : decide ((7 : Int) < (xn : Int)) = false := decide_eq_false hq7
    clear hgo' h7
    have HBZ := Lib.hid HB1.out
    have HXZ := Lib.hid HXR.out
    clear HFC HXR
    have HIC := Lib.hid (HIO.out _ w1 HBZ.out HXZ.out)
    clear HIO
    go_wp2_with fail
    refine HIC.out.mono ?_
    rintro e w3 ⟨rfl, hb3⟩
    have HB3 := Lib.hid (HBZ.out.trans (hb3.mono HBZ.out.size))
    have HX3 := Lib.hid ((HXZ.out.below hb3 (Nat.le_refl _)).mono hb3.size)
    have HI4 := Lib.hid (Im4.new (w := w3) HPD.out)
    have hb4 : Below w3.heap.size w3 (w3.alloc (.cells #[.int .i64 x0, .int .i64 x1, .int .i64 x2, .int .i64 x3] 50)) := (Below.refl _ _).alloc (Nat.le_refl _) _
    have HX4 := Lib.hid (HX3.out.below hb4 (Nat.le_refl _))
    have HB4 := Lib.hid (HB3.out.trans (hb4.mono HB3.out.size))
    have hw3 := HB3.out.size
    have HG4 := Lib.hid (World.grownBy.refl (w3.alloc (.cells #[.int .i64 x0, .int .i64 x1, .int .i64 x2, .int .i64 x3] 50)) (some w3.heap.size))
    have hz4 : (w3.alloc (.cells #[.int .i64 x0, .int .i64 x1, .int .i64 x2, .int .i64 x3] 50)).heap.size = w3.heap.size + 1 := by simp
    have HZ4 := Lib.hid hz4
    clear hb3 hb4 HIC hz4
    go_wp2_with fail
    go_loopw [8] (fun n wr => ∃ (k : Nat) (p : List Int) (wq : World), wq = wr ∧ 1 ≤ k ∧ k ≤ 61 ∧ n = .int .i64 k ∧ Hid (PowI m x p) ∧ Im4 wq w3.heap.size p ∧ Hid (ordS m x (61 - k) k p = R) ∧ (w3.alloc (.cells #[.int .i64 x0, .int .i64 x1, .int .i64 x2, .int .i64 x3] 50)).grownBy wq (some w3.heap.size)) (fun n _ => 61 - (intOf n).toNat)
    case atStart => exact ⟨1, imgW m ws, _, rfl, by omega, by omega, rfl, HPS, HI4.out, HR0, HG4.out⟩
    case round =>
      obtain ⟨k, p, wq, rfl, hk1, hk, rfl, HP, hi, HRQ, hg⟩ := hrel
      have HG := Lib.hid hg
      have HI := Lib.hid hi
      have hlt := hi.lt
      have hbq3 := below_of_grown hg (Nat.le_refl _) (by rw [HZ4.out]; omega)
      have HBQ := Lib.hid (HB4.out.grown hg HB4.out.size (fun j hj => by have := Option.some.inj hj; omega))
      have HXQ := Lib.hid (HX4.out.below hbq3 (Nat.le_refl _))
      obtain ⟨y0, y1, y2, y3, hv, hp⟩ := imV_parts p
      obtain ⟨c0, c1, c2, c3⟩ := hi.cell hp
      have HMC := Lib.hid (HML.out p HP.out wq HBQ.out)
      rw [hv] at HMC
      clear hg hi hbq3 hv hp
      by_cases hk60 : k ≤ 60
      · have hdk : decide ((k : Int) ≤ 60) = true := decide_eq_true (by omega)
        go_wp2_with fail
        refine HMC.out.mono ?_
        rintro e w5 ⟨rfl, hb5⟩
        have HB5 := Lib.hid (HBQ.out.trans (hb5.mono HBQ.out.size))
        have HI5 := Lib.hid (HI.out.below hb5 hlt)
        have HX5 := Lib.hid (HXQ.out.below hb5 (Nat.le_of_lt hlt))
        have HG5 := Lib.hid (grown_blw HG.out (hb5.mono HG.out.size))
        clear hb5 HMC c0 c1 c2 c3
        by_cases h0 : (frmI m 31 p).length = 0
        · have hv := HRQ.out
          rw [show 61 - k = (60 - k) + 1 by omega, HO1.out (60 - k) k p h0] at hv
          have HV := Lib.hid hv
          clear hv
          rw [h0]
          go_wp2_with fail
          go_ret
          exact ⟨by rw [← HV.out]; rfl, HB5.out⟩
        · have hz : (((frmI m 31 p).length : Int) == 0) = false := by rw [beq_eq_false_iff_ne]; omega
          have hrq := HRQ.out
          by_cases h15 : 15 < (frmI m 31 p).length
          · rw [HOF.out (61 - k) k p h15] at hrq
            have HV := Lib.hid hrq
            clear hrq
            have hd15 : decide (15 < (frmI m 31 p).length) = true := decide_eq_true h15
            have hq15 : (15 : Int) < ((frmI m 31 p).length : Int) := by omega
            have hr15 : decide ((15 : Int) < ((frmI m 31 p).length : Int)) = true := decide_eq_true hq15
            generalize (frmI m 31 p).length = yl at *
            go_wp2_with fail
            go_ret
            exact ⟨by rw [← HV.out]; rfl, HB5.out⟩
          · rw [show 61 - k = (60 - k) + 1 by omega, HOM.out (60 - k) k p h0 h15] at hrq
            have HV := Lib.hid (show ordS m x (61 - (k + 1)) (k + 1) (actW m x p) = R from by rw [show 61 - (k + 1) = 60 - k by omega]; exact hrq)
            have HNW := Lib.hid (HNX.out p HP.out (by omega)).2
            have HAL := Lib.hid (HAC.out p HP.out w3.heap.size _ w5 HB5.out HB3.out.size HI5.out (RowN.of HX5.out (Nat.le_refl _) (Nat.le_of_lt HI5.out.lt)))
            have hd15 : decide (15 < (frmI m 31 p).length) = false := decide_eq_false h15
            have hq15 : ¬ (15 : Int) < ((frmI m 31 p).length : Int) := by omega
            have hr15 : decide ((15 : Int) < ((frmI m 31 p).length : Int)) = false := decide_eq_false hq15
            clear hrq
            generalize (frmI m 31 p).length = yl at *
            go_wp2_with fail
            refine HAL.out.mono ?_
            rintro e w6 ⟨rfl, q1, q2⟩
            have HI6 := Lib.hid q1
            have HG6 := Lib.hid (grown_trans HG5.out q2)
            clear q1 q2 HAL
            go_wp2_with fail
            exact ⟨⟨k + 1, actW m x p, _, rfl, by omega, by omega, by go_num, HNW, HI6.out, HV, HG6.out⟩, by simp [intOf]; omega⟩
      · obtain rfl : k = 61 := by omega
        have hv := HRQ.out
        rw [Nat.sub_self, HZ.out] at hv
        have HV := Lib.hid hv
        clear hv c0 c1 c2 c3
        go_wp2_with fail
        go_ret
        exact ⟨by rw [← HV.out]; rfl, HBQ.out⟩
set_option maxHeartbeats 2000000 in
set_option maxRecDepth 100000 in
theorem ordi_any (B B' : Nat) (v v' : Value) (m : List (List Int)) (ws : List Int) (w : World) (h : MatB B w v m) (h' : RowB B' w v' ws) (hB : B ≤ w.heap.size) (hB' : B' ≤ w.heap.size) (hf : RowsFit m) (hw : ws.length ≤ 1048576) :
    Calls Tryz.prog 30 #[v, v'] w fun e w' => e = .returned (.int .i64 (ordI m ws)) ∧ Below w.heap.size w w' := by
  by_cases hW : IsW m ws
  · by_cases hgo : (decide (7 < (nrmL m ws).length) && !finB m) = true
    · have e : ordI m ws = 0 := by unfold ordI; rw [if_pos (wordB_yes hW), if_pos hgo]
      rw [e]
      have HN := Lib.hid (nrmi_any B B' v v' m ws w h h' hB hB' hf hw)
      rw [wordB_yes hW] at HN
      have HFN := Lib.hid (fun (wx : World) (hb : Below w.heap.size w wx) => fini_any B v m wx (h.below hb hB) (Nat.le_trans hB hb.size) hf)
      rw [Bool.and_eq_true] at hgo
      obtain ⟨hd7, hfn⟩ := hgo
      have hfin : finB m = false := by simpa using hfn
      rw [hfin] at HFN
      obtain ⟨a, cap, rfl⟩ := h.slice
      obtain ⟨a', cap', rfl⟩ := h'.slice
      clear h h' hf hW hfn hfin e
      generalize nrmL m ws = x at *
      generalize hxn : x.length = xn at *
      have HXN := Lib.hid hxn; clear hxn
      have hq7 : (7 : Int) < (xn : Int) := by have := of_decide_eq_true hd7; omega
      have hr7 : decide ((7 : Int) < (xn : Int)) = true := decide_eq_true hq7
      go_enter Tryz.func30, Tryz.ntmps30
      go_wp2_with fail
      refine HN.out.mono ?_
      rintro e w1 ⟨xv, rfl, ⟨hx, _⟩, hb1⟩
      obtain ⟨xa, xcap, rfl⟩ := hx.slice
      have HB1 := Lib.hid hb1
      rw [HXN.out]
      have HFC := Lib.hid (HFN.out w1 hb1)
      clear hx hb1 HN HFN
      go_wp2_with fail
      refine HFC.out.mono ?_
      rintro e w2 ⟨rfl, hb2⟩
      have HB2 := Lib.hid (HB1.out.trans (hb2.mono HB1.out.size))
      clear hb2 HFC
      go_wp2_with fail
      go_ret
      exact ⟨rfl, HB2.out⟩
    · have hgo' : (decide (7 < (nrmL m ws).length) && !finB m) = false := by simpa using hgo
      have e : ordI m ws = ordS m (nrmL m ws) 60 1 (imgW m ws) := by unfold ordI; rw [if_pos (wordB_yes hW), if_neg hgo]
      rw [e]
      exact ordi_yes B B' v v' m ws w h h' hB hB' hf hw hW (finB m) rfl hgo'
  · have e : ordI m ws = 0 := by unfold ordI; rw [wordB_no hW]; rfl
    rw [e]
    have HN := Lib.hid (nrmi_any B B' v v' m ws w h h' hB hB' hf hw)
    rw [wordB_no hW, nrmL_no hW] at HN
    obtain ⟨a, cap, rfl⟩ := h.slice
    obtain ⟨a', cap', rfl⟩ := h'.slice
    clear h h' hf hW e
    go_enter Tryz.func30, Tryz.ntmps30
    go_wp2_with fail
    refine HN.out.mono ?_
    rintro e w1 ⟨xv, rfl, ⟨hx, _⟩, hb1⟩
    obtain ⟨xa, xcap, rfl⟩ := hx.slice
    have HB1 := Lib.hid hb1
    clear hx hb1 HN
    go_wp2_with fail
    go_ret
    exact ⟨rfl, HB1.out⟩
end Go.Proofs.YtnlbmnielemgiaaGreat
namespace Go.Proofs.YtnlbmnielemgiaaGreat
open Go.RowKit

theorem or_i64_nat (a b : Nat) (ha : a < 9223372036854775808) (hb : b < 9223372036854775808) :
    bits .or .i64 (a : Int) (b : Int) = ((a ||| b : Nat) : Int) := by
  have hx : a ||| b < 2 ^ 63 := Nat.or_lt_two_pow ha hb
  have h1 : (BitVec.ofInt 64 (a : Int)).toNat = a := by
    rw [BitVec.ofInt_natCast, BitVec.toNat_ofNat]; exact Nat.mod_eq_of_lt (by omega)
  have h2 : (BitVec.ofInt 64 (b : Int)).toNat = b := by
    rw [BitVec.ofInt_natCast, BitVec.toNat_ofNat]; exact Nat.mod_eq_of_lt (by omega)
  show IntKind.i64.wrap ((BitVec.ofInt 64 (a : Int) ||| BitVec.ofInt 64 (b : Int)).toNat : Int) = _
  rw [BitVec.toNat_or, h1, h2, IntKind.wrap_i64]
  omega

theorem or_low (a b i : Nat) (hb : b < 2 ^ i) : a * 2 ^ i ||| b = a * 2 ^ i + b := by
  have := Nat.two_pow_add_eq_or_of_lt hb a
  rw [Nat.mul_comm] ; omega

theorem or_byte (a b : Nat) (ha : a ≤ 281474976710655) (hb : b ≤ 255) : bits .or .i64 ((a : Int) * 256) (b : Int) = (a : Int) * 256 + b := by
  have h := or_i64_nat (a * 256) b (by omega) (by omega)
  have e := or_low a b 8 (by omega)
  rw [show ((a : Int) * 256) = ((a * 256 : Nat) : Int) by omega, h]
  rw [show (2 : Nat) ^ 8 = 256 from rfl] at e
  rw [e]; omega

theorem and127_or128 (n : Nat) : bits .or .i64 (bits .and .i64 (n : Int) 127) 128 = 128 + (n : Int) % 128 := by
  rw [i64_and127]
  have h := or_i64_nat (n % 128) 128 (by omega) (by omega)
  have e : (n % 128) ||| 128 = n % 128 + 128 := by
    have := or_low 1 (n % 128) 7 (by omega)
    rw [Nat.or_comm]; simpa [Nat.add_comm] using this
  rw [e] at h
  rw [show ((n : Int) % 128) = ((n % 128 : Nat) : Int) by omega]
  rw [show (128 : Int) = ((128 : Nat) : Int) from rfl, h]
  omega

theorem pow128 (k : Nat) : 2 ^ (7 * k) = 128 ^ k := by rw [Nat.pow_mul]

theorem or_shift (v k : Nat) (B : Int) (b : Nat) (hB : B = b) (hb : b < 256) (hv : v < 128 ^ k) (hk : k < 7) :
    bits .or .i64 (v : Int) (wrap64 (wrap64 (bits .and .u8 B 127) * 2 ^ (7 * k))) = ((v + 128 ^ k * (b % 128) : Nat) : Int) := by
  subst hB
  have e1 : bits .and .u8 (b : Int) 127 = ((b % 128 : Nat) : Int) := by
    have := u8_and_nat b 127 hb (by omega)
    rw [show ((127 : Nat) : Int) = 127 from rfl] at this
    rw [this, show b &&& 127 = b % 128 from Nat.and_two_pow_sub_one_eq_mod b 7]
  have hp : 128 ^ k ≤ 128 ^ 6 := Nat.pow_le_pow_right (by omega) (by omega)
  have hp6 : (128 : Nat) ^ 6 = 4398046511104 := by decide
  have hm : (b % 128) * 128 ^ k ≤ 127 * 4398046511104 := Nat.mul_le_mul (by omega) (by omega)
  have e2 : wrap64 ((b % 128 : Nat) : Int) = ((b % 128 : Nat) : Int) := IntWalk.wrap64_in _ ⟨by omega, by omega⟩
  have e3 : (2 : Int) ^ (7 * k) = ((128 ^ k : Nat) : Int) := by
    rw [← pow128]; simp
  have e4 : wrap64 (((b % 128 : Nat) : Int) * ((128 ^ k : Nat) : Int)) = (((b % 128) * 128 ^ k : Nat) : Int) := by
    rw [← Int.natCast_mul]
    exact IntWalk.wrap64_in _ ⟨by omega, by omega⟩
  rw [e1, e2, e3, e4, or_i64_nat _ _ (by omega) (by omega), Nat.or_comm]
  rw [← pow128] at hv ⊢
  rw [or_low _ _ _ hv, Nat.mul_comm, Nat.add_comm]

/-- A byte in a region that draws its order: the wraps that the walk leaves there. -/
theorem byte_wrap (b : UInt8) : IntKind.i64.wrap (b.toNat : Int) = (b.toNat : Int) := IntWalk.i64_in _ (by have := b.toNat_lt; omega)
theorem byte_tdiv16 (b : UInt8) : ((b.toNat : Int)).tdiv 16 = (b.toNat : Int) / 16 := Int.tdiv_eq_ediv_of_nonneg (by omega)
theorem byte_tmod16 (b : UInt8) : ((b.toNat : Int)).tmod 16 = (b.toNat : Int) % 16 := Int.tmod_eq_emod_of_nonneg (by omega)
theorem byte_wrap16 (b : UInt8) : IntKind.i64.wrap ((b.toNat : Int) / 16) = (b.toNat : Int) / 16 := IntWalk.i64_in _ (by have := b.toNat_lt; omega)

theorem byte_and15 (b : UInt8) : bits .and .u8 (b.toNat : Int) 15 = (b.toNat : Int) % 16 := by
  have := u8_and_nat b.toNat 15 b.toNat_lt (by omega)
  rw [show ((15 : Nat) : Int) = 15 from rfl] at this
  rw [this, show b.toNat &&& 15 = b.toNat % 16 from Nat.and_two_pow_sub_one_eq_mod b.toNat 4]
  omega

theorem nib_or (a b : Nat) (ha : a ≤ 15) (hb : b ≤ 15) : bits .or .u8 ((a : Int) * 16) (b : Int) = ((16 * a + b : Nat) : Int) := by
  have h := u8_or_nat (a * 16) b (by omega) (by omega)
  have e := or_low a b 4 (by omega)
  rw [show (2 : Nat) ^ 4 = 16 from rfl] at e
  rw [show ((a : Int) * 16) = ((a * 16 : Nat) : Int) by omega, h, e]
  omega
end Go.Proofs.YtnlbmnielemgiaaGreat
