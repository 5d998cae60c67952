/-
  Lengths: what the program's OrderOfElement returns (printed by mk_rog.py).
  Roots: how long the answers are (no walk here).
  Roots: what the model's reflection, height and sign return.
-/
import Derived.Test.YtfjeghalkmkgoaaLc25
import Derived.Test.YtfjeghalkmkgoaaLc35
import Derived.Test.YtfjeghalkmkgoaaLc37
import Derived.Test.YtfjeghalkmkgoaaLc16
import Derived.Test.YtfjeghalkmkgoaaLc23
import Derived.Test.YtfjeghalkmkgoaaLc09
namespace Go.Proofs.Ytfjeghalkmkgoaa
open Go.RowKit

set_option maxHeartbeats 4000000 in
set_option maxRecDepth 100000 in
theorem ordi_yes (B B' : Nat) (v v' : Value) (m : List (List Int)) (ws : List Int) (w : World) (h : MatB B w v m) (h' : RowB B' w v' ws) (hB : B ≤ w.heap.size) (hB' : B' ≤ w.heap.size) (hf : RowsFit m) (hw : ws.length ≤ 1048576) (hW : IsW m ws) (fin : Bool) (hfin : finB m = fin) (hgo : (decide (7 < (nrmL m ws).length) && !fin) = false) :
    Calls Try.prog 37 #[v, v'] w fun e w' => e = .returned (.int .i64 (ordS m (nrmL m ws) 60 1 (imgW m ws))) ∧ Below w.heap.size w w' := by
  have HN := Lib.hid (nrmi_any B B' v v' m ws w h h' hB hB' hf hw)
  rw [wordB_yes hW] at HN
  have HFN := Lib.hid (fun (wx : World) (hb : Below w.heap.size w wx) => fini_any B v m wx (h.below hb hB) (Nat.le_trans hB hb.size) hf)
  rw [hfin] at HFN
  have hx15 : (nrmL m ws).length ≤ 15 := Nat.le_trans (nrm_le hW).1 hW.2.2
  have hxl := (nrm_word hW).1
  have hI := hW.2.1
  have HPS := Lib.hid (pow_start hW)
  have HIO := Lib.hid (fun (x : Value) (wx : World) (hb : Below w.heap.size w wx) (hx : RowB wx.heap.size wx x (nrmL m ws)) => show Calls Try.prog 54 #[v, x] wx fun e w' => e = .returned (imV (imgW m ws)) ∧ Below wx.heap.size wx w' from by
    have := iorho_any B wx.heap.size v x m (nrmL m ws) wx (h.below hb hB) hx (Nat.le_trans hB hb.size) (Nat.le_refl _) hf hI hxl (by omega)
    rw [nrm_img hW] at this; exact this)
  have HML := Lib.hid (fun (p : List Int) (hp : PowI m (nrmL m ws) p) (wx : World) (hb : Below w.heap.size w wx) => show Calls Try.prog 63 #[v, imV p] wx fun e w' => e = .returned (.int .i64 (frmI m 31 p).length) ∧ Below wx.heap.size wx w' from by
    obtain ⟨L, hr⟩ := hp.ret
    exact iml_any B v m p L wx (h.below hb hB) (Nat.le_trans hB hb.size) hI hr)
  have HAC := Lib.hid (fun (p : List Int) (hp : PowI m (nrmL m ws) p) (G : Nat) (x : Value) (wx : World) (hb : Below w.heap.size w wx) (hG : w.heap.size ≤ G) (hi : Im4 wx G p) (hx : RowN G wx.heap.size wx x (nrmL m ws)) => acim_any B G v x m (nrmL m ws) p wx (h.below hb hB) hx hi (Nat.le_trans hB hG) hI hxl (by omega) hp.len)
  have HNX := Lib.hid (fun (p : List Int) (hp : PowI m (nrmL m ws) p) (h15 : (frmI m 31 p).length ≤ 15) => pow_next hI hxl hx15 hp h15)
  have HZ := Lib.hid (fun k p => ordS_zero m (nrmL m ws) k p)
  have HO1 := Lib.hid (fun (f k : Nat) (p : List Int) (h : (frmI m 31 p).length = 0) => ordS_one (m := m) (x := nrmL m ws) (f := f) (k := k) h)
  have HOF := Lib.hid (fun (f k : Nat) (p : List Int) (h : 15 < (frmI m 31 p).length) => ordS_far (m := m) (x := nrmL m ws) (f := f) (k := k) h)
  have HOM := Lib.hid (fun (f k : Nat) (p : List Int) (h0 : (frmI m 31 p).length ≠ 0) (h : ¬ 15 < (frmI m 31 p).length) => ordS_more (m := m) (x := nrmL m ws) (f := f) (k := k) h0 h)
  have hgo' := hgo
  generalize nrmL m ws = x at *
  generalize hR : ordS m x 60 1 (imgW m ws) = R at *
  have HR0 := Lib.hid hR; clear hR
  obtain ⟨a, cap, rfl⟩ := h.slice
  obtain ⟨a', cap', rfl⟩ := h'.slice
  clear h h' hf hW hxl hfin hgo hI
  generalize ws.length = nw at *
  have HX15 := Lib.hid hx15
  generalize hxn : x.length = xn at *
  have HXN := Lib.hid hxn; clear hxn
  obtain ⟨x0, x1, x2, x3, hv, hp⟩ := imV_parts (imgW m ws)
  rw [hv] at HIO
  have HPD := Lib.hid hp
  clear hv hp
  go_enter Try.func37, Try.ntmps37
  go_wp2_with fail
  refine HN.out.mono ?_
  rintro e w1 ⟨xv, rfl, ⟨hx, _⟩, hb1⟩
  obtain ⟨xa, xcap, rfl⟩ := hx.slice
  have HB1 := Lib.hid hb1
  have HXR := Lib.hid hx.rowB
  rw [HXN.out] at HXR ⊢
  have HFC := Lib.hid (HFN.out w1 hb1)
  clear hx hb1 HN HFN
  by_cases h7 : 7 < xn
  · have hd7 : decide (7 < xn) = true := decide_eq_true h7
    have hq7 : (7 : Int) < (xn : Int) := by omega
    have hr7 : decide ((7 : Int) < (xn : Int)) = true := decide_eq_true hq7
    have hft : fin = true := by cases fin with
      | true => rfl
      | false => rw [hd7] at hgo'; exact absurd hgo' (by simp)
    subst hft
    clear hgo' h7
    go_wp2_with fail
    refine HFC.out.mono ?_
    rintro e w2 ⟨rfl, hb2⟩
    have HBZ := Lib.hid (HB1.out.trans (hb2.mono HB1.out.size))
    have HXZ := Lib.hid ((HXR.out.below hb2 (Nat.le_refl _)).mono hb2.size)
    clear hb2 HFC HXR
    have HIC := Lib.hid (HIO.out _ w2 HBZ.out HXZ.out)
    clear HIO
    go_wp2_with fail
    refine HIC.out.mono ?_
    rintro e w3 ⟨rfl, hb3⟩
    have HB3 := Lib.hid (HBZ.out.trans (hb3.mono HBZ.out.size))
    have HX3 := Lib.hid ((HXZ.out.below hb3 (Nat.le_refl _)).mono hb3.size)
    have HI4 := Lib.hid (Im4.new (w := w3) HPD.out)
    have hb4 : Below w3.heap.size w3 (w3.alloc (.cells #[.int .i64 x0, .int .i64 x1, .int .i64 x2, .int .i64 x3] 50)) := (Below.refl _ _).alloc (Nat.le_refl _) _
    have HX4 := Lib.hid (HX3.out.below hb4 (Nat.le_refl _))
    have HB4 := Lib.hid (HB3.out.trans (hb4.mono HB3.out.size))
    have hw3 := HB3.out.size
    have HG4 := Lib.hid (World.grownBy.refl (w3.alloc (.cells #[.int .i64 x0, .int .i64 x1, .int .i64 x2, .int .i64 x3] 50)) (some w3.heap.size))
    have hz4 : (w3.alloc (.cells #[.int .i64 x0, .int .i64 x1, .int .i64 x2, .int .i64 x3] 50)).heap.size = w3.heap.size + 1 := by simp
    have HZ4 := Lib.hid hz4
    clear hb3 hb4 HIC hz4
    go_wp2_with fail
    go_loopw [8] (fun n wr => ∃ (k : Nat) (p : List Int) (wq : World), wq = wr ∧ 1 ≤ k ∧ k ≤ 61 ∧ n = .int .i64 k ∧ Hid (PowI m x p) ∧ Im4 wq w3.heap.size p ∧ Hid (ordS m x (61 - k) k p = R) ∧ (w3.alloc (.cells #[.int .i64 x0, .int .i64 x1, .int .i64 x2, .int .i64 x3] 50)).grownBy wq (some w3.heap.size)) (fun n _ => 61 - (intOf n).toNat)
    case atStart => exact ⟨1, imgW m ws, _, rfl, by omega, by omega, rfl, HPS, HI4.out, HR0, HG4.out⟩
    case round =>
      obtain ⟨k, p, wq, rfl, hk1, hk, rfl, HP, hi, HRQ, hg⟩ := hrel
      have HG := Lib.hid hg
      have HI := Lib.hid hi
      have hlt := hi.lt
      have hbq3 := below_of_grown hg (Nat.le_refl _) (by rw [HZ4.out]; omega)
      have HBQ := Lib.hid (HB4.out.grown hg HB4.out.size (fun j hj => by have := Option.some.inj hj; omega))
      have HXQ := Lib.hid (HX4.out.below hbq3 (Nat.le_refl _))
      obtain ⟨y0, y1, y2, y3, hv, hp⟩ := imV_parts p
      obtain ⟨c0, c1, c2, c3⟩ := hi.cell hp
      have HMC := Lib.hid (HML.out p HP.out wq HBQ.out)
      rw [hv] at HMC
      clear hg hi hbq3 hv hp
      by_cases hk60 : k ≤ 60
      · have hdk : decide ((k : Int) ≤ 60) = true := decide_eq_true (by omega)
        go_wp2_with fail
        refine HMC.out.mono ?_
        rintro e w5 ⟨rfl, hb5⟩
        have HB5 := Lib.hid (HBQ.out.trans (hb5.mono HBQ.out.size))
        have HI5 := Lib.hid (HI.out.below hb5 hlt)
        have HX5 := Lib.hid (HXQ.out.below hb5 (Nat.le_of_lt hlt))
        have HG5 := Lib.hid (grown_blw HG.out (hb5.mono HG.out.size))
        clear hb5 HMC c0 c1 c2 c3
        by_cases h0 : (frmI m 31 p).length = 0
        · have hv := HRQ.out
          rw [show 61 - k = (60 - k) + 1 by omega, HO1.out (60 - k) k p h0] at hv
          have HV := Lib.hid hv
          clear hv
          rw [h0]
          go_wp2_with fail
          go_ret
          exact ⟨by rw [← HV.out]; rfl, HB5.out⟩
        · have hz : (((frmI m 31 p).length : Int) == 0) = false := by rw [beq_eq_false_iff_ne]; omega
          have hrq := HRQ.out
          by_cases h15 : 15 < (frmI m 31 p).length
          · rw [HOF.out (61 - k) k p h15] at hrq
            have HV := Lib.hid hrq
            clear hrq
            have hd15 : decide (15 < (frmI m 31 p).length) = true := decide_eq_true h15
            have hq15 : (15 : Int) < ((frmI m 31 p).length : Int) := by omega
            have hr15 : decide ((15 : Int) < ((frmI m 31 p).length : Int)) = true := decide_eq_true hq15
            generalize (frmI m 31 p).length = yl at *
            go_wp2_with fail
            go_ret
            exact ⟨by rw [← HV.out]; rfl, HB5.out⟩
          · rw [show 61 - k = (60 - k) + 1 by omega, HOM.out (60 - k) k p h0 h15] at hrq
            have HV := Lib.hid (show ordS m x (61 - (k + 1)) (k + 1) (actW m x p) = R from by rw [show 61 - (k + 1) = 60 - k by omega]; exact hrq)
            have HNW := Lib.hid (HNX.out p HP.out (by omega)).2
            have HAL := Lib.hid (HAC.out p HP.out w3.heap.size _ w5 HB5.out HB3.out.size HI5.out (RowN.of HX5.out (Nat.le_refl _) (Nat.le_of_lt HI5.out.lt)))
            have hd15 : decide (15 < (frmI m 31 p).length) = false := decide_eq_false h15
            have hq15 : ¬ (15 : Int) < ((frmI m 31 p).length : Int) := by omega
            have hr15 : decide ((15 : Int) < ((frmI m 31 p).length : Int)) = false := decide_eq_false hq15
            clear hrq
            generalize (frmI m 31 p).length = yl at *
            go_wp2_with fail
            refine HAL.out.mono ?_
            rintro e w6 ⟨rfl, q1, q2⟩
            have HI6 := Lib.hid q1
            have HG6 := Lib.hid (grown_trans HG5.out q2)
            clear q1 q2 HAL
            go_wp2_with fail
            exact ⟨⟨k + 1, actW m x p, _, rfl, by omega, by omega, by go_num, HNW, HI6.out, HV, HG6.out⟩, by simp [intOf]; omega⟩
      · obtain rfl : k = 61 := by omega
        have hv := HRQ.out
        rw [Nat.sub_self, HZ.out] at hv
        have HV := Lib.hid hv
        clear hv c0 c1 c2 c3
        go_wp2_with fail
        go_ret
        exact ⟨by rw [← HV.out]; rfl, HBQ.out⟩
  · have hd7 : decide (7 < xn) = false := decide_eq_false h7
    have hq7 : ¬ (7 : Int) < (xn : Int) := by omega
    have hr7 : decide ((7 : Int) < (xn : Int)) = false := decide_eq_false hq7
    clear hgo' h7
    have HBZ := Lib.hid HB1.out
    have HXZ := Lib.hid HXR.out
    clear HFC HXR
    have HIC := Lib.hid (HIO.out _ w1 HBZ.out HXZ.out)
    clear HIO
    go_wp2_with fail
    refine HIC.out.mono ?_
    rintro e w3 ⟨rfl, hb3⟩
    have HB3 := Lib.hid (HBZ.out.trans (hb3.mono HBZ.out.size))
    have HX3 := Lib.hid ((HXZ.out.below hb3 (Nat.le_refl _)).mono hb3.size)
    have HI4 := Lib.hid (Im4.new (w := w3) HPD.out)
    have hb4 : Below w3.heap.size w3 (w3.alloc (.cells #[.int .i64 x0, .int .i64 x1, .int .i64 x2, .int .i64 x3] 50)) := (Below.refl _ _).alloc (Nat.le_refl _) _
    have HX4 := Lib.hid (HX3.out.below hb4 (Nat.le_refl _))
    have HB4 := Lib.hid (HB3.out.trans (hb4.mono HB3.out.size))
    have hw3 := HB3.out.size
    have HG4 := Lib.hid (World.grownBy.refl (w3.alloc (.cells #[.int .i64 x0, .int .i64 x1, .int .i64 x2, .int .i64 x3] 50)) (some w3.heap.size))
    have hz4 : (w3.alloc (.cells #[.int .i64 x0, .int .i64 x1, .int .i64 x2, .int .i64 x3] 50)).heap.size = w3.heap.size + 1 := by simp
    have HZ4 := Lib.hid hz4
    clear hb3 hb4 HIC hz4
    go_wp2_with fail
    go_loopw [8] (fun n wr => ∃ (k : Nat) (p : List Int) (wq : World), wq = wr ∧ 1 ≤ k ∧ k ≤ 61 ∧ n = .int .i64 k ∧ Hid (PowI m x p) ∧ Im4 wq w3.heap.size p ∧ Hid (ordS m x (61 - k) k p = R) ∧ (w3.alloc (.cells #[.int .i64 x0, .int .i64 x1, .int .i64 x2, .int .i64 x3] 50)).grownBy wq (some w3.heap.size)) (fun n _ => 61 - (intOf n).toNat)
    case atStart => exact ⟨1, imgW m ws, _, rfl, by omega, by omega, rfl, HPS, HI4.out, HR0, HG4.out⟩
    case round =>
      obtain ⟨k, p, wq, rfl, hk1, hk, rfl, HP, hi, HRQ, hg⟩ := hrel
      have HG := Lib.hid hg
      have HI := Lib.hid hi
      have hlt := hi.lt
      have hbq3 := below_of_grown hg (Nat.le_refl _) (by rw [HZ4.out]; omega)
      have HBQ := Lib.hid (HB4.out.grown hg HB4.out.size (fun j hj => by have := Option.some.inj hj; omega))
      have HXQ := Lib.hid (HX4.out.below hbq3 (Nat.le_refl _))
      obtain ⟨y0, y1, y2, y3, hv, hp⟩ := imV_parts p
      obtain ⟨c0, c1, c2, c3⟩ := hi.cell hp
      have HMC := Lib.hid (HML.out p HP.out wq HBQ.out)
      rw [hv] at HMC
      clear hg hi hbq3 hv hp
      by_cases hk60 : k ≤ 60
      · have hdk : decide ((k : Int) ≤ 60) = true := decide_eq_true (by omega)
        go_wp2_with fail
        refine HMC.out.mono ?_
        rintro e w5 ⟨rfl, hb5⟩
        have HB5 := Lib.hid (HBQ.out.trans (hb5.mono HBQ.out.size))
        have HI5 := Lib.hid (HI.out.below hb5 hlt)
        have HX5 := Lib.hid (HXQ.out.below hb5 (Nat.le_of_lt hlt))
        have HG5 := Lib.hid (grown_blw HG.out (hb5.mono HG.out.size))
        clear hb5 HMC c0 c1 c2 c3
        by_cases h0 : (frmI m 31 p).length = 0
        · have hv := HRQ.out
          rw [show 61 - k = (60 - k) + 1 by omega, HO1.out (60 - k) k p h0] at hv
          have HV := Lib.hid hv
          clear hv
          rw [h0]
          go_wp2_with fail
          go_ret
          exact ⟨by rw [← HV.out]; rfl, HB5.out⟩
        · have hz : (((frmI m 31 p).length : Int) == 0) = false := by rw [beq_eq_false_iff_ne]; omega
          have hrq := HRQ.out
          by_cases h15 : 15 < (frmI m 31 p).length
          · rw [HOF.out (61 - k) k p h15] at hrq
            have HV := Lib.hid hrq
            clear hrq
            have hd15 : decide (15 < (frmI m 31 p).length) = true := decide_eq_true h15
            have hq15 : (15 : Int) < ((frmI m 31 p).length : Int) := by omega
            have hr15 : decide ((15 : Int) < ((frmI m 31 p).length : Int)) = true := decide_eq_true hq15
            generalize (frmI m 31 p).length = yl at *
            go_wp2_with fail
            go_ret
            exact ⟨by rw [← HV.out]; rfl, HB5.out⟩
          · rw [show 61 - k = (60 - k) + 1 by omega, HOM.out (60 - k) k p h0 h15] at hrq
            have HV := Lib.hid (show ordS m x (61 - (k + 1)) (k + 1) (actW m x p) = R from by rw [show 61 - (k + 1) = 60 - k by omega]; exact hrq)
            have HNW := Lib.hid (HNX.out p HP.out (by omega)).2
            have HAL := Lib.hid (HAC.out p HP.out w3.heap.size _ w5 HB5.out HB3.out.size HI5.out (RowN.of HX5.out (Nat.le_refl _) (Nat.le_of_lt HI5.out.lt)))
            have hd15 : decide (15 < (frmI m 31 p).length) = false := decide_eq_false h15
            have hq15 : ¬ (15 : Int) < ((frmI m 31 p).length : Int) := by omega
            have hr15 : decide ((15 : Int) < ((frmI m 31 p).length : Int)) = false := decide_eq_false hq15
            clear hrq
            generalize (frmI m 31 p).length = yl at *
            go_wp2_with fail
            refine HAL.out.mono ?_
            rintro e w6 ⟨rfl, q1, q2⟩
            have HI6 := Lib.hid q1
            have HG6 := Lib.hid (grown_trans HG5.out q2)
            clear q1 q2 HAL
            go_wp2_with fail
            exact ⟨⟨k + 1, actW m x p, _, rfl, by omega, by omega, by go_num, HNW, HI6.out, HV, HG6.out⟩, by simp [intOf]; omega⟩
      · obtain rfl : k = 61 := by omega
        have hv := HRQ.out
        rw [Nat.sub_self, HZ.out] at hv
        have HV := Lib.hid hv
        clear hv c0 c1 c2 c3
        go_wp2_with fail
        go_ret
        exact ⟨by rw [← HV.out]; rfl, HBQ.out⟩
set_option maxHeartbeats 2000000 in
set_option maxRecDepth 100000 in
theorem ordi_any (B B' : Nat) (v v' : Value) (m : List (List Int)) (ws : List Int) (w : World) (h : MatB B w v m) (h' : RowB B' w v' ws) (hB : B ≤ w.heap.size) (hB' : B' ≤ w.heap.size) (hf : RowsFit m) (hw : ws.length ≤ 1048576) :
    Calls Try.prog 37 #[v, v'] w fun e w' => e = .returned (.int .i64 (ordI m ws)) ∧ Below w.heap.size w w' := by
  by_cases hW : IsW m ws
  · by_cases hgo : (decide (7 < (nrmL m ws).length) && !finB m) = true
    · have e : ordI m ws = 0 := by unfold ordI; rw [if_pos (wordB_yes hW), if_pos hgo]
      rw [e]
      have HN := Lib.hid (nrmi_any B B' v v' m ws w h h' hB hB' hf hw)
      rw [wordB_yes hW] at HN
      have HFN := Lib.hid (fun (wx : World) (hb : Below w.heap.size w wx) => fini_any B v m wx (h.below hb hB) (Nat.le_trans hB hb.size) hf)
      rw [Bool.and_eq_true] at hgo
      obtain ⟨hd7, hfn⟩ := hgo
      have hfin : finB m = false := by simpa using hfn
      rw [hfin] at HFN
      obtain ⟨a, cap, rfl⟩ := h.slice
      obtain ⟨a', cap', rfl⟩ := h'.slice
      clear h h' hf hW hfn hfin e
      generalize nrmL m ws = x at *
      generalize hxn : x.length = xn at *
      have HXN := Lib.hid hxn; clear hxn
      have hq7 : (7 : Int) < (xn : Int) := by have := of_decide_eq_true hd7; omega
      have hr7 : decide ((7 : Int) < (xn : Int)) = true := decide_eq_true hq7
      go_enter Try.func37, Try.ntmps37
      go_wp2_with fail
      refine HN.out.mono ?_
      rintro e w1 ⟨xv, rfl, ⟨hx, _⟩, hb1⟩
      obtain ⟨xa, xcap, rfl⟩ := hx.slice
      have HB1 := Lib.hid hb1
      rw [HXN.out]
      have HFC := Lib.hid (HFN.out w1 hb1)
      clear hx hb1 HN HFN
      go_wp2_with fail
      refine HFC.out.mono ?_
      rintro e w2 ⟨rfl, hb2⟩
      have HB2 := Lib.hid (HB1.out.trans (hb2.mono HB1.out.size))
      clear hb2 HFC
      go_wp2_with fail
      go_ret
      exact ⟨rfl, HB2.out⟩
    · have hgo' : (decide (7 < (nrmL m ws).length) && !finB m) = false := by simpa using hgo
      have e : ordI m ws = ordS m (nrmL m ws) 60 1 (imgW m ws) := by unfold ordI; rw [if_pos (wordB_yes hW), if_neg hgo]
      rw [e]
      exact ordi_yes B B' v v' m ws w h h' hB hB' hf hw hW (finB m) rfl hgo'
  · have e : ordI m ws = 0 := by unfold ordI; rw [wordB_no hW]; rfl
    rw [e]
    have HN := Lib.hid (nrmi_any B B' v v' m ws w h h' hB hB' hf hw)
    rw [wordB_no hW, nrmL_no hW] at HN
    obtain ⟨a, cap, rfl⟩ := h.slice
    obtain ⟨a', cap', rfl⟩ := h'.slice
    clear h h' hf hW e
    go_enter Try.func37, Try.ntmps37
    go_wp2_with fail
    refine HN.out.mono ?_
    rintro e w1 ⟨xv, rfl, ⟨hx, _⟩, hb1⟩
    obtain ⟨xa, xcap, rfl⟩ := hx.slice
    have HB1 := Lib.hid hb1
    clear hx hb1 HN
    go_wp2_with fail
    go_ret
    exact ⟨rfl, HB1.out⟩
end Go.Proofs.Ytfjeghalkmkgoaa
namespace Go.Proofs.Ytfjeghalkmkgoaa
open Go.RowKit

theorem refR_len (m : List (List Int)) (i : Int) (l : List Int) : (refR m i l).length = l.length := by
  by_cases h : RefOk m i l
  · rw [refR_yes h, rflR_len]
  · rw [refR_no h]
theorem actR_len (m : List (List Int)) (ws l : List Int) : (actR m ws l).length = l.length := by
  by_cases h : ActOk m ws l
  · rw [actR_yes h, actRW_len]
  · rw [actR_no h]
theorem simR_len (m : List (List Int)) (i : Int) : (simR m i).length ≤ 4 := by
  by_cases h : IsC m ∧ 0 ≤ i ∧ i ≤ (m.length : Int) - 1
  · rw [simR_yes h, unitR_len]; exact h.1.2.2.2
  · rw [simR_no h]; simp
theorem wrtL_len (m : List (List Int)) (l : List Int) : (wrtL m l).length ≤ 4 := by
  by_cases h : IsC m ∧ l.length = m.length
  · rw [wrtL_yes h, wrtK_len]; exact h.1.2.2.2
  · rw [wrtL_no h]; simp
end Go.Proofs.Ytfjeghalkmkgoaa
namespace Go.Proofs.Ytfjeghalkmkgoaa
open Go.RowKit

set_option maxHeartbeats 4000000 in
set_option maxRecDepth 100000 in
theorem l7r_any (B B' : Nat) (v v' : Value) (m : List (List Int)) (l : List Int) (i : Nat) (w : World) (h : MatB B w v m) (h' : RowB B' w v' l) (hB : B ≤ w.heap.size) (hB' : B' ≤ w.heap.size) (hI : IsC m) (hll : l.length = m.length) (hi : i < m.length) :
    Calls Try.prog 68 #[v, .int .i64 i, v'] w (MakesS w (rflR m i l)) := by
  obtain ⟨a, cap, rfl⟩ := h.slice
  obtain ⟨a', cap', rfl⟩ := h'.slice
  have hb0 : Below w.heap.size w (w.alloc (.cells #[] 3)) := (Below.refl _ _).alloc (Nat.le_refl _) _
  have HR := Lib.hid h; have HL := Lib.hid h'
  have HL0 := Lib.hid (h'.below hb0 hB')
  have hs0 : w.heap.size ≤ (w.alloc (.cells #[] 3)).heap.size := by simp
  have hn4 := hI.2.2.2
  have HRW := Lib.hid (show Rows0 m m.length m.length from hI.1)
  have HLL := Lib.hid (show ([] : List Int).length + l.length ≤ 4194304 by simp; omega)
  have HST := Lib.hid (fun k => show prK m i l (k + 1) = addW (prK m i l k) (mulW (entry m i k) (l.getD k 0)) from rfl)
  have HEN := Lib.hid (show rflR m i l = l.set i (subW (l.getD i 0) (prK m i l m.length)) from by unfold rflR; rw [hll])
  have H0 := Lib.hid (show (0 : Int) = prK m i l 0 from rfl)
  clear h h' hI hb0
  rw [hll] at HL HL0 ⊢
  have HLN := Lib.hid hll
  generalize hn : m.length = n at *
  have HN := Lib.hid hn
  clear hn hll
  go_enter Try.func68, Try.ntmps68
  go_wp2_with (at_builtin; go_must (refine append_intsA (row_empty w) hs0 HL0.out HLL.out rfl rfl rfl rfl ?_))
  intro v3 w3 hr3 hb3 hz3
  have hr3 : RowI w.heap.size w3.heap.size w3 v3 l := by simpa using hr3
  obtain ⟨g, xc, rfl, hg1, hg2⟩ : ∃ g xc, v3 = .slice (some ⟨g, 0, none⟩) n xc ∧ w.heap.size ≤ g ∧ g < w3.heap.size := by
    obtain ⟨g, xc, h1, h2, h3⟩ := hr3.at' (by rw [HLN.out]; omega)
    exact ⟨g, xc, by rw [h1, HLN.out], h2, h3⟩
  have HR3 := Lib.hid hr3
  have HB3 := Lib.hid (hb3 w w.heap.size (Nat.le_refl _) ((Below.refl _ _).alloc (Nat.le_refl _) _))
  clear hb3 hz3 hr3 HL0 hs0 HLL
  go_wp2_with fail
  go_loopw [8, 9] (fun s i' wr => ∃ (k q : Nat), wr = w3.drewN q ∧ k ≤ n ∧ i' = .int .i64 k ∧ s = .int .i64 (prK m i l k)) (fun _ i' _ => n - (intOf i').toNat)
  case atStart => exact ⟨0, 0, rfl, Nat.zero_le _, rfl, rfl⟩
  case round =>
    obtain ⟨k, q, rfl, hk, rfl, rfl⟩ := hrel
    by_cases hlt : k < n
    · have hlt' : decide (k < n) = true := decide_eq_true hlt
      obtain ⟨b, off, rb, roff, rcap, rfl, hc1, hx⟩ := (HR.out.below HB3.out hB).entry HRW.out hi hlt
      obtain ⟨b', off', rfl, hbb, hy⟩ := (HL.out.below HB3.out hB').getD hlt
      have HE := Lib.hid (HST.out k)
      clear hbb
      generalize hE : prK m i l (k + 1) = E at *
      have HQ := Lib.hid hE; clear hE
      generalize prK m i l k = s at *
      generalize l.getD k 0 = x at *
      generalize entry m i k = y at *
      obtain ⟨pr, hpr⟩ : ∃ pr, pr = mulW y x := ⟨_, rfl⟩
      have h1 : IntKind.i64.wrap (y * x) = pr := by rw [hpr, wrapk]; rfl
      have h2 : wrap64 (y * x) = pr := by rw [hpr]; rfl
      have h3 : IntKind.i64.wrap (s + pr) = E := by rw [HE.out, hpr, wrapk]; rfl
      have h4 : wrap64 (s + pr) = E := by rw [HE.out, hpr]; rfl
      clear hpr HE
      go_wp2_with fail
      go_quiet (fail)
      go_wp2_with fail
      exact ⟨⟨k + 1, q + nq, by first | rfl | exact World.drewN_drewN _ _ _, by omega, by go_num, by rw [HQ.out]⟩, by simp [intOf]; omega⟩
    · obtain rfl : k = n := by omega
      have hlt' : decide (k < k) = false := by simp
      have hr3 := HR3.out.same (SameIn.of_below (below_drewN q) (Nat.le_refl _))
      have hown : (w3.drewN q).ownsRow w.heap.size 3 1 (.slice (some ⟨g, 0, none⟩) k xc) k (intsV l) := by have := hr3.1; rw [HLN.out] at this; exact this
      obtain ⟨b', off', he, hbb, hy⟩ := (HL.out.below (HB3.out.trans ((below_drewN q).mono HB3.out.size)) hB').getD hi
      subst he
      have hcell : (w3.drewN q).cell? ⟨g, i, none⟩ = some (.int .i64 (l.getD i 0)) := by
        have := hown.cellAt i (by omega)
        rw [this]; simp [intsV, List.getD, show i < l.length by rw [HLN.out]; exact hi]
      have hfz : (w3.drewN q).frozen? ⟨g, i, none⟩ = false := hown.frozenAt i
      obtain ⟨hst, hgs⟩ := hown.stored i (.int .i64 (subW (l.getD i 0) (prK m i l k)))
      rw [intsV_set, ← HEN.out] at hst
      have HST' := Lib.hid hst
      have HGS := Lib.hid hgs
      have HLR := Lib.hid (show (rflR m i l).length = k by rw [rflR_len, HLN.out])
      have HE := Lib.hid (show subW (l.getD i 0) (prK m i l k) = wrap64 (l.getD i 0 - prK m i l k) from rfl)
      have HBQ := Lib.hid ((HB3.out.trans ((below_drewN q).mono HB3.out.size)).grown hgs (by show w.heap.size ≤ w3.heap.size; omega) (fun j hj => by have := Option.some.inj hj; omega))
      clear hst hgs hown hr3 hbb
      generalize subW (l.getD i 0) (prK m i l k) = E at *
      generalize prK m i l k = s at *
      generalize l.getD i 0 = x at *
      have h3 : IntKind.i64.wrap (x - s) = E := by rw [HE.out, wrapk]
      have h4 : wrap64 (x - s) = E := by rw [HE.out]
      clear HE
      go_wp2_with fail
      go_ret
      refine ⟨_, rfl, ⟨⟨?_, fun g' hg' => ?_⟩, Nat.le_refl _⟩, HBQ.out⟩
      · rw [HLR.out]; exact HST'.out
      · have : g = g' := by simpa [Value.ownBlock] using hg'
        rw [World.size_setCell]; show g' < w3.heap.size; omega
end Go.Proofs.Ytfjeghalkmkgoaa
