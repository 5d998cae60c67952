/-
  Lengths: what the program's RightDescents returns.
-/
import Derived.Test.YtnlbmnielemgiaaFl20
import Derived.Test.YtnlbmnielemgiaaFl23
namespace Go.Proofs.Ytnlbmnielemgiaa
open Go.RowKit

set_option maxHeartbeats 2000000 in
set_option maxRecDepth 100000 in
theorem rdsi_any (B B' : Nat) (v v' : Value) (m : List (List Int)) (ws : List Int) (w : World) (h : MatB B w v m) (h' : RowB B' w v' ws) (hB : B ≤ w.heap.size) (hB' : B' ≤ w.heap.size) (hf : RowsFit m) (hw : ws.length ≤ 1048576) :
    Calls Try.prog 24 #[v, v'] w (MakesS w (ldsL m ws.reverse)) := by
  have HRV := Lib.hid (revi_any B' v' ws w h' hB' hw)
  have HLD := Lib.hid (fun (x : Value) (wx : World) (hb : Below w.heap.size w wx) (hx : RowB wx.heap.size wx x ws.reverse) => ldsi_any B wx.heap.size v x m ws.reverse wx (h.below hb hB) hx (Nat.le_trans hB hb.size) (Nat.le_refl _) hf (by rw [List.length_reverse]; exact hw))
  clear h h' hf
  generalize ws.reverse = rv at *
  generalize ldsL m rv = R at *
  go_enter Try.func24, Try.ntmps24
  go_wp2_with fail
  refine HRV.out.mono ?_
  rintro e w1 ⟨x, rfl, hx, hb1⟩
  have HB1 := Lib.hid hb1
  have HC := Lib.hid (HLD.out x w1 hb1 hx.1.rowB)
  clear hx hb1
  go_wp2_with fail
  refine HC.out.mono ?_
  rintro e w2 ⟨y, rfl, hy, hb2⟩
  have HY := Lib.hid (hy.1.mono HB1.out.size (Nat.le_refl _))
  have HB2 := Lib.hid (HB1.out.trans (hb2.mono HB1.out.size))
  clear hy hb2
  go_wp2_with fail
  go_ret
  exact ⟨_, rfl, ⟨HY.out, Nat.le_refl _⟩, HB2.out⟩
end Go.Proofs.Ytnlbmnielemgiaa
