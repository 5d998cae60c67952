/-
  Words: what the program's CompareWords, EqualWords, ReverseWord and ConcatWords return.
-/
import Derived.Lib.AppendZeros
import Derived.Test.YtfjeghalkmkgoaaFl21
import Derived.Test.YtfjeghalkmkgoaaFl19
namespace Go.Proofs.Ytfjeghalkmkgoaa
open Go.RowKit

def cmpI (x y : Int) : Int := if x < y then -1 else if y < x then 1 else 0
theorem cmpI_lt {x y : Int} (h : x < y) : cmpI x y = -1 := if_pos h
theorem cmpI_gt {x y : Int} (h : y < x) : cmpI x y = 1 := by unfold cmpI; rw [if_neg (by omega), if_pos h]
theorem cmpI_eq {x y : Int} (h : x = y) : cmpI x y = 0 := by unfold cmpI; rw [if_neg (by omega), if_neg (by omega)]
set_option maxRecDepth 100000 in
theorem wrev_any (B : Nat) (v : Value) (l : List Int) (w : World) (h : RowB B w v l) (hB : B ≤ w.heap.size) (hl : l.length ≤ 1048576) :
    Calls Try.prog 83 #[v] w (MakesS w l.reverse) := by
  have HC := Lib.hid (clone_any B v l w h hB hl)
  have HL := Lib.hid hl
  clear h hl
  go_enter Try.func83, Try.ntmps83
  go_wp2_with fail
  refine HC.out.mono ?_
  rintro e w1 ⟨x, rfl, hx, hb⟩
  have HR := Lib.hid (revw_row w.heap.size w1 x l hx.1 HL.out)
  have HB := Lib.hid hb
  have HX := Lib.hid hx
  clear hx hb
  go_wp2_with fail
  refine HR.out.mono ?_
  rintro e w2 ⟨rfl, hr, hg⟩
  have HR2 := Lib.hid hr
  have HB2 := Lib.hid (HB.out.grown hg HB.out.size (fun k hk => (HX.out.1.1.lt k hk).1))
  clear hr hg
  go_wp2_with fail
  go_ret
  exact ⟨_, rfl, ⟨HR2.out, Nat.le_refl _⟩, HB2.out⟩
set_option maxRecDepth 100000 in
theorem revi_any (B : Nat) (v : Value) (l : List Int) (w : World) (h : RowB B w v l) (hB : B ≤ w.heap.size) (hl : l.length ≤ 1048576) :
    Calls Try.prog 59 #[v] w (MakesS w l.reverse) := by
  have HC := Lib.hid (wrev_any B v l w h hB hl)
  clear h hl
  go_enter Try.func59, Try.ntmps59
  go_wp2_with fail
  refine HC.out.mono ?_
  rintro e w1 ⟨x, rfl, hx, hb⟩
  have HX := Lib.hid hx; have HB := Lib.hid hb
  clear hx hb
  go_wp2_with fail
  go_ret
  exact ⟨_, rfl, HX.out, HB.out⟩
end Go.Proofs.Ytfjeghalkmkgoaa
