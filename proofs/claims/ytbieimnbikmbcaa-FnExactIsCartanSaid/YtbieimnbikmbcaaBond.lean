/-
  BondOf of the model: what the call returns.
-/
import Derived.Test.YtbieimnbikmbcaaIsC
namespace Go.Proofs.Ytbieimnbikmbcaa
open Go.RowKit

open Classical in
noncomputable def isB (m : List (List Int)) : Bool := decide (IsC m)
open Classical in
theorem isB_yes {m : List (List Int)} (h : IsC m) : isB m = true := decide_eq_true h
open Classical in
theorem isB_no {m : List (List Int)} (h : ¬ IsC m) : isB m = false := decide_eq_false h
theorem isc_q (B : Nat) (v : Value) (m : List (List Int)) (c : Bool) (hc : isB m = c) (w : World) (h : MatB B w v m) (hf : RowsFit m) (q : Nat) :
    Calls Try.prog 10 #[v] (w.drewN q) fun e w' => e = .returned (.bool c) ∧ ∃ m, w' = (w.drewN q).drewN m :=
  (isc_any B v m (w.drewN q) h hf).mono fun e w' ⟨he, hw⟩ => ⟨by
    rcases he with ⟨h1, rfl⟩ | ⟨h1, rfl⟩
    · exact ret_boolean ((isB_yes h1).symm.trans hc)
    · exact ret_boolean ((isB_no h1).symm.trans hc), hw⟩
theorem isc_0 (B : Nat) (v : Value) (m : List (List Int)) (c : Bool) (hc : isB m = c) (w : World) (h : MatB B w v m) (hf : RowsFit m) :
    Calls Try.prog 10 #[v] w fun e w' => e = .returned (.bool c) ∧ ∃ m, w' = w.drewN m :=
  (isc_any B v m w h hf).mono fun e w' ⟨he, hw⟩ => ⟨by
    rcases he with ⟨h1, rfl⟩ | ⟨h1, rfl⟩
    · exact ret_boolean ((isB_yes h1).symm.trans hc)
    · exact ret_boolean ((isB_no h1).symm.trans hc), hw⟩
theorem l1in_c (x a b : Int) (c : Bool) (hc : inB x a b = c) (w : World) :
    Calls Try.prog 27 #[.int .i64 x, .int .i64 a, .int .i64 b] w fun e w' => e = .returned (.bool c) ∧ w = w' :=
  (l1in_any x a b w).mono fun e w' ⟨he, hw⟩ => ⟨by rw [he]; exact ret_boolean hc, hw⟩
/-- The bond of two rows, from the product of the two entries. -/
def bondP (p : Int) : Int := if p = 0 then 2 else if p = 1 then 3 else if p = 2 then 4 else if p = 3 then 6 else 0
open Classical in
noncomputable def bond (m : List (List Int)) (i j : Int) : Int :=
  if IsC m ∧ (0 ≤ i ∧ i ≤ (m.length : Int) - 1) ∧ (0 ≤ j ∧ j ≤ (m.length : Int) - 1) then (if i = j then 1 else bondP (entry m i.toNat j.toNat * entry m j.toNat i.toNat)) else -1
theorem bond_eq {m : List (List Int)} {i : Nat} (h : IsC m) (hi : i < m.length) : bond m i i = 1 := by
  unfold bond; rw [if_pos ⟨h, by omega, by omega⟩, if_pos rfl]
theorem bond_ne {m : List (List Int)} {i j : Nat} (h : IsC m) (hi : i < m.length) (hj : j < m.length) (hn : i ≠ j) : bond m i j = bondP (entry m i j * entry m j i) := by
  unfold bond; rw [if_pos ⟨h, by omega, by omega⟩, if_neg (by omega)]; rfl
theorem isc_in {m : List (List Int)} (h : IsC m) {i j : Nat} (hi : i < m.length) (hj : j < m.length) (hn : i ≠ j) : -3 ≤ entry m i j ∧ entry m i j ≤ 0 := by
  rcases h.2.1 i j hi hj with h | h
  · exact absurd h.1 hn
  · exact h.2.1
theorem four {x : Int} (h : -3 ≤ x ∧ x ≤ 0) : x = 0 ∨ x = -1 ∨ x = -2 ∨ x = -3 := by omega
theorem bond_no {m : List (List Int)} {i j : Int} (h : ¬ (IsC m ∧ (0 ≤ i ∧ i ≤ (m.length : Int) - 1) ∧ (0 ≤ j ∧ j ≤ (m.length : Int) - 1))) : bond m i j = -1 := if_neg h

set_option maxHeartbeats 4000000 in
set_option maxRecDepth 100000 in
theorem bond_walk11 {b off rb roff rcap rb' roff' rcap' n cap p r : Nat} {w : World} {x y k : Int}
    (hq : Calls Try.prog 10 #[.slice (some ⟨b, off, none⟩) n cap] w fun e w' => e = .returned (.bool true) ∧ ∃ m, w' = w.drewN m)
    (hi : inB (p : Int) 0 ((n : Int) - 1) = true) (hj : inB (r : Int) 0 ((n : Int) - 1) = true) (hl : n ≤ 2 ^ 63 - 1) (hp : p < n) (hr : r < n) (hne : ((p : Int) == (r : Int)) = false)
    (hc1 : w.cell? ⟨b, off + p, none⟩ = some (.slice (some ⟨rb, roff, none⟩) n rcap)) (hx1 : w.cell? ⟨rb, roff + r, none⟩ = some (.int .i64 x))
    (hc2 : w.cell? ⟨b, off + r, none⟩ = some (.slice (some ⟨rb', roff', none⟩) n rcap')) (hy1 : w.cell? ⟨rb', roff' + p, none⟩ = some (.int .i64 y))
    (hx : x = -1) (hy : y = -1) (hk : k = bondP (x * y)) :
    Calls Try.prog 14 #[.slice (some ⟨b, off, none⟩) n cap, .int .i64 p, .int .i64 r] w fun e w' => e = .returned (.int .i64 k) ∧ ∃ q, w' = w.drewN q := by
  subst hx hy
  all_goals
    have HQ := Lib.hid hq; clear hq
    have HI := Lib.hid hi; clear hi
    have HJ := Lib.hid hj; clear hj
    have HV := Lib.hid hk; clear hk
    have H1 := Lib.hid hc1; clear hc1
    have H2 := Lib.hid hc2; clear hc2
    have H3 := Lib.hid hx1; clear hx1
    have H4 := Lib.hid hy1; clear hy1
    have H5 := Lib.hid hp; clear hp
    have H6 := Lib.hid hr; clear hr
    go_enter Try.func14, Try.ntmps14
    go_wp2_with (go_at_call 10; refine HQ.out.mono ?_; rintro e w' ⟨rfl, mm, rfl⟩)
    go_at_call 27; refine (l1in_c _ _ _ true HI.out _).mono ?_; rintro e w' ⟨rfl, rfl⟩
    go_wp2_with fail
    have HL := Lib.hid hl; clear hl
    go_at_call 27; refine (l1in_c _ _ _ true HJ.out _).mono ?_; rintro e w' ⟨rfl, rfl⟩
    go_wp2_with fail
    have hl := HL.out
    have hp := H5.out
    have hr := H6.out
    have hc1 := H1.out
    have hc2 := H2.out
    have hx1 := H3.out
    have hy1 := H4.out
    go_quiet (fail)
    go_wp2_with fail
    go_ret
    exact ⟨ret_int (HV.out.trans (by decide)).symm, _, rfl⟩

end Go.Proofs.Ytbieimnbikmbcaa
