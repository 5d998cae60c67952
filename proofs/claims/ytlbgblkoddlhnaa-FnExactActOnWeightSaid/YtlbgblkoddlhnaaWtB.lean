/-
  slices.Backward's iterator at a list of ints: what it owes: the places and the numbers, from the last on.
-/
import Derived.Test.YtlbgblkoddlhnaaRange
import Derived.Test.YtlbgblkoddlhnaaGet
import Derived.Test.YtlbgblkoddlhnaaOwn
namespace Go.Proofs.Ytlbgblkoddlhnaa
open Go.RowKit Go.Shelf
attribute [local go_sem] Oper.semAt_some

/-- What is handed over: place and number, the last first. -/
def backX (ws : List Int) : List (Array Value) := (List.range ws.length).map fun k => #[.int .i64 (((ws.length - k : Nat) : Int) - 1), .int .i64 (ws.getD (ws.length - k - 1) 0)]
theorem backX_len (ws : List Int) : (backX ws).length = ws.length := by simp [backX]
theorem backX_get (ws : List Int) (k : Nat) (h : k < (backX ws).length) : (backX ws)[k] = #[.int .i64 (((ws.length - k : Nat) : Int) - 1), .int .i64 (ws.getD (ws.length - k - 1) 0)] := by simp [backX]
/-- The iterator's own cell, and the list itself. -/
def BackR (B C : Nat) (v : Value) (ws : List Int) (_k : Nat) (W : World) : Prop := Boxed W C 23 v ∧ RowB B W v ws
set_option maxRecDepth 100000 in
set_option maxHeartbeats 1000000 in
theorem back_gives (n : Nat) (hn : 1 ≤ n) (B C : Nat) (v : Value) (ws : List Int) (hl : ws.length ≤ 1048576) :
    GivesB Fence.wide n Try.prog 89 #[.pointer (some ⟨C, 0, none⟩)] (backX ws) (BackR B C v ws) (fun A A' => A' = A) := by
  intro lp J Jx W hJ hY h0 hR0
  refine callsIn_of_wp Try.func89 rfl trivial ?_ rfl
  simp only [Try.ntmps89, List.size_toArray, List.length_cons, List.length_nil, Nat.reduceAdd, Nat.reduceSub, Array.replicate_succ, Array.replicate_zero, List.push_toArray, List.append_toArray, List.nil_append, List.cons_append]
  have hR1 := hR0
  obtain ⟨b1, hr⟩ := hR0
  obtain ⟨a, cap, rfl⟩ := hr.slice
  have c1 := b1.cell
  have HLE := Lib.hid (backX_len ws)
  have HGE := Lib.hid (backX_get ws)
  generalize hL : ws.length = L at *
  have HL := Lib.hid hL
  clear hL
  clear b1 hr
  gi_wp2
  gi_loopw [3] (fun i W' => ∃ (j : Nat), j ≤ L ∧ i = .int .i64 ((j : Int) - 1) ∧ BackR B C (.slice a L cap) ws 0 W' ∧ J (L - j) W') (fun i _ => (intOf i + 1).toNat)
  case atStart => exact ⟨L, Nat.le_refl _, rfl, hR1, by rw [Nat.sub_self]; exact h0⟩
  case round =>
    obtain ⟨j, hj, rfl, ⟨b1, hr⟩, hJ1⟩ := hrel
    have c1 := b1.cell
    by_cases hj0 : 0 < j
    · have hd : decide ((1 : Int) ≤ (j : Int)) = true := decide_eq_true (by omega)
      obtain ⟨bb, off, rfl, hbb, hx⟩ := hr.getD (show j - 1 < L by omega)
      have hkl : L - j < (backX ws).length := by rw [HLE.out]; omega
      have hy1 := hY (L - j) hkl wr hJ1 ⟨b1, hr⟩
      rw [HGE.out (L - j) hkl, show L - (L - j) = j by omega] at hy1
      obtain ⟨fn, tmps, assign, body, hy, hR⟩ := hy1
      have HSUB := Lib.hid (show L - j + 1 = L - (j - 1) by omega)
      clear hY hJ
      generalize ws.getD (j - 1) 0 = y at *
      gi_wp2
      refine hR.mono ?_
      rintro e W3 (⟨rfl, hJ3, hR3⟩ | ⟨rfl, hJx3⟩)
      · gi_wp2
        go_roundw
        case rel => exact ⟨j - 1, by omega, by rw [Int.ofNat_sub (by omega)]; rfl, hR3, by rw [← HSUB.out]; exact hJ3⟩
        case measure => simp [intOf]; omega
      · gi_wp2
        refine bodyPost_ret (results_none rfl _ _ _) rfl ?_
        exact ⟨⟨_, rfl⟩, .inr hJx3⟩
    · obtain rfl : j = 0 := by omega
      gi_wp2
      go_end0
      exact ⟨⟨_, rfl⟩, .inl (by rw [HLE.out]; exact hJ1)⟩
end Go.Proofs.Ytlbgblkoddlhnaa
