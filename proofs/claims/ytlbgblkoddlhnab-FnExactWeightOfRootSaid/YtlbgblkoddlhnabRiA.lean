/-
  Roots: what the program's heights, signs, pairings and reflections in place return.
-/
import Derived.Test.YtlbgblkoddlhnabRsP
import Derived.Test.YtlbgblkoddlhnabWtJ
import Derived.Test.YtlbgblkoddlhnabGet
import Derived.Deep.QuietTactic
import Derived.Deep.RegionHeld3
namespace Go.Proofs.Ytlbgblkoddlhnab
open Go.RowKit

set_option maxHeartbeats 2000000 in
set_option maxRecDepth 100000 in
theorem pair_any (B B' : Nat) (v v' : Value) (m : List (List Int)) (l : List Int) (i : Nat) (w : World) (h : MatB B w v m) (h' : RowB B' w v' l) (hr : Rows0 m m.length m.length) (hll : l.length = m.length) (hi : i < m.length) (hn : m.length ≤ 1048576) :
    Calls Try.prog 17 #[v, .int .i64 i, v'] w fun e w' => e = .returned (.int .i64 (prK m i l m.length)) ∧ w' = w := by
  obtain ⟨a, cap, rfl⟩ := h.slice
  obtain ⟨a', cap', rfl⟩ := h'.slice
  have HR := Lib.hid h; have HL := Lib.hid h'; have HRW := Lib.hid hr
  have HST := Lib.hid (fun k => show prK m i l (k + 1) = addW (prK m i l k) (mulW (entry m i k) (l.getD k 0)) from rfl)
  obtain ⟨b0, off0, rb0, roff0, rcap0, hrowp⟩ : ∃ b off rb roff rcap, a = some ⟨b, off, none⟩ ∧ w.cell? ⟨b, off + i, none⟩ = some (.slice (some ⟨rb, roff, none⟩) m.length rcap) := by
    obtain ⟨b, off, rb, roff, rcap, h1, h2, _⟩ := h.entry hr hi hi
    exact ⟨b, off, rb, roff, rcap, h1, h2⟩
  obtain ⟨rfl, hc0⟩ := hrowp
  clear h h' hr
  rw [hll] at HL ⊢
  generalize hnm : m.length = n at *
  have HN := Lib.hid hnm
  clear hnm hll
  go_enter Try.func17, Try.ntmps17
  go_wp2_with fail
  go_loop [7, 15] (fun s i' => ∃ (k : Nat), k ≤ n ∧ i' = .int .i64 k ∧ s = .int .i64 (prK m i l k)) (fun _ i' => n - (intOf i').toNat)
  case atStart => exact ⟨0, Nat.zero_le _, rfl, rfl⟩
  case round =>
    obtain ⟨k, hk, rfl, rfl⟩ := hrel
    by_cases hlt : k < n
    · obtain ⟨b, off, rb, roff, rcap, he, hc1, hx⟩ := HR.out.entry HRW.out hi hlt
      injection he with he
      injection he with e1 e2
      subst e1; subst e2
      rw [hc0] at hc1
      injection hc1 with hc1
      injection hc1 with e3 e4 e5
      injection e3 with e3
      injection e3 with e6 e7
      subst e6; subst e7
      obtain ⟨b', off', rfl, hbb, hy⟩ := HL.out.getD hlt
      have HE := Lib.hid (HST.out k)
      clear hbb
      generalize hE : prK m i l (k + 1) = E at *
      have HQ := Lib.hid hE; clear hE
      generalize prK m i l k = s at *
      generalize l.getD k 0 = x at *
      generalize entry m i k = y at *
      obtain ⟨pr, hpr⟩ : ∃ pr, pr = mulW y x := ⟨_, rfl⟩
      have h1 : IntKind.i64.wrap (y * x) = pr := by rw [hpr, wrapk]; rfl
      have h2 : wrap64 (y * x) = pr := by rw [hpr]; rfl
      have h3 : IntKind.i64.wrap (s + pr) = E := by rw [HE.out, hpr, wrapk]; rfl
      have h4 : wrap64 (s + pr) = E := by rw [HE.out, hpr]; rfl
      clear hpr HE
      go_wp2_with fail
      exact ⟨⟨k + 1, by omega, by go_num, by rw [HQ.out]⟩, by simp [intOf]; omega⟩
    · obtain rfl : k = n := by omega
      go_wp2_with fail
      go_ret
      exact ⟨rfl, rfl⟩
end Go.Proofs.Ytlbgblkoddlhnab
