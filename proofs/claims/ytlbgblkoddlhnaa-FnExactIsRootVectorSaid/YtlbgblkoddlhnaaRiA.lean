/-
  Roots: what the program's heights, signs, pairings and reflections in place return.
-/
import Derived.Test.YtlbgblkoddlhnaaRsP
import Derived.Test.YtlbgblkoddlhnaaWtJ
import Derived.Test.YtlbgblkoddlhnaaGet
import Derived.Deep.QuietTactic
import Derived.Deep.RegionHeld3
namespace Go.Proofs.Ytlbgblkoddlhnaa
open Go.RowKit

set_option maxHeartbeats 2000000 in
set_option maxRecDepth 100000 in
theorem hgti_any (B : Nat) (v : Value) (l : List Int) (w : World) (h : RowB B w v l) (hl : l.length ≤ maxLen) :
    Calls Try.prog 35 #[v] w fun e w' => e = .returned (.int .i64 (hgtL l)) ∧ w' = w := by
  obtain ⟨a, cap, rfl⟩ := h.slice
  have HL := Lib.hid h
  unfold maxLen at hl
  have HST := Lib.hid (fun k (hk : k < l.length) => hgtK_step hk)
  have HEN := Lib.hid (hgtK_all l)
  clear h
  generalize hgtL l = R at *
  generalize hln : l.length = L at *
  have HLN := Lib.hid hln; clear hln
  go_enter Try.func35, Try.ntmps35
  go_wp2_with fail
  go_loop [3, 8] (fun s i => ∃ (k : Nat), k ≤ L ∧ i = .int .i64 k ∧ s = .int .i64 (hgtK l k)) (fun _ i => L - (intOf i).toNat)
  case atStart => exact ⟨0, Nat.zero_le _, rfl, rfl⟩
  case round =>
    obtain ⟨k, hk, rfl, rfl⟩ := hrel
    by_cases hlt : k < L
    · obtain ⟨b, off, rfl, hb, hc⟩ := HL.out.getD hlt
      have HE := Lib.hid (HST.out k hlt)
      generalize hE : hgtK l (k + 1) = E at *
      have HQ := Lib.hid hE; clear hE
      generalize hgtK l k = s at *
      generalize l.getD k 0 = x at *
      have h3 : IntKind.i64.wrap (s + x) = E := by rw [HE.out, wrapk]; rfl
      have h4 : wrap64 (s + x) = E := by rw [HE.out]; rfl
      clear HE
      go_wp2_with fail
      exact ⟨⟨k + 1, by omega, by go_num, by rw [HQ.out]⟩, by simp [intOf]; omega⟩
    · obtain rfl : k = L := by omega
      rw [HEN.out]
      go_wp2_with fail
      go_ret
      exact ⟨rfl, rfl⟩
set_option maxHeartbeats 2000000 in
set_option maxRecDepth 100000 in
theorem sgni_any (B : Nat) (v : Value) (l : List Int) (w : World) (h : RowB B w v l) (hl : l.length ≤ maxLen) :
    Calls Try.prog 37 #[v] w fun e w' => e = .returned (.int .i64 (sgnL l)) ∧ w' = w := by
  obtain ⟨a, cap, rfl⟩ := h.slice
  have HL := Lib.hid h
  unfold maxLen at hl
  have HU := Lib.hid (fun k (hk : k < l.length) => upK_step hk)
  have HD := Lib.hid (fun k (hk : k < l.length) => downK_step hk)
  have HUE := Lib.hid (upK_all l); have HDE := Lib.hid (downK_all l)
  have HSG := Lib.hid (show sgnL l = if upL l = downL l then 0 else if upL l = true then 1 else -1 from rfl)
  clear h
  generalize sgnL l = R at *
  generalize hln : l.length = L at *
  have HLN := Lib.hid hln; clear hln
  go_enter Try.func37, Try.ntmps37
  go_wp2_with fail
  go_loop [3, 4, 9] (fun u d i => ∃ (k : Nat), k ≤ L ∧ i = .int .i64 k ∧ u = .bool (upK l k) ∧ d = .bool (downK l k)) (fun _ _ i => L - (intOf i).toNat)
  case atStart => exact ⟨0, Nat.zero_le _, rfl, rfl, rfl⟩
  case round =>
    obtain ⟨k, hk, rfl, rfl, rfl⟩ := hrel
    by_cases hlt : k < L
    · obtain ⟨b, off, rfl, hb, hc⟩ := HL.out.getD hlt
      have HE := Lib.hid (HU.out k hlt)
      have HF := Lib.hid (HD.out k hlt)
      generalize upK l k = u at *
      generalize downK l k = d at *
      generalize l.getD k 0 = x at *
      cases u <;> cases d <;> (go_wp2_with fail) <;> exact ⟨⟨k + 1, by omega, by go_num, by rw [HE.out]; simp, by rw [HF.out]; simp⟩, by simp [intOf]; omega⟩
    · obtain rfl : k = L := by omega
      rw [HUE.out, HDE.out]
      generalize upL l = u at *
      generalize downL l = d at *
      cases u <;> cases d <;> (go_wp2_with fail) <;> go_ret <;> exact ⟨by rw [HSG.out]; rfl, rfl⟩
set_option maxHeartbeats 2000000 in
set_option maxRecDepth 100000 in
theorem pair_any (B B' : Nat) (v v' : Value) (m : List (List Int)) (l : List Int) (i : Nat) (w : World) (h : MatB B w v m) (h' : RowB B' w v' l) (hr : Rows0 m m.length m.length) (hll : l.length = m.length) (hi : i < m.length) (hn : m.length ≤ 1048576) :
    Calls Try.prog 73 #[v, .int .i64 i, v'] w fun e w' => e = .returned (.int .i64 (prK m i l m.length)) ∧ w' = w := by
  obtain ⟨a, cap, rfl⟩ := h.slice
  obtain ⟨a', cap', rfl⟩ := h'.slice
  have HR := Lib.hid h; have HL := Lib.hid h'; have HRW := Lib.hid hr
  have HST := Lib.hid (fun k => show prK m i l (k + 1) = addW (prK m i l k) (mulW (entry m i k) (l.getD k 0)) from rfl)
  obtain ⟨b0, off0, rb0, roff0, rcap0, hrowp⟩ : ∃ b off rb roff rcap, a = some ⟨b, off, none⟩ ∧ w.cell? ⟨b, off + i, none⟩ = some (.slice (some ⟨rb, roff, none⟩) m.length rcap) := by
    obtain ⟨b, off, rb, roff, rcap, h1, h2, _⟩ := h.entry hr hi hi
    exact ⟨b, off, rb, roff, rcap, h1, h2⟩
  obtain ⟨rfl, hc0⟩ := hrowp
  clear h h' hr
  rw [hll] at HL ⊢
  generalize hnm : m.length = n at *
  have HN := Lib.hid hnm
  clear hnm hll
  go_enter Try.func73, Try.ntmps73
  go_wp2_with fail
  go_loop [7, 15] (fun s i' => ∃ (k : Nat), k ≤ n ∧ i' = .int .i64 k ∧ s = .int .i64 (prK m i l k)) (fun _ i' => n - (intOf i').toNat)
  case atStart => exact ⟨0, Nat.zero_le _, rfl, rfl⟩
  case round =>
    obtain ⟨k, hk, rfl, rfl⟩ := hrel
    by_cases hlt : k < n
    · obtain ⟨b, off, rb, roff, rcap, he, hc1, hx⟩ := HR.out.entry HRW.out hi hlt
      injection he with he
      injection he with e1 e2
      subst e1; subst e2
      rw [hc0] at hc1
      injection hc1 with hc1
      injection hc1 with e3 e4 e5
      injection e3 with e3
      injection e3 with e6 e7
      subst e6; subst e7
      obtain ⟨b', off', rfl, hbb, hy⟩ := HL.out.getD hlt
      have HE := Lib.hid (HST.out k)
      clear hbb
      generalize hE : prK m i l (k + 1) = E at *
      have HQ := Lib.hid hE; clear hE
      generalize prK m i l k = s at *
      generalize l.getD k 0 = x at *
      generalize entry m i k = y at *
      obtain ⟨pr, hpr⟩ : ∃ pr, pr = mulW y x := ⟨_, rfl⟩
      have h1 : IntKind.i64.wrap (y * x) = pr := by rw [hpr, wrapk]; rfl
      have h2 : wrap64 (y * x) = pr := by rw [hpr]; rfl
      have h3 : IntKind.i64.wrap (s + pr) = E := by rw [HE.out, hpr, wrapk]; rfl
      have h4 : wrap64 (s + pr) = E := by rw [HE.out, hpr]; rfl
      clear hpr HE
      go_wp2_with fail
      exact ⟨⟨k + 1, by omega, by go_num, by rw [HQ.out]⟩, by simp [intOf]; omega⟩
    · obtain rfl : k = n := by omega
      go_wp2_with fail
      go_ret
      exact ⟨rfl, rfl⟩
set_option maxHeartbeats 2000000 in
set_option maxRecDepth 100000 in
theorem rrc_any (B g off n cap : Nat) (v : Value) (m : List (List Int)) (l : List Int) (i : Nat) (w : World) (h : MatB B w v m) (h' : RowB (g + 1) w (.slice (some ⟨g, off, none⟩) n cap) l) (hln : l.length = n) (hfz : w.frozen? ⟨g, off + i, none⟩ = false) (hr : Rows0 m m.length m.length) (hll : n = m.length) (hi : i < m.length) (hn : m.length ≤ 1048576) :
    Calls Try.prog 56 #[v, .int .i64 i, .slice (some ⟨g, off, none⟩) n cap] w fun e w' => e = .returned (.tuple #[]) ∧ ∃ q, w' = (w.setCell ⟨g, off + i, none⟩ (.int .i64 (subW (l.getD i 0) (prK m i l l.length)))).drewN q := by
  have HP := Lib.hid (pair_any B (g + 1) v (.slice (some ⟨g, off, none⟩) n cap) m l i w h h' hr (by omega) hi hn)
  have HPD := Lib.hid (show Calls Try.prog 73 #[v, .int .i64 i, .slice (some ⟨g, off, none⟩) n cap] w.drew fun e w' => e = .returned (.int .i64 (prK m i l m.length)) ∧ w' = w.drew from pair_any B (g + 1) v (.slice (some ⟨g, off, none⟩) n cap) m l i w.drew h h' hr (by omega) hi hn)
  obtain ⟨b', off', hb', hbb, hx0⟩ := h'.getD (j := i) (by omega)
  injection hb' with hb'
  injection hb' with e1 e2
  subst e1; subst e2
  obtain ⟨a, cap0, rfl⟩ := h.slice
  rw [show l.length = m.length by omega]
  have HE := Lib.hid (show subW (l.getD i 0) (prK m i l m.length) = wrap64 (l.getD i 0 - prK m i l m.length) from rfl)
  have hin : i < n := by omega
  clear h h' hr
  generalize subW (l.getD i 0) (prK m i l m.length) = E at *
  generalize prK m i l m.length = s at *
  generalize l.getD i 0 = x at *
  have h3 : IntKind.i64.wrap (x - s) = E := by rw [HE.out, wrapk]
  have h4 : wrap64 (x - s) = E := by rw [HE.out]
  clear HE hbb hln hll
  generalize m.length = nm at *
  go_enter Try.func56, Try.ntmps56
  go_wp2_with fail
  have hxd : w.drew.cell? ⟨g, off + i, none⟩ = some (.int .i64 x) := hx0
  have hfd : w.drew.frozen? ⟨g, off + i, none⟩ = false := hfz
  go_region_with (go_at_call 73; refine HPD.out.mono ?_; rintro e w' ⟨rfl, rfl⟩)
  all_goals
    (try go_wp2_with fail)
    go_end0
    exact ⟨rfl, 1, rfl⟩
end Go.Proofs.Ytlbgblkoddlhnaa
