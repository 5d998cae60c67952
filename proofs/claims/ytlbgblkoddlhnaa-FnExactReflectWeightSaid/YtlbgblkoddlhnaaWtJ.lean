/-
  Weights: what the program's reflection in place returns.
-/
import Derived.Test.YtlbgblkoddlhnaaWtQ
import Derived.Test.YtlbgblkoddlhnaaBondW
import Derived.Test.YtlbgblkoddlhnaaTrS
import Derived.Test.YtlbgblkoddlhnaaApp
import Derived.Test.YtlbgblkoddlhnaaLine
import Derived.Deep.RegionLaw
namespace Go.Proofs.Ytlbgblkoddlhnaa
open Go.RowKit

theorem RowI.at' {A B : Nat} {w : World} {v : Value} {l : List Int} (h : RowI A B w v l) (h0 : 0 < l.length) : ∃ g cap, v = .slice (some ⟨g, 0, none⟩) l.length cap ∧ A ≤ g ∧ g < B := by
  rcases h.1.2 with ⟨_, h'⟩ | ⟨g, cap, _, h', hA, _⟩
  · omega
  · exact ⟨g, cap, h', hA, h.2 g (by rw [h']; rfl)⟩

set_option maxHeartbeats 4000000 in
set_option maxRecDepth 100000 in
theorem rip_any (A B : Nat) (v v' : Value) (m : List (List Int)) (l : List Int) (i : Nat) (w : World) (h : MatB B w v m) (h' : RowI A w.heap.size w v' l) (hBA : B ≤ A) (hI : Rows0 m m.length m.length) (hll : l.length = m.length) (hi : i < m.length) (hn : m.length ≤ 1048576) :
    Calls Try.prog 50 #[v, .int .i64 i, v'] w fun e w' => e = .returned (.tuple #[]) ∧ RowI A w'.heap.size w' v' (reflL m i l) ∧ w.grownBy w' v'.ownBlock ∧ w'.heap.size = w.heap.size := by
  obtain ⟨a, cap, rfl⟩ := h.slice
  obtain ⟨g, cap', rfl, hAg, hg⟩ := h'.at' (by omega)
  have HR := Lib.hid h
  have HRW := Lib.hid hI
  have hx0 : w.cell? ⟨g, i, none⟩ = some (.int .i64 (l.getD i 0)) := by
    have := h'.1.cellAt i (by omega)
    rw [this]; simp [intsV, List.getD, show i < l.length by omega]
  have h1 : w.ownsRow A 3 1 (.slice (some ⟨g, 0, none⟩) l.length cap') l.length (intsV (rflS m i l 0)) := by rw [rflS_zero]; exact h'.1
  have H1 := Lib.hid h1
  have HSTP := Lib.hid (fun k (hk : k < m.length) => rflS_step m i l k (by omega))
  have HLN := Lib.hid (fun k (hk : k ≤ m.length) => rflS_len m i l k (by omega))
  have HGT := Lib.hid (fun k (hk : k < m.length) => rflS_get m i l k (by omega))
  have HEND := Lib.hid (show rflS m i l m.length = reflL m i l from by rw [← hll]; exact rflS_end m i l)
  have HRL := Lib.hid (show (reflL m i l).length = m.length from by rw [reflL_len]; exact hll)
  have HEQ := Lib.hid (fun k => show reflE m i l k = subW (l.getD k 0) (mulW (l.getD i 0) (entry m k i)) from rfl)
  clear h h' hI h1
  rw [hll] at H1 ⊢
  rw [hll] at HLN
  generalize l.getD i 0 = z at *
  generalize m.length = n at *
  clear hll
  go_enter Try.func50, Try.ntmps50
  go_wp2_with fail
  clear hx0
  go_loopw [14] (fun i' wr => ∃ (k : Nat) (wq : World), wq = wr ∧ k ≤ n ∧ i' = .int .i64 k ∧ wq.ownsRow A 3 1 (.slice (some ⟨g, 0, none⟩) n cap') n (intsV (rflS m i l k)) ∧ w.grownBy wq (some g) ∧ wq.heap.size = w.heap.size) (fun i' _ => n - (intOf i').toNat)
  case atStart => exact ⟨0, _, rfl, Nat.zero_le _, rfl, H1.out, World.grownBy.refl _ _, rfl⟩
  case round =>
    obtain ⟨k, wq, rfl, hk, rfl, hown, hgr, hsz⟩ := hrel
    have HO := Lib.hid hown; have HG := Lib.hid hgr; have HSZ := Lib.hid hsz
    by_cases hlt : k < n
    · have hcell : wq.cell? ⟨g, k, none⟩ = some (.int .i64 (l.getD k 0)) := by
        rw [hown.cellAt k (by omega)]
        have := HGT.out k hlt
        simp [intsV, this]
      have hfz : wq.frozen? ⟨g, k, none⟩ = false := hown.frozenAt k
      have hbl : ∀ b, b < A → wq.heap[b]? = w.heap[b]? := fun b hb => hgr.block b (by omega) (fun e => by have := Option.some.inj e; omega)
      have hbw : Below A w wq := (Below.refl A w).grown hgr (by omega) (fun j hj => by have := Option.some.inj hj; omega)
      obtain ⟨b, off, rb, roff, rcap, rfl, hc1, hx⟩ := (HR.out.below hbw hBA).entry HRW.out hlt hi
      obtain ⟨hst, hgs⟩ := hown.stored k (.int .i64 (reflE m i l k))
      rw [intsV_set, HSTP.out k hlt] at hst
      have HST := Lib.hid hst
      have HGS := Lib.hid (grown_trans hgr hgs)
      have HE := Lib.hid (HEQ.out k)
      clear hst hgs hown hgr hsz hbl hbw
      generalize reflE m i l k = E at *
      generalize l.getD k 0 = x at *
      generalize entry m k i = y at *
      obtain ⟨pr, hpr⟩ : ∃ pr, pr = mulW z y := ⟨_, rfl⟩
      have h1 : IntKind.i64.wrap (z * y) = pr := by rw [hpr, wrapk]; rfl
      have h2 : wrap64 (z * y) = pr := by rw [hpr]; rfl
      have h3 : IntKind.i64.wrap (x - pr) = E := by rw [HE.out, hpr, wrapk]; rfl
      have h4 : wrap64 (x - pr) = E := by rw [HE.out, hpr]; rfl
      clear hpr HE
      go_wp2_with fail
      go_region
      go_wp2_with fail
      exact ⟨⟨k + 1, _, rfl, by omega, by go_num, HST.out.drew, grown_trans HGS.out ⟨rfl, rfl, rfl, Nat.le_refl _, fun _ _ _ => rfl⟩, by show (World.setCell _ _ _).heap.size = _; rw [World.size_setCell]; exact HSZ.out⟩, by simp [intOf]; omega⟩
    · obtain rfl : k = n := by omega
      have hd : decide (k < k) = false := by simp
      go_wp2_with fail
      go_end0
      have hfin : RowI A wq.heap.size wq (.slice (some ⟨g, 0, none⟩) k cap') (reflL m i l) := by
        refine ⟨?_, fun g' hg' => ?_⟩
        · rw [HRL.out, ← HEND.out]; exact HO.out
        · have : g = g' := by simpa [Value.ownBlock] using hg'
          have := HSZ.out; omega
      exact ⟨rfl, hfin, HG.out, HSZ.out⟩

end Go.Proofs.Ytlbgblkoddlhnaa
