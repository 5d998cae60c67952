/-
  Words: what the program's ConcatWords returns (the library's Grow and Concat at its type word).
-/
import Derived.Test.YtbmghddmilgngaaLc25
namespace Go.Proofs.Ytbmghddmilgngaa
open Go.RowKit

/-- An empty row with room. -/
theorem row_room (w : World) (cur : Array Value) (cap : Nat) (hm : cap ≤ maxLen) (hs : cur.size = cap) :
    RowI w.heap.size (w.alloc (.cells cur 3)).heap.size (w.alloc (.cells cur 3)) (.slice (some ⟨w.heap.size, 0, none⟩) 0 cap) [] :=
  ⟨World.ownsRow_made w cur cap (Nat.le_refl _) hm (by omega), fun g hg => by
    have : w.heap.size = g := by simpa [Value.ownBlock] using hg
    simp; omega⟩
set_option maxHeartbeats 1000000 in
set_option maxRecDepth 100000 in
theorem grow_any (n : Nat) (w : World) (hn : n ≤ 4194304) :
    Calls Try.prog 93 #[.slice none 0 0, .int .i64 n] w (MakesS w []) := by
  obtain ⟨i0, hi, hz0, hz1, hz2⟩ := info_parts Try.infoInt
  by_cases h0 : n = 0
  · subst h0
    go_enter Try.func93, Try.ntmps93
    go_wp2_with fail
    go_ret
    exact ⟨_, rfl, ⟨RowI.nilW _ _ _, Nat.le_refl _⟩, Below.refl _ _⟩
  · have hpos : 0 < n := by omega
    have hd : decide (0 < n) = true := decide_eq_true hpos
    have hrun := Lib.run_append_nil_zeros (P := Try.prog) w 55 3 55 3 i0 (.int .i64 0) .i64 .i64 Try.underlying55 Try.underlying3 hi hz0 n hpos (by omega) (by omega) (by rw [hz2]; omega)
    have hcap : grownCap w n 0 3 ≤ maxLen := grownCap_le_maxLen w n 0 3 (by unfold maxLen; omega)
    have hge := grownCap_ge w n 0 3
    have hsz : (Builtin.zeroCells (Value.int .i64 0).cells n ++ Builtin.zeroCells (Value.int .i64 0).cells (grownCap w n 0 3 - n)).size = grownCap w n 0 3 := by
      rw [Array.size_append, size_zeroCells, size_zeroCells]
      show n * 1 + (_ - n) * 1 = _
      omega
    have HRow := Lib.hid (row_room w.drew _ _ hcap hsz)
    have HRUN := Lib.hid hrun
    unfold maxLen at hcap
    clear hi hz0 hz1 hz2 h0 hrun hsz
    generalize grownCap w n 0 3 = c at *
    generalize Builtin.zeroCells (Value.int .i64 0).cells n ++ Builtin.zeroCells (Value.int .i64 0).cells (c - n) = cur at *
    go_enter Try.func93, Try.ntmps93
    go_wp2_with (at_builtin; go_must (refine Lib.wpList_append_run _ rfl _ _ 55 3 rfl _ _ rfl rfl _ _ HRUN.out ?_))
    go_wp2_with fail
    go_ret
    refine ⟨_, rfl, ⟨HRow.out, Nat.le_refl _⟩, ?_⟩
    exact ((Below.refl w.heap.size w).alloc (Nat.le_refl _) _).trans ((below_drewN 1).mono (by simp))

def catP (l l' : List Int) (k : Nat) : List Int := if k = 0 then [] else if k = 1 then l else l ++ l'
def catN (n n' k : Nat) : Nat := if k = 0 then 0 else if k = 1 then n else n + n'
set_option maxHeartbeats 2000000 in
set_option maxRecDepth 100000 in
theorem slcat_any (g B : Nat) (v v' : Value) (l l' : List Int) (w : World) (hg : g < w.heap.size) (h0 : w.cell? ⟨g, 0, none⟩ = some v) (h1 : w.cell? ⟨g, 1, none⟩ = some v') (h : RowB B w v l) (h' : RowB B w v' l') (hB : B ≤ w.heap.size) (hl : l.length ≤ 1048576) (hl' : l'.length ≤ 1048576) :
    Calls Try.prog 83 #[.slice (some ⟨g, 0, none⟩) 2 2] w (MakesS w (l ++ l')) := by
  have HR := Lib.hid h; have HR' := Lib.hid h'
  obtain ⟨a, cap, rfl⟩ := h.slice
  obtain ⟨a', cap', rfl⟩ := h'.slice
  have HL := Lib.hid hl; have HL' := Lib.hid hl'
  have HP1 : Hid (∀ wq, Below w.heap.size w wq → wq.cell? ⟨g, 0, none⟩ = some (.slice a l.length cap)) := Lib.hid (fun wq hb => (hb.cell (p := ⟨g, 0, none⟩) hg).trans h0)
  have HP2 : Hid (∀ wq, Below w.heap.size w wq → wq.cell? ⟨g, 1, none⟩ = some (.slice a' l'.length cap')) := Lib.hid (fun wq hb => (hb.cell (p := ⟨g, 1, none⟩) hg).trans h1)
  clear h h'
  generalize hn : l.length = n at *
  generalize hn' : l'.length = n' at *
  have HN := Lib.hid hn; have HN' := Lib.hid hn'
  clear hn hn'
  have HG := Lib.hid (fun wq => grow_any (n + n') wq (by omega))
  go_enter Try.func83, Try.ntmps83
  go_wp2_with fail
  go_loop [3, 11] (fun s i => ∃ (k : Nat), k ≤ 2 ∧ i = .int .i64 k ∧ s = .int .i64 (catN n n' k)) (fun _ i => 2 - (RowKit.intOf i).toNat)
  case atStart => exact ⟨0, by omega, rfl, rfl⟩
  case round =>
    obtain ⟨k, hk, rfl, rfl⟩ := hrel
    rcases (show k = 0 ∨ k = 1 ∨ k = 2 by omega) with rfl | rfl | rfl
    · have e0 : catN n n' 0 = 0 := rfl
      rw [e0]; clear e0
      go_wp2_with fail
      exact ⟨⟨1, by omega, by go_num, by simp [catN]⟩, by simp [RowKit.intOf]⟩
    · have e0 : catN n n' 1 = n := rfl
      rw [e0]; clear e0
      go_wp2_with fail
      exact ⟨⟨2, by omega, by go_num, by simp [catN]⟩, by simp [RowKit.intOf]⟩
    · have e0 : catN n n' 2 = n + n' := rfl
      rw [e0]; clear e0
      have HGW := Lib.hid (HG.out w)
      clear h0 h1
      go_wp2_with fail
      refine HGW.out.mono ?_
      rintro e w1 ⟨x, rfl, hx, hb⟩
      have HX := Lib.hid hx.1; have HB := Lib.hid hb
      clear hx hb
      go_wp2_with fail
      go_loopw [6, 27] (fun o i wr => ∃ (k : Nat) (wq : World), wq = wr ∧ k ≤ 2 ∧ i = .int .i64 k ∧ RowI w.heap.size wq.heap.size wq o (catP l l' k) ∧ Below w.heap.size w wq) (fun _ i _ => 2 - (RowKit.intOf i).toNat)
      case atStart => exact ⟨0, _, rfl, by omega, rfl, HX.out, HB.out⟩
      case round =>
        obtain ⟨k, wq, rfl, hk, rfl, hM, hb⟩ := hrel
        have HM := Lib.hid hM
        have hsq := hb.size
        have HBQ := Lib.hid hb
        clear hM hb
        rcases (show k = 0 ∨ k = 1 ∨ k = 2 by omega) with rfl | rfl | rfl
        · have hcell := HP1.out _ HBQ.out
          have hlen : ([] : List Int).length + l.length ≤ 4194304 := by rw [HN.out]; simp; omega
          have HLEN := Lib.hid hlen; clear hlen
          go_wp2_with (at_builtin; go_must (refine append_intsT (l := []) 55 Try.underlying55 HM.out hsq (HR.out.below HBQ.out hB) HLEN.out rfl rfl rfl rfl ?_))
          intro v3 w3 hr3 hb3 hz3
          have HR3 := Lib.hid hr3
          have HB3 := Lib.hid (hb3 w w.heap.size (Nat.le_refl _) HBQ.out)
          clear hb3 hz3 hr3 hcell
          go_wp2_with fail
          exact ⟨⟨1, _, rfl, by omega, by go_num, HR3.out, HB3.out⟩, by simp [RowKit.intOf]⟩
        · have hcell := HP2.out _ HBQ.out
          have hlen : l.length + l'.length ≤ 4194304 := by rw [HN.out, HN'.out]; omega
          have HLEN := Lib.hid hlen; clear hlen
          go_wp2_with (at_builtin; go_must (refine append_intsT (l := l) 55 Try.underlying55 HM.out hsq (HR'.out.below HBQ.out hB) HLEN.out rfl rfl rfl rfl ?_))
          intro v3 w3 hr3 hb3 hz3
          have HR3 := Lib.hid hr3
          have HB3 := Lib.hid (hb3 w w.heap.size (Nat.le_refl _) HBQ.out)
          clear hb3 hz3 hr3 hcell
          go_wp2_with fail
          exact ⟨⟨2, _, rfl, by omega, by go_num, HR3.out, HB3.out⟩, by simp [RowKit.intOf]⟩
        · go_wp2_with fail
          go_ret
          exact ⟨_, rfl, ⟨HM.out, Nat.le_refl _⟩, HBQ.out⟩
set_option maxHeartbeats 1000000 in
set_option maxRecDepth 100000 in
theorem wcat_any (B : Nat) (v v' : Value) (l l' : List Int) (w : World) (h : RowB B w v l) (h' : RowB B w v' l') (hB : B ≤ w.heap.size) (hl : l.length ≤ 1048576) (hl' : l'.length ≤ 1048576) :
    Calls Try.prog 69 #[v, v'] w (MakesS w (l ++ l')) := by
  have hb0 : Below w.heap.size w (w.alloc (.cells #[v, v'] 55)) := (Below.refl _ _).alloc (Nat.le_refl _) _
  have HC := Lib.hid (slcat_any w.heap.size B v v' l l' (w.alloc (.cells #[v, v'] 55)) (by simp) (by rw [World.cell?_alloc_at _ _ _ _ rfl]; rfl) (by rw [World.cell?_alloc_at _ _ _ _ rfl]; rfl) (h.below hb0 hB) (h'.below hb0 hB) (by simp; omega) hl hl')
  have HB0 := Lib.hid hb0
  obtain ⟨a, cap, rfl⟩ := h.slice
  obtain ⟨a', cap', rfl⟩ := h'.slice
  clear h h' hb0 hl hl'
  generalize l.length = n at *
  generalize l'.length = n' at *
  go_enter Try.func69, Try.ntmps69
  go_wp2_with fail
  refine HC.out.mono ?_
  rintro e w1 ⟨x, rfl, hx, hb⟩
  have HX := Lib.hid (hx.1.mono (A' := w.heap.size) (B' := w1.heap.size) (by simp) (Nat.le_refl _))
  have HB := Lib.hid (HB0.out.trans (hb.mono (by simp)))
  clear hx hb
  go_wp2_with fail
  go_ret
  exact ⟨_, rfl, ⟨HX.out, Nat.le_refl _⟩, HB.out⟩
end Go.Proofs.Ytbmghddmilgngaa
