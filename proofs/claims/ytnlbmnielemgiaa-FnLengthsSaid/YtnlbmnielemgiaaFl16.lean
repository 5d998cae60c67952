/-
  Lengths: the program's image of the ones as an array of its own: what its methods act and descents do.
  Roots: what the program's heights, signs, pairings and reflections in place return.
  Roots: what the program's reflection in place leaves of a list of the call's own.
  TransposeCartan of the program: what the call returns.
  Weights and roots: what the program's ReflectWeight and ReflectRoot return (printed by mk_ri.py).
  Weights: what the program's ReflectWeight, AddWeights and SimpleRootWeight return.
-/
import Derived.Test.YtnlbmnielemgiaaFl10
import Derived.Test.YtnlbmnielemgiaaFl11
import Derived.Test.YtnlbmnielemgiaaFl15
import Derived.Deep.QuietTactic
import Derived.Deep.RegionHeld3
import Derived.Test.YtnlbmnielemgiaaFl09
import Derived.Test.YtnlbmnielemgiaaFl07
namespace Go.Proofs.Ytnlbmnielemgiaa
open Go.RowKit

def zer4 (l : List Int) : List Int := List.replicate (4 - l.length) 0
theorem pad4_zer {l : List Int} (h : l.length ≤ 4) : pad4 l = l ++ zer4 l := by
  unfold zer4
  rcases len4 h with e | ⟨a, e⟩ | ⟨a, b, e⟩ | ⟨a, b, c, e⟩ | ⟨a, b, c, d, e⟩ <;> subst e <;> rfl
/-- The block g is an array of four that holds the row, padded. -/
def Im4 (w : World) (g : Nat) (l : List Int) : Prop := w.heap[g]? = some (.cells (intsV (pad4 l)).toArray 51 (0, 0))
theorem Im4.lt {w : World} {g : Nat} {l : List Int} (h : Im4 w g l) : g < w.heap.size := (Array.getElem?_eq_some_iff.1 h).1
theorem Im4.cell {w : World} {b : Nat} {l : List Int} (h : Im4 w b l) {a0 a1 a2 a3 : Int} (hp : pad4 l = [a0, a1, a2, a3]) :
    w.cell? ⟨b, 0, none⟩ = some (.int .i64 a0) ∧ w.cell? ⟨b, 1, none⟩ = some (.int .i64 a1) ∧ w.cell? ⟨b, 2, none⟩ = some (.int .i64 a2) ∧ w.cell? ⟨b, 3, none⟩ = some (.int .i64 a3) := by
  unfold Im4 at h
  rw [hp] at h
  exact ⟨by rw [cell_of_row _ b 0 _ _ _ h]; rfl, by rw [cell_of_row _ b 1 _ _ _ h]; rfl, by rw [cell_of_row _ b 2 _ _ _ h]; rfl, by rw [cell_of_row _ b 3 _ _ _ h]; rfl⟩
theorem Im4.at {w : World} {b : Nat} {l : List Int} (h : Im4 w b l) {k : Nat} (hk : k < 4) : w.cell? ⟨b, k, none⟩ = some (.int .i64 (l.getD k 0)) := by
  rw [cell_of_row _ b k _ _ _ h]
  have := pad4_get (l := l) hk
  simp [intsV, this]
theorem Im4.frozen {w : World} {b : Nat} {l : List Int} (h : Im4 w b l) (j : Nat) : w.frozen? ⟨b, j, none⟩ = false := frozen_of_row w b j _ _ h
theorem Im4.kept {w w' : World} {b : Nat} {l : List Int} {S : Option Nat} (h : Im4 w b l) (hg : w.grownBy w' S) (hne : some b ≠ S) : Im4 w' b l :=
  (hg.block b (Array.getElem?_eq_some_iff.1 h).1 hne).trans h
theorem Im4.below {w w' : World} {b B : Nat} {l : List Int} (h : Im4 w b l) (hb : Below B w w') (hB : b < B) : Im4 w' b l := (hb.block b hB).trans h
theorem Im4.new {w : World} {l : List Int} {a0 a1 a2 a3 : Int} (hp : pad4 l = [a0, a1, a2, a3]) : Im4 (w.alloc (.cells #[.int .i64 a0, .int .i64 a1, .int .i64 a2, .int .i64 a3] 51)) w.heap.size l := by
  unfold Im4
  rw [hp]
  exact (MapKept.heap_alloc w _).1
theorem Im4.rowF {w : World} {A g : Nat} {l : List Int} (h : Im4 w g l) (hl : l.length ≤ 4) (hA : A ≤ g) : RowF 51 A w g 4 l (zer4 l) := by
  have hz : l.length + (zer4 l).length = 4 := by unfold zer4; rw [List.length_replicate]; omega
  unfold Im4 at h
  rw [pad4_zer hl] at h
  refine ⟨by rw [intsV_len, List.length_append]; omega, .inr ⟨g, 4, _, rfl, hA, h, by omega, by unfold maxLen; omega, by simp [intsV_len, hz], ?_⟩⟩
  rw [hz]
  have e : (intsV (l ++ zer4 l)).length = 4 := by rw [intsV_len, List.length_append]; exact hz
  exact List.take_of_length_le (by show (intsV (l ++ zer4 l)).length ≤ _; omega)
theorem RowF.im4 {w : World} {A g : Nat} {l z : List Int} (h : RowF 51 A w g 4 l z) (hz : l.length + z.length = 4) (hp : pad4 l = l ++ z) : Im4 w g l := by
  unfold RowF at h
  rw [hz] at h
  rcases h.2 with ⟨h', _⟩ | ⟨g', cap', cur, h1, h2, h3, h4, h5, h6, h7⟩
  · simp at h'
  · simp only [Value.slice.injEq, Option.some.injEq, Addr.mk.injEq, and_true, true_and] at h1
    obtain ⟨rfl, rfl⟩ := h1
    unfold Im4
    rw [h3, hp]
    have e : cur.toList = intsV (l ++ z) := by
      rw [← h7]
      exact (List.take_of_length_le (by simp; omega)).symm
    rw [← e]
set_option maxRecDepth 100000 in
theorem slice_im (b L : Nat) (h : L ≤ 4) (w : World) : (Instr.sliceAt 51 (.pointer (some ⟨b, 0, none⟩)) none (some (.int .i64 L)) none).run Try.prog w = .ok (.slice (some ⟨b, 0, none⟩) L 4) w := by
  have hA : Try.prog.underlying 51 = some (.array (Try.prog.arrayLen 51) (Try.prog.elem 51)) := by kernel_rfl
  have h4 : Try.prog.arrayLen 51 = 4 := by kernel_rfl
  have he : Try.prog.elem 51 = 3 := by kernel_rfl
  rw [run_sliceAt_array_h w 51 ⟨b, 0, none⟩ hA .i64 L (by omega) (by rw [h4]; omega), he, h4]
  have hs : (sizeOf 3).run Try.prog w = .ok 1 w := by rfl
  rw [hs]
  simp [slicedAt, Addr.add]
set_option maxRecDepth 100000 in
theorem slice_im_all (b : Nat) (w : World) : (Instr.sliceAt 51 (.pointer (some ⟨b, 0, none⟩)) none none none).run Try.prog w = .ok (.slice (some ⟨b, 0, none⟩) 4 4) w := by
  have hA : Try.prog.underlying 51 = some (.array (Try.prog.arrayLen 51) (Try.prog.elem 51)) := by kernel_rfl
  have h4 : Try.prog.arrayLen 51 = 4 := by kernel_rfl
  have he : Try.prog.elem 51 = 3 := by kernel_rfl
  rw [run_sliceAt_array_all w 51 ⟨b, 0, none⟩ hA, he, h4]
  have hs : (sizeOf 3).run Try.prog w = .ok 1 w := by rfl
  rw [hs]
  simp [slicedAt, Addr.add]
set_option maxHeartbeats 1000000 in
set_option maxRecDepth 100000 in
theorem acim_any (B g : Nat) (v v1 : Value) (m : List (List Int)) (ws l : List Int) (w : World) (h : MatB B w v m) (h1 : RowN g w.heap.size w v1 ws) (h2 : Im4 w g l) (hBg : B ≤ g) (hI : IsC m) (hW : LetTo m.length ws ws.length) (hws : ws.length ≤ 1048576) (hll : l.length = m.length) :
    Calls Try.prog 79 #[.pointer (some ⟨g, 0, none⟩), v, v1] w fun e' w' => e' = .returned (.tuple #[]) ∧ Im4 w' g (actW m ws l) ∧ w.grownBy w' (some g) := by
  have hn4 := hI.2.2.2
  have HAP := Lib.hid ((aplw_any 51 B B g 4 4 v v1 m ws l (zer4 l) w h h1 (h2.rowF (by omega) hBg) (Nat.le_refl _) hI hW hws hll).mono (R' := fun e' w' => e' = .returned (.tuple #[]) ∧ Im4 w' g (actW m ws l) ∧ w.grownBy w' (some g)) fun e w' ⟨q1, q2, q3⟩ => by
    have e1 : (actW m ws l).length = l.length := actW_len m ws l
    have e2 : zer4 l = zer4 (actW m ws l) := by unfold zer4; rw [e1]
    refine ⟨q1, q2.im4 (by unfold zer4; rw [List.length_replicate, e1]; omega) ?_, q3⟩
    rw [e2]; exact pad4_zer (by omega))
  have hsl := fun wx => slice_im g m.length hn4 wx
  obtain ⟨a, cap, rfl⟩ := h.slice
  clear h h1 h2 hI hW hll
  generalize m.length = n at *
  generalize actW m ws l = R at *
  go_enter Try.func79, Try.ntmps79
  go_wp2_with fail
  refine HAP.out.mono ?_
  rintro e w1 ⟨rfl, q1, q2⟩
  have H1 := Lib.hid q1; have H2 := Lib.hid q2
  clear q1 q2
  go_wp2_with fail
  go_end0
  exact ⟨rfl, H1.out, H2.out⟩
theorem dnsK_pad {l : List Int} : ∀ k, l.length ≤ k → dnsK l k = dnsK l l.length
  | 0, h => by rw [show l.length = 0 by omega]
  | k + 1, h => by
    rcases Nat.lt_or_ge k l.length with h1 | h1
    · rw [show k + 1 = l.length by omega]
    · rw [← dnsK_no (by have : l.getD k 0 = 0 := by { simp [List.getD, h1] }; omega)]
      exact dnsK_pad k h1
set_option maxHeartbeats 2000000 in
set_option maxRecDepth 100000 in
theorem desc_any (g : Nat) (l : List Int) (w : World) (h : Im4 w g l) (hl : l.length ≤ 4) :
    Calls Try.prog 67 #[.pointer (some ⟨g, 0, none⟩)] w (MakesS w (dnsK l l.length)) := by
  rw [← dnsK_pad 4 hl]
  have HG := Lib.hid h
  have hgw := h.lt
  have HDY := Lib.hid (fun k h => dnsK_yes (l := l) (k := k) h)
  have HDN := Lib.hid (fun k h => dnsK_no (l := l) (k := k) h)
  have HDL := Lib.hid (fun k => dnsK_len l k)
  have H0 := Lib.hid (show RowI w.heap.size w.heap.size w (.slice none 0 0) (dnsK l 0) from RowI.nil' _ _ _)
  have HRF := Lib.hid (Below.refl w.heap.size w)
  clear h
  go_enter Try.func67, Try.ntmps67
  go_wp2_with fail
  go_loopw [3, 7] (fun o i wr => ∃ (k : Nat) (wq : World), wq = wr ∧ k ≤ 4 ∧ i = .int .i64 k ∧ RowI w.heap.size wq.heap.size wq o (dnsK l k) ∧ Below w.heap.size w wq) (fun _ i _ => 4 - (intOf i).toNat)
  case atStart => exact ⟨0, _, rfl, Nat.zero_le _, rfl, H0.out, HRF.out⟩
  case round =>
    obtain ⟨k, wq, rfl, hk, rfl, hM, hb⟩ := hrel
    have HM := Lib.hid hM; have HB := Lib.hid hb
    have hsq := hb.size
    have hx4 := fun (hlt : k < 4) => (HG.out.below hb hgw).at hlt
    clear hM hb
    by_cases hlt : k < 4
    · have hd : decide ((k : Int) < 4) = true := decide_eq_true (by omega)
      have hx := hx4 hlt
      clear hx4
      by_cases hp : l.getD k 0 < 0
      · have hd2 : decide (l.getD k 0 < 0) = true := decide_eq_true hp
        have HS := Lib.hid (HDY.out k hp)
        have HRL := Lib.hid (show (dnsK l k).length ≤ 4194304 from by have := HDL.out k; omega)
        generalize l.getD k 0 = y at *
        have HMD := Lib.hid (show RowI w.heap.size wq.drew.heap.size wq.drew _ (dnsK l k) from HM.out)
        have HBD := Lib.hid (HB.out.trans ((below_drewN (w := wq) 1).mono hsq))
        have hsqd : w.heap.size ≤ wq.drew.heap.size := hsq
        go_wp2_with fail
        go_region
        go_wp2_with (at_builtin; go_must (refine append_intP HMD.out hsqd rfl (k : Int) rfl rfl rfl rfl HRL.out ?_; intro v6 w6 hr6 hg6 hl6))
        rw [HS.out] at hr6
        have HM6 := Lib.hid hr6
        have HB6 := Lib.hid (HBD.out.grown hg6 hsqd (fun j hj => (HMD.out.1.lt j hj).1))
        clear hr6 hg6 hl6
        go_wp2_with fail
        exact ⟨⟨k + 1, _, rfl, by omega, by go_num, HM6.out, HB6.out⟩, by simp [intOf]; omega⟩
      · have hd2 : decide (l.getD k 0 < 0) = false := decide_eq_false hp
        have hs := HDN.out k (by omega)
        have HMS := Lib.hid (show RowI w.heap.size wq.heap.size wq _ (dnsK l (k + 1)) from hs ▸ HM.out)
        clear hs
        generalize l.getD k 0 = y at *
        have HMD := Lib.hid (show RowI w.heap.size wq.drew.heap.size wq.drew _ (dnsK l (k + 1)) from HMS.out)
        have HBD := Lib.hid (HB.out.trans ((below_drewN (w := wq) 1).mono hsq))
        go_wp2_with fail
        go_region
        go_wp2_with fail
        exact ⟨⟨k + 1, _, rfl, by omega, by go_num, HMD.out, HBD.out⟩, by simp [intOf]; omega⟩
    · obtain rfl : k = 4 := by omega
      clear hx4
      go_wp2_with fail
      go_ret
      exact ⟨_, rfl, ⟨HM.out, Nat.le_refl _⟩, HB.out⟩
end Go.Proofs.Ytnlbmnielemgiaa
namespace Go.Proofs.Ytnlbmnielemgiaa
open Go.RowKit

end Go.Proofs.Ytnlbmnielemgiaa
namespace Go.Proofs.Ytnlbmnielemgiaa
open Go.RowKit

theorem rowI_rowB {A B : Nat} {w : World} {g n cap : Nat} {l : List Int} (h : RowI A B w (.slice (some ⟨g, 0, none⟩) n cap) l) (hl : l.length = n) : RowB (g + 1) w (.slice (some ⟨g, 0, none⟩) n cap) l := by
  refine Or.inr ⟨g, 0, cap, by rw [hl], by omega, fun j hj => ?_⟩
  have h1 := h.1
  rw [hl] at h1
  have h2 := h1.cellAt j (by omega)
  rw [Nat.zero_add, h2]; simp [intsV, hj]
end Go.Proofs.Ytnlbmnielemgiaa
namespace Go.Proofs.Ytnlbmnielemgiaa
open Go.RowKit

def zerosR (n : Nat) : List Int := List.replicate n 0
def zeros (n : Nat) : List (List Int) := List.replicate n (zerosR n)
theorem zeros_len (n : Nat) : (zeros n).length = n := by simp [zeros]
theorem zeros_get (n k : Nat) (h : k < (zeros n).length) : (zeros n)[k] = zerosR n := by simp [zeros]
theorem zerosR_len (n : Nat) : (zerosR n).length = n := by simp [zerosR]
theorem zeros_small (n : Nat) (h : n ≤ 1048576) : Small (zeros n) := ⟨by rw [zeros_len]; exact h, fun j hj => by rw [zeros_get, zerosR_len]; exact h⟩

theorem makeInts (n : Nat) (hn : n ≤ 1048576) (w : World) : (Instr.makeSlice 25 (.int .i64 n) (.int .i64 n)).run Try.prog w = .ok (.slice (some ⟨w.heap.size, 0, none⟩) n n) (w.alloc (.cells (intsV (zerosR n)).toArray 3)) := by
  obtain ⟨i0, hi, hz0, hz1, hz2⟩ := info_parts Try.infoInt
  have h := run_make (P := Try.prog) w 25 3 i0 (.int .i64 0) Try.underlying25 hi hz0 .i64 .i64 (n : Int) (n : Int) (by omega) (Int.le_refl _) (by rw [hz2]; omega) (by omega)
  rw [h, hz1, Nat.mul_one, Int.toNat_natCast]
  unfold zerosR
  rw [← madeI64]
theorem makeRows (n : Nat) (hn : n ≤ 1048576) (w : World) (m : List (List Int)) (hm : m.length = n) : (Instr.makeSlice 24 (.int .i64 n) (.int .i64 n)).run Try.prog w = .ok (.slice (some ⟨w.heap.size, 0, none⟩) n n) (w.alloc (.cells (hdrSt w.heap.size m 0).toArray 25)) := by
  obtain ⟨i0, hi, hz0, hz1, hz2⟩ := info_parts Try.infoRow
  have h := run_make (P := Try.prog) w 24 25 i0 (.slice none 0 0) Try.underlying24 hi hz0 .i64 .i64 (n : Int) (n : Int) (by omega) (Int.le_refl _) (by rw [hz2]; omega) (by omega)
  rw [h, hz1, Nat.mul_one, hdrSt_zero, hm, ← madeRows, Int.toNat_natCast]

set_option maxHeartbeats 1000000 in
set_option maxRecDepth 100000 in
theorem zm_any (n : Nat) (w : World) (hn : n ≤ 1048576) :
    Calls Try.prog 146 #[.int .i64 n] w (MakesM w (zeros n)) := by
  have hmk := makeRows n hn w (zeros n) (zeros_len n)
  go_enter Try.func146, Try.ntmps146
  go_wp2_with fail
  clear hmk
  go_loopw [9] (fun i wr => ∃ (k : Nat) (wq : World), wq = wr ∧ k ≤ n ∧ i = .int .i64 k ∧ CopySt w.heap.size (zeros n) k wq ∧ Below w.heap.size w wq) (fun i _ => n - (intOf i).toNat)
  case atStart => exact ⟨0, _, rfl, Nat.zero_le _, rfl, ⟨(MapKept.heap_alloc w _).1, by simp, fun j _ hj => by omega⟩, (Below.refl _ _).alloc (Nat.le_refl _) _⟩
  case round =>
    obtain ⟨k, wr, rfl, hk, rfl, hcp, hb⟩ := hrel
    have HC := Lib.hid hcp; clear hcp
    have HB := Lib.hid hb; clear hb
    by_cases hlt : k < n
    · have hkl : k < (zeros n).length := by rw [zeros_len]; exact hlt
      have hsz := HC.out.2.1
      have HSZ := Lib.hid hsz
      have hst := copy_step HC.out hkl
      have hhd := hdr_eq w.heap.size (zeros n) k hkl
      rw [hhd, zeros_get, zerosR_len] at hst
      have HST := Lib.hid hst; clear hst hhd
      have hbs : Below w.heap.size w ((wr.alloc (.cells (intsV (zerosR n)).toArray 3)).setCell ⟨w.heap.size, k, none⟩ (.slice (some ⟨w.heap.size + 1 + k, 0, none⟩) n n)) :=
        (HB.out.alloc (by omega) _).setCell (Nat.le_refl _) _
      have HBS := Lib.hid hbs; clear hbs
      have hmk := makeInts n hn wr
      rw [hsz] at hmk
      obtain ⟨hO, _, _⟩ := HC.out
      have hO2 : (wr.alloc (.cells (intsV (zerosR n)).toArray 3)).heap[w.heap.size]? = some (.cells (hdrSt w.heap.size (zeros n) k).toArray 25 (0, 0)) := by
        rw [(MapKept.heap_alloc wr _).2 _ (by omega)]; exact hO
      have hold : (wr.alloc (.cells (intsV (zerosR n)).toArray 3)).cell? ⟨w.heap.size, k, none⟩ = some (.slice none 0 0) := by
        rw [cell_of_row _ _ k _ _ _ hO2]
        have := hdrSt_old w.heap.size (zeros n) k hkl
        simpa using this
      have hfz : (wr.alloc (.cells (intsV (zerosR n)).toArray 3)).frozen? ⟨w.heap.size, k, none⟩ = false := frozen_of_row _ _ k _ _ hO2
      clear hO hO2 hsz
      generalize hw1 : wr.alloc (.cells (intsV (zerosR n)).toArray 3) = w1 at *
      have HW1 := Lib.hid hw1; clear hw1
      go_wp2_with fail
      exact ⟨⟨k + 1, _, rfl, by omega, by go_num, HST.out, HBS.out⟩, by simp [intOf]; omega⟩
    · obtain rfl : k = n := by omega
      go_wp2_with fail
      go_ret
      have hc : CopySt w.heap.size (zeros k) (zeros k).length wr := by rw [zeros_len]; exact HC.out
      have h1 := hc.matI (zeros_small k hn)
      have h2 := hc.2.1
      rw [zeros_len] at h1 h2
      exact ⟨_, rfl, ⟨h1.mono (Nat.le_refl _) (by omega), Nat.le_refl _⟩, HB.out⟩

/-! ### Entries set column by column -/
def stR (m : List (List Int)) (n k j r : Nat) : List Int := (List.range n).map fun c => if c < k ∨ (c = k ∧ r < j) then entry m c r else 0
def stM (m : List (List Int)) (n k j : Nat) : List (List Int) := (List.range n).map fun r => stR m n k j r
theorem stM_len (m : List (List Int)) (n k j : Nat) : (stM m n k j).length = n := by simp [stM]
theorem stR_len (m : List (List Int)) (n k j r : Nat) : (stR m n k j r).length = n := by simp [stR]
theorem stM_get (m : List (List Int)) (n k j r : Nat) (h : r < n) : (stM m n k j).getD r [] = stR m n k j r := by simp [stM, List.getD, h]
theorem stM_zero (m : List (List Int)) (n : Nat) : stM m n 0 0 = zeros n := by
  apply List.ext_getElem
  · simp [stM, zeros]
  · intro i h1 h2
    simp only [stM, zeros, zerosR, List.getElem_map, List.getElem_range, List.getElem_replicate, stR]
    apply List.ext_getElem
    · simp
    · intro c h3 h4; simp
theorem stM_next (m : List (List Int)) (n k : Nat) : stM m n k n = stM m n (k + 1) 0 := by
  apply List.ext_getElem
  · simp [stM]
  · intro i h1 h2
    have hi : i < n := by simpa [stM] using h1
    simp only [stM, List.getElem_map, List.getElem_range, stR]
    apply List.ext_getElem
    · simp
    · intro c h3 h4
      simp only [List.getElem_map, List.getElem_range]
      by_cases hc : c ≤ k
      · rw [if_pos (by omega), if_pos (by omega)]
      · rw [if_neg (by omega), if_neg (by omega)]
theorem stM_end (m : List (List Int)) (n : Nat) : stM m n n 0 = trN m n := by
  apply List.ext_getElem
  · simp [stM, trN]
  · intro i h1 h2
    simp only [stM, trN, List.getElem_map, List.getElem_range, stR, colR]
    apply List.ext_getElem
    · simp
    · intro c h3 h4
      have hc : c < n := by simpa using h3
      simp [hc]
theorem stM_step (m : List (List Int)) (n k j : Nat) (_hk : k < n) (hj : j < n) : set2 (stM m n k j) j k (entry m k j) = stM m n k (j + 1) := by
  apply List.ext_getElem
  · simp [stM, set2]
  · intro i h1 h2
    have hi : i < n := by simpa [stM] using h2
    by_cases hij : i = j
    · subst hij
      rw [set2_at, stM_get m n k i i hi]
      simp only [stM, List.getElem_map, List.getElem_range, stR]
      apply List.ext_getElem
      · simp
      · intro c h3 h4
        rw [List.getElem_set]
        simp only [List.getElem_map, List.getElem_range]
        by_cases hc : k = c
        · subst hc
          rw [if_pos rfl, if_pos (by omega)]
        · rw [if_neg hc]
          by_cases hlt : c < k
          · rw [if_pos (by omega), if_pos (by omega)]
          · rw [if_neg (by omega), if_neg (by omega)]
    · rw [set2_ne _ _ _ _ _ _ (by rw [stM_len]; exact hi) hij]
      simp only [stM, List.getElem_map, List.getElem_range, stR]
      apply List.ext_getElem
      · simp
      · intro c h3 h4
        simp only [List.getElem_map, List.getElem_range]
        by_cases hc : c < k ∨ (c = k ∧ i < j)
        · rw [if_pos hc, if_pos (by omega)]
        · rw [if_neg hc, if_neg (by omega)]

theorem trM_small (m : List (List Int)) : szSum (trM m) ≤ 1048576 := by
  by_cases hI : IsC m
  · rw [trM_yes hI]
    have h4 := hI.2.2.2
    have : ∀ n k, ((List.range k).map fun i => colR m n i).map List.length = List.replicate k n := by
      intro n k
      apply List.ext_getElem
      · simp
      · intro i h1 h2; simp [colR]
    unfold szSum
    rw [trN_len]
    unfold trN
    rw [this, List.sum_replicate_nat]
    have : m.length * m.length ≤ 4 * 4 := Nat.mul_le_mul h4 h4
    omega
  · rw [trM_no hI]; decide
end Go.Proofs.Ytnlbmnielemgiaa
namespace Go.Proofs.Ytnlbmnielemgiaa
open Go.RowKit

/-! ### Lists filled from the front -/
/-! ### Lists filled from the front -/
end Go.Proofs.Ytnlbmnielemgiaa
namespace Go.Proofs.Ytnlbmnielemgiaa
open Go.RowKit

theorem row_whole6 (w : World) (l : List Int) (h : l.length ≤ 1048576) : RowI w.heap.size (w.alloc (.cells (intsV l).toArray 3)).heap.size (w.alloc (.cells (intsV l).toArray 3)) (.slice (some ⟨w.heap.size, 0, none⟩) l.length l.length) l := by
  refine ⟨World.ownsRow_lit (base := w.heap.size) (e := 3) (size := 1) w (intsV l).toArray l.length (Nat.le_refl _) (by unfold maxLen; omega) (by simp [intsV]), fun g hg => ?_⟩
  have : w.heap.size = g := by simpa [Value.ownBlock] using hg
  simp; omega
def filS (l : List Int) (k : Nat) : List Int := l.take k ++ List.replicate (l.length - k) 0
theorem filS_zero (l : List Int) : filS l 0 = zerosR l.length := by simp [filS, zerosR]
theorem filS_len (l : List Int) (k : Nat) (h : k ≤ l.length) : (filS l k).length = l.length := by simp [filS]; omega
theorem filS_end (l : List Int) : filS l l.length = l := by simp [filS]
theorem filS_set (l : List Int) (k : Nat) (h : k < l.length) : (filS l k).set k (l.getD k 0) = filS l (k + 1) := by
  have e : l.length - k = (l.length - (k + 1)) + 1 := by omega
  have ht : (l.take k).length = k := by rw [List.length_take]; omega
  have hg : l.getD k 0 = l[k] := by simp [List.getD, h]
  unfold filS
  rw [e, List.replicate_succ, List.set_append_right _ _ (by omega), ht, Nat.sub_self, List.set_cons_zero, List.take_succ_eq_append_getElem h, List.append_assoc, hg]
  rfl
end Go.Proofs.Ytnlbmnielemgiaa
