/-
  Lengths: what the program's way back to the ones returns.
  Lengths: a row that is read while another one of the call's own grows.
  Words: what the model's functions of chapter 5 return.
  Weights: what the model's reflections, ones, sums and columns return.
  Weights: what the model's ReflectWeight, ActOnWeight, RhoOf, AddWeights and SimpleRootWeight return.
  Weights: what the model's ActOnWeight, RhoOf, AddWeights and SimpleRootWeight return.
  Weights: what the model's RhoOf, AddWeights and SimpleRootWeight return.
-/
import Derived.Deep.LoopGhost
import Derived.Test.YtnlbmnielemgiaaFl17
import Derived.Test.YtnlbmnielemgiaaFl14
import Derived.Test.YtnlbmnielemgiaaFl11
import Derived.Test.YtnlbmnielemgiaaFl03
import Derived.Test.YtnlbmnielemgiaaFl02
import Derived.Test.YtnlbmnielemgiaaFl06
import Derived.Test.YtnlbmnielemgiaaFl09
import Derived.Test.YtnlbmnielemgiaaFl10
import Derived.Deep.RegionLaw
import Derived.Deep.QuietTactic
import Derived.BigQuiet
import Derived.Test.YtnlbmnielemgiaaFl07
namespace Go.Proofs.Ytnlbmnielemgiaa
open Go.RowKit

theorem grown_own {a b c : World} {S T : Option Nat} (h : a.grownBy b S) (k : b.grownBy c T) (hT : ∀ j, T = some j → a.heap.size ≤ j) : a.grownBy c S :=
  ⟨k.os.trans h.os, k.tape.trans h.tape, k.output.trans h.output, Nat.le_trans h.size k.size, fun i hi hn => (k.block i (Nat.lt_of_lt_of_le hi h.size) (fun e => by have := hT i e.symm; omega)).trans (h.block i hi hn)⟩
theorem RowN.head {g C b cap n : Nat} {w : World} {x : Int} {r : List Int} (h : RowN g C w (.slice (some ⟨b, 0, none⟩) n cap) (x :: r)) (sc : Nat) : RowN g C w (.slice (some ⟨b, 0, none⟩) 1 sc) [x] := by
  rcases h with ⟨h, _⟩ | ⟨b', off, cap', h1, h2, h3, h4⟩
  · simp at h
  · simp only [Value.slice.injEq, Option.some.injEq, Addr.mk.injEq, and_true] at h1
    obtain ⟨⟨rfl, rfl⟩, _, _⟩ := h1
    refine Or.inr ⟨b, 0, sc, rfl, h2, h3, fun j hj => ?_⟩
    obtain rfl : j = 0 := by simp at hj; omega
    exact h4 0 (by simp)
theorem RowI.room {A B b n cap : Nat} {w : World} {l : List Int} (h : RowI A B w (.slice (some ⟨b, 0, none⟩) n cap) l) (hn : l.length = n) : n ≤ cap := by
  rcases h.1.2 with ⟨h', _⟩ | ⟨g, cap', cur, h', _, _, h2, _⟩
  · simp at h'
  · simp only [Value.slice.injEq, Option.some.injEq, Addr.mk.injEq, and_true] at h'
    omega
theorem letTo_one {n t : Nat} (h : t < n) : LetTo n [(t : Int)] [(t : Int)].length := by
  intro j hj
  obtain rfl : j = 0 := by simp at hj; omega
  simp; omega
theorem actW_one (m : List (List Int)) (t : Nat) (l : List Int) : actW m [(t : Int)] l = reflL m t l := by simp [actW]
set_option maxHeartbeats 8000000 in
set_option maxRecDepth 100000 in
theorem retn_any (B g : Nat) (v : Value) (m : List (List Int)) (l : List Int) (L : Nat) (w : World) (h : MatB B w v m) (h2 : Im4 w g l) (hBg : B ≤ g) (hI : IsC m) (hr : Ret m l L) :
    Calls Try.prog 96 #[.pointer (some ⟨g, 0, none⟩), v] w fun e w' => ∃ x, e = .returned x ∧ RowI w.heap.size w'.heap.size w' x (frmI m 31 l) ∧ w.grownBy w' (some g) := by
  have hn1 := hI.2.2.1
  have hn4 := hI.2.2.2
  have hgw := h2.lt
  have hll := hr.1
  have h30 := hr.2.1
  have HRET := Lib.hid hr
  have HIG := Lib.hid h2
  have HDE := Lib.hid (fun (cur : List Int) (wx : World) (hx : Im4 wx g cur) (hc : cur.length = m.length) => show Calls Try.prog 67 #[.pointer (some ⟨g, 0, none⟩)] wx (MakesS wx (dnsK cur m.length)) from by rw [← hc]; exact desc_any g cur wx hx (by omega))
  have HAC := Lib.hid (fun (t : Nat) (cur : List Int) (b sc : Nat) (wx : World) (hg : w.grownBy wx (some g)) (hx : Im4 wx g cur) (hc : cur.length = m.length) (ht : t < m.length) (hN : RowN g wx.heap.size wx (.slice (some ⟨b, 0, none⟩) 1 sc) [(t : Int)]) => (acim_any B g v (.slice (some ⟨b, 0, none⟩) 1 sc) m [(t : Int)] cur wx (h.below (below_of_grown hg hBg (by omega)) (Nat.le_refl _)) hN hx hBg hI (letTo_one ht) (by simp) hc).mono (R' := fun e' w' => e' = .returned (.tuple #[]) ∧ Im4 w' g (reflL m t cur) ∧ wx.grownBy w' (some g)) fun e w' ⟨q1, q2, q3⟩ => ⟨q1, by rw [← actW_one]; exact q2, q3⟩)
  have HSTEP := Lib.hid (fun (cur : List Int) (K : Nat) (hr : Ret m cur K) (hd : dnsK cur m.length ≠ []) => ret_step hI hr hd)
  have HEND := Lib.hid (fun (cur : List Int) (K : Nat) (hr : Ret m cur K) (hd : dnsK cur m.length = []) => ret_end hI hr hd)
  have HFS := Lib.hid (fun (cur : List Int) (r : Nat) (h : firstDown cur ≠ cur.length) => frmI_step (m := m) (k := r) h)
  have HFE := Lib.hid (fun (cur : List Int) (r : Nat) (h : firstDown cur = cur.length) => frmI_end (m := m) (k := r) h)
  have HDL := Lib.hid (fun (cur : List Int) => dnsK_len cur m.length)
  have HD0 := Lib.hid (HDE.out l w h2 hll)
  obtain ⟨a, cap, rfl⟩ := h.slice
  clear h h2 hI hr hll
  obtain ⟨S, hS⟩ : ∃ S, S = w.heap.size := ⟨_, rfl⟩
  rw [← hS]
  have HS := Lib.hid hS
  have hgS : g < S := by omega
  clear hS
  generalize hR : frmI m 31 l = R at *
  have HRE := Lib.hid hR; clear hR
  generalize hnm : m.length = n at *
  have HNM := Lib.hid hnm; clear hnm
  go_enter Try.func96, Try.ntmps96
  go_wp2_with fail
  refine HD0.out.mono ?_
  rintro e w1 ⟨x1, rfl, ⟨hx1, _⟩, hb1⟩
  have HX1 := Lib.hid hx1
  have HB1 := Lib.hid hb1
  have HG1 := Lib.hid (grown_blw (World.grownBy.refl w (some g)) hb1)
  have HI1 := Lib.hid (HIG.out.below hb1 hgw)
  have H01 := Lib.hid (RowI.nil' S w1.heap.size w1)
  clear hx1 hb1 HD0
  go_wp2_with fail
  go_loopg [5, 6] L (fun gk o x wr => ∃ (k C : Nat) (acc cur : List Int) (wq : World), wq = wr ∧ Hid (Ret m cur gk) ∧ k + gk ≤ 30 ∧ RowI S wq.heap.size wq o acc ∧ Hid (acc.length = k) ∧ (∀ b, o.ownBlock = some b → b < C) ∧ S ≤ C ∧ RowI C wq.heap.size wq x (dnsK cur n) ∧ Im4 wq g cur ∧ Hid (acc ++ frmI m (31 - k) cur = R) ∧ w.grownBy wq (some g))
  case atStart => exact ⟨0, S, [], l, _, rfl, HRET, by omega, H01.out, Lib.hid rfl, fun b hb => by simp [Value.ownBlock] at hb, Nat.le_refl _, by have := HS.out; rw [this]; exact HX1.out, HI1.out, Lib.hid (show frmI m (31 - 0) l = R from HRE.out), HG1.out⟩
  case round =>
    obtain ⟨k, C, acc, cur, wq, rfl, HR, hk, hM, HAL, hbC, hSC, hX, hIm, HAC2, hG⟩ := hrel
    have HM := Lib.hid hM; have HX := Lib.hid hX; have HIM := Lib.hid hIm; have HG := Lib.hid hG; have HBC := Lib.hid hbC
    have hsz := hG.size
    clear hM hX hIm hG hbC
    have hSw := HS.out
    have hSq : S ≤ wq.heap.size := by omega
    clear hSw hsz
    by_cases hd : dnsK cur n = []
    · have hx := HX.out
      rw [hd] at hx
      have hacc := HAC2.out
      rw [HFE.out cur (31 - k) (HEND.out cur gk HR.out hd), List.append_nil] at hacc
      have HACC := Lib.hid hacc
      obtain ⟨xa, xcap, rfl⟩ := hx.slice
      clear hacc hd hx
      go_wp2_with fail
      go_ret
      exact ⟨_, rfl, by rw [← HACC.out]; exact HM.out, HG.out⟩
    · obtain ⟨t, L', r, hdt, hft, htn, hgk, hR'⟩ := HSTEP.out cur gk HR.out hd
      have hx := HX.out
      rw [hdt] at hx
      obtain ⟨b, xcap, rfl, hCb, hbq⟩ := hx.at' (by simp)
      have hcap := hx.room rfl
      have hlr : (((t : Int) :: r).length : Nat) = r.length + 1 := rfl
      rw [hlr] at hx hcap ⊢
      have hc0 : wq.cell? ⟨b, 0, none⟩ = some (.int .i64 (t : Int)) := by
        have h1 := hx.1
        rw [hlr] at h1
        rw [h1.cellAt 0 (by omega)]; rfl
      have hcl : HR.out.1 = HR.out.1 := rfl
      have HCL := Lib.hid (HR.out.1.trans HNM.out)
      have hst := HFS.out cur (30 - k) (by rw [hft, HCL.out]; omega)
      rw [hft, show 30 - k + 1 = 31 - k by omega] at hst
      have hacc := HAC2.out
      rw [hst] at hacc
      have HACC := Lib.hid (show (acc ++ [(t : Int)]) ++ frmI m (31 - (k + 1)) (reflL m t cur) = R from by rw [List.append_assoc, List.singleton_append, show 31 - (k + 1) = 30 - k by omega]; exact hacc)
      have HRL := Lib.hid hR'
      have HRLN := Lib.hid (show acc.length ≤ 4194304 from by have := HAL.out; omega)
      have HXI := Lib.hid hx
      have hnl : 0 < r.length + 1 := by omega
      have HTN := Lib.hid htn
      have HGK := Lib.hid hgk
      have hd1 : decide (0 < r.length + 1) = true := decide_eq_true (by omega)
      have hcap1 : (1 : Int) ≤ (xcap : Int) := by omega
      clear hlr
      generalize r.length + 1 = nl at *
      clear hacc hst hd hdt hft hx hR' hgk hcl htn HR
      go_wp2_with (at_builtin; go_must (refine append_intP HM.out hSq rfl (t : Int) rfl rfl rfl rfl HRLN.out ?_; intro v6 w6 hr6 hg6 hl6))
      have hwS := HS.out
      have hg6w : w.grownBy w6 (some g) := grown_own HG.out hg6 (fun j hj => by have := (HM.out.1.lt j hj).1; omega)
      have hX6 := HXI.out.grown hg6 (.inr fun e => by have e2 := HBC.out b (by rw [← e]; rfl); omega)
      have hI6 := HIM.out.kept hg6 (fun e => by have := (HM.out.1.lt g e.symm).1; omega)
      have hsz6 := hg6.size
      have HC := Lib.hid (HAC.out t cur b xcap w6 hg6w hI6 HCL.out HTN.out ((RowN.ofI hX6 (by omega) hsz6).head xcap))
      have HM6 := Lib.hid hr6
      have HG6 := Lib.hid hg6w
      clear hr6 hg6 hl6 hg6w hX6 hI6 hwS hsz6
      go_wp2_with fail
      refine HC.out.mono ?_
      rintro e w7 ⟨rfl, q1, q2⟩
      have hsz7 := q2.size
      have HM7 := Lib.hid ((HM6.out.kept q2 (.inr fun e => by have := (HM6.out.1.lt g e).1; omega)).mono (Nat.le_refl _) hsz7)
      have HG7 := Lib.hid (grown_trans HG6.out q2)
      have HI7 := Lib.hid q1
      have HD7 := Lib.hid (HDE.out (reflL m t cur) w7 q1 (by rw [reflL_len]; exact HCL.out))
      clear q1 q2 hsz7 HC
      go_wp2_with fail
      refine HD7.out.mono ?_
      rintro e w8 ⟨x8, rfl, ⟨hx8, _⟩, hb8⟩
      have HM8 := Lib.hid (HM7.out.step hb8)
      have HX8 := Lib.hid hx8
      have HI8 := Lib.hid (HI7.out.below hb8 HI7.out.lt)
      have HG8 := Lib.hid (grown_blw HG7.out (hb8.mono HG7.out.size))
      have HAL8 := Lib.hid (show (acc ++ [(t : Int)]).length = k + 1 from by rw [List.length_append, HAL.out]; rfl)
      have HS7 := Lib.hid (show S ≤ w7.heap.size from by rw [HS.out]; exact HG7.out.size)
      clear hx8 hb8 HD7
      go_wp2_with fail
      go_roundg L'
      case measure => have := HGK.out; omega
      case rel => exact ⟨k + 1, w7.heap.size, acc ++ [(t : Int)], reflL m t cur, _, rfl, HRL, by have := HGK.out; omega, HM8.out, HAL8, fun j hj => HM7.out.2 j hj, HS7.out, HX8.out, HI8.out, HACC, HG8.out⟩
end Go.Proofs.Ytnlbmnielemgiaa
namespace Go.Proofs.Ytnlbmnielemgiaa
open Go.RowKit

/-- A row that does not lie where the row o lies. -/
def CurR (w : World) (o x : Value) (l : List Int) : Prop :=
  ∃ b off cap, x = .slice (some ⟨b, off, none⟩) l.length cap ∧ b < w.heap.size ∧ (∀ g, o.ownBlock = some g → g ≠ b) ∧ ∀ j, j < l.length → w.cell? ⟨b, off + j, none⟩ = some (.int .i64 (l.getD j 0))
theorem CurR.rowB {w : World} {o x : Value} {l : List Int} (h : CurR w o x l) : RowB w.heap.size w x l := by
  obtain ⟨b, off, cap, h1, h2, _, h3⟩ := h
  refine Or.inr ⟨b, off, cap, h1, h2, fun j hj => ?_⟩
  rw [h3 j hj]; simp [List.getD, hj]
theorem CurR.of {B : Nat} {w : World} {o x : Value} {l : List Int} (h : RowB B w x l) (h0 : 0 < l.length) (hB : B ≤ w.heap.size) (ho : ∀ g, o.ownBlock = some g → B ≤ g) : CurR w o x l := by
  rcases h with ⟨h1, _⟩ | ⟨b, off, cap, h1, h2, h3⟩
  · subst h1; simp at h0
  · exact ⟨b, off, cap, h1, by omega, fun g hg => by have := ho g hg; omega, fun j hj => by rw [h3 j hj]; simp [List.getD, hj]⟩
/-- The row was made behind the row o. -/
theorem CurR.new {A B : Nat} {w : World} {o x : Value} {l : List Int} (h : RowI A B w x l) (h0 : 0 < l.length) (hB : B ≤ w.heap.size) (ho : ∀ g, o.ownBlock = some g → g < A) : CurR w o x l := by
  have hr := h.rowB
  rcases hr with ⟨h1, _⟩ | ⟨b, off, cap, h1, h2, h3⟩
  · subst h1; simp at h0
  · have hb : x.ownBlock = some b := by rw [h1]; rfl
    have hA := (h.1.lt b hb).1
    exact ⟨b, off, cap, h1, by omega, fun g hg => by have := ho g hg; omega, fun j hj => by rw [h3 j hj]; simp [List.getD, hj]⟩
theorem CurR.grown {w w' : World} {o o' x : Value} {l : List Int} (h : CurR w o x l) (hg : w.grownBy w' o.ownBlock) (hl : ∀ g, o'.ownBlock = some g → o.ownBlock = some g ∨ w.heap.size ≤ g) : CurR w' o' x l := by
  obtain ⟨b, off, cap, h1, h2, h3, h4⟩ := h
  refine ⟨b, off, cap, h1, Nat.lt_of_lt_of_le h2 hg.size, fun g hg' => ?_, fun j hj => ?_⟩
  · rcases hl g hg' with h | h
    · exact h3 g h
    · omega
  · rw [← h4 j hj]
    have hbk : w'.heap[b]? = w.heap[b]? := hg.block b h2 (fun e => h3 b e.symm rfl)
    unfold World.cell?
    simp only
    rw [hbk]
theorem CurR.step {w w' : World} {o x : Value} {l : List Int} (h : CurR w o x l) (hb : Below w.heap.size w w') : CurR w' o x l := by
  obtain ⟨b, off, cap, h1, h2, h3, h4⟩ := h
  exact ⟨b, off, cap, h1, Nat.lt_of_lt_of_le h2 hb.size, h3, fun j hj => (hb.cell (p := ⟨b, off + j, none⟩) h2).trans (h4 j hj)⟩
theorem CurR.slice {w : World} {o x : Value} {l : List Int} (h : CurR w o x l) : ∃ a cap, x = .slice a l.length cap := h.rowB.slice
end Go.Proofs.Ytnlbmnielemgiaa
namespace Go.Proofs.Ytnlbmnielemgiaa
open Go.RowKit

theorem RowB.drawn1 {B : Nat} {w : World} {v : Value} {l : List Int} (h : RowB B w v l) (q : Nat) : RowB B (w.drewN q) v l := h.drewN q
set_option maxHeartbeats 2000000 in
set_option maxRecDepth 100000 in
theorem isws_any (B B' : Nat) (v v' : Value) (m : List (List Int)) (l : List Int) (w : World) (h : MatB B w v m) (h' : RowB B' w v' l) (hf : RowsFit m) (hl : l.length ≤ maxLen) :
    Calls Try.prog 64 #[v, v'] w fun e w' => e = .returned (.bool (wordB m l)) ∧ ∃ q, w' = w.drewN q := by
  obtain ⟨a, cap, rfl⟩ := h.slice
  obtain ⟨a', cap', rfl⟩ := h'.slice
  have HISC := Lib.hid (fun c (hc : isB m = c) q => isc_q B _ m c hc w h hf q)
  have HL := Lib.hid h'
  have hml := hf.1
  unfold maxLen at hl hml
  clear h h' hf
  have HNO := Lib.hid (fun (k : Nat) (hk : k < l.length) (h : ¬ (0 ≤ l.getD k 0 ∧ l.getD k 0 ≤ (m.length : Int) - 1)) => wordB_no (isW_bad (c := m) hk h))
  have HEND := Lib.hid (fun (h : LetTo m.length l l.length) => show wordB m l = (isB m && decide (l.length ≤ 15)) from by
    by_cases hI : IsC m
    · by_cases h15 : l.length ≤ 15
      · rw [wordB_yes ⟨h, hI, h15⟩, isB_yes hI, decide_eq_true h15]; rfl
      · rw [wordB_no (fun h' => h15 h'.2.2), decide_eq_false h15, Bool.and_false]
    · rw [wordB_no (fun h' => hI h'.2.1), isB_no hI, Bool.false_and])
  generalize wordB m l = R at *
  generalize isB m = ib at *
  generalize m.length = n at *
  generalize hln : l.length = L at *
  have HLN := Lib.hid hln; clear hln
  go_enter Try.func64, Try.ntmps64
  go_wp2_with fail
  go_loopw [5] (fun i wr => ∃ (k q : Nat), k ≤ L ∧ i = .int .i64 k ∧ wr = w.drewN q ∧ Hid (LetTo n l k)) (fun i _ => L - (intOf i).toNat)
  case atStart => exact ⟨0, 0, Nat.zero_le _, rfl, rfl, Lib.hid (letTo_zero _ _)⟩
  case round =>
    obtain ⟨k, q, hk, rfl, rfl, hs⟩ := hrel
    by_cases hlt : k < L
    · obtain ⟨b, off, rfl, hb, hc⟩ := HL.out.getD hlt
      by_cases hin : 0 ≤ l.getD k 0 ∧ l.getD k 0 ≤ (n : Int) - 1
      · have HST := Lib.hid (letTo_step hs.out hin)
        have HIN := Lib.hid (inB_yes hin)
        clear hin hs
        generalize l.getD k 0 = x at *
        go_wp2_with fail
        refine (l1in_q _ _ _ true HIN.out _ _).mono ?_
        rintro e w' ⟨rfl, nq, rfl⟩
        go_wp2_with fail
        exact ⟨⟨k + 1, q + nq, by omega, by go_num, rfl, HST⟩, by simp [intOf]; omega⟩
      · have HBAD := Lib.hid (HNO.out k hlt hin)
        have HIN := Lib.hid (inB_no hin)
        clear hin hs
        generalize l.getD k 0 = x at *
        go_wp2_with fail
        refine (l1in_q _ _ _ false HIN.out _ _).mono ?_
        rintro e w' ⟨rfl, nq, rfl⟩
        go_wp2_with fail
        go_ret
        exact ⟨ret_boolean HBAD.out.symm, q + nq, rfl⟩
    · obtain rfl : k = L := by omega
      have HE := Lib.hid (HEND.out hs.out)
      have HLK : decide ((k : Int) ≤ 15) = decide (k ≤ 15) := decide_eq_decide.2 (by omega)
      clear HEND HNO hs
      go_wp2_with fail
      refine (HISC.out _ rfl q).mono ?_
      rintro e w' ⟨rfl, nq, rfl⟩
      cases ib
      all_goals
        go_wp2_with fail
        go_ret
        exact ⟨ret_boolean (by rw [HE.out]; first | rfl | (rw [HLK, Bool.true_and])), q + nq, rfl⟩

set_option maxHeartbeats 2000000 in
set_option maxRecDepth 100000 in
theorem cats_any (B B' : Nat) (v v' : Value) (l l' : List Int) (w : World) (h : RowB B w v l) (h' : RowB B' w v' l') (hB : B ≤ w.heap.size) (hB' : B' ≤ w.heap.size) (hl : l.length ≤ 1048576) (hl' : l'.length ≤ 1048576) :
    Calls Try.prog 28 #[v, v'] w (MakesS w (l ++ l')) := by
  obtain ⟨a, cap, rfl⟩ := h.slice
  obtain ⟨a', cap', rfl⟩ := h'.slice
  have hb0 : Below w.heap.size w (w.alloc (.cells #[] 3)) := (Below.refl _ _).alloc (Nat.le_refl _) _
  have HL := Lib.hid (h.below hb0 hB)
  have HR := Lib.hid h'
  have hs0 : w.heap.size ≤ (w.alloc (.cells #[] 3)).heap.size := by simp
  have h1 : ([] : List Int).length + l.length ≤ 4194304 := by simp; omega
  have h2 : l.length + l'.length ≤ 4194304 := by omega
  have H1 := Lib.hid h1; have H2 := Lib.hid h2
  clear h h' hb0 h1 h2
  generalize hln : l.length = n at *
  generalize hln' : l'.length = n' at *
  have HLN := Lib.hid hln; have HLN' := Lib.hid hln'
  clear hln hln'
  go_enter Try.func28, Try.ntmps28
  go_wp2_with (at_builtin; go_must (refine append_intsA (row_empty w) hs0 HL.out (by rw [HLN.out]; exact H1.out) rfl rfl rfl rfl ?_))
  intro v3 w3 hr3 hb3 hz3
  have hr3 : RowI w.heap.size w3.heap.size w3 v3 l := by simpa using hr3
  have hb3' := hb3 w w.heap.size (Nat.le_refl _) ((Below.refl _ _).alloc (Nat.le_refl _) _)
  have HB3 := Lib.hid hb3'
  have hs3 := hb3'.size
  have HR3 := Lib.hid hr3
  have HR' := Lib.hid (HR.out.below hb3' hB')
  clear hb3 hz3 hr3 hb3'
  go_wp2_with (at_builtin; go_must (refine append_intsA HR3.out hs3 HR'.out (by rw [HLN.out, HLN'.out]; exact H2.out) rfl rfl rfl rfl ?_))
  intro v4 w4 hr4 hb4 hz4
  have HR4 := Lib.hid hr4
  have HB4 := Lib.hid (hb4 w w.heap.size (Nat.le_refl _) HB3.out)
  clear hb4 hz4 hr4
  go_wp2_with fail
  go_ret
  exact ⟨_, rfl, ⟨HR4.out, Nat.le_refl _⟩, HB4.out⟩

theorem rev_take {l : List Int} {k : Nat} (h : k < l.length) : (l.drop (k + 1)).reverse ++ [l.getD k 0] = (l.drop k).reverse := by
  rw [List.drop_eq_getElem_cons h, List.reverse_cons]; simp [List.getD, h]
set_option maxHeartbeats 2000000 in
set_option maxRecDepth 100000 in
theorem revs_any (B : Nat) (v : Value) (l : List Int) (w : World) (h : RowB B w v l) (hB : B ≤ w.heap.size) (hl : l.length ≤ 1048576) :
    Calls Try.prog 70 #[v] w (MakesS w l.reverse) := by
  obtain ⟨a, cap, rfl⟩ := h.slice
  have HL := Lib.hid h; clear h
  have HST := Lib.hid (fun k (hk : k < l.length) => rev_take hk)
  have HD := Lib.hid (show ∀ k, ((l.drop k).reverse).length ≤ 4194304 from fun k => by simp; omega)
  have H0 := Lib.hid (show (l.drop 0).reverse = l.reverse from rfl)
  have HE := Lib.hid (show ∀ k, l.length ≤ k → (l.drop k).reverse = [] from fun k hk => by rw [List.drop_eq_nil_of_le hk]; rfl)
  generalize hln : l.length = n at *
  have HLN := Lib.hid hln; clear hln
  go_enter Try.func70, Try.ntmps70
  go_wp2_with fail
  go_loopw [3, 4] (fun o i wr => ∃ (k : Nat) (wq : World), wq = wr ∧ k ≤ n ∧ i = .int .i64 ((k : Int) - 1) ∧ RowI w.heap.size wq.heap.size wq o (l.drop k).reverse ∧ Below w.heap.size w wq) (fun _ i _ => (intOf i + 1).toNat)
  case atStart => exact ⟨n, _, rfl, Nat.le_refl _, rfl, by rw [HE.out n (Nat.le_refl _)]; exact row_empty w, (Below.refl _ _).alloc (Nat.le_refl _) _⟩
  case round =>
    obtain ⟨k, wq, rfl, hk, rfl, hM, hb⟩ := hrel
    have HM := Lib.hid hM; clear hM
    have hsq := hb.size
    have HB := Lib.hid hb; clear hb
    by_cases hlt : 0 < k
    · obtain ⟨j, rfl⟩ : ∃ j, k = j + 1 := ⟨k - 1, by omega⟩
      have e1 : ((j + 1 : Nat) : Int) - 1 = (j : Int) := by omega
      rw [e1]
      clear e1
      obtain ⟨b, off, rfl, hb, hc⟩ := (HL.out.below HB.out hB).getD (j := j) (by omega)
      have HS := Lib.hid (HST.out j (by omega))
      have HRL := Lib.hid (HD.out (j + 1))
      generalize l.getD j 0 = x at *
      go_wp2_with (at_builtin; go_must (refine append_int HM.out hsq x rfl rfl rfl rfl HRL.out ?_; intro v' w3 hr3 hb3 hz3))
      rw [HS.out] at hr3
      have HR3 := Lib.hid hr3
      have HB3 := Lib.hid (hb3 w w.heap.size (Nat.le_refl _) HB.out)
      clear hr3 hb3 hz3
      go_wp2_with fail
      exact ⟨⟨j, _, rfl, by omega, rfl, HR3.out, HB3.out⟩, by simp [intOf]⟩
    · obtain rfl : k = 0 := by omega
      go_wp2_with fail
      go_ret
      have hM := HM.out
      rw [H0.out] at hM
      exact ⟨_, rfl, ⟨hM, Nat.le_refl _⟩, HB.out⟩
end Go.Proofs.Ytnlbmnielemgiaa
namespace Go.Proofs.Ytnlbmnielemgiaa
open Go.RowKit

/-- 'append(row, x)' as a step of a region that draws its order: the literal's block lies at g. -/
theorem step_lit6 {ops : Array Oper} {o : Oper} {a : Act} {K : Act → World → Prop} {Q : Exit → Act → World → Prop} {E : Prop} {s x : Operand} {A : Nat} {v : Value} {l : List Int} {wr : World} (n : Int) (g : Nat)
    (hM : RowI A wr.heap.size wr v l) (hA : A ≤ wr.heap.size) (hg : wr.heap[g]? = some (.cells #[.int .i64 n] 3 (0, 0))) (hlen : l.length + [n].length ≤ 4194304) (hgd : o.guard = none)
    (ho : o.op = .call { callee := .builtin .append, args := #[s, x], argTypes := #[25, 25] }) (hs : a.eval s = v) (hx : a.eval x = .slice (some ⟨g, 0, none⟩) 1 1)
    (h : AfterRow A wr (l ++ [n]) fun v' w' => K (a.put o.dst v') w') : if Region.wanted o (yielded ops a.tmps) = true then Oper.wp Try.prog o a wr K Q else E :=
  step_ints (l2 := [n]) (B := g + 1) hM hA (Or.inr ⟨g, 0, 1, rfl, by omega, fun j hj => by
    obtain rfl : j = 0 := by simp at hj; omega
    rw [cell_of_row wr g (0 + 0) _ _ _ hg]; rfl⟩) (by simp) hlen hgd ho hs hx h

set_option maxHeartbeats 4000000 in
set_option maxRecDepth 100000 in
theorem l6r_any (B B' : Nat) (v v' : Value) (m : List (List Int)) (l : List Int) (i : Nat) (w : World) (h : MatB B w v m) (h' : RowB B' w v' l) (hB : B ≤ w.heap.size) (hB' : B' ≤ w.heap.size) (hI : IsC m) (hll : l.length = m.length) (hi : i < m.length) :
    Calls Try.prog 101 #[v, .int .i64 i, v'] w (MakesS w (reflL m i l)) := by
  obtain ⟨a, cap, rfl⟩ := h.slice
  obtain ⟨a', cap', rfl⟩ := h'.slice
  have HR := Lib.hid h; have HL := Lib.hid h'
  clear h h'
  have hn4 := hI.2.2.2
  have HRW := Lib.hid (show Rows0 m m.length m.length from hI.1)
  have HST := Lib.hid (fun k => reflK_step m i l k)
  have HKL := Lib.hid (fun k => reflK_len m i l k)
  have HEN := Lib.hid (show reflL m i l = reflK m i l m.length from by unfold reflL; rw [hll])
  clear hI
  rw [hll] at HL ⊢
  generalize hn : m.length = n at *
  have HN := Lib.hid hn; have HLN := Lib.hid hll
  clear hn hll
  go_enter Try.func101, Try.ntmps101
  go_wp2_with fail
  go_loopw [7, 8] (fun o i' wr => ∃ (k : Nat) (wq : World), wq = wr ∧ k ≤ n ∧ i' = .int .i64 k ∧ RowI w.heap.size wq.heap.size wq o (reflK m i l k) ∧ Below w.heap.size w wq) (fun _ i' _ => n - (intOf i').toNat)
  case atStart => exact ⟨0, _, rfl, Nat.zero_le _, rfl, row_empty w, (Below.refl _ _).alloc (Nat.le_refl _) _⟩
  case round =>
    obtain ⟨k, wq, rfl, hk, rfl, hM, hb⟩ := hrel
    have HM := Lib.hid hM; clear hM
    have hsq := hb.size
    have HB := Lib.hid hb; clear hb
    by_cases hlt : k < n
    · have hlt' : decide (k < n) = true := decide_eq_true hlt
      obtain ⟨b, off, rb, roff, rcap, rfl, hc1, hx⟩ := (HR.out.below HB.out hB).entry HRW.out hlt hi
      obtain ⟨b', off', rfl, hbb, hy⟩ := (HL.out.below HB.out hB').getD hlt
      obtain ⟨b2, off2, he2, _, hz⟩ := (HL.out.below HB.out hB').getD hi
      have hz : wq.cell? ⟨b', off' + i, none⟩ = some (.int .i64 (l.getD i 0)) := by injection he2 with he2; injection he2 with e1 e2; subst e1; subst e2; exact hz
      have HS := Lib.hid (HST.out k)
      have HRL := Lib.hid (show (reflK m i l k).length + [reflE m i l k].length ≤ 4194304 by rw [HKL.out]; simp; omega)
      have HE := Lib.hid (show reflE m i l k = subW (l.getD k 0) (mulW (l.getD i 0) (entry m k i)) from rfl)
      clear hbb he2
      generalize reflE m i l k = E at *
      generalize l.getD k 0 = x at *
      generalize l.getD i 0 = z at *
      generalize entry m k i = y at *
      obtain ⟨pr, hpr⟩ : ∃ pr, pr = mulW z y := ⟨_, rfl⟩
      have h1 : IntKind.i64.wrap (z * y) = pr := by rw [hpr, wrapk]; rfl
      have h2 : wrap64 (z * y) = pr := by rw [hpr]; rfl
      have h3 : IntKind.i64.wrap (x - pr) = E := by rw [HE.out, hpr, wrapk]; rfl
      have h4 : wrap64 (x - pr) = E := by rw [HE.out, hpr]; rfl
      clear hpr HE
      go_wp2_with fail
      go_region_law (refine step_lit6 E wq.heap.size ((HM.out.alloc _).mono (Nat.le_refl _) (by simp)) (by simp; omega) (MapKept.heap_alloc _ _).1 HRL.out rfl rfl rfl rfl ?_; intro v3 w3 hr3 hb3 hz3)
      all_goals
        rw [HS.out] at hr3
        have HR3 := Lib.hid hr3
        have HB3 := Lib.hid (hb3 w w.heap.size (Nat.le_refl _) (HB.out.alloc hsq _).drew)
        clear hr3 hb3 hz3 h1 h2 h3 h4
        go_wp2_with fail
        exact ⟨⟨k + 1, _, rfl, by omega, by go_num, HR3.out, HB3.out⟩, by simp [intOf]; omega⟩
    · obtain rfl : k = n := by omega
      have hlt' : decide (k < k) = false := by simp
      go_wp2_with fail
      go_ret
      exact ⟨_, rfl, ⟨by rw [HEN.out]; exact HM.out, Nat.le_refl _⟩, HB.out⟩
end Go.Proofs.Ytnlbmnielemgiaa
namespace Go.Proofs.Ytnlbmnielemgiaa
open Go.RowKit

/-- A copy: 'append([]int{}, v...)' behind a walk. -/
abbrev CopyEnd (w : World) (l : List Int) (x : Value) (w' : World) : Prop := OwnS w.heap.size w'.heap.size w' x l ∧ Below w.heap.size w w'
end Go.Proofs.Ytnlbmnielemgiaa
namespace Go.Proofs.Ytnlbmnielemgiaa
open Go.RowKit

end Go.Proofs.Ytnlbmnielemgiaa
namespace Go.Proofs.Ytnlbmnielemgiaa
open Go.RowKit

set_option maxHeartbeats 4000000 in
set_option maxRecDepth 100000 in
theorem rhos_any (B : Nat) (v : Value) (m : List (List Int)) (w : World) (h : MatB B w v m) (hB : B ≤ w.heap.size) (hf : RowsFit m) :
    Calls Try.prog 100 #[v] w (MakesS w (rhoL m)) := by
  have HIS := Lib.hid (fun c (hc : isB m = c) (wx : World) (hb : Below w.heap.size w wx) => isc_w B v m c hc wx (h.below hb hB) hf)
  have hlm := hf.1
  obtain ⟨a, cap, rfl⟩ := h.slice
  clear h hf
  unfold maxLen at hlm
  by_cases hI : IsC m
  · have HV := Lib.hid (rhoL_yes hI)
    have HC := Lib.hid (fun wx hb => HIS.out true (isB_yes hI) wx hb)
    have hn4 := hI.2.2.2
    clear HIS hI
    rw [HV.out]
    clear HV
    generalize m.length = n at *
    go_enter Try.func100, Try.ntmps100
    go_wp2_with fail
    go_loopw [3, 4] (fun o i wr => ∃ (k : Nat) (wq : World), wq = wr ∧ k ≤ n ∧ i = .int .i64 k ∧ RowI w.heap.size wq.heap.size wq o (onesR k) ∧ Below w.heap.size w wq) (fun _ i _ => n - (intOf i).toNat)
    case atStart => exact ⟨0, _, rfl, Nat.zero_le _, rfl, row_empty w, (Below.refl _ _).alloc (Nat.le_refl _) _⟩
    case round =>
      obtain ⟨k, wq, rfl, hk, rfl, hM, hb⟩ := hrel
      have HM := Lib.hid hM
      have HCQ := Lib.hid (HC.out wq hb)
      have hsq := hb.size
      have HB := Lib.hid hb
      clear hM hb
      by_cases hlt : k < n
      · have hd : decide (k < n) = true := decide_eq_true hlt
        go_wp2_with fail
        refine HCQ.out.mono ?_
        rintro e w1 ⟨rfl, hb1⟩
        have HM1 := Lib.hid (HM.out.step hb1)
        have HB1 := Lib.hid (HB.out.trans (hb1.mono hsq))
        have hs1 : w.heap.size ≤ w1.heap.size := HB1.out.size
        have HRL := Lib.hid (show (onesR k).length ≤ 4194304 by simp [onesR]; omega)
        have HS := Lib.hid (onesR_step k)
        clear hb1
        go_wp2_with (at_builtin; go_must (refine append_int HM1.out hs1 1 rfl rfl rfl rfl HRL.out ?_; intro v' w3 hr3 hb3 hz3))
        rw [HS.out] at hr3
        have HR3 := Lib.hid hr3
        have HB3 := Lib.hid (hb3 w w.heap.size (Nat.le_refl _) HB1.out)
        clear hr3 hb3 hz3
        go_wp2_with fail
        exact ⟨⟨k + 1, _, rfl, by omega, by go_num, HR3.out, HB3.out⟩, by simp [intOf]; omega⟩
      · obtain rfl : k = n := by omega
        have hd : decide (k < k) = false := by simp
        go_wp2_with fail
        go_ret
        exact ⟨_, rfl, ⟨HM.out, Nat.le_refl _⟩, HB.out⟩
  · have HV := Lib.hid (rhoL_no hI)
    have HC := Lib.hid (fun wx hb => HIS.out false (isB_no hI) wx hb)
    clear HIS hI
    rw [HV.out]
    clear HV
    generalize m.length = n at *
    go_enter Try.func100, Try.ntmps100
    go_wp2_with fail
    go_loopw [3, 4] (fun o i wr => i = .int .i64 0 ∧ o = .slice (some ⟨w.heap.size, 0, none⟩) 0 0 ∧ wr = w.alloc (.cells #[] 3)) (fun _ _ _ => 0)
    case atStart => exact ⟨rfl, rfl, rfl⟩
    case round =>
      obtain ⟨rfl, rfl, rfl⟩ := hrel
      have HB := Lib.hid (show Below w.heap.size w (w.alloc (.cells #[] 3)) from (Below.refl _ _).alloc (Nat.le_refl _) _)
      have HCQ := Lib.hid (HC.out _ HB.out)
      by_cases h0 : 0 < n
      · have hd : decide (0 < n) = true := decide_eq_true h0
        go_wp2_with fail
        refine HCQ.out.mono ?_
        rintro e w2 ⟨rfl, hb2⟩
        have HB2 := Lib.hid hb2; clear hb2
        go_wp2_with fail
        go_ret
        exact ⟨_, rfl, ⟨(row_empty w).step HB2.out, Nat.le_refl _⟩, HB.out.trans (HB2.out.mono HB.out.size)⟩
      · have hd : decide (0 < n) = false := decide_eq_false h0
        go_wp2_with fail
        go_ret
        exact ⟨_, rfl, ⟨row_empty w, Nat.le_refl _⟩, HB.out⟩

end Go.Proofs.Ytnlbmnielemgiaa
