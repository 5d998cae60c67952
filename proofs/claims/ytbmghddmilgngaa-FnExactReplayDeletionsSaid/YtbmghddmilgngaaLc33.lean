/-
  Lengths: what the program's way back to the ones returns.
  Words: what the program's IsWord returns.
  Lengths: what the program's NormalForm, LengthOf, IsReduced, LeftDescents and RightDescents return.
-/
import Derived.Deep.LoopGhost
import Derived.Test.YtbmghddmilgngaaLc32
import Derived.Deep.QuietTactic
import Derived.BigQuiet
import Derived.Test.YtbmghddmilgngaaLc15
import Derived.Test.YtbmghddmilgngaaLc18
import Derived.Test.YtbmghddmilgngaaLc16
namespace Go.Proofs.Ytbmghddmilgngaa
open Go.RowKit

theorem grown_own {a b c : World} {S T : Option Nat} (h : a.grownBy b S) (k : b.grownBy c T) (hT : ∀ j, T = some j → a.heap.size ≤ j) : a.grownBy c S :=
  ⟨k.os.trans h.os, k.tape.trans h.tape, k.output.trans h.output, Nat.le_trans h.size k.size, fun i hi hn => (k.block i (Nat.lt_of_lt_of_le hi h.size) (fun e => by have := hT i e.symm; omega)).trans (h.block i hi hn)⟩
theorem RowN.head {g C b cap n : Nat} {w : World} {x : Int} {r : List Int} (h : RowN g C w (.slice (some ⟨b, 0, none⟩) n cap) (x :: r)) (sc : Nat) : RowN g C w (.slice (some ⟨b, 0, none⟩) 1 sc) [x] := by
  rcases h with ⟨h, _⟩ | ⟨b', off, cap', h1, h2, h3, h4⟩
  · simp at h
  · simp only [Value.slice.injEq, Option.some.injEq, Addr.mk.injEq, and_true] at h1
    obtain ⟨⟨rfl, rfl⟩, _, _⟩ := h1
    refine Or.inr ⟨b, 0, sc, rfl, h2, h3, fun j hj => ?_⟩
    obtain rfl : j = 0 := by simp at hj; omega
    exact h4 0 (by simp)
theorem RowI.room {A B b n cap : Nat} {w : World} {l : List Int} (h : RowI A B w (.slice (some ⟨b, 0, none⟩) n cap) l) (hn : l.length = n) : n ≤ cap := by
  rcases h.1.2 with ⟨h', _⟩ | ⟨g, cap', cur, h', _, _, h2, _⟩
  · simp at h'
  · simp only [Value.slice.injEq, Option.some.injEq, Addr.mk.injEq, and_true] at h'
    omega
theorem letTo_one {n t : Nat} (h : t < n) : LetTo n [(t : Int)] [(t : Int)].length := by
  intro j hj
  obtain rfl : j = 0 := by simp at hj; omega
  simp; omega
theorem actW_one (m : List (List Int)) (t : Nat) (l : List Int) : actW m [(t : Int)] l = reflL m t l := by simp [actW]
set_option maxHeartbeats 8000000 in
set_option maxRecDepth 100000 in
theorem retn_any (B g : Nat) (v : Value) (m : List (List Int)) (l : List Int) (L : Nat) (w : World) (h : MatB B w v m) (h2 : Im4 w g l) (hBg : B ≤ g) (hI : IsC m) (hr : Ret m l L) :
    Calls Try.prog 96 #[.pointer (some ⟨g, 0, none⟩), v] w fun e w' => ∃ x, e = .returned x ∧ RowI w.heap.size w'.heap.size w' x (frmI m 31 l) ∧ w.grownBy w' (some g) := by
  have hn1 := hI.2.2.1
  have hn4 := hI.2.2.2
  have hgw := h2.lt
  have hll := hr.1
  have h30 := hr.2.1
  have HRET := Lib.hid hr
  have HIG := Lib.hid h2
  have HDE := Lib.hid (fun (cur : List Int) (wx : World) (hx : Im4 wx g cur) (hc : cur.length = m.length) => show Calls Try.prog 68 #[.pointer (some ⟨g, 0, none⟩)] wx (MakesS wx (dnsK cur m.length)) from by rw [← hc]; exact desc_any g cur wx hx (by omega))
  have HAC := Lib.hid (fun (t : Nat) (cur : List Int) (b sc : Nat) (wx : World) (hg : w.grownBy wx (some g)) (hx : Im4 wx g cur) (hc : cur.length = m.length) (ht : t < m.length) (hN : RowN g wx.heap.size wx (.slice (some ⟨b, 0, none⟩) 1 sc) [(t : Int)]) => (acim_any B g v (.slice (some ⟨b, 0, none⟩) 1 sc) m [(t : Int)] cur wx (h.below (below_of_grown hg hBg (by omega)) (Nat.le_refl _)) hN hx hBg hI (letTo_one ht) (by simp) hc).mono (R' := fun e' w' => e' = .returned (.tuple #[]) ∧ Im4 w' g (reflL m t cur) ∧ wx.grownBy w' (some g)) fun e w' ⟨q1, q2, q3⟩ => ⟨q1, by rw [← actW_one]; exact q2, q3⟩)
  have HSTEP := Lib.hid (fun (cur : List Int) (K : Nat) (hr : Ret m cur K) (hd : dnsK cur m.length ≠ []) => ret_step hI hr hd)
  have HEND := Lib.hid (fun (cur : List Int) (K : Nat) (hr : Ret m cur K) (hd : dnsK cur m.length = []) => ret_end hI hr hd)
  have HFS := Lib.hid (fun (cur : List Int) (r : Nat) (h : firstDown cur ≠ cur.length) => frmI_step (m := m) (k := r) h)
  have HFE := Lib.hid (fun (cur : List Int) (r : Nat) (h : firstDown cur = cur.length) => frmI_end (m := m) (k := r) h)
  have HDL := Lib.hid (fun (cur : List Int) => dnsK_len cur m.length)
  have HD0 := Lib.hid (HDE.out l w h2 hll)
  obtain ⟨a, cap, rfl⟩ := h.slice
  clear h h2 hI hr hll
  obtain ⟨S, hS⟩ : ∃ S, S = w.heap.size := ⟨_, rfl⟩
  rw [← hS]
  have HS := Lib.hid hS
  have hgS : g < S := by omega
  clear hS
  generalize hR : frmI m 31 l = R at *
  have HRE := Lib.hid hR; clear hR
  generalize hnm : m.length = n at *
  have HNM := Lib.hid hnm; clear hnm
  go_enter Try.func96, Try.ntmps96
  go_wp2_with fail
  refine HD0.out.mono ?_
  rintro e w1 ⟨x1, rfl, ⟨hx1, _⟩, hb1⟩
  have HX1 := Lib.hid hx1
  have HB1 := Lib.hid hb1
  have HG1 := Lib.hid (grown_blw (World.grownBy.refl w (some g)) hb1)
  have HI1 := Lib.hid (HIG.out.below hb1 hgw)
  have H01 := Lib.hid (RowI.nil' S w1.heap.size w1)
  clear hx1 hb1 HD0
  go_wp2_with fail
  go_loopg [5, 6] L (fun gk o x wr => ∃ (k C : Nat) (acc cur : List Int) (wq : World), wq = wr ∧ Hid (Ret m cur gk) ∧ k + gk ≤ 30 ∧ RowI S wq.heap.size wq o acc ∧ Hid (acc.length = k) ∧ (∀ b, o.ownBlock = some b → b < C) ∧ S ≤ C ∧ RowI C wq.heap.size wq x (dnsK cur n) ∧ Im4 wq g cur ∧ Hid (acc ++ frmI m (31 - k) cur = R) ∧ w.grownBy wq (some g))
  case atStart => exact ⟨0, S, [], l, _, rfl, HRET, by omega, H01.out, Lib.hid rfl, fun b hb => by simp [Value.ownBlock] at hb, Nat.le_refl _, by have := HS.out; rw [this]; exact HX1.out, HI1.out, Lib.hid (show frmI m (31 - 0) l = R from HRE.out), HG1.out⟩
  case round =>
    obtain ⟨k, C, acc, cur, wq, rfl, HR, hk, hM, HAL, hbC, hSC, hX, hIm, HAC2, hG⟩ := hrel
    have HM := Lib.hid hM; have HX := Lib.hid hX; have HIM := Lib.hid hIm; have HG := Lib.hid hG; have HBC := Lib.hid hbC
    have hsz := hG.size
    clear hM hX hIm hG hbC
    have hSw := HS.out
    have hSq : S ≤ wq.heap.size := by omega
    clear hSw hsz
    by_cases hd : dnsK cur n = []
    · have hx := HX.out
      rw [hd] at hx
      have hacc := HAC2.out
      rw [HFE.out cur (31 - k) (HEND.out cur gk HR.out hd), List.append_nil] at hacc
      have HACC := Lib.hid hacc
      obtain ⟨xa, xcap, rfl⟩ := hx.slice
      clear hacc hd hx
      go_wp2_with fail
      go_ret
      exact ⟨_, rfl, by rw [← HACC.out]; exact HM.out, HG.out⟩
    · obtain ⟨t, L', r, hdt, hft, htn, hgk, hR'⟩ := HSTEP.out cur gk HR.out hd
      have hx := HX.out
      rw [hdt] at hx
      obtain ⟨b, xcap, rfl, hCb, hbq⟩ := hx.at' (by simp)
      have hcap := hx.room rfl
      have hlr : (((t : Int) :: r).length : Nat) = r.length + 1 := rfl
      rw [hlr] at hx hcap ⊢
      have hc0 : wq.cell? ⟨b, 0, none⟩ = some (.int .i64 (t : Int)) := by
        have h1 := hx.1
        rw [hlr] at h1
        rw [h1.cellAt 0 (by omega)]; rfl
      have hcl : HR.out.1 = HR.out.1 := rfl
      have HCL := Lib.hid (HR.out.1.trans HNM.out)
      have hst := HFS.out cur (30 - k) (by rw [hft, HCL.out]; omega)
      rw [hft, show 30 - k + 1 = 31 - k by omega] at hst
      have hacc := HAC2.out
      rw [hst] at hacc
      have HACC := Lib.hid (show (acc ++ [(t : Int)]) ++ frmI m (31 - (k + 1)) (reflL m t cur) = R from by rw [List.append_assoc, List.singleton_append, show 31 - (k + 1) = 30 - k by omega]; exact hacc)
      have HRL := Lib.hid hR'
      have HRLN := Lib.hid (show acc.length ≤ 4194304 from by have := HAL.out; omega)
      have HXI := Lib.hid hx
      have hnl : 0 < r.length + 1 := by omega
      have HTN := Lib.hid htn
      have HGK := Lib.hid hgk
      have hd1 : decide (0 < r.length + 1) = true := decide_eq_true (by omega)
      have hcap1 : (1 : Int) ≤ (xcap : Int) := by omega
      clear hlr
      generalize r.length + 1 = nl at *
      clear hacc hst hd hdt hft hx hR' hgk hcl htn HR
      go_wp2_with (at_builtin; go_must (refine append_intP HM.out hSq rfl (t : Int) rfl rfl rfl rfl HRLN.out ?_; intro v6 w6 hr6 hg6 hl6))
      have hwS := HS.out
      have hg6w : w.grownBy w6 (some g) := grown_own HG.out hg6 (fun j hj => by have := (HM.out.1.lt j hj).1; omega)
      have hX6 := HXI.out.grown hg6 (.inr fun e => by have e2 := HBC.out b (by rw [← e]; rfl); omega)
      have hI6 := HIM.out.kept hg6 (fun e => by have := (HM.out.1.lt g e.symm).1; omega)
      have hsz6 := hg6.size
      have HC := Lib.hid (HAC.out t cur b xcap w6 hg6w hI6 HCL.out HTN.out ((RowN.ofI hX6 (by omega) hsz6).head xcap))
      have HM6 := Lib.hid hr6
      have HG6 := Lib.hid hg6w
      clear hr6 hg6 hl6 hg6w hX6 hI6 hwS hsz6
      go_wp2_with fail
      refine HC.out.mono ?_
      rintro e w7 ⟨rfl, q1, q2⟩
      have hsz7 := q2.size
      have HM7 := Lib.hid ((HM6.out.kept q2 (.inr fun e => by have := (HM6.out.1.lt g e).1; omega)).mono (Nat.le_refl _) hsz7)
      have HG7 := Lib.hid (grown_trans HG6.out q2)
      have HI7 := Lib.hid q1
      have HD7 := Lib.hid (HDE.out (reflL m t cur) w7 q1 (by rw [reflL_len]; exact HCL.out))
      clear q1 q2 hsz7 HC
      go_wp2_with fail
      refine HD7.out.mono ?_
      rintro e w8 ⟨x8, rfl, ⟨hx8, _⟩, hb8⟩
      have HM8 := Lib.hid (HM7.out.step hb8)
      have HX8 := Lib.hid hx8
      have HI8 := Lib.hid (HI7.out.below hb8 HI7.out.lt)
      have HG8 := Lib.hid (grown_blw HG7.out (hb8.mono HG7.out.size))
      have HAL8 := Lib.hid (show (acc ++ [(t : Int)]).length = k + 1 from by rw [List.length_append, HAL.out]; rfl)
      have HS7 := Lib.hid (show S ≤ w7.heap.size from by rw [HS.out]; exact HG7.out.size)
      clear hx8 hb8 HD7
      go_wp2_with fail
      go_roundg L'
      case measure => have := HGK.out; omega
      case rel => exact ⟨k + 1, w7.heap.size, acc ++ [(t : Int)], reflL m t cur, _, rfl, HRL, by have := HGK.out; omega, HM8.out, HAL8, fun j hj => HM7.out.2 j hj, HS7.out, HX8.out, HI8.out, HACC, HG8.out⟩
end Go.Proofs.Ytbmghddmilgngaa
namespace Go.Proofs.Ytbmghddmilgngaa
open Go.RowKit

open Classical in
noncomputable def letB (n : Nat) (l : List Int) : Bool := decide (LetTo n l l.length)
open Classical in
theorem letB_yes {n : Nat} {l : List Int} (h : LetTo n l l.length) : letB n l = true := decide_eq_true h
open Classical in
theorem letB_no {n : Nat} {l : List Int} (h : ¬ LetTo n l l.length) : letB n l = false := decide_eq_false h
open Classical in
theorem wordB_is (m : List (List Int)) (l : List Int) : wordB m l = (isB m && decide (l.length ≤ 15) && letB m.length l) := by
  by_cases hI : IsC m
  · by_cases h15 : l.length ≤ 15
    · by_cases hl : LetTo m.length l l.length
      · rw [wordB_yes ⟨hl, hI, h15⟩, isB_yes hI, decide_eq_true h15, letB_yes hl]; rfl
      · rw [wordB_no (fun h => hl h.1), letB_no hl, Bool.and_false]
    · rw [wordB_no (fun h => h15 h.2.2), decide_eq_false h15, Bool.and_false, Bool.false_and]
  · rw [wordB_no (fun h => hI h.2.1), isB_no hI, Bool.false_and, Bool.false_and]

set_option maxHeartbeats 2000000 in
set_option maxRecDepth 100000 in
theorem hop_any (B : Nat) (v : Value) (l : List Int) (ma : Option Addr) (n mcap : Nat) (w : World) (h : RowB B w v l) (hl : l.length ≤ maxLen) (hn : n ≤ 2 ^ 63 - 1) :
    Calls Try.prog 75 #[v, .slice ma n mcap] w fun e w' => e = .returned (.bool (letB n l)) ∧ w = w' := by
  obtain ⟨a, cap, rfl⟩ := h.slice
  have HL := Lib.hid h
  have HPT := Lib.hid (fun (i : Int) (c : Bool) (hc : ptB i n = c) => pt_c ma n mcap i c hc w hn)
  clear h hn
  unfold maxLen at hl
  have HNO := Lib.hid (fun (k : Nat) (hk : k < l.length) (h : ¬ (0 ≤ l.getD k 0 ∧ l.getD k 0 ≤ (n : Int) - 1)) => letB_no (n := n) (l := l) (fun h' => h (h' k hk)))
  have HYES := Lib.hid (fun (h : LetTo n l l.length) => letB_yes h)
  generalize letB n l = R at *
  generalize hln : l.length = L at *
  have HLN := Lib.hid hln; clear hln
  go_enter Try.func75, Try.ntmps75
  go_wp2_with fail
  go_loop [9] (fun i => ∃ (k : Nat), k ≤ L ∧ i = .int .i64 k ∧ Hid (LetTo n l k)) (fun i => L - (intOf i).toNat)
  case atStart => exact ⟨0, Nat.zero_le _, rfl, Lib.hid (letTo_zero _ _)⟩
  case round =>
    obtain ⟨k, hk, rfl, hs⟩ := hrel
    by_cases hlt : k < L
    · obtain ⟨b, off, rfl, hb, hc⟩ := HL.out.getD hlt
      by_cases hin : 0 ≤ l.getD k 0 ∧ l.getD k 0 ≤ (n : Int) - 1
      · have HST := Lib.hid (letTo_step hs.out hin)
        have HC := Lib.hid (HPT.out _ true (ptB_yes hin))
        clear hin hs
        generalize l.getD k 0 = x at *
        go_wp2_with fail
        refine HC.out.mono ?_
        rintro e w' ⟨rfl, rfl⟩
        go_wp2_with fail
        exact ⟨⟨k + 1, by omega, by go_num, HST⟩, by simp [intOf]; omega⟩
      · have HBAD := Lib.hid (HNO.out k hlt hin)
        have HC := Lib.hid (HPT.out _ false (ptB_no hin))
        clear hin hs
        generalize l.getD k 0 = x at *
        go_wp2_with fail
        refine HC.out.mono ?_
        rintro e w' ⟨rfl, rfl⟩
        go_wp2_with fail
        go_ret
        exact ⟨ret_boolean HBAD.out.symm, rfl⟩
    · obtain rfl : k = L := by omega
      have HE := Lib.hid (HYES.out hs.out)
      clear HNO HYES hs
      go_wp2_with fail
      go_ret
      exact ⟨ret_boolean HE.out.symm, rfl⟩

set_option maxHeartbeats 2000000 in
set_option maxRecDepth 100000 in
theorem iswi_any (B B' : Nat) (v v' : Value) (m : List (List Int)) (l : List Int) (w : World) (h : MatB B w v m) (h' : RowB B' w v' l) (hf : RowsFit m) (hl : l.length ≤ maxLen) :
    Calls Try.prog 49 #[v, v'] w fun e w' => e = .returned (.bool (wordB m l)) ∧ ∃ q, w' = w.drewN q := by
  obtain ⟨a, cap, rfl⟩ := h.slice
  have HISC := Lib.hid (fun c (hc : isB m = c) => icm_0 B _ m c hc w h hf)
  have hml := hf.1
  unfold maxLen at hml
  have HOP := Lib.hid (fun q => hop_any B' v' l a m.length cap (w.drewN q) (h'.drewN q) hl (by omega))
  obtain ⟨a', cap', rfl⟩ := h'.slice
  rw [wordB_is]
  unfold maxLen at hl
  clear h h' hf
  generalize m.length = n at *
  generalize hln : l.length = L at *
  generalize letB n l = R at *
  have HLN := Lib.hid hln; clear hln
  generalize isB m = ib at *
  cases ib with
  | false =>
    go_enter Try.func49, Try.ntmps49
    go_wp2_with fail
    refine (HISC.out _ rfl).mono ?_
    rintro e w' ⟨rfl, q, rfl⟩
    go_wp2_with fail
    go_ret
    exact ⟨ret_boolean (by simp), q, rfl⟩
  | true =>
    by_cases h15 : L ≤ 15
    · have hd : decide ((L : Int) ≤ 15) = true := decide_eq_true (by omega)
      have hd2 : decide (L ≤ 15) = true := decide_eq_true h15
      have HD := Lib.hid hd2; clear hd2
      go_enter Try.func49, Try.ntmps49
      go_wp2_with fail
      refine (HISC.out _ rfl).mono ?_
      rintro e w' ⟨rfl, q, rfl⟩
      go_wp2_with fail
      refine (HOP.out q).mono ?_
      rintro e w' ⟨rfl, rfl⟩
      go_wp2_with fail
      go_ret
      exact ⟨ret_boolean (by rw [HD.out]; simp), q, rfl⟩
    · have hd : decide ((L : Int) ≤ 15) = false := decide_eq_false (by omega)
      have hd2 : decide (L ≤ 15) = false := decide_eq_false h15
      have HD := Lib.hid hd2; clear hd2
      go_enter Try.func49, Try.ntmps49
      go_wp2_with fail
      refine (HISC.out _ rfl).mono ?_
      rintro e w' ⟨rfl, q, rfl⟩
      go_wp2_with fail
      go_ret
      exact ⟨ret_boolean (by rw [HD.out]; simp), q, rfl⟩
end Go.Proofs.Ytbmghddmilgngaa
namespace Go.Proofs.Ytbmghddmilgngaa
open Go.RowKit

set_option maxHeartbeats 2000000 in
set_option maxRecDepth 100000 in
theorem frwi_any (B B' : Nat) (v v' : Value) (m : List (List Int)) (ws : List Int) (w : World) (h : MatB B w v m) (h' : RowB B' w v' ws) (hB : B ≤ w.heap.size) (hB' : B' ≤ w.heap.size) (hf : RowsFit m) (hI : IsC m) (hW : LetTo m.length ws ws.length) (hw : ws.length ≤ 30) :
    Calls Try.prog 90 #[v, v'] w (MakesS w (frmI m 31 (imgW m ws))) := by
  obtain ⟨L, hr⟩ := ret_word hI hW hw
  have HIM := Lib.hid (iorho_any B B' v v' m ws w h h' hB hB' hf hI hW (by omega))
  obtain ⟨x0, x1, x2, x3, hv, hp⟩ := imV_parts (imgW m ws)
  rw [hv] at HIM
  have HRT := Lib.hid (fun (wx : World) (hb : Below w.heap.size w wx) => retn_any B wx.heap.size v m (imgW m ws) L (wx.alloc (.cells #[.int .i64 x0, .int .i64 x1, .int .i64 x2, .int .i64 x3] 58)) (h.below (hb.alloc hb.size _) hB) (Im4.new hp) (Nat.le_trans hB hb.size) hI hr)
  obtain ⟨a, cap, rfl⟩ := h.slice
  obtain ⟨a', cap', rfl⟩ := h'.slice
  clear h h' hf hI hW hr hv hp hw
  generalize frmI m 31 (imgW m ws) = R at *
  generalize m.length = n at *
  generalize ws.length = nw at *
  go_enter Try.func90, Try.ntmps90
  go_wp2_with fail
  refine HIM.out.mono ?_
  rintro e w2 ⟨rfl, hb2⟩
  have HB2 := Lib.hid hb2
  have HR := Lib.hid (HRT.out w2 HB2.out)
  have HB3 := Lib.hid (HB2.out.alloc HB2.out.size (.cells #[.int .i64 x0, .int .i64 x1, .int .i64 x2, .int .i64 x3] 58))
  clear hb2 HIM HRT
  go_wp2_with fail
  refine HR.out.mono ?_
  rintro e w3 ⟨x, rfl, hx, hg⟩
  have hsz := HB2.out.size
  have HX := Lib.hid (hx.mono HB3.out.size (Nat.le_refl _))
  have HB4 := Lib.hid (HB3.out.grown hg HB3.out.size (fun j hj => by have := Option.some.inj hj; omega))
  clear hx hg hsz HR
  go_wp2_with fail
  go_ret
  exact ⟨_, rfl, ⟨HX.out, Nat.le_refl _⟩, HB4.out⟩
set_option maxHeartbeats 2000000 in
set_option maxRecDepth 100000 in
theorem nrmi_any (B B' : Nat) (v v' : Value) (m : List (List Int)) (ws : List Int) (w : World) (h : MatB B w v m) (h' : RowB B' w v' ws) (hB : B ≤ w.heap.size) (hB' : B' ≤ w.heap.size) (hf : RowsFit m) (hw : ws.length ≤ 1048576) :
    Calls Try.prog 80 #[v, v'] w (MakesS2 w (nrmL m ws) (.bool (wordB m ws))) := by
  have HIW := Lib.hid (iswi_any B B' v v' m ws w h h' hf (by unfold maxLen; omega))
  by_cases hW : IsW m ws
  · have HWB := Lib.hid (wordB_yes hW)
    have HV := Lib.hid (nrmL_yes hW)
    have HFR := Lib.hid (fun (wx : World) (hb : Below w.heap.size w wx) => frwi_any B B' v v' m ws wx (h.below hb hB) (h'.below hb hB') (Nat.le_trans hB hb.size) (Nat.le_trans hB' hb.size) hf hW.2.1 hW.1 (by have := hW.2.2; omega))
    rw [HWB.out] at HIW ⊢
    rw [HV.out]
    obtain ⟨a, cap, rfl⟩ := h.slice
    obtain ⟨a', cap', rfl⟩ := h'.slice
    clear h h' hf hW HWB HV
    generalize frmI m 31 (imgW m ws) = R at *
    generalize m.length = n at *
    generalize ws.length = nw at *
    go_enter Try.func80, Try.ntmps80
    go_wp2_with fail
    refine HIW.out.mono ?_
    rintro e w1 ⟨rfl, q, rfl⟩
    have HB1 := Lib.hid (below_drewN (w := w) q)
    have HC := Lib.hid (HFR.out _ HB1.out)
    clear HIW HFR
    go_wp2_with fail
    refine HC.out.mono ?_
    rintro e w2 ⟨x, rfl, hx, hb2⟩
    have HX := Lib.hid (hx.1.mono HB1.out.size (Nat.le_refl _))
    have HB2 := Lib.hid (HB1.out.trans (hb2.mono HB1.out.size))
    clear hx hb2 HC
    go_wp2_with fail
    go_ret2
    exact ⟨_, rfl, ⟨HX.out, Nat.le_refl _⟩, HB2.out⟩
  · have HV := Lib.hid (nrmL_no hW)
    have HWB := Lib.hid (wordB_no hW)
    rw [HWB.out] at HIW ⊢
    rw [HV.out]
    obtain ⟨a, cap, rfl⟩ := h.slice
    obtain ⟨a', cap', rfl⟩ := h'.slice
    clear h h' hf hW HWB HV
    generalize m.length = n at *
    generalize ws.length = nw at *
    go_enter Try.func80, Try.ntmps80
    go_wp2_with fail
    refine HIW.out.mono ?_
    rintro e w1 ⟨rfl, q, rfl⟩
    have HB1 := Lib.hid (below_drewN (w := w) q)
    clear HIW
    go_wp2_with fail
    go_ret2
    exact ⟨_, rfl, ⟨RowI.nil' _ _ _, Nat.le_refl _⟩, HB1.out⟩
set_option maxHeartbeats 2000000 in
set_option maxRecDepth 100000 in
theorem leni_any (B B' : Nat) (v v' : Value) (m : List (List Int)) (ws : List Int) (w : World) (h : MatB B w v m) (h' : RowB B' w v' ws) (hB : B ≤ w.heap.size) (hB' : B' ≤ w.heap.size) (hf : RowsFit m) (hw : ws.length ≤ 1048576) :
    Calls Try.prog 62 #[v, v'] w fun e w' => e = .returned (.int .i64 (lenI m ws)) ∧ Below w.heap.size w w' := by
  have HN := Lib.hid (nrmi_any B B' v v' m ws w h h' hB hB' hf hw)
  have HV := Lib.hid (show lenI m ws = if wordB m ws = true then ((nrmL m ws).length : Int) else -1 from rfl)
  clear h h' hf
  generalize lenI m ws = R at *
  generalize nrmL m ws = nl at *
  generalize wordB m ws = wb at *
  cases wb with
  | true =>
    have hv := HV.out
    rw [if_pos rfl] at hv
    subst hv
    go_enter Try.func62, Try.ntmps62
    go_wp2_with fail
    refine HN.out.mono ?_
    rintro e w1 ⟨x, rfl, hx, hb1⟩
    have HB1 := Lib.hid hb1
    obtain ⟨xa, xcap, rfl⟩ := hx.1.slice
    clear hx hb1
    go_wp2_with fail
    go_ret
    exact ⟨rfl, HB1.out⟩
  | false =>
    have hv := HV.out
    rw [if_neg (by simp)] at hv
    subst hv
    go_enter Try.func62, Try.ntmps62
    go_wp2_with fail
    refine HN.out.mono ?_
    rintro e w1 ⟨x, rfl, hx, hb1⟩
    have HB1 := Lib.hid hb1
    obtain ⟨xa, xcap, rfl⟩ := hx.1.slice
    clear hx hb1
    go_wp2_with fail
    go_ret
    exact ⟨rfl, HB1.out⟩
set_option maxHeartbeats 2000000 in
set_option maxRecDepth 100000 in
theorem isrdi_any (B B' : Nat) (v v' : Value) (m : List (List Int)) (ws : List Int) (w : World) (h : MatB B w v m) (h' : RowB B' w v' ws) (hB : B ≤ w.heap.size) (hB' : B' ≤ w.heap.size) (hf : RowsFit m) (hw : ws.length ≤ 1048576) :
    Calls Try.prog 32 #[v, v'] w fun e w' => e = .returned (.bool (lenI m ws == (ws.length : Int))) ∧ Below w.heap.size w w' := by
  have HN := Lib.hid (leni_any B B' v v' m ws w h h' hB hB' hf hw)
  obtain ⟨a', cap', rfl⟩ := h'.slice
  clear h h' hf
  generalize lenI m ws = R at *
  generalize ws.length = n at *
  go_enter Try.func32, Try.ntmps32
  go_wp2_with fail
  refine HN.out.mono ?_
  rintro e w1 ⟨rfl, hb1⟩
  have HB1 := Lib.hid hb1
  clear hb1
  go_wp2_with fail
  go_ret
  exact ⟨rfl, HB1.out⟩
set_option maxHeartbeats 2000000 in
set_option maxRecDepth 100000 in
theorem ldsi_any (B B' : Nat) (v v' : Value) (m : List (List Int)) (ws : List Int) (w : World) (h : MatB B w v m) (h' : RowB B' w v' ws) (hB : B ≤ w.heap.size) (hB' : B' ≤ w.heap.size) (hf : RowsFit m) (hw : ws.length ≤ 1048576) :
    Calls Try.prog 43 #[v, v'] w (MakesS w (ldsL m ws)) := by
  have HIW := Lib.hid (iswi_any B B' v v' m ws w h h' hf (by unfold maxLen; omega))
  by_cases hW : IsW m ws
  · have HWB := Lib.hid (wordB_yes hW)
    have HV := Lib.hid (ldsL_yes hW)
    have hn4 := hW.2.1.2.2.2
    have HIM := Lib.hid (fun (wx : World) (hb : Below w.heap.size w wx) => iorho_any B B' v v' m ws wx (h.below hb hB) (h'.below hb hB') (Nat.le_trans hB hb.size) (Nat.le_trans hB' hb.size) hf hW.2.1 hW.1 hw)
    obtain ⟨x0, x1, x2, x3, hv, hp⟩ := imV_parts (imgW m ws)
    rw [hv] at HIM
    have HDS := Lib.hid (fun (wx : World) => show Calls Try.prog 68 #[.pointer (some ⟨wx.heap.size, 0, none⟩)] (wx.alloc (.cells #[.int .i64 x0, .int .i64 x1, .int .i64 x2, .int .i64 x3] 58)) (MakesS (wx.alloc (.cells #[.int .i64 x0, .int .i64 x1, .int .i64 x2, .int .i64 x3] 58)) (dnsK (imgW m ws) m.length)) from by
      have := desc_any wx.heap.size (imgW m ws) (wx.alloc (.cells #[.int .i64 x0, .int .i64 x1, .int .i64 x2, .int .i64 x3] 58)) (Im4.new hp) (by rw [imgW_len]; exact hn4)
      rw [imgW_len] at this; exact this)
    rw [HWB.out] at HIW
    rw [HV.out]
    obtain ⟨a, cap, rfl⟩ := h.slice
    obtain ⟨a', cap', rfl⟩ := h'.slice
    clear h h' hf hW HWB HV hv hp
    generalize dnsK (imgW m ws) m.length = R at *
    generalize m.length = n at *
    generalize ws.length = nw at *
    go_enter Try.func43, Try.ntmps43
    go_wp2_with fail
    refine HIW.out.mono ?_
    rintro e w1 ⟨rfl, q, rfl⟩
    have HB1 := Lib.hid (below_drewN (w := w) q)
    have HC := Lib.hid (HIM.out _ HB1.out)
    clear HIW HIM
    go_wp2_with fail
    refine HC.out.mono ?_
    rintro e w2 ⟨rfl, hb2⟩
    have HB2 := Lib.hid (HB1.out.trans (hb2.mono HB1.out.size))
    have HR := Lib.hid (HDS.out w2)
    have HB3 := Lib.hid (HB2.out.alloc HB2.out.size (.cells #[.int .i64 x0, .int .i64 x1, .int .i64 x2, .int .i64 x3] 58))
    clear hb2 HC HDS
    go_wp2_with fail
    refine HR.out.mono ?_
    rintro e w3 ⟨x, rfl, ⟨hx, _⟩, hb3⟩
    have HX := Lib.hid (hx.mono HB3.out.size (Nat.le_refl _))
    have HB4 := Lib.hid (HB3.out.trans (hb3.mono HB3.out.size))
    clear hx hb3 HR
    go_wp2_with fail
    go_ret
    exact ⟨_, rfl, ⟨HX.out, Nat.le_refl _⟩, HB4.out⟩
  · have HV := Lib.hid (ldsL_no hW)
    have HWB := Lib.hid (wordB_no hW)
    rw [HWB.out] at HIW
    rw [HV.out]
    obtain ⟨a, cap, rfl⟩ := h.slice
    obtain ⟨a', cap', rfl⟩ := h'.slice
    clear h h' hf hW HWB HV
    generalize m.length = n at *
    generalize ws.length = nw at *
    go_enter Try.func43, Try.ntmps43
    go_wp2_with fail
    refine HIW.out.mono ?_
    rintro e w1 ⟨rfl, q, rfl⟩
    have HB1 := Lib.hid (below_drewN (w := w) q)
    clear HIW
    go_wp2_with fail
    go_ret
    exact ⟨_, rfl, ⟨RowI.nil' _ _ _, Nat.le_refl _⟩, HB1.out⟩
end Go.Proofs.Ytbmghddmilgngaa
