/-
  Weights: what the program's IsWeight returns.
  What the program's ParseCartan and ParseWeight return.
  Weights: what the program's formatNumbers and FormatWeight return; FormatCartan by the same.
-/
import Derived.Test.YtfjeghalkmkgoaaGreatDoorFW25
import Derived.Test.YtfjeghalkmkgoaaGreatDoorFW18
import Derived.Test.YtfjeghalkmkgoaaGreatDoorFW28
import Derived.Test.YtfjeghalkmkgoaaGreatDoorFW19
namespace Go.Proofs.YtfjeghalkmkgoaaGreatDoor
open Go.RowKit

set_option maxHeartbeats 400000 in
theorem iby_c (x : Int) (c : Bool) (hc : (!decide (-1000 ≤ x ∧ x ≤ 1000)) = c) (w : World) :
    Calls Tryz.prog 38 #[.int .i64 x] w fun e w' => e = .returned (.bool c) ∧ w = w' := by
  by_cases h : x < -1000
  · have h1 : decide (x < -1000) = true := decide_eq_true h
    have HV := Lib.hid (show c = true from by rw [← hc, decide_eq_false (by omega)]; rfl)
    clear hc
    go_enter Tryz.func38, Tryz.ntmps38
    go_wp2_with fail
    go_ret
    exact ⟨ret_boolean HV.out.symm, rfl⟩
  · have h1 : decide (x < -1000) = false := decide_eq_false h
    by_cases h2 : 1000 < x
    · have h3 : decide (1000 < x) = true := decide_eq_true h2
      have HV := Lib.hid (show c = true from by rw [← hc, decide_eq_false (by omega)]; rfl)
      clear hc
      go_enter Tryz.func38, Tryz.ntmps38
      go_wp2_with fail
      go_ret
      exact ⟨ret_boolean HV.out.symm, rfl⟩
    · have h3 : decide (1000 < x) = false := decide_eq_false h2
      have HV := Lib.hid (show c = false from by rw [← hc, decide_eq_true (by omega)]; rfl)
      clear hc
      go_enter Tryz.func38, Tryz.ntmps38
      go_wp2_with fail
      go_ret
      exact ⟨ret_boolean HV.out.symm, rfl⟩

/-- Where the first number that is too large stands. -/
def IdxIs (l : List Int) (r : Int) : Prop := (r = -1 ∧ WtTo l l.length) ∨ (0 ≤ r ∧ ¬ WtTo l l.length)
set_option maxHeartbeats 2000000 in
set_option maxRecDepth 100000 in
theorem idxf_any (B : Nat) (v : Value) (l : List Int) (w : World) (h : RowB B w v l) (hl : l.length ≤ maxLen) :
    Calls Tryz.prog 60 #[v, .func (.func 38) #[] #[]] w fun e w' => ∃ r, e = .returned (.int .i64 r) ∧ IdxIs l r ∧ w = w' := by
  obtain ⟨a, cap, rfl⟩ := h.slice
  have HL := Lib.hid h
  clear h
  unfold maxLen at hl
  have HNO := Lib.hid (fun (k : Nat) (hk : k < l.length) (h : ¬ (-1000 ≤ l.getD k 0 ∧ l.getD k 0 ≤ 1000)) => show IdxIs l (k : Int) from Or.inr ⟨by omega, fun h' => h (h' k hk)⟩)
  have HYES := Lib.hid (fun (h : WtTo l l.length) => show IdxIs l (-1) from Or.inl ⟨rfl, h⟩)
  generalize hln : l.length = L at *
  have HLN := Lib.hid hln; clear hln
  go_enter Tryz.func60, Tryz.ntmps60
  go_wp2_with fail
  go_loop [8] (fun i => ∃ (k : Nat), k ≤ L ∧ i = .int .i64 k ∧ Hid (WtTo l k)) (fun i => L - (intOf i).toNat)
  case atStart => exact ⟨0, Nat.zero_le _, rfl, Lib.hid (wtTo_zero _)⟩
  case round =>
    obtain ⟨k, hk, rfl, hs⟩ := hrel
    by_cases hlt : k < L
    · obtain ⟨b, off, rfl, hb, hc⟩ := HL.out.getD hlt
      by_cases hin : -1000 ≤ l.getD k 0 ∧ l.getD k 0 ≤ 1000
      · have HST := Lib.hid (wtTo_step hs.out hin)
        have HC := Lib.hid (iby_c (l.getD k 0) false (by rw [decide_eq_true hin]; rfl) w)
        clear hin hs
        generalize l.getD k 0 = x at *
        go_wp2_with fail
        refine HC.out.mono ?_
        rintro e w' ⟨rfl, rfl⟩
        go_wp2_with fail
        exact ⟨⟨k + 1, by omega, by go_num, HST⟩, by simp [intOf]; omega⟩
      · have HBAD := Lib.hid (HNO.out k hlt hin)
        have HC := Lib.hid (iby_c (l.getD k 0) true (by rw [decide_eq_false hin]; rfl) w)
        clear hin hs
        generalize l.getD k 0 = x at *
        go_wp2_with fail
        refine HC.out.mono ?_
        rintro e w' ⟨rfl, rfl⟩
        go_wp2_with fail
        go_ret
        exact ⟨_, rfl, HBAD.out, rfl⟩
    · obtain rfl : k = L := by omega
      have HE := Lib.hid (HYES.out hs.out)
      clear HNO HYES hs
      go_wp2_with fail
      go_ret
      exact ⟨_, rfl, HE.out, rfl⟩
set_option maxHeartbeats 2000000 in
set_option maxRecDepth 100000 in
theorem conf_any (B : Nat) (v : Value) (l : List Int) (w : World) (h : RowB B w v l) (hl : l.length ≤ maxLen) :
    Calls Tryz.prog 37 #[v, .func (.func 38) #[] #[]] w fun e w' => e = .returned (.bool (!wtlB l)) ∧ w = w' := by
  have HI := Lib.hid (idxf_any B v l w h hl)
  obtain ⟨a, cap, rfl⟩ := h.slice
  have HY := Lib.hid (fun (h : WtTo l l.length) => wtlB_yes h)
  have HN := Lib.hid (fun (h : ¬ WtTo l l.length) => wtlB_no h)
  clear h hl
  go_enter Tryz.func37, Tryz.ntmps37
  go_wp2_with fail
  refine HI.out.mono ?_
  rintro e w' ⟨r, rfl, hr, rfl⟩
  rcases hr with ⟨rfl, h⟩ | ⟨h0, h⟩
  · have HV := Lib.hid (HY.out h)
    clear h HY HN
    go_wp2_with fail
    go_ret
    exact ⟨ret_boolean (by rw [HV.out]; rfl), rfl⟩
  · have HV := Lib.hid (HN.out h)
    have hd : decide (0 ≤ r) = true := decide_eq_true h0
    clear h HY HN
    go_wp2_with fail
    go_ret
    exact ⟨ret_boolean (by rw [HV.out]; rfl), rfl⟩
set_option maxHeartbeats 2000000 in
set_option maxRecDepth 100000 in
theorem iswti_any (B B' : Nat) (v v' : Value) (m : List (List Int)) (l : List Int) (w : World) (h : MatB B w v m) (h' : RowB B' w v' l) (hf : RowsFit m) (hl : l.length ≤ maxLen) :
    Calls Tryz.prog 9 #[v, v'] w fun e w' => e = .returned (.bool (wtB m l)) ∧ ∃ q, w' = w.drewN q := by
  obtain ⟨a, cap, rfl⟩ := h.slice
  have HISC := Lib.hid (fun c (hc : isB m = c) => icm_0 B _ m c hc w h hf)
  have hml := hf.1
  unfold maxLen at hml
  have HOP := Lib.hid (fun q => conf_any B' v' l (w.drewN q) (h'.drewN q) hl)
  obtain ⟨a', cap', rfl⟩ := h'.slice
  rw [wtB_is]
  unfold maxLen at hl
  clear h h' hf
  generalize m.length = n at *
  generalize hln : l.length = L at *
  generalize wtlB l = R at *
  have HLN := Lib.hid hln; clear hln
  generalize isB m = ib at *
  cases ib with
  | false =>
    go_enter Tryz.func9, Tryz.ntmps9
    go_wp2_with fail
    refine (HISC.out _ rfl).mono ?_
    rintro e w' ⟨rfl, q, rfl⟩
    go_wp2_with fail
    go_ret
    exact ⟨ret_boolean (by simp), q, rfl⟩
  | true =>
    by_cases h15 : L = n
    · have hd : ((L : Int) == (n : Int)) = true := by rw [beq_iff_eq]; omega
      have HD := Lib.hid (show decide (L = n) = true from decide_eq_true h15)
      clear h15
      go_enter Tryz.func9, Tryz.ntmps9
      go_wp2_with fail
      refine (HISC.out _ rfl).mono ?_
      rintro e w' ⟨rfl, q, rfl⟩
      go_wp2_with fail
      refine (HOP.out q).mono ?_
      rintro e w' ⟨rfl, rfl⟩
      go_wp2_with fail
      go_ret
      exact ⟨ret_boolean (by rw [HD.out]; simp), q, rfl⟩
    · have hd : ((L : Int) == (n : Int)) = false := by rw [beq_eq_false_iff_ne]; omega
      have HD := Lib.hid (show decide (L = n) = false from decide_eq_false h15)
      clear h15
      go_enter Tryz.func9, Tryz.ntmps9
      go_wp2_with fail
      refine (HISC.out _ rfl).mono ?_
      rintro e w' ⟨rfl, q, rfl⟩
      go_wp2_with fail
      go_ret
      exact ⟨ret_boolean (by rw [HD.out]; simp), q, rfl⟩
theorem iswts_b (B B' : Nat) (v v' : Value) (m : List (List Int)) (l : List Int) (w : World) (h : MatB B w v m) (h' : RowB B' w v' l) (hf : RowsFit m) (hl : l.length ≤ maxLen) :
    Calls Tryz.prog 10 #[v, v'] w fun e w' => e = .returned (.bool (wtB m l)) ∧ Below w.heap.size w w' :=
  (iswts_any B B' v v' m l w h h' hf hl).mono fun e w' ⟨h1, q, h2⟩ => ⟨h1, by rw [h2]; exact below_drewN q⟩
theorem iswti_b (B B' : Nat) (v v' : Value) (m : List (List Int)) (l : List Int) (w : World) (h : MatB B w v m) (h' : RowB B' w v' l) (hf : RowsFit m) (hl : l.length ≤ maxLen) :
    Calls Tryz.prog 9 #[v, v'] w fun e w' => e = .returned (.bool (wtB m l)) ∧ Below w.heap.size w w' :=
  (iswti_any B B' v v' m l w h h' hf hl).mono fun e w' ⟨h1, q, h2⟩ => ⟨h1, by rw [h2]; exact below_drewN q⟩
end Go.Proofs.YtfjeghalkmkgoaaGreatDoor
namespace Go.Proofs.YtfjeghalkmkgoaaGreatDoor
open Go.RowKit Go.Shelf
attribute [local go_sem] Oper.semAt_some

theorem pcX_one {l : List UInt8} {w W w1 : World} {B0 : Nat} {r : Loop} (hr : W.heap[B0 + 7]? = some (.loop r)) (h1 : Boxed W B0 24 nilS) (h2 : Boxed W (B0 + 1) 4 (.bool false)) (h3 : W.heap[B0 + 6]? = some (.deferred (some [])))
    (h4 : Below B0 w W) (h5 : B0 + 8 ≤ W.heap.size) (hq : Below W.heap.size W w1) (hn : ¬ AllOk l) :
    ((w1.setCell ⟨B0, 0, none⟩ (.slice none 0 0)).setCell ⟨B0 + 1, 0, none⟩ (.bool false)).heap[B0 + 7]? = some (.loop r) ∧ PcX l w B0 ((w1.setCell ⟨B0, 0, none⟩ (.slice none 0 0)).setCell ⟨B0 + 1, 0, none⟩ (.bool false)) := by
  have g1 := grownBy_setCell' w1 B0 (.slice none 0 0)
  have g2 := grownBy_setCell' (w1.setCell ⟨B0, 0, none⟩ (.slice none 0 0)) (B0 + 1) (.bool false)
  obtain ⟨q1, q2, q3, q4, _⟩ := pc_set (c' := .bool false) (m := []) (v' := nilS) (boxed_below h1 hq (by omega)) (boxed_below h2 hq (by omega)) ((hq.block _ (by omega)).trans h3) (h4.trans (hq.mono (by omega))) (MatI.nil _ _ _) (.slice none 0 0)
  exact ⟨heap_grown (heap_grown ((hq.block _ (by omega)).trans hr) g1 (by omega)) g2 (by omega), ⟨q1, q2, q3, q4, hn⟩⟩
theorem iswti_w (B B' : Nat) (v v' : Value) (m : List (List Int)) (l : List Int) (c : Bool) (hc : wtB m l = c) (w : World) (h : MatB B w v m) (h' : RowB B' w v' l) (hf : RowsFit m) (hl : l.length ≤ maxLen) :
    Calls Tryz.prog 9 #[v, v'] w fun e w' => e = .returned (.bool c) ∧ Below w.heap.size w w' :=
  (iswti_any B B' v v' m l w h h' hf hl).mono fun e w' ⟨h1, q, h2⟩ => ⟨by rw [h1, hc], by rw [h2]; exact below_drewN q⟩
set_option maxHeartbeats 4000000 in
set_option maxRecDepth 100000 in
theorem pwti_any (B : Nat) (v : Value) (m : List (List Int)) (s : ByteArray) (w : World) (h : MatB B w v m) (hB : B ≤ w.heap.size) (hf : RowsFit m) (hs : s.size ≤ 1048576) (htab : Lib.TabIs Tryz.prog w "internal/strconv.uint64pow10" .u64 Lib.pow10Tab) :
    Calls Tryz.prog 18 #[v, .string s] w (MakesS2 w (pwtL m s.data.toList) (.bool (pwtB m s.data.toList))) := by
  have hPN := pni_any s w hs htab
  have hsl : s.size = s.data.toList.length := by simp
  have hIS := fun (c : Bool) (B' : Nat) (v' : Value) (l : List Int) (hc : wtB m l = c) (wx : World) (hb : Below w.heap.size w wx) (h' : RowB B' wx v' l) (hl : l.length ≤ maxLen) => iswti_w B B' v v' m l c hc wx (h.below hb hB) h' hf hl
  have HIS := Lib.hid hIS
  obtain ⟨ma, mcap, rfl⟩ := h.slice
  clear h hf htab hIS
  generalize s.data.toList = l at *
  have hcl := cutL_lenD 44 l
  have hrl := rowPV_len l
  by_cases hr : RowOk l
  · have HPN := Lib.hid (hPN.mono (R' := fun e w1 => ∃ xa xc, e = .returned (.tuple #[.slice xa (rowPV l).length xc, .bool true]) ∧ RowI w.heap.size w1.heap.size w1 (.slice xa (rowPV l).length xc) (rowPV l) ∧ Below w.heap.size w w1) fun e w1 ⟨x, he, hx, hb⟩ => by
      rw [pnL_yes hr] at hx
      rw [pnB_yes hr] at he
      obtain ⟨xa, xc, rfl⟩ := hx.1.slice
      exact ⟨xa, xc, he, hx.1, hb⟩)
    have hml : (rowPV l).length ≤ maxLen := by unfold maxLen; omega
    have HML := Lib.hid hml
    by_cases hW : IsWt m (rowPV l)
    · have HP := Lib.hid (pwtL_yes (m := m) ⟨hr, hW⟩)
      have HPB := Lib.hid (pwtB_yes (m := m) ⟨hr, hW⟩)
      have HI2 := Lib.hid (fun B' v' wx hb h' => HIS.out true B' v' (rowPV l) (wtB_yes hW) wx hb h' HML.out)
      clear hPN HIS hr hW hml hcl hrl
      generalize m.length = n at *
      generalize (rowPV l).length = L at *
      go_enter Tryz.func18, Tryz.ntmps18
      go_wp2_with fail
      refine HPN.out.mono ?_
      rintro e w1 ⟨xa, xc, rfl, hx, hb⟩
      have HX := Lib.hid hx; have HB := Lib.hid hb
      have HI3 := Lib.hid (HI2.out _ _ w1 hb hx.rowB)
      clear hx hb HI2 HPN
      go_wp2_with fail
      refine HI3.out.mono ?_
      rintro e w2 ⟨rfl, hb2⟩
      have HX2 := Lib.hid (HX.out.step hb2); have HB2 := Lib.hid (HB.out.trans (hb2.mono HB.out.size))
      clear hb2
      go_wp2_with fail
      go_ret2
      exact ⟨_, by rw [HPB.out]; rfl, by rw [HP.out]; exact ⟨HX2.out, Nat.le_refl _⟩, HB2.out⟩
    · have HP := Lib.hid (pwtL_no (m := m) (l := l) (fun h => hW h.2))
      have HPB := Lib.hid (pwtB_no (m := m) (l := l) (fun h => hW h.2))
      have HI2 := Lib.hid (fun B' v' wx hb h' => HIS.out false B' v' (rowPV l) (wtB_no hW) wx hb h' HML.out)
      clear hPN HIS hr hW hml hcl hrl
      generalize m.length = n at *
      generalize (rowPV l).length = L at *
      go_enter Tryz.func18, Tryz.ntmps18
      go_wp2_with fail
      refine HPN.out.mono ?_
      rintro e w1 ⟨xa, xc, rfl, hx, hb⟩
      have HB := Lib.hid hb
      have HI3 := Lib.hid (HI2.out _ _ w1 hb hx.rowB)
      clear hx hb HI2 HPN
      go_wp2_with fail
      refine HI3.out.mono ?_
      rintro e w2 ⟨rfl, hb2⟩
      have HB2 := Lib.hid (HB.out.trans (hb2.mono HB.out.size))
      clear hb2
      go_wp2_with fail
      go_ret2
      exact makesS2_no HP.out HPB.out.symm ⟨World.ownsRow_nil _ _ _ _, fun g h => by simp [Value.ownBlock] at h⟩ HB2.out
  · have HPN := Lib.hid (hPN.mono (R' := fun e w1 => ∃ xa xn xc, e = .returned (.tuple #[.slice xa xn xc, .bool false]) ∧ Below w.heap.size w w1) fun e w1 ⟨x, he, hx, hb⟩ => by
      rw [pnB_no hr] at he
      obtain ⟨xa, xc, rfl⟩ := hx.1.slice
      exact ⟨xa, _, xc, he, hb⟩)
    have HP := Lib.hid (pwtL_no (m := m) (l := l) (fun h => hr h.1))
    have HPB := Lib.hid (pwtB_no (m := m) (l := l) (fun h => hr h.1))
    clear hPN HIS hr hcl hrl
    generalize m.length = n at *
    go_enter Tryz.func18, Tryz.ntmps18
    go_wp2_with fail
    refine HPN.out.mono ?_
    rintro e w1 ⟨xa, xn, xc, rfl, hb⟩
    have HB := Lib.hid hb
    clear hb HPN
    go_wp2_with fail
    go_ret2
    exact makesS2_no HP.out HPB.out.symm ⟨World.ownsRow_nil _ _ _ _, fun g h => by simp [Value.ownBlock] at h⟩ HB.out
end Go.Proofs.YtfjeghalkmkgoaaGreatDoor
namespace Go.Proofs.YtfjeghalkmkgoaaGreatDoor
open Go.RowKit

theorem entS_len (r : List Int) : (entS r).length = r.length := by simp [entS]
theorem entS_at (r : List Int) (j : Nat) (h : j < r.length) : (entS r).getD j ⟨#[]⟩ = ⟨(Lib.itoa (r.getD j 0)).toArray⟩ := by simp [entS, List.getD, h]
theorem rowT_le {l : List Int} (h : Fits l) : (rowT l).length ≤ l.length * 22 := by
  have := join_le [44] 21 (l.map Lib.itoa) (fun x hx => by
    obtain ⟨y, hy, rfl⟩ := List.mem_map.1 hx
    exact Lib.itoa_length_le y (h y hy).1 (h y hy).2)
  simpa [rowT] using this
set_option maxHeartbeats 4000000 in
set_option maxRecDepth 100000 in
theorem fni_any (B : Nat) (v : Value) (l : List Int) (w : World) (h : RowB B w v l) (hB : B ≤ w.heap.size) (hl : l.length ≤ 1048576) (hfit : Fits l) (htab : Lib.TabIs Tryz.prog w "internal/strconv.uint64pow10" .u64 Lib.pow10Tab) :
    Calls Tryz.prog 42 #[v] w fun e w' => e = .returned (.string ⟨(rowT l).toArray⟩) ∧ Below w.heap.size w w' := by
  obtain ⟨a, cap, rfl⟩ := h.slice
  have HT := Lib.hid htab; clear htab
  have HR := Lib.hid h; clear h
  have HE := Lib.hid (fun j => hfit.getD j)
  have HEL := Lib.hid (entS_len l)
  have HEG := Lib.hid (fun (j : Nat) (hj : j < l.length) => entS_at l j hj)
  have HRL := Lib.hid (rowT_le hfit)
  have HEJ := Lib.hid (entS_join l)
  clear hfit
  generalize hn : l.length = n at *
  have HN := Lib.hid hn; clear hn
  obtain ⟨w2, hmk, ho2, hb2, hz2⟩ := make_strs n (by omega) w
  rw [← laidS_zero (entS l)] at ho2
  have HO2 := Lib.hid ho2
  have HB2 := Lib.hid (hb2 w w.heap.size (Nat.le_refl _) (Below.refl _ _))
  clear ho2 hb2 hz2
  go_enter Tryz.func42, Tryz.ntmps42
  go_wp2_with fail
  clear hmk
  go_loopw [11] (fun i wr => ∃ (j : Nat) (wi : World), wi = wr ∧ j ≤ n ∧ i = .int .i64 j ∧ wi.ownsRow w.heap.size 9 1 (.slice (some ⟨w.heap.size, 0, none⟩) n n) n (strVD (laidS (entS l) n j)) ∧ Below w.heap.size w wi) (fun i _ => n - (intOf i).toNat)
  case atStart => exact ⟨0, _, rfl, Nat.zero_le _, rfl, HO2.out, HB2.out⟩
  case round =>
    clear HO2 HB2
    clear w2
    obtain ⟨j, wi, rfl, hj, rfl, ho, hb⟩ := hrel
    have HOI := Lib.hid ho; clear ho
    have hsi := hb.size
    have HBI := Lib.hid hb; clear hb
    by_cases hjn : j < n
    · obtain ⟨b, off, rfl, hbb, hx⟩ := (HR.out.below HBI.out hB).getD hjn
      have HTB := Lib.hid (tab_below HT.out HBI.out)
      have hst := laidS_step HEL.out hjn
      rw [HEG.out j hjn] at hst
      have HST := Lib.hid hst
      have HFM := Lib.hid (fun (wx : World) (ht : Lib.TabIs Tryz.prog wx "internal/strconv.uint64pow10" .u64 Lib.pow10Tab) => fmti_any (l.getD j 0) wx (HE.out j).1 (HE.out j).2 ht)
      clear hst
      generalize l.getD j 0 = x at *
      go_wp2_with fail
      refine (HFM.out _ HTB.out).mono ?_
      rintro e w5 ⟨rfl, hb5⟩
      have ho5 := ownS_step HOI.out hb5
      have HB5 := Lib.hid (HBI.out.trans (hb5.mono hsi))
      obtain ⟨W6, e6, ho6, ⟨c6, hc6⟩, hf6, hb6, hz6, hg6⟩ := strs_put ho5 hjn ⟨(Lib.itoa x).toArray⟩
      rw [HST.out] at ho6
      have HO6 := Lib.hid ho6
      have HB6 := Lib.hid (hb6 w w.heap.size (Nat.le_refl _) HB5.out)
      clear ho6 hb6 ho5 hb5 hg6 hz6
      go_wp2_with fail
      exact ⟨⟨j + 1, _, rfl, by omega, by go_num, HO6.out, HB6.out⟩, by simp [intOf]; omega⟩
    · obtain rfl : j = n := by omega
      have ho := HOI.out
      rw [laidS_end HEL.out] at ho
      have hj := Tryz.strings_Join w.heap.size 0 j (entS l) ⟨#[44]⟩ wi (strs_cell ho) (ho.lt _ rfl).2 (by rw [HEL.out]; omega) (by rw [HEL.out]; exact Nat.le_refl _) (by rw [show (⟨#[44]⟩ : ByteArray).data.toList = [44] from rfl, HEJ.out]; have := HRL.out; omega)
      rw [HEL.out, show (⟨#[44]⟩ : ByteArray).data.toList = [44] from rfl, HEJ.out] at hj
      have HJ := Lib.hid hj
      clear hj ho
      go_wp2_with fail
      refine HJ.out.mono ?_
      rintro e w5 ⟨rfl, hb5⟩
      have HB5 := Lib.hid (HBI.out.trans (hb5.mono hsi))
      clear hb5
      go_wp2_with fail
      go_ret
      exact ⟨rfl, HB5.out⟩
set_option maxHeartbeats 1000000 in
theorem fmtwi_any (B : Nat) (v : Value) (l : List Int) (w : World) (h : RowB B w v l) (hB : B ≤ w.heap.size) (hl : l.length ≤ 1048576) (hfit : Fits l) (htab : Lib.TabIs Tryz.prog w "internal/strconv.uint64pow10" .u64 Lib.pow10Tab) :
    Calls Tryz.prog 17 #[v] w fun e w' => e = .returned (.string ⟨(rowT l).toArray⟩) ∧ Below w.heap.size w w' := by
  have HF := Lib.hid (fni_any B v l w h hB hl hfit htab)
  clear htab h hfit
  go_enter Tryz.func17, Tryz.ntmps17
  go_wp2_with fail
  refine HF.out.mono ?_
  rintro e w5 ⟨rfl, hb5⟩
  have HB5 := Lib.hid hb5; clear hb5
  go_wp2_with fail
  go_ret
  exact ⟨rfl, HB5.out⟩
theorem row_fits {m : List (List Int)} (h : IsC m) {k : Nat} (hk : k < m.length) : Fits (m.getD k []) := fun x hx => by
  have := isC_mem h hk x hx
  omega
end Go.Proofs.YtfjeghalkmkgoaaGreatDoor
