/-
  What the program's ParseCartan and ParseWeight return.
  Weights: what the program's formatNumbers and FormatWeight return; FormatCartan by the same.
  The library's Clone at a list of ints.
-/
import Derived.Test.YtcmnkhblnlmfpaaGreatDoorFW35
import Derived.Test.YtcmnkhblnlmfpaaGreatDoorFW15
import Derived.Test.YtcmnkhblnlmfpaaGreatDoorFW16
import Derived.Lib.SliceRun
import Derived.Test.YtcmnkhblnlmfpaaGreatDoorFW13
import Derived.Test.YtcmnkhblnlmfpaaGreatDoorFW04
namespace Go.Proofs.YtcmnkhblnlmfpaaGreatDoor
open Go.RowKit Go.Shelf
attribute [local go_sem] Oper.semAt_some

theorem pcX_one {l : List UInt8} {w W w1 : World} {B0 : Nat} {r : Loop} (hr : W.heap[B0 + 7]? = some (.loop r)) (h1 : Boxed W B0 24 nilS) (h2 : Boxed W (B0 + 1) 4 (.bool false)) (h3 : W.heap[B0 + 6]? = some (.deferred (some [])))
    (h4 : Below B0 w W) (h5 : B0 + 8 ≤ W.heap.size) (hq : Below W.heap.size W w1) (hn : ¬ AllOk l) :
    ((w1.setCell ⟨B0, 0, none⟩ (.slice none 0 0)).setCell ⟨B0 + 1, 0, none⟩ (.bool false)).heap[B0 + 7]? = some (.loop r) ∧ PcX l w B0 ((w1.setCell ⟨B0, 0, none⟩ (.slice none 0 0)).setCell ⟨B0 + 1, 0, none⟩ (.bool false)) := by
  have g1 := grownBy_setCell' w1 B0 (.slice none 0 0)
  have g2 := grownBy_setCell' (w1.setCell ⟨B0, 0, none⟩ (.slice none 0 0)) (B0 + 1) (.bool false)
  obtain ⟨q1, q2, q3, q4, _⟩ := pc_set (c' := .bool false) (m := []) (v' := nilS) (boxed_below h1 hq (by omega)) (boxed_below h2 hq (by omega)) ((hq.block _ (by omega)).trans h3) (h4.trans (hq.mono (by omega))) (MatI.nil _ _ _) (.slice none 0 0)
  exact ⟨heap_grown (heap_grown ((hq.block _ (by omega)).trans hr) g1 (by omega)) g2 (by omega), ⟨q1, q2, q3, q4, hn⟩⟩
set_option maxHeartbeats 4000000 in
set_option maxRecDepth 100000 in
theorem pci_any (s : ByteArray) (w : World) (hs : s.size ≤ 1048576) (htab : Lib.TabIs Tryz.prog w "internal/strconv.uint64pow10" .u64 Lib.pow10Tab) :
    Calls Tryz.prog 34 #[.string s] w (MakesM2 w (pcM s.data.toList) (.bool (pcB s.data.toList))) := by
  obtain ⟨l, hl⟩ : ∃ l, l = s.data.toList := ⟨_, rfl⟩
  have hsl : s.size = l.length := by rw [hl]; exact Array.length_toList.symm
  have hse : Value.string s = strL l := by rw [hl]; rfl
  rw [← hl, hse]
  clear hl
  rw [hsl] at hs
  clear hsl hse s
  refine (callsIn_wide (n := 9)).1 ?_
  refine callsIn_of_wp_marks Tryz.func34 rfl trivial ?_ rfl
  simp only [Tryz.ntmps34, List.size_toArray, List.length_cons, List.length_nil, Nat.reduceAdd, Nat.reduceSub, Array.replicate_succ, Array.replicate_zero, List.push_toArray, List.append_toArray, List.nil_append, List.cons_append]
  gi_wp2_with (refine ⟨trivial, ?_⟩; gi_at_call 80; refine (callsIn_wide.2 (splitseq_any l 59 _)).mono ?_; rintro e w' ⟨rfl, rfl⟩)
  obtain ⟨B0, hB0⟩ : ∃ B, w.heap.size = B := ⟨_, rfl⟩
  have hz0 : (splitW (((w.alloc (.cells #[nilS] 24)).alloc (.cells #[.bool false] 4)).alloc (.cells #[nilS] 24)) l 59).heap.size = B0 + 6 := by rw [splitW_size]; simp; omega
  have hS0 := splitW_start (((w.alloc (.cells #[nilS] 24)).alloc (.cells #[.bool false] 4)).alloc (.cells #[nilS] 24)) l 59
  have hq0 := splitW_below (((w.alloc (.cells #[nilS] 24)).alloc (.cells #[.bool false] 4)).alloc (.cells #[nilS] 24)) l 59
  have b0 := ((Boxed.new w 24 nilS).alloc (.cells #[.bool false] 4)).alloc (.cells #[nilS] 24)
  have b1 := (Boxed.new (w.alloc (.cells #[nilS] 24)) 4 (.bool false)).alloc (.cells #[nilS] 24)
  have b2 := Boxed.new ((w.alloc (.cells #[nilS] 24)).alloc (.cells #[.bool false] 4)) 24 nilS
  have hbe : Below w.heap.size w (((w.alloc (.cells #[nilS] 24)).alloc (.cells #[.bool false] 4)).alloc (.cells #[nilS] 24)) := (((Below.refl _ w).alloc (Nat.le_refl _) _).alloc (by simp) _).alloc (by simp; omega) _
  have hsz3 : (((w.alloc (.cells #[nilS] 24)).alloc (.cells #[.bool false] 4)).alloc (.cells #[nilS] 24)).heap.size = B0 + 3 := by simp; omega
  have b0 := boxed_below b0 hq0 (by rw [hsz3]; omega)
  have b1 := boxed_below b1 hq0 (by rw [hsz3]; simp; omega)
  have b2 := boxed_below b2 hq0 (by rw [hsz3]; simp; omega)
  have hbe := hbe.trans (hq0.mono (by rw [hsz3]; omega))
  rw [hsz3] at hS0
  simp only [World.size_alloc, hB0] at b0 b1 b2 hbe ⊢
  rw [show B0 + 1 + 1 + 1 = B0 + 3 from rfl, show B0 + 1 + 1 = B0 + 2 from rfl]
  rw [show B0 + 1 + 1 = B0 + 2 from rfl] at b2
  change Code.wpIn _ _ _ _ _ _ (splitW (((w.alloc (.cells #[nilS] 24)).alloc (.cells #[.bool false] 4)).alloc (.cells #[nilS] 24)) l 59)
  generalize splitW (((w.alloc (.cells #[nilS] 24)).alloc (.cells #[.bool false] 4)).alloc (.cells #[nilS] 24)) l 59 = W0 at *
  clear hq0 hsz3
  refine range_gives (F := Fence.wide) (n := 9) (by omega) (gf := 123) (lb := #[.pointer (some ⟨B0 + 3 + 1, 0, none⟩), .pointer (some ⟨B0 + 3, 0, none⟩), .pointer (some ⟨B0 + 3 + 2, 0, none⟩)]) rfl trivial (enters_of Tryz.func123 (by kernel_rfl) rfl)
    (xs := (cutLD 59 l).map fun x => #[strL x]) (R := SplitR 59 l (B0 + 3)) (Ab := SplitAb (B0 + 3)) (split_gives 8 (by omega) 59 l hs (B0 + 3)) (fun x hx => by obtain ⟨y, _, rfl⟩ := List.mem_map.1 hx; rfl)
    (B0 + 7) (B0 + 6) [{ target := .collected (B0 + 6), args := #[] }] (fun fn => (W0.alloc (.deferred (some []))).alloc (.loop { state := .ready, pending := none, fn := fn, tmps := _, params := _, assign := _, body := _, defers := B0 + 6 }))
    (fun fn => enter_outer hz0 rfl fn _ _ _ _) (fun fn => heap_last (by rw [World.size_alloc, hz0]) _)
    (PcI0 l w B0) (PcX l w B0) (fun k W r r' hi _ => hi.grown (grownBy_putObj' W _ _) (.inr rfl)) (fun W r r' hi _ => hi.grown (grownBy_putObj' W _ _) (.inl (by omega))) (fun k W r r' hi _ => hi.grown (grownBy_putObj' W _ _) (.inr (by omega)))
    (fun k X Y hi hab => by obtain ⟨v, rfl⟩ := hab; exact hi.grown (grownBy_setCell' _ _ _) (.inl rfl)) (fun X Y hab => by obtain ⟨v, rfl⟩ := hab; exact Below.heap_setCell _ _ _ _ (by simp)) (fun fn => ?start)
    (fun k _ => { tmps := #[strL l, undef, .pointer (some ⟨B0, 0, none⟩), .pointer (some ⟨B0 + 1, 0, none⟩), .pointer (some ⟨B0 + 2, 0, none⟩), strL ((cutLD 59 l).getD k []), undef, undef, strL l, splitFn (B0 + 3), strL ((cutLD 59 l).getD k []), undef, undef, undef, undef, undef, undef, undef, undef, undef, undef, undef, undef, undef, undef, undef], defers := [] })
    ?assign ?body ?done ?stop
  case start => exact pcI0_start hz0 b0 b1 b2 hbe hS0 _
  case assign =>
    intro k h W K hK
    rw [map_get]
    gi_wp2
    exact hK
  case body =>
    rintro k hk W r hr ⟨h1, h2, h3, h4, h5, ⟨a, n, c, h6, h7⟩, h8⟩ hR
    have hkl : k < (cutLD 59 l).length := by simpa using hk
    have hmem := getD_mem hk
    have htx := cutL_mem_len 59 l _ hmem
    have hrow := parM_snoc l k hkl
    have hgd : (cutLD 59 l).getD k [] = (cutLD 59 l)[k] := by simp [List.getD, hkl]
    rw [← hgd] at hrow
    have hall8 : ∀ r ∈ (cutLD 59 l).take (k + 1), r ∈ (cutLD 59 l).take k ∨ r = (cutLD 59 l).getD k [] := fun r hr => by
      rw [List.take_succ_eq_append_getElem hkl, ← hgd] at hr
      rcases List.mem_append.1 hr with h | h
      · exact .inl h
      · exact .inr (by simpa using h)
    have hpl : ((parM l).take k).length ≤ 1048577 := by
      have := parM_len l
      rw [List.length_take]; omega
    have HMEM := Lib.hid hmem; have HROW := Lib.hid hrow; have HA8 := Lib.hid hall8; have HPL := Lib.hid hpl
    clear hmem hrow hgd hall8 hpl hkl hk
    generalize (cutLD 59 l).getD k [] = tx at *
    have htb := tab_below htab (h4.mono (Nat.le_of_eq hB0))
    have hpa := pni_any ⟨tx.toArray⟩ W (by rw [ba_list]; omega) htb
    change Calls _ _ #[strL tx] _ (MakesS2 W (pnL tx) (.bool (pnB tx))) at hpa
    by_cases hp : RowOk tx
    · have hpy : Calls Tryz.prog 68 #[strL tx] W fun e w1 => ∃ ra rn rc, e = .returned (.tuple #[.slice ra rn rc, .bool true]) ∧ RowI W.heap.size w1.heap.size w1 (.slice ra rn rc) (rowN tx) ∧ Below W.heap.size W w1 := hpa.mono fun e w1 ⟨x, he, hx, hb⟩ => by
        obtain ⟨xa, xc, rfl⟩ := hx.1.slice
        refine ⟨xa, _, xc, by rw [he, pnB_yes hp], ?_, hb⟩
        have := hx.1
        rw [pnL_yes hp, ← rowN_ok hp] at this
        rw [pnL_yes hp, ← rowN_ok hp]
        exact this
      gi_wp2_with (first | (refine ⟨trivial, ?_⟩; gi_at_call 68; refine (CallsIn.inRound _ (callsIn_wide.2 hpy)).mono ?_; rintro e w1 ⟨ra, rn, rc, rfl, hrw, hb1⟩; have hz1 := hb1.size; have bo := boxed_below h6 hb1 (by omega); have cx1 := bo.cell; have hM2 : MatI (B0 + 8) W.heap.size w1 (.slice a n c) ((parM l).take k) := h7.same (SameIn.of_below hb1 (Nat.le_refl _))) | (gi_at_builtin; refine append_rowI hM2 hrw h5 hz1 HROW.out rfl rfl rfl rfl HPL.out ?_; rintro v' w2 ⟨a', n', c', rfl⟩ hm2 hb2 hz3; have hq := hb2 w1 (B0 + 8) (Nat.le_refl _) (Below.refl _ _); have c3 := (boxed_below bo hq (by omega)).cell; have c3f := (boxed_below bo hq (by omega)).frozen))
      exact pcI0_next rfl hr h1 h2 h3 h4 h5 h6 h8 hR hb1 hq HA8.out hp ⟨_, _, _, rfl⟩ hm2
    · have hpn : Calls Tryz.prog 68 #[strL tx] W fun e w1 => ∃ x, e = .returned (.tuple #[x, .bool false]) ∧ Below W.heap.size W w1 := hpa.mono fun e w1 ⟨x, he, hx, hb⟩ => ⟨x, by rw [he, pnB_no hp], hb⟩
      have hno : ¬ AllOk l := fun h => hp (h _ HMEM.out)
      gi_wp2_with (refine ⟨trivial, ?_⟩; gi_at_call 68; refine (CallsIn.inRound _ (callsIn_wide.2 hpn)).mono ?_; rintro e w1 ⟨x, rfl, hb1⟩; have k1 := boxed_below h1 hb1 (by omega); have k2 := boxed_below h2 hb1 (by omega); have cx1 := k1.cell; have cx1f := k1.frozen; have k3 := boxed_other k2 (B' := B0) (by omega) (.slice none 0 0); have cx2 := k3.cell; have cx2f := k3.frozen)
      exact pcX_one hr h1 h2 h3 h4 h5 hb1 hno
  case done =>
    rintro W ⟨h1, h2, h3, h4, h5, ⟨a, n, c, h6, h7⟩, h8⟩
    rw [List.length_map] at h7 h8
    rw [List.take_of_length_le (by simp [parM])] at h7
    rw [List.take_of_length_le (Nat.le_refl _)] at h8
    have hall : AllOk l := h8
    have cO := h6.cell
    have hfit : RowsFit (parM l) := parM_fit hs
    have hisc := fun c' (hc : isB (parM l) = c') => icm_wD W.heap.size (.slice a n c) (parM l) c' hc W h7.matB hfit
    by_cases hI : IsC (parM l)
    · have hic := hisc true (isB_yes hI)
      clear hisc h8
      have HB : Hid (pcB l = true) := Lib.hid (pcB_yes (pc_of_all hall hI))
      have HM : Hid (pcM l = parM l) := Lib.hid (pcM_yes (pc_of_all hall hI))
      gi_wp2_with (refine ⟨trivial, ?_⟩; gi_at_call 37; refine (callsIn_wide.2 hic).mono ?_; rintro e w5 ⟨rfl, hb5⟩; have c4 := (boxed_below h6 hb5 h6.lt).cell; have k1 := boxed_below h1 hb5 h1.lt; have k2 := boxed_below h2 hb5 h2.lt; have c5 := k1.cell; have c5f := k1.frozen; have k3 := boxed_other k2 (B' := B0) (by omega) (.slice a n c); have c6 := k3.cell; have c6f := k3.frozen)
      have hz5 := hb5.size
      obtain ⟨q1, q2, q3, q4, q5⟩ := pc_set (c' := .bool true) k1 k2 ((hb5.block _ (by omega)).trans h3) (h4.trans (hb5.mono (by omega))) (MatI.step h7 hb5) (.slice a n c)
      obtain ⟨e1, e2, e3, e4⟩ := pc_end0 q1 q2 q3 q4 q5
      refine ⟨by simp, .inl ⟨_, _, rfl, run_takeDeferred q3, ?_⟩⟩
      refine ⟨.tuple #[(.slice a n c), .bool true], ?_, (.slice a n c), by rw [HB.out], by rw [HM.out, hB0]; exact e3, by rw [hB0]; exact e4⟩
      simp [results, Tryz.f34, go_sem, e1, e2]
    · have hic := hisc false (isB_no hI)
      clear hisc h8
      have HB : Hid (pcB l = false) := Lib.hid (pcB_no fun h => hI (pc_isC h))
      have HM : Hid (pcM l = []) := Lib.hid (pcM_no fun h => hI (pc_isC h))
      gi_wp2_with (refine ⟨trivial, ?_⟩; gi_at_call 37; refine (callsIn_wide.2 hic).mono ?_; rintro e w5 ⟨rfl, hb5⟩; have c4 := (boxed_below h6 hb5 h6.lt).cell; have k1 := boxed_below h1 hb5 h1.lt; have k2 := boxed_below h2 hb5 h2.lt; have c5 := k1.cell; have c5f := k1.frozen; have k3 := boxed_other k2 (B' := B0) (by omega) (.slice none 0 0); have c6 := k3.cell; have c6f := k3.frozen)
      have hz5 := hb5.size
      obtain ⟨q1, q2, q3, q4, q5⟩ := pc_set (c' := .bool false) k1 k2 ((hb5.block _ (by omega)).trans h3) (h4.trans (hb5.mono (by omega))) (MatI.nil _ _ _) (.slice none 0 0)
      obtain ⟨e1, e2, e3, e4⟩ := pc_end0 q1 q2 q3 q4 (MatI.nil _ _ _)
      refine ⟨by simp, .inl ⟨_, _, rfl, run_takeDeferred q3, ?_⟩⟩
      refine ⟨.tuple #[(.slice none 0 0), .bool false], ?_, (.slice none 0 0), by rw [HB.out], by rw [HM.out, hB0]; exact e3, by rw [hB0]; exact e4⟩
      simp [results, Tryz.f34, go_sem, e1, e2]
  case stop =>
    rintro W ⟨h1, h2, h3, h4, h5⟩
    have HB : Hid (pcB l = false) := Lib.hid (pcB_no fun h => h5 (pc_all h))
    have HM : Hid (pcM l = []) := Lib.hid (pcM_no fun h => h5 (pc_all h))
    have c5 := h1.cell
    have c5f := h1.frozen
    gi_wp2
    obtain ⟨e1, e2, e3, e4⟩ := pc_end0 h1 h2 h3 h4 (MatI.nil _ _ _)
    refine ⟨by simp, .inl ⟨_, _, rfl, run_takeDeferred h3, ?_⟩⟩
    refine ⟨.tuple #[nilS, .bool false], ?_, nilS, by rw [HB.out], by rw [HM.out, hB0]; exact e3, by rw [hB0]; exact e4⟩
    simp [results, Tryz.f34, go_sem, e1, e2]
theorem iswti_w (B B' : Nat) (v v' : Value) (m : List (List Int)) (l : List Int) (c : Bool) (hc : wtB m l = c) (w : World) (h : MatB B w v m) (h' : RowB B' w v' l) (hf : RowsFit m) (hl : l.length ≤ maxLen) :
    Calls Tryz.prog 10 #[v, v'] w fun e w' => e = .returned (.bool c) ∧ Below w.heap.size w w' :=
  (iswti_any B B' v v' m l w h h' hf hl).mono fun e w' ⟨h1, q, h2⟩ => ⟨by rw [h1, hc], by rw [h2]; exact below_drewN q⟩
set_option maxHeartbeats 4000000 in
set_option maxRecDepth 100000 in
theorem pwti_any (B : Nat) (v : Value) (m : List (List Int)) (s : ByteArray) (w : World) (h : MatB B w v m) (hB : B ≤ w.heap.size) (hf : RowsFit m) (hs : s.size ≤ 1048576) (htab : Lib.TabIs Tryz.prog w "internal/strconv.uint64pow10" .u64 Lib.pow10Tab) :
    Calls Tryz.prog 19 #[v, .string s] w (MakesS2 w (pwtL m s.data.toList) (.bool (pwtB m s.data.toList))) := by
  have hPN := pni_any s w hs htab
  have hsl : s.size = s.data.toList.length := by simp
  have hIS := fun (c : Bool) (B' : Nat) (v' : Value) (l : List Int) (hc : wtB m l = c) (wx : World) (hb : Below w.heap.size w wx) (h' : RowB B' wx v' l) (hl : l.length ≤ maxLen) => iswti_w B B' v v' m l c hc wx (h.below hb hB) h' hf hl
  have HIS := Lib.hid hIS
  obtain ⟨ma, mcap, rfl⟩ := h.slice
  clear h hf htab hIS
  generalize s.data.toList = l at *
  have hcl := cutL_lenD 44 l
  have hrl := rowPV_len l
  by_cases hr : RowOk l
  · have HPN := Lib.hid (hPN.mono (R' := fun e w1 => ∃ xa xc, e = .returned (.tuple #[.slice xa (rowPV l).length xc, .bool true]) ∧ RowI w.heap.size w1.heap.size w1 (.slice xa (rowPV l).length xc) (rowPV l) ∧ Below w.heap.size w w1) fun e w1 ⟨x, he, hx, hb⟩ => by
      rw [pnL_yes hr] at hx
      rw [pnB_yes hr] at he
      obtain ⟨xa, xc, rfl⟩ := hx.1.slice
      exact ⟨xa, xc, he, hx.1, hb⟩)
    have hml : (rowPV l).length ≤ maxLen := by unfold maxLen; omega
    have HML := Lib.hid hml
    by_cases hW : IsWt m (rowPV l)
    · have HP := Lib.hid (pwtL_yes (m := m) ⟨hr, hW⟩)
      have HPB := Lib.hid (pwtB_yes (m := m) ⟨hr, hW⟩)
      have HI2 := Lib.hid (fun B' v' wx hb h' => HIS.out true B' v' (rowPV l) (wtB_yes hW) wx hb h' HML.out)
      clear hPN HIS hr hW hml hcl hrl
      generalize m.length = n at *
      generalize (rowPV l).length = L at *
      go_enter Tryz.func19, Tryz.ntmps19
      go_wp2_with fail
      refine HPN.out.mono ?_
      rintro e w1 ⟨xa, xc, rfl, hx, hb⟩
      have HX := Lib.hid hx; have HB := Lib.hid hb
      have HI3 := Lib.hid (HI2.out _ _ w1 hb hx.rowB)
      clear hx hb HI2 HPN
      go_wp2_with fail
      refine HI3.out.mono ?_
      rintro e w2 ⟨rfl, hb2⟩
      have HX2 := Lib.hid (HX.out.step hb2); have HB2 := Lib.hid (HB.out.trans (hb2.mono HB.out.size))
      clear hb2
      go_wp2_with fail
      go_ret2
      exact ⟨_, by rw [HPB.out]; rfl, by rw [HP.out]; exact ⟨HX2.out, Nat.le_refl _⟩, HB2.out⟩
    · have HP := Lib.hid (pwtL_no (m := m) (l := l) (fun h => hW h.2))
      have HPB := Lib.hid (pwtB_no (m := m) (l := l) (fun h => hW h.2))
      have HI2 := Lib.hid (fun B' v' wx hb h' => HIS.out false B' v' (rowPV l) (wtB_no hW) wx hb h' HML.out)
      clear hPN HIS hr hW hml hcl hrl
      generalize m.length = n at *
      generalize (rowPV l).length = L at *
      go_enter Tryz.func19, Tryz.ntmps19
      go_wp2_with fail
      refine HPN.out.mono ?_
      rintro e w1 ⟨xa, xc, rfl, hx, hb⟩
      have HB := Lib.hid hb
      have HI3 := Lib.hid (HI2.out _ _ w1 hb hx.rowB)
      clear hx hb HI2 HPN
      go_wp2_with fail
      refine HI3.out.mono ?_
      rintro e w2 ⟨rfl, hb2⟩
      have HB2 := Lib.hid (HB.out.trans (hb2.mono HB.out.size))
      clear hb2
      go_wp2_with fail
      go_ret2
      exact makesS2_no HP.out HPB.out.symm ⟨World.ownsRow_nil _ _ _ _, fun g h => by simp [Value.ownBlock] at h⟩ HB2.out
  · have HPN := Lib.hid (hPN.mono (R' := fun e w1 => ∃ xa xn xc, e = .returned (.tuple #[.slice xa xn xc, .bool false]) ∧ Below w.heap.size w w1) fun e w1 ⟨x, he, hx, hb⟩ => by
      rw [pnB_no hr] at he
      obtain ⟨xa, xc, rfl⟩ := hx.1.slice
      exact ⟨xa, _, xc, he, hb⟩)
    have HP := Lib.hid (pwtL_no (m := m) (l := l) (fun h => hr h.1))
    have HPB := Lib.hid (pwtB_no (m := m) (l := l) (fun h => hr h.1))
    clear hPN HIS hr hcl hrl
    generalize m.length = n at *
    go_enter Tryz.func19, Tryz.ntmps19
    go_wp2_with fail
    refine HPN.out.mono ?_
    rintro e w1 ⟨xa, xn, xc, rfl, hb⟩
    have HB := Lib.hid hb
    clear hb HPN
    go_wp2_with fail
    go_ret2
    exact makesS2_no HP.out HPB.out.symm ⟨World.ownsRow_nil _ _ _ _, fun g h => by simp [Value.ownBlock] at h⟩ HB.out
end Go.Proofs.YtcmnkhblnlmfpaaGreatDoor
namespace Go.Proofs.YtcmnkhblnlmfpaaGreatDoor
open Go.RowKit

theorem entS_len (r : List Int) : (entS r).length = r.length := by simp [entS]
theorem entS_at (r : List Int) (j : Nat) (h : j < r.length) : (entS r).getD j ⟨#[]⟩ = ⟨(Lib.itoa (r.getD j 0)).toArray⟩ := by simp [entS, List.getD, h]
theorem rowT_le {l : List Int} (h : Fits l) : (rowT l).length ≤ l.length * 22 := by
  have := join_le [44] 21 (l.map Lib.itoa) (fun x hx => by
    obtain ⟨y, hy, rfl⟩ := List.mem_map.1 hx
    exact Lib.itoa_length_le y (h y hy).1 (h y hy).2)
  simpa [rowT] using this
set_option maxHeartbeats 4000000 in
set_option maxRecDepth 100000 in
theorem fni_any (B : Nat) (v : Value) (l : List Int) (w : World) (h : RowB B w v l) (hB : B ≤ w.heap.size) (hl : l.length ≤ 1048576) (hfit : Fits l) (htab : Lib.TabIs Tryz.prog w "internal/strconv.uint64pow10" .u64 Lib.pow10Tab) :
    Calls Tryz.prog 67 #[v] w fun e w' => e = .returned (.string ⟨(rowT l).toArray⟩) ∧ Below w.heap.size w w' := by
  obtain ⟨a, cap, rfl⟩ := h.slice
  have HT := Lib.hid htab; clear htab
  have HR := Lib.hid h; clear h
  have HE := Lib.hid (fun j => hfit.getD j)
  have HEL := Lib.hid (entS_len l)
  have HEG := Lib.hid (fun (j : Nat) (hj : j < l.length) => entS_at l j hj)
  have HRL := Lib.hid (rowT_le hfit)
  have HEJ := Lib.hid (entS_join l)
  clear hfit
  generalize hn : l.length = n at *
  have HN := Lib.hid hn; clear hn
  obtain ⟨w2, hmk, ho2, hb2, hz2⟩ := make_strs n (by omega) w
  rw [← laidS_zero (entS l)] at ho2
  have HO2 := Lib.hid ho2
  have HB2 := Lib.hid (hb2 w w.heap.size (Nat.le_refl _) (Below.refl _ _))
  clear ho2 hb2 hz2
  go_enter Tryz.func67, Tryz.ntmps67
  go_wp2_with fail
  clear hmk
  go_loopw [11] (fun i wr => ∃ (j : Nat) (wi : World), wi = wr ∧ j ≤ n ∧ i = .int .i64 j ∧ wi.ownsRow w.heap.size 9 1 (.slice (some ⟨w.heap.size, 0, none⟩) n n) n (strVD (laidS (entS l) n j)) ∧ Below w.heap.size w wi) (fun i _ => n - (intOf i).toNat)
  case atStart => exact ⟨0, _, rfl, Nat.zero_le _, rfl, HO2.out, HB2.out⟩
  case round =>
    clear HO2 HB2
    clear w2
    obtain ⟨j, wi, rfl, hj, rfl, ho, hb⟩ := hrel
    have HOI := Lib.hid ho; clear ho
    have hsi := hb.size
    have HBI := Lib.hid hb; clear hb
    by_cases hjn : j < n
    · obtain ⟨b, off, rfl, hbb, hx⟩ := (HR.out.below HBI.out hB).getD hjn
      have HTB := Lib.hid (tab_below HT.out HBI.out)
      have hst := laidS_step HEL.out hjn
      rw [HEG.out j hjn] at hst
      have HST := Lib.hid hst
      have HFM := Lib.hid (fun (wx : World) (ht : Lib.TabIs Tryz.prog wx "internal/strconv.uint64pow10" .u64 Lib.pow10Tab) => fmti_any (l.getD j 0) wx (HE.out j).1 (HE.out j).2 ht)
      clear hst
      generalize l.getD j 0 = x at *
      go_wp2_with fail
      refine (HFM.out _ HTB.out).mono ?_
      rintro e w5 ⟨rfl, hb5⟩
      have ho5 := ownS_step HOI.out hb5
      have HB5 := Lib.hid (HBI.out.trans (hb5.mono hsi))
      obtain ⟨W6, e6, ho6, ⟨c6, hc6⟩, hf6, hb6, hz6, hg6⟩ := strs_put ho5 hjn ⟨(Lib.itoa x).toArray⟩
      rw [HST.out] at ho6
      have HO6 := Lib.hid ho6
      have HB6 := Lib.hid (hb6 w w.heap.size (Nat.le_refl _) HB5.out)
      clear ho6 hb6 ho5 hb5 hg6 hz6
      go_wp2_with fail
      exact ⟨⟨j + 1, _, rfl, by omega, by go_num, HO6.out, HB6.out⟩, by simp [intOf]; omega⟩
    · obtain rfl : j = n := by omega
      have ho := HOI.out
      rw [laidS_end HEL.out] at ho
      have hj := Tryz.strings_Join w.heap.size 0 j (entS l) ⟨#[44]⟩ wi (strs_cell ho) (ho.lt _ rfl).2 (by rw [HEL.out]; omega) (by rw [HEL.out]; exact Nat.le_refl _) (by rw [show (⟨#[44]⟩ : ByteArray).data.toList = [44] from rfl, HEJ.out]; have := HRL.out; omega)
      rw [HEL.out, show (⟨#[44]⟩ : ByteArray).data.toList = [44] from rfl, HEJ.out] at hj
      have HJ := Lib.hid hj
      clear hj ho
      go_wp2_with fail
      refine HJ.out.mono ?_
      rintro e w5 ⟨rfl, hb5⟩
      have HB5 := Lib.hid (HBI.out.trans (hb5.mono hsi))
      clear hb5
      go_wp2_with fail
      go_ret
      exact ⟨rfl, HB5.out⟩
set_option maxHeartbeats 1000000 in
theorem fmtwi_any (B : Nat) (v : Value) (l : List Int) (w : World) (h : RowB B w v l) (hB : B ≤ w.heap.size) (hl : l.length ≤ 1048576) (hfit : Fits l) (htab : Lib.TabIs Tryz.prog w "internal/strconv.uint64pow10" .u64 Lib.pow10Tab) :
    Calls Tryz.prog 18 #[v] w fun e w' => e = .returned (.string ⟨(rowT l).toArray⟩) ∧ Below w.heap.size w w' := by
  have HF := Lib.hid (fni_any B v l w h hB hl hfit htab)
  clear htab h hfit
  go_enter Tryz.func18, Tryz.ntmps18
  go_wp2_with fail
  refine HF.out.mono ?_
  rintro e w5 ⟨rfl, hb5⟩
  have HB5 := Lib.hid hb5; clear hb5
  go_wp2_with fail
  go_ret
  exact ⟨rfl, HB5.out⟩
theorem row_fits {m : List (List Int)} (h : IsC m) {k : Nat} (hk : k < m.length) : Fits (m.getD k []) := fun x hx => by
  have := isC_mem h hk x hx
  omega
set_option maxHeartbeats 4000000 in
set_option maxRecDepth 100000 in
theorem fmi_yes (B : Nat) (v : Value) (m : List (List Int)) (w : World) (h : MatB B w v m) (hB : B ≤ w.heap.size) (hf : RowsFit m) (hI : IsC m) (htab : Lib.TabIs Tryz.prog w "internal/strconv.uint64pow10" .u64 Lib.pow10Tab) :
    Calls Tryz.prog 33 #[v] w fun e w' => e = .returned (.string ⟨(fmtT m).toArray⟩) ∧ Below w.heap.size w w' := by
  obtain ⟨a, cap, rfl⟩ := h.slice
  have hl := hf.1
  have HT := Lib.hid htab; clear htab
  have HR := Lib.hid h; clear h
  have HF := Lib.hid hf; clear hf
  have hn4 := hI.2.2
  have HC := Lib.hid (isB_yes hI)
  have HFN := Lib.hid (fun (k : Nat) (hk : k < m.length) (x : Value) (wx : World) (hx : RowB B wx x (m.getD k [])) (hBx : B ≤ wx.heap.size) (ht : Lib.TabIs Tryz.prog wx "internal/strconv.uint64pow10" .u64 Lib.pow10Tab) => fni_any B x (m.getD k []) wx hx hBx (by have := hI.1 k hk; omega) (row_fits hI hk) ht)
  have HFL := Lib.hid (fmtT_len hI)
  have HRW := Lib.hid (show Rows0 m m.length m.length from hI.1)
  have HRS := Lib.hid (rowS_get m)
  have HRSL : Hid ((rowS m).length = m.length) := Lib.hid (by simp [rowS])
  have HRJ := Lib.hid (rowS_join m)
  clear hI
  generalize hn : m.length = n at *
  unfold maxLen at hl
  have HN := Lib.hid hn; clear hn
  go_enter Tryz.func33, Tryz.ntmps33
  go_wp2_with fail
  refine (icm_wD B _ m true HC.out _ HR.out HF.out).mono ?_
  rintro e w1 ⟨rfl, hb1⟩
  have hs1 := hb1.size
  obtain ⟨w2, hmk, ho2, hb2, hz2⟩ := make_strs n (by omega) w1
  rw [← laidS_zero (rowS m)] at ho2
  have HO2 := Lib.hid ho2
  have HB2 := Lib.hid (hb2 w w.heap.size hs1 hb1)
  clear ho2 hb2 hz2 hb1
  go_wp2_with fail
  clear hmk
  go_loopw [14] (fun i wr => ∃ (k : Nat) (wq : World), wq = wr ∧ k ≤ n ∧ i = .int .i64 k ∧ wq.ownsRow w1.heap.size 9 1 (.slice (some ⟨w1.heap.size, 0, none⟩) n n) n (strVD (laidS (rowS m) n k)) ∧ Below w.heap.size w wq) (fun i _ => n - (intOf i).toNat)
  case atStart => exact ⟨0, _, rfl, Nat.zero_le _, rfl, HO2.out, HB2.out⟩
  case round =>
    clear HO2 HB2
    clear w2
    obtain ⟨k, wq, rfl, hk, rfl, ho, hb⟩ := hrel
    have HO := Lib.hid ho; clear ho
    have hsq := hb.size
    have HB := Lib.hid hb; clear hb
    by_cases hlt : k < n
    · obtain ⟨b, off, rb, roff, rcap, rfl, hbB, hrB, hc1, hx⟩ := HR.out.line HRW.out hlt
      have hc1' := (HB.out.cell (p := ⟨b, off + k, none⟩) (by show b < _; omega)).trans hc1
      have hel : (m.getD k []).length = n := HRW.out k hlt
      have HXR := Lib.hid (show RowB B wq (.slice (some ⟨rb, roff, none⟩) n rcap) (m.getD k []) from Or.inr ⟨rb, roff, rcap, by rw [hel], hrB, fun j hj => by
        have h9 := (HB.out.cell (p := ⟨rb, roff + j, none⟩) (by show rb < _; omega)).trans (hx j (by omega))
        rw [h9]
        unfold entry
        have hgd : ∀ (r : List Int) (h : j < r.length), r.getD j 0 = r[j] := fun r h => by simp [List.getD, h]
        rw [hgd _ hj]⟩)
      have HFX := Lib.hid (HFN.out k hlt _ wq HXR.out (by omega) (tab_below HT.out HB.out))
      have hst := laidS_step HRSL.out hlt
      rw [HRS.out k hlt] at hst
      have HST := Lib.hid hst
      clear hst hc1 hx hel
      generalize rowT (m.getD k []) = y at *
      go_wp2_with fail
      refine HFX.out.mono ?_
      rintro e w5 ⟨rfl, hb5⟩
      have ho5 := ownS_step HO.out hb5
      obtain ⟨W6, e6, ho6, ⟨c6, hc6⟩, hf6, hb6, hz6, hg6⟩ := strs_put ho5 hlt ⟨y.toArray⟩
      rw [HST.out] at ho6
      have HO6 := Lib.hid ho6
      have HB6 := Lib.hid (hb6 w w.heap.size hs1 (HB.out.trans (hb5.mono hsq)))
      clear ho6 hb6 ho5 hb5 hg6 hz6 hc1'
      go_wp2_with fail
      exact ⟨⟨k + 1, _, rfl, by omega, by go_num, HO6.out, HB6.out⟩, by simp [intOf]; omega⟩
    · obtain rfl : k = n := by omega
      have ho := HO.out
      rw [laidS_end HRSL.out] at ho
      have hj := Tryz.strings_Join w1.heap.size 0 k (rowS m) ⟨#[59]⟩ wq (strs_cell ho) (ho.lt _ rfl).2 (by rw [HRSL.out]; omega) (by rw [HRSL.out]; exact Nat.le_refl _) (by rw [show (⟨#[59]⟩ : ByteArray).data.toList = [59] from rfl, HRJ.out]; have := HFL.out; omega)
      rw [HRSL.out, show (⟨#[59]⟩ : ByteArray).data.toList = [59] from rfl, HRJ.out] at hj
      have HJ := Lib.hid hj
      clear hj ho
      go_wp2_with fail
      refine HJ.out.mono ?_
      rintro e w5 ⟨rfl, hb5⟩
      have HB5 := Lib.hid (HB.out.trans (hb5.mono hsq))
      clear hb5
      go_wp2_with fail
      go_ret
      exact ⟨rfl, HB5.out⟩
set_option maxHeartbeats 1000000 in
theorem fmi_any (B : Nat) (v : Value) (m : List (List Int)) (w : World) (h : MatB B w v m) (hB : B ≤ w.heap.size) (hf : RowsFit m) (htab : Lib.TabIs Tryz.prog w "internal/strconv.uint64pow10" .u64 Lib.pow10Tab) :
    Calls Tryz.prog 33 #[v] w fun e w' => e = .returned (.string ⟨(fmtM m).toArray⟩) ∧ Below w.heap.size w w' := by
  by_cases hI : IsC m
  · rw [fmtM_yes hI]
    exact fmi_yes B v m w h hB hf hI htab
  · rw [fmtM_no hI]
    have HC := Lib.hid (isB_no hI)
    go_enter Tryz.func33, Tryz.ntmps33
    go_wp2_with fail
    refine (icm_wD B _ m false HC.out _ h hf).mono ?_
    rintro e w1 ⟨rfl, hb1⟩
    have HB1 := Lib.hid hb1; clear hb1
    go_wp2_with fail
    go_ret
    exact ⟨rfl, HB1.out⟩
end Go.Proofs.YtcmnkhblnlmfpaaGreatDoor
namespace Go.Proofs.YtcmnkhblnlmfpaaGreatDoor
open Go.RowKit

theorem RowI.nil' (A B : Nat) (w : World) : RowI A B w (.slice none 0 0) [] := ⟨World.ownsRow_nil _ _ _ _, fun g h => by simp [Value.ownBlock] at h⟩
set_option maxHeartbeats 1000000 in
set_option maxRecDepth 100000 in
theorem cloi_any (B : Nat) (v : Value) (l : List Int) (w : World) (h : RowB B w v l) (hB : B ≤ w.heap.size) (hl : l.length ≤ 1048576) :
    Calls Tryz.prog 56 #[v] w (MakesS w l) := by
  have qe : ∀ (w : World) (a : Option Addr) (n c n' c' : Nat), (binOp .eql 25 (.slice a n c) (.slice none n' c')).run Tryz.prog w = .ok (.bool a.isNone) w := fun w a n c n' c' => Lib.run_eql_slice_nil w _ _ a n c n' c' Tryz.underlying25
  obtain ⟨a, cap, rfl⟩ := h.slice
  cases a with
  | none =>
    have hl0 : l = [] := by
      rcases h with ⟨h0, _⟩ | ⟨b, off, c, h1, _⟩
      · exact h0
      · simp at h1
    subst hl0
    go_enter Tryz.func56, Tryz.ntmps56
    go_wp2_with fail
    go_ret
    exact ⟨_, rfl, ⟨RowI.nil' _ _ _, Nat.le_refl _⟩, Below.refl _ _⟩
  | some p =>
    have hb0 : Below w.heap.size w (w.alloc (.cells #[] 3)) := (Below.refl _ _).alloc (Nat.le_refl _) _
    have HL := Lib.hid (h.below hb0 hB)
    have hs0 : w.heap.size ≤ (w.alloc (.cells #[] 3)).heap.size := by simp
    have h1 : ([] : List Int).length + l.length ≤ 4194304 := by simp; omega
    have H1 := Lib.hid h1
    clear h hb0 h1
    generalize hln : l.length = n at *
    have HLN := Lib.hid hln; clear hln
    go_enter Tryz.func56, Tryz.ntmps56
    go_wp2_with (at_builtin; go_must (refine append_intsA (row_empty w) hs0 HL.out (by rw [HLN.out]; exact H1.out) rfl rfl rfl rfl ?_))
    intro v3 w3 hr3 hb3 hz3
    have hr3 : RowI w.heap.size w3.heap.size w3 v3 l := by simpa using hr3
    have HR3 := Lib.hid hr3
    have HB3 := Lib.hid (hb3 w w.heap.size (Nat.le_refl _) ((Below.refl _ _).alloc (Nat.le_refl _) _))
    clear hb3 hz3 hr3
    go_wp2_with fail
    go_ret
    exact ⟨_, rfl, ⟨HR3.out, Nat.le_refl _⟩, HB3.out⟩
end Go.Proofs.YtcmnkhblnlmfpaaGreatDoor
