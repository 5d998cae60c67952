/-
  Roots: what the program's RootsUpTo returns.
  Roots: what the program's RootsUpTo returns.
  The determinant by choosing a column for each row (no walk here): the sum over the columns that are left is the expansion along the first row.
-/
import Derived.Test.YtlbgblkoddlhnaaRa29
import Derived.Test.YtlbgblkoddlhnaaRa30
import Derived.Test.YtlbgblkoddlhnaaRa14
import Derived.Test.YtlbgblkoddlhnaaRa20
namespace Go.Proofs.Ytlbgblkoddlhnaa
open Go.RowKit Go.Sort Go.Maps Go.WideMaps

theorem RngM.ne_row {n : Nat} {w : World} {b r : Nat} {S T : List Int → Prop} {cnt : Nat} (h : RngM n w b r S T cnt) {A k : Nat} {e : TypeId} {v : Value} {xs : List Value} (ho : w.ownsRow A e 1 v k xs) : some b ≠ v.ownBlock ∧ some r ≠ v.ownBlock := by
  obtain ⟨D, left, ⟨es, clock, since, seen, c0, hb, _, _, _, hr, _⟩, _, _⟩ := h
  rcases ho.2 with ⟨rfl, _⟩ | ⟨g, cap, cur, rfl, _, hg, _⟩
  · simp [Value.ownBlock]
  · constructor
    · intro e1
      have : b = g := by simpa [Value.ownBlock] using e1
      subst this
      rw [hb] at hg; cases hg
    · intro e1
      have : r = g := by simpa [Value.ownBlock] using e1
      subst this
      rw [hr] at hg; cases hg
theorem MatH.mono {A A' : Nat} {w : World} {v : Value} {m : List (List Int)} {hs : List Value} (h : MatH A w v m hs) (hA : A' ≤ A) : MatH A' w v m hs :=
  ⟨ownsRow_mono h.1 hA, fun j hj => by
    obtain ⟨hv, h1, h2⟩ := h.2.1 j hj
    exact ⟨hv, h1, h2.mono hA (Nat.le_refl _)⟩, h.2.2⟩
/-- Rows in blocks that stood already are none of a new block's. -/
theorem MatH.old {A : Nat} {w : World} {v : Value} {m : List (List Int)} {hs : List Value} (h : MatH A w v m hs) {x : Value} (hx : ∀ g, x.ownBlock = some g → w.heap.size ≤ g) : ∀ y ∈ hs, y.ownBlock = none ∨ y.ownBlock ≠ x.ownBlock := by
  intro y hy
  obtain ⟨j, hj, rfl⟩ := List.getElem_of_mem hy
  have hl := h.len
  obtain ⟨hv, h1, h2⟩ := h.2.1 j (by omega)
  have e : hs[j] = hv := by
    have := List.getElem?_eq_getElem hj
    rw [h1] at this; exact (Option.some.inj this).symm
  rw [e]
  cases hb : hv.ownBlock with
  | none => exact Or.inl rfl
  | some g =>
    right
    intro e2
    have h3 := h2.2 g hb
    have h4 := hx g e2.symm
    omega
set_option maxHeartbeats 4000000 in
set_option maxRecDepth 100000 in
/-- The sort of a list of rows. -/
theorem sort_rows (A g cap k n : Nat) (ms : List (List Int)) (hs : List Value) (w : World) (hR : RowsI k n ms) (hn : n ≤ 4) (h : MatH A w (.slice (some ⟨g, 0, none⟩) (k + 1) cap) ms hs) (hk : k ≤ 30000) :
    Calls Try.prog 65 #[.slice (some ⟨g, 0, none⟩) (k + 1) cap, .func (.func 66) #[] #[]] w fun e w' => e = .returned (.tuple #[]) ∧ MatI A w'.heap.size w' (.slice (some ⟨g, 0, none⟩) (k + 1) cap) (rowsH k ms) ∧ w.grownBy w' (some g) ∧ A ≤ g := by
  have hlen := h.len
  have hml := hR.len
  obtain ⟨h1, h2, h3⟩ := h
  rw [hml] at h1
  have hrow : ∀ i : Ix k, ∃ hv, hs[i.val]? = some hv ∧ encH k hs i = hv ∧ RowI A w.heap.size w hv (ms.getD i.val []) := fun i => by
    have hi : i.val < ms.length := by rw [hml]; exact i.isLt
    obtain ⟨hv, h4, h5⟩ := h2 i.val hi
    refine ⟨hv, h4, ?_, by rw [getD_at hi]; exact h5⟩
    unfold encH; rw [List.getD_eq_getElem?_getD, h4]; rfl
  rcases h1.2 with ⟨h0, _⟩ | ⟨g', cap', cur, h0, hA, hg, hkc, hcm, hsz, htk⟩
  · cases h0
  injection h0 with e1 e2 e3
  injection e1 with e1
  injection e1 with e1 _
  subst e1; subst e3
  have hgl : g < w.heap.size := (Array.getElem?_eq_some_iff.1 hg).1
  have hd : (List.finRange (k + 1)).toArray.size = k + 1 := by simp
  have hH : Holds (encH k hs) w g 0 (List.finRange (k + 1)).toArray := by
    intro j hj
    have hj' : j < k + 1 := by rw [hd] at hj; exact hj
    refine ⟨?_, frozen_of_row w g _ _ _ hg⟩
    have hc := h1.cellAt j (by omega)
    rw [Nat.zero_add, hc]
    obtain ⟨hv, h4, h5, _⟩ := hrow ⟨j, hj'⟩
    have e4 : (List.finRange (k + 1)).toArray[j]! = ⟨j, hj'⟩ := by
      rw [getElem!_pos _ j hj]; simp
    rw [e4, h5]; exact h4
  have h1c : OneCell (encH k hs) := fun i => by
    obtain ⟨hv, _, h5, h6⟩ := hrow i
    rw [h5]
    obtain ⟨ra, rcap, rfl⟩ := h6.slice
    rfl
  have hcmp : Go.Proofs.CmpLays1 Try.prog 66 #[] (encH k hs) (cmpH k ms) g 0 (List.finRange (k + 1)).toArray.size w := by
    intro m os dk hdk x y
    have hgr := grownBy_sortedG (enc := encH k hs) (w := w) (g := g) (n := m) (os := os) dk
    obtain ⟨hx, _, h5, h6⟩ := hrow x
    obtain ⟨hy, _, h7, h8⟩ := hrow y
    have r1 := h6.grown hgr (own_differ2 h1 h6.1)
    have r2 := h8.grown hgr (own_differ2 h1 h8.1)
    rw [h5, h7]
    refine (cmpri_any _ _ hx hy (ms.getD x.val []) (ms.getD y.val []) _ r1.rowB r2.rowB (by rw [hR.at]; unfold maxLen; omega) (by rw [hR.at]; unfold maxLen; omega)).mono ?_
    rintro e w' ⟨he, hw⟩
    exact ⟨he, 0, #[], by rw [hw]; simp; rfl⟩
  have hS := Try.slices_SortFunc_total (encH k hs) h1c (cmpH k ms) (swoH hR) 66 #[] g 0 cap (List.finRange (k + 1)).toArray w (enters_of Try.func66 (by kernel_rfl) rfl) hcmp hH hgl (by rw [hd]; omega) (totH hR)
  rw [hd] at hS
  refine hS.mono ?_
  rintro e w' ⟨he, n', os, hw⟩
  have hw' : w' = sortWorld (encH k hs) w g 0 n' (srtH k ms).toArray os := hw
  have hgr : w.grownBy w' (some g) := by rw [hw']; exact grownBy_sortedG _
  refine ⟨he, ⟨(srtH k ms).map (encH k hs), ?_, fun g' hg' => ?_, fun j hj => ?_, fun i j x y hij hx hy => ?_⟩, hgr, hA⟩
  · rw [rowsH_len, hw']
    exact ownsRow_sortedG (srt_len k ms) hA hg hkc hcm hsz
  · have : g = g' := by simpa [Value.ownBlock] using hg'
    have := hgr.size; omega
  · have hj' : j < (srtH k ms).length := by rw [rowsH_len] at hj; rw [srt_len]; exact hj
    obtain ⟨hv, h4, h5, h6⟩ := hrow (srtH k ms)[j]
    refine ⟨hv, by rw [List.getElem?_map, List.getElem?_eq_getElem hj']; simp [h5], ?_⟩
    have e5 : (rowsH k ms)[j] = ms.getD (srtH k ms)[j].val [] := by simp [rowsH]
    rw [e5]
    exact (h6.grown hgr (own_differ2 h1 h6.1)).mono (Nat.le_refl _) hgr.size
  · rw [List.getElem?_map] at hx hy
    obtain ⟨a, ha, rfl⟩ := Option.map_eq_some_iff.1 hx
    obtain ⟨b, hb, rfl⟩ := Option.map_eq_some_iff.1 hy
    have hab : a.val ≠ b.val := fun e => by
      have e6 : a = b := Fin.ext e
      subst e6
      obtain ⟨hi1, hi2⟩ := List.getElem?_eq_some_iff.1 ha
      obtain ⟨hj1, hj2⟩ := List.getElem?_eq_some_iff.1 hb
      exact hij ((List.getElem_inj (srt_nodup k ms)).1 (hi2.trans hj2.symm))
    obtain ⟨va, h4, h5, _⟩ := hrow a
    obtain ⟨vb, h6, h7, _⟩ := hrow b
    rw [h5, h7]
    exact h3 a.val b.val va vb hab h4 h6
end Go.Proofs.Ytlbgblkoddlhnaa
namespace Go.Proofs.Ytlbgblkoddlhnaa
open Go.RowKit Go.Maps Go.WideMaps

theorem MatH.keptR {A r : Nat} {w w' : World} {v : Value} {m : List (List Int)} {hs : List Value} (h : MatH A w v m hs) (hg : w.grownBy w' (some r)) (hne : ∀ {A k : Nat} {e : TypeId} {v : Value} {xs : List Value}, w.ownsRow A e 1 v k xs → some r ≠ v.ownBlock) : MatH A w' v m hs :=
  ⟨h.1.kept hg (Or.inr fun e => hne h.1 e.symm), fun j hj => by
    obtain ⟨hv, h1, h2⟩ := h.2.1 j hj
    exact ⟨hv, h1, (h2.grown hg (Or.inr fun e => hne h2.1 e.symm)).mono (Nat.le_refl _) hg.size⟩, h.2.2⟩
theorem RngM.below {n : Nat} {w w' : World} {b r C : Nat} {S T : List Int → Prop} {cnt : Nat} (h : RngM n w b r S T cnt) (hb : Below C w w') (hC : b < C) (hr : r < C) : RngM n w' b r S T cnt := by
  obtain ⟨D, left, ⟨es, clock, since, seen, c0, h1, h2, h3, h4, h5, h6⟩, h7⟩ := h
  exact ⟨D, left, ⟨es, clock, since, seen, c0, (hb.block b hC).trans h1, h2, h3, h4, (hb.block r hr).trans h5, h6⟩, h7⟩
set_option maxHeartbeats 8000000 in
set_option maxRecDepth 100000 in
theorem ruti_yes (B : Nat) (v : Value) (m : List (List Int)) (h : Int) (w : World) (hM : MatB B w v m) (hB : B ≤ w.heap.size) (hf : RowsFit m) (hok : RutOk m h) :
    Calls Try.prog 42 #[v, .int .i64 h] w (fun e w' => MakesM w (rutL m h) e w' ∧ IsRoots m h (rutL m h)) := by
  have hI := hok.1
  have hn1 := hI.2.2.1
  have hn4 := hI.2.2.2
  have HC := Lib.hid (icm_0 B v m true (isB_yes hI) w hM hf)
  have HKU := Lib.hid (fun (wx : World) (hb : Below w.heap.size w wx) => rku_any B v m h wx (hM.below hb hB) (Nat.le_trans hB hb.size) hok)
  have h1 : decide (h < 1) = false := decide_eq_false (by have := hok.2.1; omega)
  have h12 : decide (12 < h) = false := decide_eq_false (by have := hok.2.2; omega)
  have HLW := Lib.hid (fun l (hl : Asc m h l) => asc_low hI hok.2.2 hl)
  have HBS := Lib.hid (show Asc m h (unitR m.length 0) from .base 0 (by omega))
  have HIS := Lib.hid (fun (L : List (List Int)) (hO : Ordd L) (hm : ∀ r, r ∈ L ↔ Asc m h r) => rutL_is hok ⟨hO, hm⟩)
  have HIR := Lib.hid (fun (L : List (List Int)) (hO : Ordd L) (hm : ∀ r, r ∈ L ↔ Asc m h r) => (show IsRoots m h (rutL m h) from by rw [rutL_is hok ⟨hO, hm⟩]; exact ⟨hO, hm⟩))
  obtain ⟨a, cap, rfl⟩ := hM.slice
  clear hM hf hok hI
  generalize rutL m h = R at *
  generalize hn : m.length = n at *
  have HN := Lib.hid hn; clear hn
  go_enter Try.func42, Try.ntmps42
  go_wp2_with fail
  refine HC.out.mono ?_
  rintro e w1 ⟨rfl, q, rfl⟩
  have HB1 := Lib.hid (below_drewN (w := w) q)
  have HK1 := Lib.hid (HKU.out _ HB1.out)
  clear HKU
  go_wp2_with fail
  refine HK1.out.mono ?_
  rintro e w2 ⟨b, rfl, hbw, hS, hb2⟩
  have HB2 := Lib.hid (HB1.out.trans (hb2.mono HB1.out.size))
  clear hb2
  go_wp2_with (at_range; refine wpList_setRange rfl _ rfl hS rfl ?_; intro w3 hR3 hg3 hs3)
  have HB3 := Lib.hid (HB2.out.grown hg3 HB2.out.size (fun j hj => by cases hj))
  obtain ⟨r0, hr0⟩ : ∃ r0, r0 = w2.heap.size := ⟨_, rfl⟩
  have hbw' : w.heap.size ≤ b := hbw
  have hrw : w.heap.size ≤ r0 := by have := HB2.out.size; omega
  rw [← hr0] at hR3 ⊢
  have HR3 := Lib.hid hR3
  clear hR3 hg3 hs3 hS hr0 hbw
  go_frame
  go_loopw [5] (fun o wr => ∃ (T : List Int → Prop) (cnt : Nat) (ms : List (List Int)) (hs : List Value) (wq : World), wq = wr ∧ RngM n wq b r0 (Asc m h) T cnt ∧ MatH w.heap.size wq o ms hs ∧ ms.Nodup ∧ (∀ l, l ∈ ms ↔ Asc m h l ∧ ¬ T l) ∧ (∀ l, T l → Asc m h l) ∧ Below w.heap.size w wq) (fun _ wr => wr.rangeLeft b r0)
  case atStart => exact ⟨Asc m h, _, [], [], _, rfl, HR3.out, MatH.nil _ _, List.nodup_nil, fun l => ⟨fun h => absurd h (by simp), fun h => absurd h.1 h.2⟩, fun _ h => h, HB3.out⟩
  case round =>
    obtain ⟨T, cnt, ms, hs, wq, rfl, hR, hMH, hnd, hch, hTS, hb⟩ := hrel
    have hsq := hb.size
    have HMH := Lib.hid hMH; have HND := Lib.hid hnd; have HCH := Lib.hid hch; have HTS := Lib.hid hTS; have HB := Lib.hid hb; have HR := Lib.hid hR
    have HMC := Lib.hid (show ms.length ≤ 28561 from low_count hn4 hnd fun r hr => HLW.out r ((hch r).1 hr).1)
    obtain ⟨oa, ocap, rfl⟩ := hMH.matI.matB.slice
    clear hMH hnd hch hTS hb
    go_wp2_with (at_next; refine wpList_setNext rfl _ rfl hR rfl ?_ ?_)
    · intro _ hT
      have hall : ∀ l, l ∈ ms ↔ Asc m h l := fun l => (HCH.out l).trans ⟨fun h => h.1, fun h => ⟨h, hT l⟩⟩
      have hne := List.length_pos_of_mem ((hall _).2 HBS.out)
      have hMH := HMH.out
      generalize hml : ms.length = N at *
      obtain ⟨k, rfl⟩ : ∃ k, N = k + 1 := ⟨N - 1, by omega⟩
      obtain ⟨g, hog⟩ : ∃ g, oa = some ⟨g, 0, none⟩ := by
        rcases hMH.1.2 with ⟨h0, h9⟩ | ⟨g, cap', cur, h0, _⟩
        · rw [hml] at h9; omega
        · injection h0 with e1 e2 e3
          exact ⟨g, e1⟩
      subst hog
      have hRI : RowsI k n ms := ⟨hml, fun r hr => (HLW.out r ((hall r).1 hr)).1, HND.out⟩
      have HSR := Lib.hid (sort_rows w.heap.size g ocap k n ms hs wq hRI hn4 hMH (by have := HMC.out; omega))
      have HV := Lib.hid (HIS.out (rowsH k ms) (rowsH_ordd hRI) (fun r => (rowsH_mem hRI r).trans (hall r)))
      have HI9 := Lib.hid (HIR.out (rowsH k ms) (rowsH_ordd hRI) (fun r => (rowsH_mem hRI r).trans (hall r)))
      clear HIR
      clear hMH hRI hall hne hT hR HBS HLW HIS
      go_wp2_with fail
      refine HSR.out.mono ?_
      rintro e w9 ⟨rfl, hx, hg9, hgA⟩
      have HX := Lib.hid hx
      have HB9 := Lib.hid (HB.out.grown hg9 hsq (fun j hj => by have := Option.some.inj hj; omega))
      clear hx hg9
      go_wp2_with fail
      go_ret
      exact ⟨⟨_, rfl, ⟨by rw [HV.out]; exact HX.out, Nat.le_refl _⟩, HB9.out⟩, HI9.out⟩
    · intro l w4 cnt4 hTl hR4 hlt4 hg4 hs4 hen
      obtain ⟨x0, x1, x2, x3, hkv, hpd⟩ := pad4_parts l
      rw [hkv] at hen ⊢
      have hal := World.grownBy_alloc w4 (.cells #[.int .i64 x0, .int .i64 x1, .int .i64 x2, .int .i64 x3] 53) none
      have hK5 := Box4.new (w := w4) hpd
      have hll := HLW.out l (HTS.out l hTl)
      have hM4 := HMH.out.keptR hg4 (fun ho => (HR.out.ne_row ho).2)
      have hb4 := HB.out.grown hg4 hsq (fun j hj => by have := Option.some.inj hj; omega)
      have hM5 := hM4.step ((Below.refl _ _).alloc (Nat.le_refl _) (.cells #[.int .i64 x0, .int .i64 x1, .int .i64 x2, .int .i64 x3] 53))
      have hR5 := hR4.kept hal (by simp) (by simp)
      have hb5 := hb4.alloc hb4.size (.cells #[.int .i64 x0, .int .i64 x1, .int .i64 x2, .int .i64 x3] 53)
      have hrow5 := hK5.row hll.1 hn4
      have HCL := Lib.hid (cloi_any (w4.heap.size + 1) _ l (w4.alloc (.cells #[.int .i64 x0, .int .i64 x1, .int .i64 x2, .int .i64 x3] 53)) hrow5 (by simp) (by rw [hll.1]; omega))
      have hsl := slice_key w4.heap.size n hn4
      have HM5 := Lib.hid hM5; have HR5 := Lib.hid hR5; have HB5 := Lib.hid hb5
      have HTL := Lib.hid hTl; have HLT4 := Lib.hid hlt4
      have hrb := hR5.lt
      have hbb := hR5.setM.lt
      clear hal hK5 hll hM4 hb4 hM5 hR4 hR5 hb5 hrow5 hTl hlt4 hs4 hg4 hkv hpd
      go_wp2_with fail
      clear hen hsl
      generalize w4.alloc (.cells #[.int .i64 x0, .int .i64 x1, .int .i64 x2, .int .i64 x3] 53) = w5 at *
      refine HCL.out.mono ?_
      rintro e w6 ⟨x, rfl, hx, hb6⟩
      have hM6 := HM5.out.step hb6
      have hs5 := HB5.out.size
      have hx6 := hx.1
      have hone : ∀ g, x.ownBlock = some g → w5.heap.size ≤ g := fun g hg => (hx6.1.lt g hg).1
      have HD6 := Lib.hid (HM5.out.old hone)
      have HX6 := Lib.hid (hx6.mono hs5 (Nat.le_refl _))
      have HM6 := Lib.hid hM6
      have HR6 := Lib.hid (HR5.out.below hb6 hbb hrb.1)
      have HB6 := Lib.hid (HB5.out.trans (hb6.mono hs5))
      have hs6 : w.heap.size ≤ w6.heap.size := HB6.out.size
      obtain ⟨xa, xc, rfl⟩ := hx6.slice
      clear hx hb6 hM6 hx6 hone HCL
      go_wp2_with (at_builtin; go_must (refine append_rowH HM6.out HX6.out hs6 HD6.out rfl rfl rfl rfl (by have := HMC.out; omega) ?_))
      intro v7 w7 hM7 hg7 _
      have HM7 := Lib.hid hM7
      have hne7 := HR6.out.ne_row HM6.out.1
      have HR7 := Lib.hid (HR6.out.kept hg7 hne7.1 hne7.2)
      have HB7 := Lib.hid (HB6.out.grown hg7 hs6 (fun j hj => (HM6.out.1.lt j hj).1))
      clear hM7 hg7 hne7
      go_wp2_with fail
      refine ⟨⟨fun y => T y ∧ y ≠ l, cnt4, ms ++ [l], _, w7, rfl, HR7.out, HM7.out, ?_, fun y => ?_, fun y hy => HTS.out y hy.1, HB7.out⟩, by rw [HR7.out.left_eq, HR.out.left_eq]; exact HLT4.out⟩
      · rw [List.nodup_append]
        refine ⟨HND.out, by simp, fun u hu v hv e => ?_⟩
        obtain rfl : v = l := by simpa using hv
        subst e
        exact ((HCH.out u).1 hu).2 HTL.out
      · rw [List.mem_append, HCH.out]
        constructor
        · rintro (hy | hy)
          · exact ⟨hy.1, fun h' => hy.2 h'.1⟩
          · obtain rfl : y = l := by simpa using hy
            exact ⟨HTS.out _ HTL.out, fun h' => h'.2 rfl⟩
        · rintro ⟨hy, hn'⟩
          by_cases e : y = l
          · exact Or.inr (by rw [e]; simp)
          · exact Or.inl ⟨hy, fun hT => hn' ⟨hT, e⟩⟩
end Go.Proofs.Ytlbgblkoddlhnaa
namespace Go.Proofs.Ytlbgblkoddlhnaa
open Go.RowKit

/-! ### Signs of a choice -/
def sgnC (j : Nat) : List Nat → Int
  | [] => 1
  | c :: l => if j < c then -sgnC j l else sgnC j l
/-- The sign behind the first i columns of the choice. -/
def sgnT (j : Nat) (ch : List Nat) (i : Nat) : Int := sgnC j (ch.take i)
theorem sgnC_snoc (j c : Nat) (l : List Nat) : sgnC j (l ++ [c]) = if j < c then -sgnC j l else sgnC j l := by
  induction l with
  | nil => rfl
  | cons x l ih =>
    show (if j < x then -sgnC j (l ++ [c]) else sgnC j (l ++ [c])) = _
    rw [ih]
    show _ = if j < c then -(if j < x then -sgnC j l else sgnC j l) else (if j < x then -sgnC j l else sgnC j l)
    split <;> split <;> simp
theorem sgnC_one (j : Nat) (l : List Nat) : sgnC j l = 1 ∨ sgnC j l = -1 := by
  induction l with
  | nil => exact Or.inl rfl
  | cons x l ih =>
    show (if j < x then -sgnC j l else sgnC j l) = 1 ∨ (if j < x then -sgnC j l else sgnC j l) = -1
    split
    · rcases ih with h | h <;> rw [h] <;> simp
    · exact ih
/-! ### The sum over the columns that are left -/
def expF (m : List (List Int)) (n : Nat) : Nat → List Nat → Int
  | 0, _ => 1
  | k + 1, ch => ((List.range n).map fun j => if ch.contains j then 0 else sgnC j ch * entry m ch.length j * expF m n k (ch ++ [j])).sum
def expT (m : List (List Int)) (n k : Nat) (ch : List Nat) (j : Nat) : Int := if ch.contains j then 0 else sgnC j ch * entry m ch.length j * expF m n k (ch ++ [j])
def expS (m : List (List Int)) (n k : Nat) (ch : List Nat) (j : Nat) : Int := ((List.range j).map (expT m n k ch)).sum
theorem expS_step (m : List (List Int)) (n k : Nat) (ch : List Nat) (j : Nat) : expS m n k ch (j + 1) = expS m n k ch j + expT m n k ch j := by
  unfold expS
  rw [List.range_succ, List.map_append, List.sum_append]
  simp
theorem expS_end (m : List (List Int)) (n k : Nat) (ch : List Nat) : expS m n k ch n = expF m n (k + 1) ch := rfl
/-- 4, 4 * 3 * 4, .. : what a sum comes to at most. -/
def eB : Nat → Int
  | 0 => 1
  | n + 1 => 4 * (3 * eB n)
theorem eB_nonneg (n : Nat) : 0 ≤ eB n := by
  induction n with
  | zero => decide
  | succ n ih => exact Int.mul_nonneg (by omega) (by omega)
theorem expT_bd {m : List (List Int)} {n k : Nat} {ch : List Nat} {j : Nat} (hb : Bd m) (h : -(eB k) ≤ expF m n k (ch ++ [j]) ∧ expF m n k (ch ++ [j]) ≤ eB k) : -(3 * eB k) ≤ expT m n k ch j ∧ expT m n k ch j ≤ 3 * eB k := by
  have h0 := eB_nonneg k
  unfold expT
  split
  · omega
  · have hx : -3 ≤ sgnC j ch * entry m ch.length j ∧ sgnC j ch * entry m ch.length j ≤ 3 := by
      have := hb ch.length j
      rcases sgnC_one j ch with h1 | h1 <;> rw [h1] <;> omega
    exact mul_le3 hx h h0
theorem expS_bd {m : List (List Int)} {n k : Nat} {ch : List Nat} (hb : Bd m) (h : ∀ j, -(eB k) ≤ expF m n k (ch ++ [j]) ∧ expF m n k (ch ++ [j]) ≤ eB k) (j : Nat) :
    -((j : Int) * (3 * eB k)) ≤ expS m n k ch j ∧ expS m n k ch j ≤ (j : Int) * (3 * eB k) := by
  induction j with
  | zero => simp [expS]
  | succ j ih =>
    rw [expS_step]
    have h1 := expT_bd hb (h j)
    have e : ((j + 1 : Nat) : Int) * (3 * eB k) = (j : Int) * (3 * eB k) + 3 * eB k := by rw [Int.natCast_succ, Int.add_mul, Int.one_mul]
    rw [e]
    omega
theorem expF_bd {m : List (List Int)} {n : Nat} (hn : n ≤ 4) (hb : Bd m) (k : Nat) : ∀ ch, -(eB k) ≤ expF m n k ch ∧ expF m n k ch ≤ eB k := by
  induction k with
  | zero => intro ch; show -(1 : Int) ≤ 1 ∧ (1 : Int) ≤ 1; decide
  | succ k ih =>
    intro ch
    rw [← expS_end]
    have h1 := expS_bd (n := n) (ch := ch) hb (fun j => ih (ch ++ [j])) n
    have h0 := eB_nonneg k
    have h2 : (n : Int) * (3 * eB k) ≤ 4 * (3 * eB k) := Int.mul_le_mul_of_nonneg_right (by omega) (by omega)
    show -(4 * (3 * eB k)) ≤ _ ∧ _ ≤ 4 * (3 * eB k)
    omega
theorem eB_small (n : Nat) (h : n ≤ 4) : eB n ≤ 20736 := by
  rcases (show n = 0 ∨ n = 1 ∨ n = 2 ∨ n = 3 ∨ n = 4 by omega) with rfl | rfl | rfl | rfl | rfl <;> decide
/-! ### It is the determinant -/
theorem exp_det1 (m : List (List Int)) : expF m 1 1 [] = detF 1 m := by
  simp [expF, detF, sgnC, sgn, entry, List.range_succ, List.getD]
theorem exp_det2 (m : List (List Int)) : expF m 2 2 [] = detF 2 m := by
  have e : ∀ i j, ((m[i]?.getD [])[j]?.getD 0) = entry m i j := fun i j => by simp [entry, List.getD]
  simp [expF, detF, sgnC, sgn, wdM, wdR, keepC, List.range_succ, List.contains, List.elem]
  simp [entry, List.getD]
  simp only [e]
  grind
theorem exp_det3 (m : List (List Int)) : expF m 3 3 [] = detF 3 m := by
  have e : ∀ i j, ((m[i]?.getD [])[j]?.getD 0) = entry m i j := fun i j => by simp [entry, List.getD]
  simp [expF, detF, sgnC, sgn, wdM, wdR, keepC, List.range_succ, List.contains, List.elem]
  simp [entry, List.getD]
  simp only [e]
  grind
set_option maxHeartbeats 2000000 in
theorem exp_det4 (m : List (List Int)) : expF m 4 4 [] = detF 4 m := by
  have e : ∀ i j, ((m[i]?.getD [])[j]?.getD 0) = entry m i j := fun i j => by simp [entry, List.getD]
  simp [expF, detF, sgnC, sgn, wdM, wdR, keepC, List.range_succ, List.contains, List.elem]
  simp [entry, List.getD]
  simp only [e]
  grind
theorem exp_det (m : List (List Int)) (n : Nat) (h : n ≤ 4) : expF m n n [] = detF n m := by
  rcases (show n = 0 ∨ n = 1 ∨ n = 2 ∨ n = 3 ∨ n = 4 by omega) with rfl | rfl | rfl | rfl | rfl
  · rfl
  · exact exp_det1 m
  · exact exp_det2 m
  · exact exp_det3 m
  · exact exp_det4 m
end Go.Proofs.Ytlbgblkoddlhnaa
