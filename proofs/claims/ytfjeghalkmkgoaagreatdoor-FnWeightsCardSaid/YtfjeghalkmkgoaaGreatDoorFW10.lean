/-
  JoinCartans of the model: what the call returns.
  'copy' into a row of a matrix of the call's own.
-/
import Derived.Test.YtfjeghalkmkgoaaGreatDoorFW07
import Derived.Test.YtfjeghalkmkgoaaGreatDoorFW09
import Derived.Laws.CopyOwn
namespace Go.Proofs.YtfjeghalkmkgoaaGreatDoor
open Go.RowKit

def JoinOk (a b : List (List Int)) : Prop := IsC a ∧ IsC b ∧ a.length + b.length ≤ 4
open Classical in
noncomputable def joinB (a b : List (List Int)) : Bool := decide (JoinOk a b)
open Classical in
theorem joinB_yes {a b : List (List Int)} (h : JoinOk a b) : joinB a b = true := decide_eq_true h
open Classical in
theorem joinB_no {a b : List (List Int)} (h : ¬ JoinOk a b) : joinB a b = false := decide_eq_false h
def joinL (a b : List (List Int)) : List (List Int) := (a.map fun r => r ++ List.replicate b.length 0) ++ b.map fun r => List.replicate a.length 0 ++ r
noncomputable def joinM (a b : List (List Int)) : List (List Int) := if joinB a b = true then joinL a b else []
theorem joinM_yes {a b : List (List Int)} (h : JoinOk a b) : joinM a b = joinL a b := if_pos (joinB_yes h)
theorem joinM_no {a b : List (List Int)} (h : ¬ JoinOk a b) : joinM a b = [] := by unfold joinM; rw [joinB_no h]; rfl
theorem joinL_len (a b : List (List Int)) : (joinL a b).length = a.length + b.length := by simp [joinL]
theorem joinL_top (a b : List (List Int)) (k : Nat) (h : k < a.length) : (joinL a b).take k ++ [a.getD k [] ++ List.replicate b.length 0] = (joinL a b).take (k + 1) := by
  rw [getD_row a k h]
  rw [List.take_succ_eq_append_getElem (by rw [joinL_len]; omega)]
  congr 2
  unfold joinL
  rw [List.getElem_append_left (by simpa using h)]
  simp
theorem joinL_low (a b : List (List Int)) (k : Nat) (h : k < b.length) : (joinL a b).take (a.length + k) ++ [List.replicate a.length 0 ++ b.getD k []] = (joinL a b).take (a.length + (k + 1)) := by
  rw [getD_row b k h]
  rw [← Nat.add_assoc, List.take_succ_eq_append_getElem (by rw [joinL_len]; omega)]
  congr 2
  unfold joinL
  rw [List.getElem_append_right (by simp)]
  simp
theorem joinL_end (a b : List (List Int)) : (joinL a b).take (a.length + b.length) = joinL a b := List.take_of_length_le (by rw [joinL_len]; exact Nat.le_refl _)
theorem isC_row {m : List (List Int)} (h : IsC m) {k : Nat} (hk : k < m.length) : (m.getD k []).length = m.length := h.1 k hk
theorem ne_nil_of_len {l : List Int} (h : 0 < l.length) : l ≠ [] := fun e => by rw [e] at h; simp at h
theorem makesM2_nil {w w' : World} {x : Value} {m : List (List Int)} {c d : Bool} (hm : m = []) (hc : d = c) (h : MatI w.heap.size w'.heap.size w' x []) (hb : Below w.heap.size w w') : MakesM2 w m (.bool c) (.returned (.tuple #[x, .bool d])) w' :=
  ⟨x, by rw [hc], by rw [hm]; exact ⟨h, Nat.le_refl _⟩, hb⟩
/-- A row of a matrix: its header, read as a list. -/
theorem MatB.rowAt {B : Nat} {w : World} {a : Option Addr} {n cap : Nat} {m : List (List Int)} (h : MatB B w (.slice a n cap) m) {j : Nat} (hj : j < n) (hl : j < m.length) :
    ∃ b off ra rcap, a = some ⟨b, off, none⟩ ∧ b < B ∧ w.cell? ⟨b, off + j, none⟩ = some (.slice ra (m.getD j []).length rcap) ∧ RowB B w (.slice ra (m.getD j []).length rcap) (m.getD j []) := by
  rw [getD_row m j hl]
  obtain ⟨b, off, _, h1, h2, ra, rcap, h3, h4⟩ := h.get hj
  exact ⟨b, off, ra, rcap, h1, h2, h3, h4⟩

set_option maxHeartbeats 4000000 in
set_option maxRecDepth 100000 in
theorem jos_yes (B B' : Nat) (v v' : Value) (m m' : List (List Int)) (w : World) (h : MatB B w v m) (h' : MatB B' w v' m') (hB : B ≤ w.heap.size) (hB' : B' ≤ w.heap.size) (hf : RowsFit m) (hf' : RowsFit m') (hj : JoinOk m m') :
    Calls Tryz.prog 84 #[v, v'] w (MakesM2 w (joinL m m') (.bool true)) := by
  obtain ⟨a, cap, rfl⟩ := h.slice
  obtain ⟨a', cap', rfl⟩ := h'.slice
  have HR := Lib.hid h; clear h
  have HR' := Lib.hid h'; clear h'
  have HF := Lib.hid hf; clear hf
  have HF' := Lib.hid hf'; clear hf'
  obtain ⟨hc1, hc2, h4⟩ := hj
  have h1 := hc1.2.2.1
  have h1' := hc2.2.2.1
  have HC := Lib.hid (isB_yes hc1)
  have HC' := Lib.hid (isB_yes hc2)
  have HROW := Lib.hid (fun (k : Nat) (hk : k < m.length) => isC_row hc1 hk)
  have HROW' := Lib.hid (fun (k : Nat) (hk : k < m'.length) => isC_row hc2 hk)
  have HTOP := Lib.hid (joinL_top m m')
  have HLOW := Lib.hid (joinL_low m m')
  have HEND := Lib.hid (joinL_end m m')
  have HLEN := Lib.hid (joinL_len m m')
  clear hc1 hc2
  generalize hn : m.length = n at *
  generalize hn' : m'.length = n' at *
  generalize hJ : joinL m m' = J at *
  have HN := Lib.hid hn; clear hn
  have HN' := Lib.hid hn'; clear hn'
  clear hJ
  go_enter Tryz.func84, Tryz.ntmps84
  go_wp2_with fail
  refine (isc_w B _ m true HC.out _ HR.out HF.out).mono ?_
  rintro e w1 ⟨rfl, hb1⟩
  have HB1 := Lib.hid hb1
  have hs1 := hb1.size
  clear hb1
  go_wp2_with fail
  refine (isc_w B' _ m' true HC'.out _ (HR'.out.below HB1.out hB') HF'.out).mono ?_
  rintro e w2 ⟨rfl, hb2⟩
  have HB2 := Lib.hid (HB1.out.trans (hb2.mono hs1))
  clear hb2
  have hd : decide (4 < (n : Int) + n') = false := decide_eq_false (by omega)
  go_wp2_with fail
  clear hd
  have hs2 := HB2.out.size
  go_loopw [6, 7] (fun o i wr => ∃ (k : Nat) (wq : World), wq = wr ∧ k ≤ n ∧ i = .int .i64 k ∧ MatI w.heap.size wq.heap.size wq o (J.take k) ∧ Below w.heap.size w wq) (fun _ i _ => n - (intOf i).toNat)
  case atStart => exact ⟨0, _, rfl, Nat.zero_le _, rfl, (mat_empty w2).mono hs2 (Nat.le_refl _), HB2.out.alloc hs2 _⟩
  case round =>
    obtain ⟨k, wq, rfl, hk, rfl, hM, hb⟩ := hrel
    have HM := Lib.hid hM; clear hM
    have HB := Lib.hid hb
    have hsq := hb.size
    clear hb
    by_cases hlt : k < n
    · have hkl : k < m.length := by rw [HN.out]; exact hlt
      obtain ⟨b, off, ra, rcap, rfl, hbB, hcell, hrow⟩ := (HR.out.below HB.out hB).rowAt hlt hkl
      have hrl : (m.getD k []).length = n := HROW.out k hlt
      rw [hrl] at hcell hrow
      have HTK := Lib.hid (HTOP.out k hlt)
      have hlk : (J.take k).length ≤ 1048576 := by rw [List.length_take]; have := HLEN.out; omega
      have HLK := Lib.hid hlk; clear hlk
      generalize m.getD k [] = r at *
      have hrow1 : RowB B (wq.alloc (.cells #[] 3)) (.slice ra n rcap) r := hrow.below ((Below.refl w.heap.size wq).alloc hsq _) hB
      have HRL := Lib.hid hrl; clear hrl
      have HROW1 := Lib.hid hrow1; clear hrow1 hrow
      have hne : r ≠ [] := ne_nil_of_len (by rw [HRL.out]; omega)
      have HNE := Lib.hid hne; clear hne
      have hq1 : wq.heap.size ≤ (wq.alloc (.cells #[] 3)).heap.size := by simp
      have hcell' : (wq.alloc (.cells #[] 3)).cell? ⟨b, off + k, none⟩ = some (.slice ra n rcap) := by
        rw [World.cell?_alloc_past _ _ _ (by show b < _; omega)]; exact hcell
      have hlen2 : ([] : List Int).length + r.length ≤ 4194304 := by rw [HRL.out]; simp; omega
      have HLEN2 := Lib.hid hlen2; clear hlen2
      go_wp2_with (at_builtin; go_must (refine append_ints (row_empty wq) hq1 HROW1.out HNE.out HLEN2.out rfl rfl rfl rfl ?_))
      intro v3 w3 hr3 hb3 hz3
      have hb3' := hb3 wq wq.heap.size (Nat.le_refl _) ((Below.refl _ _).alloc (Nat.le_refl _) _)
      have HB3 := Lib.hid hb3'
      have hs3 := hb3'.size
      have HR3 := Lib.hid hr3
      clear hb3 hz3 hr3 hb3' hcell hcell'
      have hlen3 : r.length + n' ≤ 4194304 := by rw [HRL.out]; omega
      have HLEN3 := Lib.hid hlen3; clear hlen3
      go_wp2_with (at_builtin; go_must (refine append_zeros HR3.out hs3 HNE.out n' (by omega) HLEN3.out rfl rfl rfl rfl ?_))
      intro v4 w4 hr4 hb4 hz4
      have hb4' := hb4 wq wq.heap.size (Nat.le_refl _) HB3.out
      have HB4 := Lib.hid hb4'
      have hs4 := hb4'.size
      obtain ⟨xa, xn, xc, rfl⟩ := hr4.slice3
      have HR4 := Lib.hid hr4
      have HM4 := Lib.hid ((HM.out.same (SameIn.of_below hb4' (Nat.le_refl _))))
      clear hb4 hz4 hr4 hb4'
      go_wp2_with (at_builtin; go_must (refine append_row HM4.out HR4.out hsq hs4 rfl rfl rfl rfl HLK.out ?_))
      intro v5 w5 hm5 hb5 hz5
      rw [HTK.out] at hm5
      have HM5 := Lib.hid hm5
      have HB5 := Lib.hid (hb5 w w.heap.size (Nat.le_refl _) (HB.out.trans (HB4.out.mono hsq)))
      clear hb5 hz5 hm5
      go_wp2_with fail
      exact ⟨⟨k + 1, _, rfl, by omega, by go_num, HM5.out, HB5.out⟩, by simp [intOf]; omega⟩
    · obtain rfl : k = n := by omega
      go_wp2_with fail
      go_loopw [6, 8] (fun o i wr => ∃ (j : Nat) (wq : World), wq = wr ∧ j ≤ n' ∧ i = .int .i64 j ∧ MatI w.heap.size wq.heap.size wq o (J.take (k + j)) ∧ Below w.heap.size w wq) (fun _ i _ => n' - (intOf i).toNat)
      case atStart => exact ⟨0, _, rfl, Nat.zero_le _, rfl, HM.out, HB.out⟩
      case round =>
        clear HM HB hsq
        clear wq
        obtain ⟨j, wq, rfl, hj, rfl, hM, hb⟩ := hrel
        have HM := Lib.hid hM; clear hM
        have HB := Lib.hid hb
        have hsq := hb.size
        clear hb
        by_cases hjt : j < n'
        · have hkl : j < m'.length := by rw [HN'.out]; exact hjt
          obtain ⟨b, off, ra, rcap, rfl, hbB, hcell, hrow⟩ := (HR'.out.below HB.out hB').rowAt hjt hkl
          have hrl : (m'.getD j []).length = n' := HROW'.out j hjt
          rw [hrl] at hcell hrow
          have HTK := Lib.hid (HLOW.out j hjt)
          have hlk : (J.take (k + j)).length ≤ 1048576 := by rw [List.length_take]; have := HLEN.out; omega
          have HLK := Lib.hid hlk; clear hlk
          generalize m'.getD j [] = r at *
          have HRL := Lib.hid hrl; clear hrl
          have HROW1 := Lib.hid hrow; clear hrow
          have hne : r ≠ [] := ne_nil_of_len (by rw [HRL.out]; omega)
          have HNE := Lib.hid hne; clear hne
          have hmk := makeInts k (by omega)
          have hcell' : (wq.alloc (.cells (intsV (zerosR k)).toArray 3)).cell? ⟨b, off + j, none⟩ = some (.slice ra n' rcap) := by
            rw [World.cell?_alloc_past _ _ _ (by show b < _; omega)]; exact hcell
          have hr0 : RowI wq.heap.size (wq.alloc (.cells (intsV (zerosR k)).toArray 3)).drew.heap.size (wq.alloc (.cells (intsV (zerosR k)).toArray 3)).drew (.slice (some ⟨wq.heap.size, 0, none⟩) k k) (zerosR k) := row_made wq k (by omega)
          have hb0 : Below wq.heap.size wq (wq.alloc (.cells (intsV (zerosR k)).toArray 3)).drew := ((Below.refl _ _).alloc (Nat.le_refl _) _).drew
          have hs0 : RowB B' (wq.alloc (.cells (intsV (zerosR k)).toArray 3)).drew (.slice ra n' rcap) r := HROW1.out.below hb0 (by omega)
          have hlen0 : (zerosR k).length + r.length ≤ 4194304 := by rw [HRL.out, zerosR_len]; omega
          have hq0 : wq.heap.size ≤ (wq.alloc (.cells (intsV (zerosR k)).toArray 3)).drew.heap.size := hb0.size
          have HR0 := Lib.hid hr0
          have HB0 := Lib.hid hb0
          have HS0 := Lib.hid hs0
          have HLEN0 := Lib.hid hlen0
          clear hr0 hb0 hs0 hlen0
          go_wp2_with fail
          go_region_law (first
            | (refine step_ints HR0.out hq0 HS0.out HNE.out HLEN0.out rfl rfl rfl rfl ?_; intro v3 w3 hr3 hb3 hz3; obtain ⟨xa, xn, xc, rfl⟩ := hr3.slice3; have HR3 := Lib.hid hr3; clear hr3)
            | (refine step_row (A := w.heap.size) (B := wq.heap.size) (C := w3.heap.size) (mat_behind HM.out HB0.out hb3 _) (HR3.out.alloc _) hsq (by have := (hb3 wq wq.heap.size (Nat.le_refl _) HB0.out).size; simp; omega) (by simp) (MapKept.heap_alloc w3 _).1 HLK.out rfl rfl rfl rfl ?_; intro v5 w5 hm5 hb5 hz5))
          all_goals
            have hb6 := hb3 wq wq.heap.size (Nat.le_refl _) HB0.out
            have HB6 := Lib.hid (hb5 w w.heap.size (Nat.le_refl _) ((HB.out.trans (hb6.mono hsq)).alloc (Nat.le_trans hsq hb6.size) _))
            have hm6 : MatI w.heap.size w5.heap.size w5 v5 (J.take (k + (j + 1))) := by rw [← HTK.out]; exact hm5
            have HM6 := Lib.hid hm6
            clear hb3 hz3 hb5 hz5 hm5 hb6 hm6
            go_wp2_with fail
            exact ⟨⟨j + 1, _, rfl, by omega, by go_num, HM6.out, HB6.out⟩, by simp [intOf]; omega⟩
        · obtain rfl : j = n' := by omega
          have hM := HM.out
          rw [HEND.out] at hM
          have HM2 := Lib.hid hM
          clear hM
          go_wp2_with fail
          go_ret2
          exact ⟨_, rfl, ⟨HM2.out, Nat.le_refl _⟩, HB.out⟩

set_option maxHeartbeats 2000000 in
set_option maxRecDepth 100000 in
theorem jos_no (B B' : Nat) (v v' : Value) (m m' : List (List Int)) (w : World) (h : MatB B w v m) (h' : MatB B' w v' m') (_hB : B ≤ w.heap.size) (hB' : B' ≤ w.heap.size) (hf : RowsFit m) (hf' : RowsFit m') (hj : ¬ JoinOk m m') :
    Calls Tryz.prog 84 #[v, v'] w (MakesM2 w [] (.bool false)) := by
  obtain ⟨a, cap, rfl⟩ := h.slice
  obtain ⟨a', cap', rfl⟩ := h'.slice
  have hl := hf.1
  have hl' := hf'.1
  have HR := Lib.hid h; clear h
  have HR' := Lib.hid h'; clear h'
  have HF := Lib.hid hf; clear hf
  have HF' := Lib.hid hf'; clear hf'
  unfold maxLen at hl hl'
  by_cases hc : IsC m
  · have HC := Lib.hid (isB_yes hc)
    by_cases hc' : IsC m'
    · have HC' := Lib.hid (isB_yes hc')
      have h4 : ¬ m.length + m'.length ≤ 4 := fun h => hj ⟨hc, hc', h⟩
      have h5 := hc.2.2.2
      have h6 := hc'.2.2.2
      clear hj hc hc'
      generalize m.length = n at *
      generalize m'.length = n' at *
      have hd : decide (4 < (n : Int) + n') = true := decide_eq_true (by omega)
      go_enter Tryz.func84, Tryz.ntmps84
      go_wp2_with fail
      refine (isc_w B _ m true HC.out _ HR.out HF.out).mono ?_
      rintro e w1 ⟨rfl, hb1⟩
      have HB1 := Lib.hid hb1
      clear hb1
      go_wp2_with fail
      refine (isc_w B' _ m' true HC'.out _ (HR'.out.below HB1.out hB') HF'.out).mono ?_
      rintro e w2 ⟨rfl, hb2⟩
      have HB2 := Lib.hid (HB1.out.trans (hb2.mono HB1.out.size))
      clear hb2
      go_wp2_with fail
      go_ret2
      exact ⟨_, rfl, ⟨(mat_empty w2).mono HB2.out.size (Nat.le_refl _), Nat.le_refl _⟩, HB2.out.alloc HB2.out.size _⟩
    · have HC' := Lib.hid (isB_no hc')
      clear hj hc hc'
      generalize m.length = n at *
      generalize m'.length = n' at *
      go_enter Tryz.func84, Tryz.ntmps84
      go_wp2_with fail
      refine (isc_w B _ m true HC.out _ HR.out HF.out).mono ?_
      rintro e w1 ⟨rfl, hb1⟩
      have HB1 := Lib.hid hb1
      clear hb1
      go_wp2_with fail
      refine (isc_w B' _ m' false HC'.out _ (HR'.out.below HB1.out hB') HF'.out).mono ?_
      rintro e w2 ⟨rfl, hb2⟩
      have HB2 := Lib.hid (HB1.out.trans (hb2.mono HB1.out.size))
      clear hb2
      go_wp2_with fail
      go_ret2
      exact ⟨_, rfl, ⟨(mat_empty w2).mono HB2.out.size (Nat.le_refl _), Nat.le_refl _⟩, HB2.out.alloc HB2.out.size _⟩
  · have HC := Lib.hid (isB_no hc)
    clear hj hc
    generalize m.length = n at *
    generalize m'.length = n' at *
    go_enter Tryz.func84, Tryz.ntmps84
    go_wp2_with fail
    refine (isc_w B _ m false HC.out _ HR.out HF.out).mono ?_
    rintro e w2 ⟨rfl, hb2⟩
    have HB2 := Lib.hid hb2
    clear hb2
    go_wp2_with fail
    go_ret2
    exact ⟨_, rfl, ⟨(mat_empty w2).mono HB2.out.size (Nat.le_refl _), Nat.le_refl _⟩, HB2.out.alloc HB2.out.size _⟩

theorem jos_any (B B' : Nat) (v v' : Value) (m m' : List (List Int)) (w : World) (h : MatB B w v m) (h' : MatB B' w v' m') (hB : B ≤ w.heap.size) (hB' : B' ≤ w.heap.size) (hf : RowsFit m) (hf' : RowsFit m') :
    Calls Tryz.prog 84 #[v, v'] w (MakesM2 w (joinM m m') (.bool (joinB m m'))) := by
  by_cases hj : JoinOk m m'
  · rw [joinM_yes hj, joinB_yes hj]
    exact jos_yes B B' v v' m m' w h h' hB hB' hf hf' hj
  · rw [joinM_no hj, joinB_no hj]
    exact jos_no B B' v v' m m' w h h' hB hB' hf hf' hj
end Go.Proofs.YtfjeghalkmkgoaaGreatDoor
namespace Go.Proofs.YtfjeghalkmkgoaaGreatDoor
open Go.RowKit

def spl (l : List Int) (c : Nat) (l2 : List Int) : List Int := l.take c ++ l2 ++ l.drop (c + l2.length)
theorem spl_len (l : List Int) (c : Nat) (l2 : List Int) (h : c + l2.length ≤ l.length) : (spl l c l2).length = l.length := by simp [spl]; omega
theorem spl_take {α : Type} (cur : List α) (n c : Nat) (cs : List α) (hn : n ≤ cur.length) (hc : c + cs.length ≤ n) :
    (cur.take c ++ cs ++ cur.drop (c + cs.length)).take n = (cur.take n).take c ++ cs ++ (cur.take n).drop (c + cs.length) := by
  have h1 : (cur.take n).take c = cur.take c := by rw [List.take_take, Nat.min_eq_left (by omega)]
  rw [h1, List.take_append, List.take_of_length_le (by simp; omega)]
  congr 1
  rw [List.drop_take]
  congr 1
  simp
  omega

/-- What is known of the block of row j, for a copy into it. -/
def CopyTo (A B : Nat) (w : World) (v : Value) (m : List (List Int)) (j r : Nat) : Prop :=
  ∃ rcur : Array Value, w.heap[r]? = some (.cells rcur 3 (0, 0)) ∧ (m.getD j []).length ≤ rcur.size ∧
    ∀ (c : Nat) (l2 : List Int), c + l2.length ≤ (m.getD j []).length → MatI A B (w.setRow r (rcur.toList.take c ++ intsV l2 ++ rcur.toList.drop (c + l2.length)).toArray) v (m.set j (spl (m.getD j []) c l2))

theorem MatI.copyTo {A B : Nat} {w : World} {a : Option Addr} {n cap : Nat} {m : List (List Int)} (h : MatI A B w (.slice a n cap) m) {j : Nat} (hj : j < m.length) (h0 : 0 < (m.getD j []).length) :
    ∃ g r rcap, a = some ⟨g, 0, none⟩ ∧ w.cell? ⟨g, j, none⟩ = some (.slice (some ⟨r, 0, none⟩) (m.getD j []).length rcap) ∧ (m.getD j []).length ≤ rcap ∧ A ≤ r ∧ CopyTo A B w (.slice a n cap) m j r := by
  obtain ⟨hs, h1, h2, h3, h4⟩ := h
  have hgd : m.getD j [] = m[j] := by simp [List.getD, hj]
  unfold CopyTo
  rw [hgd] at h0 ⊢
  obtain ⟨hv, h5, h6⟩ := h3 j hj
  rcases h1.2 with ⟨hnil, hz⟩ | ⟨g, cap', cur, hval, hA, hg, _⟩
  · omega
  have ha : a = some ⟨g, 0, none⟩ := by injection hval
  have hn : n = m.length := by injection hval
  subst ha
  subst hn
  rcases h6.1.2 with ⟨_, hz⟩ | ⟨r, rcap, rcur, rfl, hrA, hrg, hrn, hrm, hrs, hrt⟩
  · omega
  simp only [Nat.mul_one] at hrs hrt
  refine ⟨g, r, rcap, rfl, by rw [h1.cellAt j (by omega)]; exact h5, hrn, hrA, rcur, hrg, by omega, fun c l2 hc => ?_⟩
  have hgr : w.grownBy (w.setRow r (rcur.toList.take c ++ intsV l2 ++ rcur.toList.drop (c + l2.length)).toArray) (some r) := ⟨rfl, rfl, rfl, by simp, fun k _ hk => setRow_other w r k _ (fun e => hk (by simp [e]))⟩
  have hrow : RowI A B (w.setRow r (rcur.toList.take c ++ intsV l2 ++ rcur.toList.drop (c + l2.length)).toArray) (.slice (some ⟨r, 0, none⟩) m[j].length rcap) (spl m[j] c l2) := by
    have hl := spl_len m[j] c l2 hc
    refine ⟨?_, h6.2⟩
    rw [hl]
    refine ⟨by rw [intsV_len, hl]; omega, Or.inr ⟨r, rcap, _, rfl, hrA, setRow_heap w r rcur _ 3 _ hrg, hrn, hrm, ?_, ?_⟩⟩
    · have hcl : c + l2.length ≤ rcur.size := by omega
      simp [intsV_len]; omega
    · rw [Nat.mul_one]
      have hcc : c + (intsV l2).length ≤ m[j].length := by rw [intsV_len]; exact hc
      have hst := spl_take rcur.toList m[j].length c (intsV l2) (by simp; omega) hcc
      rw [intsV_len] at hst
      rw [hst, hrt]
      simp [spl, intsV, List.map_take, List.map_drop]
  have hl := show (m.set j (spl m[j] c l2)).length = m.length by simp
  have h7 := mat_row (m' := m.set j (spl m[j] c l2)) h1 h3 h4 h5 hgr hl (by rw [hgd]; exact h6.1) (fun hj' => by
    rw [List.getElem_set_self]; exact hrow) (fun i hi hne => ⟨by rw [hl]; exact hi, by rw [List.getElem_set_ne (fun e => hne e.symm)]⟩)
  exact ⟨hs, h7.1, h2, h7.2, h4⟩

theorem copy_row {ops : Array Oper} {rest : List Oper} {o : Oper} {a : Act} {Q : Exit → Act → World → Prop} {d s : Operand} {A B B' : Nat} {w : World} {v xv : Value} {m : List (List Int)} {j r : Nat} {l2 : List Int}
    (hC : CopyTo A B w v m j r) (hA : A ≤ r) (hr : RowB B' w xv l2) (h0 : l2 ≠ []) (c dLen dCap : Nat) (hc : c + l2.length ≤ (m.getD j []).length) (hm : l2.length ≤ dLen) {m2 : List (List Int)} (h2 : m.set j (spl (m.getD j []) c l2) = m2) (hgd : o.guard = none)
    (ho : o.op = .call { callee := .builtin .copy, args := #[d, s], argTypes := #[25, 25] }) (hd : a.eval d = .slice (some ⟨r, c, none⟩) dLen dCap) (hs : a.eval s = xv)
    (h : ∀ w', MatI A B w' v m2 → (∀ W C, C ≤ A → Below C W w → Below C W w') → w'.heap.size = w.heap.size → wpList Tryz.prog ops Q rest (a.put o.dst (goInt l2.length)) w') :
    wpList Tryz.prog ops Q (o :: rest) a w := by
  subst h2
  obtain ⟨rcur, h1, h2, h3⟩ := hC
  rcases hr with ⟨h', _⟩ | ⟨b, off, cap, rfl, hb, hcell⟩
  · exact absurd h' h0
  have hcs : (intsV l2).length = l2.length := intsV_len l2
  refine wpList_copy_own hgd d s 25 25 ho 3 Tryz.underlying25 (by kernel_rfl) r c dLen dCap ⟨b, off, none⟩ l2.length cap hd hs rcur 3 h1 (intsV l2) (by rw [hcs]; exact (Nat.min_eq_left hm).symm) (fun k u hu => ?_) (by rw [hcs]; omega) (fun u hu => ?_) ?_
  · have hk : k < l2.length := by have := (List.getElem?_eq_some_iff.1 hu).1; rwa [hcs] at this
    rw [Addr.add_lit, hcell k hk, ← hu]
    simp [intsV, hk]
  · obtain ⟨n, _, rfl⟩ := List.mem_map.1 hu
    rfl
  · rw [hcs]
    have h4 := h3 c l2 hc
    rw [List.append_assoc] at h4
    exact h _ h4 (fun W C hC hb => below_setRow hb (by omega) _) (by simp)
end Go.Proofs.YtfjeghalkmkgoaaGreatDoor
