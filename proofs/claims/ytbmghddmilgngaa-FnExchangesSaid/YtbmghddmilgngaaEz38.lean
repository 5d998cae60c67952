/-
  l2Any: a drawn matrix that may be spoilt in a row.
  What the draws leave alone: rows and matrices of the call's own.
  The draws of words.
-/
import Derived.Deep.RegionHeld3
import Derived.Test.YtbmghddmilgngaaEz37
import Derived.Test.YtbmghddmilgngaaEz15
namespace Go.Proofs.Ytbmghddmilgngaa
open Go.RowKit

/-- What a call that draws any matrix leaves. -/
def DrK (B C : Nat) (cv : Value) (len : Nat) (w : World) (e : Ending) (w' : World) : Prop :=
  ∃ x m, e = .returned x ∧ DrTo B C cv len w w' ∧ OwnK w.heap.size w'.heap.size w' x m ∧ AnyM m

theorem MatI.hd {A B : Nat} {w : World} {a : Option Addr} {n cap : Nat} {m : List (List Int)} (h : MatI A B w (.slice a n cap) m) {j k : Nat} (hj : j < m.length) (hk : (m.getD j []).length = k) (h0 : 0 < k) :
    ∃ g r rcap, a = some ⟨g, 0, none⟩ ∧ w.cell? ⟨g, j, none⟩ = some (.slice (some ⟨r, 0, none⟩) k rcap) ∧ RowI A B w (.slice (some ⟨r, 0, none⟩) k rcap) (m.getD j []) ∧ r ≠ g := by
  obtain ⟨hs, h1, h2, h3, _⟩ := h
  obtain ⟨hv, h4, h5⟩ := h3 j hj
  rw [← getD_row m j hj] at h5
  rcases h1.2 with ⟨_, he⟩ | ⟨g, cap', cur, hval, _⟩
  · omega
  · have ha : a = some ⟨g, 0, none⟩ := by injection hval
    have hn : n = m.length := by injection hval
    subst ha
    subst hn
    rcases h5.1.2 with ⟨_, hz⟩ | ⟨r, rcap, rcur, rfl, _⟩
    · omega
    · subst hk
      exact ⟨g, r, rcap, rfl, by rw [h1.cellAt j (by omega)]; exact h4, h5, fun e => by
        rcases own_other h5.1 h1 with h | h
        · cases h
        · exact h (by rw [e]; rfl)⟩

theorem RowI.someRow {A B : Nat} {w : World} {v : Value} {l : List Int} {k : Nat} (h : RowI A B w v l) (hl : l.length = k) (h0 : 0 < k) : ∃ q cap, v = .slice (some ⟨q, 0, none⟩) k cap ∧ A ≤ q ∧ q < B := by
  rcases h.1.2 with ⟨_, hz⟩ | ⟨r, rcap, rcur, rfl, hA, _⟩
  · omega
  · exact ⟨r, rcap, by rw [hl], hA, h.2 r rfl⟩
theorem DrTo.past {B C : Nat} {cv : Value} {len : Nat} {w w' w'' : World} (h : DrTo B C cv len w w') (hb : Below w.heap.size w' w'') (hC : C < w.heap.size) : DrTo B C cv len w w'' :=
  ⟨h.1.below hb hC, hb.os.trans h.2.os, hb.tape.trans h.2.tape, hb.output.trans h.2.output, Nat.le_trans h.2.size hb.size, fun k hk hn => (hb.block k hk).trans (h.2.block k hk hn)⟩
theorem set_getD (m : List (List Int)) (i : Nat) : m.set i (m.getD i []) = m := by
  by_cases h : i < m.length
  · rw [getD_row m i h]; exact List.set_getElem_self h
  · rw [List.set_eq_of_length_le (by omega)]

theorem any_set {m : List (List Int)} (h : AnyM m) (i : Nat) {l : List Int} (hl : l.length ≤ 4) : AnyM (m.set i l) := ⟨by rw [List.length_set]; exact h.1, fun j hj => by
  rw [List.length_set] at hj
  by_cases he : i = j
  · subst he
    rw [List.getElem_set_self]
    exact hl
  · rw [List.getElem_set_ne he]
    exact h.2.1 j hj, by rw [List.length_set]; exact h.2.2⟩
theorem any_app {m : List (List Int)} (h : AnyM m) (hm : m.length ≤ 4) {l : List Int} (hl : l.length ≤ 4) : AnyM (m ++ [l]) := ⟨by simp; omega, fun j hj => by
  by_cases he : j < m.length
  · rw [List.getElem_append_left he]; exact h.2.1 j he
  · rw [List.getElem_append_right (by omega)]; simp; exact hl, by simp⟩
theorem row_two (w : World) : RowI w.heap.size (w.alloc (.cells #[.int .i64 2] 3)).heap.size (w.alloc (.cells #[.int .i64 2] 3)) (.slice (some ⟨w.heap.size, 0, none⟩) 1 1) [2] :=
  ⟨World.ownsRow_lit w #[.int .i64 2] 1 (Nat.le_refl _) (by unfold maxLen; omega) rfl, fun g hg => by
    have : w.heap.size = g := by simpa [Value.ownBlock] using hg
    simp; omega⟩
/-- The row without its first number, as the code leaves its header. -/
theorem RowI.cut {A B C : Nat} {w : World} {r n cap : Nat} {l : List Int} (h : RowI A B w (.slice (some ⟨r, 0, none⟩) n cap) l) (hn : l.length = n) (h1 : 1 ≤ n) (hBC : B ≤ C) :
    ∃ rv, (∀ g cur w' w'', w.heap[g]? = some (.cells cur 25 (0, 0)) → w.grownBy w' (some g) → SameIn A C w' w'' → RowB C w'' rv (l.drop 1)) ∧
      (cap = 1 → rv = .slice (some ⟨r, 0, none⟩) (n - 1) 0) ∧ (cap ≠ 1 → rv = .slice (some ⟨r, 1, none⟩) (n - 1) (cap - 1)) := by
  by_cases hc : cap = 1
  · have hn1 : n ≤ cap := by
      rcases h.1.2 with ⟨e, _⟩ | ⟨g, c, cur, e, _, _, hle, _⟩
      · cases e
      · injection e with _ e2 e3
        omega
    refine ⟨.slice (some ⟨r, 0, none⟩) (n - 1) 0, fun g cur w' w'' hg hgr hsm => Or.inl ⟨List.eq_nil_of_length_eq_zero (by rw [List.length_drop]; omega), some ⟨r, 0, none⟩, 0, by rw [show n - 1 = 0 by omega]⟩, fun _ => rfl, fun h => absurd hc h⟩
  · exact ⟨.slice (some ⟨r, 1, none⟩) (n - 1) (cap - 1), fun g cur w' w'' hg hgr hsm => (((h.past hg hgr).mono (Nat.le_refl _) hBC).same hsm).tail _, fun e => absurd e hc, fun _ => rfl⟩

set_option maxHeartbeats 1000000 in
set_option maxRecDepth 100000 in
theorem any_any (B C : Nat) (w : World) (cv : Value) (len : Nat) (hd : Dr B C cv len w) :
    Calls Try.prog 64 #[.pointer (some ⟨C, 0, none⟩)] w (DrK B C cv len w) := by
  have hCw := hd.lt
  have HO := Lib.hid (drw_any B C w cv len hd)
  clear hd
  go_enter Try.func64, Try.ntmps64
  go_wp2_with fail
  refine HO.out.mono ?_
  rintro e w1 ⟨x, m, rfl, hd1, hx, hsq⟩
  clear HO
  have HW1 := Lib.hid hd1
  have hs1 := hd1.2.size
  obtain ⟨xa, xcap, rfl⟩ := hx.1.slice
  have HX := Lib.hid hx
  have HSQ := Lib.hid hsq
  have hn1 := hsq.2.1
  have hn4 := hsq.2.2
  clear hd1 hx hsq
  generalize hn : m.length = n at *
  have HN := Lib.hid hn; clear hn
  go_wp2_with fail
  refine (once_any B C _ cv len 12 (by omega) (by omega) HW1.out.1).mono ?_
  rintro e w2 ⟨b, rfl, hd⟩
  have HW2 := Lib.hid (HW1.out.trans hd)
  have HX2 := Lib.hid (HX.out.drawn (by omega) hd)
  have hs2 := hd.2.size
  clear hd HW1 HX
  cases b with
  | false =>
    go_wp2_with fail
    go_ret
    exact ⟨_, m, rfl, HW2.out, (OwnM.ownK ⟨HX2.out.1.mono (Nat.le_refl _) hs2, Nat.le_refl _⟩), sq_any HSQ.out⟩
  | true =>
    go_wp2_with fail
    refine (below_any B C _ cv len n hn1 (by omega) HW2.out.1).mono ?_
    rintro e w3 ⟨i, hi, rfl, hd⟩
    have HW3 := Lib.hid (HW2.out.trans hd)
    have HX3 := Lib.hid (HX2.out.drawn (by omega) hd)
    have hs3 := hd.2.size
    clear hd HW2 HX2
    have hi' : i < m.length := by rw [HN.out]; exact hi
    have hlen : (m.getD i []).length = n := by rw [← HN.out]; exact HSQ.out.1 i hi'
    obtain ⟨g, r, rcap, rfl, hc, hr, _⟩ := HX3.out.1.hd hi' hlen (by omega)
    have HR := Lib.hid hr
    have HC3 := Lib.hid hc
    have HI := Lib.hid hi'
    have HL := Lib.hid hlen
    have hc' : (w3.alloc (.cells #[] 3)).cell? ⟨g, i, none⟩ = some (.slice (some ⟨r, 0, none⟩) n rcap) := by
      rw [World.cell?_alloc_past _ _ _ (by simpa using World.block_lt_of_cell? w3 _ hc)]; exact hc
    have hb0 : Below w3.heap.size w3 (w3.alloc (.cells #[] 3)) := (Below.refl _ _).alloc (Nat.le_refl _) _
    have HE := Lib.hid (row_empty w3)
    have HB0 := Lib.hid hb0
    have HRA := Lib.hid (hr.rowB.mono (Nat.le_trans (Nat.le_trans hs2 hs3) (Nat.le_refl _)) |>.below hb0 (Nat.le_refl _))
    clear hr hc hi' hlen hb0
    go_wp2_with (with_reducible refine append_all (o := ⟨some 20, _, _, _, _, _⟩) r 0 n rcap HE.out (by simp) HRA.out HL.out rfl rfl rfl rfl (by simp; omega) ?_)
    intro v' w5 hv0 hg hat
    have hv : RowI w3.heap.size w5.heap.size w5 v' (m.getD i []) := by rw [List.getD_eq_getElem?_getD]; exact hv0
    have hb5 : Below w3.heap.size w3 w5 := HB0.out.grown hg (by simp) (fun k hk => by simp [Value.ownBlock] at hk; omega)
    have hs5 := hb5.size
    have hX5 : OwnM w.heap.size w1.heap.size w5 (.slice (some ⟨g, 0, none⟩) n xcap) m := ⟨HX3.out.1.same (SameIn.of_below hb5 (by omega)), by omega⟩
    obtain ⟨q, qcap, rfl, hq1, hq2⟩ := hv.someRow HL.out (by omega)
    obtain ⟨g', hg', hfr, hg1, hg2, hgr, hM⟩ := (hX5.1.mono (Nat.le_refl _) (by omega) : MatI w.heap.size w3.heap.size w5 _ m).hdr HI.out hv (by omega) hb5.size
    have hge : g = g' := by injection hg' with e; injection e
    subst hge
    rw [set_getD] at hM
    have hcell : w5.cell? ⟨g, i, none⟩ = some (.slice (some ⟨r, 0, none⟩) n rcap) := by
      have : w5.heap[g]? = w3.heap[g]? := hb5.block g (by omega)
      rw [← HC3.out]
      unfold World.cell?
      simp [this]
    have hbs : Below w.heap.size w3 (w5.setCell ⟨g, i, none⟩ (.slice (some ⟨q, 0, none⟩) n qcap)) := ((hb5.mono (by omega) : Below w.heap.size w3 w5)).setCell hg1 _
    have HW6 := Lib.hid (HW3.out.past hbs hCw)
    have HX6 := Lib.hid (show OwnM w.heap.size w5.heap.size _ _ m from ⟨hM, by simp⟩)
    have hs6 : w5.heap.size = (w5.setCell ⟨g, i, none⟩ (.slice (some ⟨q, 0, none⟩) n qcap)).heap.size := by simp
    clear hb5 hg hat hv hv0 hX5 hgr hM hbs HW3 HX3 HR HRA HE HB0 HC3 hc'
    generalize hw6 : w5.setCell ⟨g, i, none⟩ (.slice (some ⟨q, 0, none⟩) n qcap) = w6 at *
    go_wp2_with fail
    clear hw6 hcell hfr
    refine (below_any B C _ cv len 3 (by omega) (by omega) HW6.out.1).mono ?_
    rintro e w7 ⟨d, hd3, rfl, hd⟩
    have HW7 := Lib.hid (HW6.out.trans hd)
    have HX7 := Lib.hid (HX6.out.drawn (by omega) hd)
    have hs7 := hd.2.size
    clear hd HW6 HX6
    obtain ⟨g', r', rcap', hg', hc, hr, hne⟩ := HX7.out.1.hd HI.out HL.out (by omega)
    have hge : g = g' := by injection hg' with e; injection e
    subst hge
    clear hg'
    have HR := Lib.hid hr
    clear hr
    have hd3 : d = 0 ∨ d = 1 ∨ d = 2 := by omega
    rcases hd3 with rfl | rfl | rfl
    · have hba : Below w7.heap.size w7 (w7.drew.alloc (.cells #[.int .i64 (-4), .int .i64 1, .int .i64 0, .int .i64 2] 3)) := (Below.refl _ _).drew.alloc (Nat.le_refl _) _
      have hg7 : g < w7.heap.size := by omega
      have hcA : (w7.drew.alloc (.cells #[.int .i64 (-4), .int .i64 1, .int .i64 0, .int .i64 2] 3)).cell? ⟨g, i, none⟩ = some (.slice (some ⟨r', 0, none⟩) n rcap') := by
        rw [hba.cell hg7]; exact hc
      have hcD : w7.drew.cell? ⟨g, i, none⟩ = some (.slice (some ⟨r', 0, none⟩) n rcap') := hc
      have HXA := Lib.hid (show OwnM w.heap.size w5.heap.size (w7.drew.alloc (.cells #[.int .i64 (-4), .int .i64 1, .int .i64 0, .int .i64 2] 3)) (.slice (some ⟨g, 0, none⟩) n xcap) m from ⟨HX7.out.1.same (SameIn.of_below hba (by omega)), by simp; omega⟩)
      have HDA := Lib.hid (HW7.out.past (hba.mono (by omega)) hCw)
      have HLT := Lib.hid (show (w7.drew.alloc (.cells #[.int .i64 (-4), .int .i64 1, .int .i64 0, .int .i64 2] 3)).heap[w7.heap.size]? = some (.cells (intsV [-4, 1, 0, 2]).toArray 3 (0, 0)) from (MapKept.heap_alloc w7.drew _).1)
      have h0n : (0 : Int) < (n : Int) := by omega
      have h0N : 0 < n := by omega
      have h0m : 0 < (m.getD i []).length := by rw [HL.out]; omega
      have H0M := Lib.hid h0m
      clear hba h0m
      go_wp2_with fail
      go_region_held3 (fun w' => w'.cell? ⟨g, i, none⟩ = some (.slice (some ⟨r', 0, none⟩) n rcap')) (first | exact hcD | exact hcA | exact hcK | exact hcS)
        (first
          | (go_at_call 78
             refine (picki_any B C _ cv len w7.heap.size [-4, 1, 0, 2] 4 rfl (by omega) (by omega) HLT.out (by omega) HDA.out.1).mono ?_
             rintro e w8 ⟨z, rfl, hd⟩
             have hcK : w8.cell? ⟨g, i, none⟩ = some (.slice (some ⟨r', 0, none⟩) n rcap') := hd.2.cell hcA (by simp; omega)
             have HX8 := Lib.hid (HXA.out.drawn (by omega) hd)
             have HW8 := Lib.hid (HDA.out.trans hd)
             clear hd
             obtain ⟨g8, r8, rcap8, hg8, hc8, hv8, hf8, hA8, hB8, hput⟩ := HX8.out.1.put HI.out H0M.out
             have hge8 : g = g8 := by injection hg8 with e; injection e
             subst hge8
             rw [hcK] at hc8
             have hre8 : r' = r8 := by
               injection hc8 with e
               injection e with e
               injection e with e
               injection e
             subst hre8
             have HP8 := Lib.hid (hput z)
             clear hput hc8 hg8
             have hcS : (w8.setCell ⟨r', 0, none⟩ (.int .i64 z)).cell? ⟨g, i, none⟩ = some (.slice (some ⟨r', 0, none⟩) n rcap') := by
               rw [World.cell?_setCell_far _ _ _ _ (by simpa using hne)]; exact hcK))
      have hgr9 : Below w.heap.size w8 (w8.setCell ⟨r', 0, none⟩ (.int .i64 z)) := (Below.refl _ _).setCell hA8 _
      have HW9 := Lib.hid (HW8.out.past hgr9 hCw)
      have HX9 := Lib.hid (OwnM.ownK ⟨HP8.out, by have := HX8.out.2; simp; omega⟩)
      have HA := Lib.hid (sq_any (sq_set2 HSQ.out i 0 z))
      clear hgr9 HP8 hcS hcK hv8 hf8
      go_wp2_with fail
      go_ret
      exact ⟨_, _, rfl, HW9.out, ⟨fun w' hs => (HX9.out.1 w' (fun k h1 h2 => hs k h1 (by have := HX8.out.2; simp; omega))).mono (by have := HX8.out.2; simp; omega), Nat.le_refl _⟩, HA.out⟩
    · obtain ⟨rv, hcut, hc1, hc2⟩ := HR.out.cut HL.out hn1 (Nat.le_refl w5.heap.size)
      obtain ⟨g', hg', hfr, _, hg3, hgr, hM⟩ := HX7.out.1.hdrB HI.out (Nat.le_refl w5.heap.size) hcut
      have hge : g = g' := by injection hg' with e; injection e
      subst hge
      clear hg' hcut
      have hbs : Below w.heap.size w7 (w7.setCell ⟨g, i, none⟩ rv) := (Below.refl _ _).setCell hg1 _
      have HW8 := Lib.hid (HW7.out.past hbs hCw)
      have HX8 := Lib.hid (show OwnK w.heap.size (w7.setCell ⟨g, i, none⟩ rv).heap.size (w7.setCell ⟨g, i, none⟩ rv) _ _ from ⟨fun w' hs => (hM w' (fun k h1 h2 => hs k h1 (by simp; omega))).mono (by simp; omega), Nat.le_refl _⟩)
      have hany := any_set (sq_any HSQ.out) i (l := (m.getD i []).drop 1) (by rw [List.length_drop, HL.out]; omega)
      have HA := Lib.hid hany
      clear hany hM hgr hbs HR HX7 HW7
      by_cases hcap : rcap' = 1
      · have hrv := hc1 hcap
        subst hrv
        clear hc1 hc2
        go_wp2_with fail
        go_ret
        exact ⟨_, _, rfl, HW8.out, HX8.out, HA.out⟩
      · have hrv := hc2 hcap
        subst hrv
        clear hc1 hc2
        go_wp2_with fail
        go_ret
        exact ⟨_, _, rfl, HW8.out, HX8.out, HA.out⟩
    · have hba : Below w7.heap.size w7 (w7.alloc (.cells #[.int .i64 2] 3)) := (Below.refl _ _).alloc (Nat.le_refl _) _
      have HBA := Lib.hid hba
      have HM := Lib.hid ((HX7.out.1.same (SameIn.of_below hba (by omega))).mono (Nat.le_refl _) (show w5.heap.size ≤ w7.heap.size by omega))
      have HT := Lib.hid (row_two w7)
      have hl7 : m.length ≤ 1048576 := by rw [HN.out]; omega
      have HL7 := Lib.hid hl7
      clear hba hl7
      go_wp2_with (at_builtin; go_must (refine append_row HM.out HT.out (by omega) (by simp) rfl rfl rfl (by rw [World.size_alloc]; rfl) HL7.out ?_))
      intro v' w8 hM8 hk8 hs8
      have hb8 : Below w.heap.size w7 w8 := (hk8 w7 w.heap.size (Nat.le_refl _) (HBA.out.mono (by omega)))
      have HW8 := Lib.hid (HW7.out.past hb8 hCw)
      have HX8 := Lib.hid (OwnM.ownK ⟨hM8, Nat.le_refl _⟩)
      have HA := Lib.hid (any_app (sq_any HSQ.out) (by rw [HN.out]; omega) (l := [2]) (by simp))
      clear hM8 hk8 hb8 HM HT HBA
      go_wp2_with fail
      go_ret
      exact ⟨_, _, rfl, HW8.out, HX8.out, HA.out⟩
end Go.Proofs.Ytbmghddmilgngaa
namespace Go.Proofs.Ytbmghddmilgngaa
open Go.RowKit

theorem grown_of_below {w w' : World} {S : Option Nat} (h : Below w.heap.size w w') : w.grownBy w' S := ⟨h.os, h.tape, h.output, h.size, fun j hj _ => h.block j hj⟩
theorem RowI.drawn {A B C : Nat} {cv v : Value} {len : Nat} {w w' : World} {l : List Int} (h : RowI A w.heap.size w v l) (hC : C < A) (hd : DrTo B C cv len w w') : RowI A w'.heap.size w' v l :=
  (h.grown hd.2 (by
    cases hv : v.ownBlock with
    | none => exact Or.inl rfl
    | some g =>
      right
      intro e
      have h1 := (h.1.lt g hv).1
      have h2 : g = C := Option.some.inj e
      omega)).mono (Nat.le_refl _) hd.2.size
theorem OwnK.wide {A A' B : Nat} {w : World} {v : Value} {m : List (List Int)} (h : OwnK A B w v m) (hA : A' ≤ A) : OwnK A' B w v m := ⟨fun w' hs => h.1 w' (fun k h1 h2 => hs k (by omega) h2), h.2⟩
theorem OwnK.grow {A B : Nat} {w : World} {v : Value} {m : List (List Int)} (h : OwnK A B w v m) : OwnK A w.heap.size w v m :=
  ⟨fun w' hs => by
    have h1 := h.1 w' (fun k h1 h2 => hs k h1 (by have := h.2; omega))
    exact h1.mono h.2, Nat.le_refl _⟩
theorem OwnK.on {A B C : Nat} {w w' : World} {v : Value} {m : List (List Int)} (h : OwnK A B w v m) (hg : w.grownBy w' (some C)) (hC : C < A) : OwnK A w'.heap.size w' v m :=
  (h.same (fun j h1 h2 => hg.block j (by have := h.2; omega) (fun e => by have := Option.some.inj e; omega)) hg.size).grow
theorem OwnK.up {A B : Nat} {w w' : World} {v : Value} {m : List (List Int)} (h : OwnK A B w v m) (hb : Below w.heap.size w w') : OwnK A w'.heap.size w' v m :=
  (h.same (fun j _ h2 => hb.block j (by have := h.2; omega)) hb.size).grow
end Go.Proofs.Ytbmghddmilgngaa
namespace Go.Proofs.Ytbmghddmilgngaa
open Go.RowKit

set_option maxHeartbeats 2000000 in
set_option maxRecDepth 100000 in
theorem l5w_any (B C : Nat) (w : World) (cv : Value) (len : Nat) (hd : Dr B C cv len w) (a : Option Addr) (n cap : Nat) (hn : n ≤ 100) (most : Nat) (hm : most ≤ 100) :
    Calls Try.prog 65 #[.pointer (some ⟨C, 0, none⟩), .slice a n cap, .int .i64 most] w fun e w' => ∃ x l, e = .returned x ∧ DrTo B C cv len w w' ∧ OwnS w.heap.size w'.heap.size w' x l ∧ l.length ≤ most := by
  have hCw := hd.lt
  have HD := Lib.hid hd; clear hd
  have hb0 : Below w.heap.size w (w.alloc (.cells #[] 3)) := (Below.refl _ _).alloc (Nat.le_refl _) _
  have HD0 := Lib.hid (show DrTo B C cv len w (w.alloc (.cells #[] 3)) from ⟨HD.out.alloc _, grown_of_below hb0⟩)
  have HBE := Lib.hid (below_any B C (w.alloc (.cells #[] 3)) cv len (most + 1) (by omega) (by omega) HD0.out.1)
  have e1 : ((most + 1 : Nat) : Int) = (most : Int) + 1 := by omega
  rw [e1] at HBE
  have HMX := Lib.hid (show ∃ p : Nat, 1 ≤ p ∧ p ≤ 100 ∧ (if (1 : Int) < (n : Int) then (n : Int) else 1) = (p : Int) from by
    by_cases h : 1 < n
    · exact ⟨n, by omega, hn, by rw [if_pos (by omega)]⟩
    · exact ⟨1, by omega, by omega, by rw [if_neg (by omega)]; rfl⟩)
  clear hb0 e1
  go_enter Try.func65, Try.ntmps65
  go_wp2_with fail
  refine HBE.out.mono ?_
  rintro e w1 ⟨r, hr, rfl, hd1⟩
  have HD1 := Lib.hid (HD0.out.trans hd1)
  have HR1 := Lib.hid ((row_empty w).drawn hCw hd1)
  have hs1 := hd1.2.size
  clear hd1 HBE
  obtain ⟨wz, hwz⟩ : ∃ wz : World, wz = w1 := ⟨_, rfl⟩
  have HWZ := Lib.hid hwz; clear hwz
  go_wp2_with fail
  go_loopw [7, 8] (fun o i wr => ∃ (t : Nat) (l : List Int) (wq : World), wq = wr ∧ t ≤ most ∧ i = .int .i64 t ∧ RowI w.heap.size wq.heap.size wq o l ∧ l.length + t ≤ most ∧ DrTo B C cv len w wq) (fun _ i _ => (RowKit.intOf i).toNat)
  case atStart => exact ⟨r, [], _, rfl, by omega, rfl, HR1.out, by simp; omega, HD1.out⟩
  case round =>
    obtain ⟨t, l, wq, rfl, ht, rfl, hr', hll, hdq⟩ := hrel
    have HR := Lib.hid hr'; have HDQ := Lib.hid hdq
    have hdr1 : Dr B C cv len wq := hdq.1
    have hsq := hdq.2.size
    clear hr' hdq
    by_cases hlt : 0 < t
    · have hlt' : decide ((0 : Int) < (t : Int)) = true := decide_eq_true (by omega)
      have HB1 := Lib.hid (fun (wx : World) (hx : Dr B C cv len wx) => show Calls Try.prog 59 #[.pointer (some ⟨C, 0, none⟩), .int .i64 1] wx fun e w' => ∃ r : Nat, r < 1 ∧ e = .returned (.int .i64 r) ∧ DrTo B C cv len wx w' from below_any B C wx cv len 1 (by omega) (by omega) hx)
      have HDR1 := Lib.hid hdr1
      have HBN := Lib.hid (fun (wx : World) (h1 : 1 ≤ n) (hx : Dr B C cv len wx) => below_any B C wx cv len n h1 (by omega) hx)
      have HBM := Lib.hid (fun (wx : World) (hx : Dr B C cv len wx) => show Calls Try.prog 59 #[.pointer (some ⟨C, 0, none⟩), .int .i64 (max 1 (n : Int))] wx fun e w' => ∃ r : Nat, r < max 1 n ∧ e = .returned (.int .i64 r) ∧ DrTo B C cv len wx w' from by
        have := below_any B C wx cv len (max 1 n) (by omega) (by omega) hx
        rwa [show ((max 1 n : Nat) : Int) = max 1 (n : Int) by omega] at this)
      have HL4 := Lib.hid (show l.length ≤ 4194304 by omega)
      go_wp2_with fail
      all_goals
        first
          | (with_reducible refine (HB1.out _ HDR1.out).mono ?_)
          | (with_reducible refine (HBN.out _ (by omega) HDR1.out).mono ?_)
          | (with_reducible refine (HBM.out _ HDR1.out).mono ?_)
        rintro e w3 ⟨y, hy, rfl, hd3⟩
        have HD3 := Lib.hid (HDQ.out.trans hd3)
        have HR3 := Lib.hid (HR.out.drawn hCw hd3)
        have hs3 := hd3.2.size
        have hsz3 : w.heap.size ≤ w3.heap.size := by omega
        clear hd3 HB1 HBN HBM HDR1 hdr1
        go_wp2_with (at_builtin; go_must (refine append_int HR3.out hsz3 (y : Int) rfl rfl rfl rfl HL4.out ?_; intro v4 w4 hr4 hb4 hz4))
        have HR4 := Lib.hid hr4
        have HD4 := Lib.hid (HD3.out.past (hb4 w3 w.heap.size (Nat.le_refl _) (Below.refl _ _)) hCw)
        clear hr4 hb4 hz4
        go_wp2_with fail
        exact ⟨⟨t - 1, _, _, rfl, by omega, by rw [Int.ofNat_sub (by omega)]; rfl, HR4.out, by rw [List.length_append]; simp; omega, HD4.out⟩, by simp [RowKit.intOf]; omega⟩
    · obtain rfl : t = 0 := by omega
      go_wp2_with fail
      go_ret
      exact ⟨_, l, rfl, HDQ.out, ⟨HR.out, Nat.le_refl _⟩, by omega⟩

def DrawnMW (w : World) (e : Ending) (w' : World) : Prop :=
  ∃ x y a l, e = .returned (.tuple #[x, y]) ∧ Below w.heap.size w w' ∧ OwnK w.heap.size w'.heap.size w' x a ∧ AnyM a ∧ OwnS w.heap.size w'.heap.size w' y l ∧ l.length ≤ 12
set_option maxHeartbeats 2000000 in
set_option maxRecDepth 100000 in
theorem l5a_any (B : Nat) (w : World) (cv : Value) (len : Nat) (hl : len ≤ 1048576) (hc : CodeB B w cv len) (hB : B ≤ w.heap.size) :
    Calls Try.prog 53 #[cv] w (DrawnMW w) := by
  have HN := Lib.hid (new_any B w cv len hl hB hc)
  clear hc
  go_enter Try.func53, Try.ntmps53
  go_wp2_with fail
  refine HN.out.mono ?_
  rintro e w1 ⟨rfl, hd, hg⟩
  have HG := Lib.hid hg
  have hs1 := hg.size
  have hC1 := hd.lt
  have HA := Lib.hid (any_any B w.heap.size w1 cv len hd)
  clear hd hg HN
  go_wp2_with fail
  refine HA.out.mono ?_
  rintro e w2 ⟨x, a, rfl, hd2, hx, ha⟩
  have HD2 := Lib.hid hd2
  have HX := Lib.hid hx
  have HAM := Lib.hid ha
  have hs2 := hd2.2.size
  obtain ⟨xa, xcap, rfl⟩ := hx.mat.slice
  have hn5 := ha.1
  clear hd2 hx ha HA
  generalize hn : a.length = n at *
  have HLN := Lib.hid hn; clear hn
  have HW := Lib.hid (l5w_any B w.heap.size w2 cv len HD2.out.1 xa n xcap (by omega) 9 (by omega))
  go_wp2_with fail
  refine HW.out.mono ?_
  rintro e w3 ⟨y, l, rfl, hd3, hy, hll⟩
  have HD3 := Lib.hid (HD2.out.trans hd3)
  have HX3 := Lib.hid (HX.out.drawn hC1 hd3)
  have HY := Lib.hid hy
  have hs3 := hd3.2.size
  clear hd3 hy HW HX HD2
  go_wp2_with fail
  refine (once_any B w.heap.size _ cv len 12 (by omega) (by omega) HD3.out.1).mono ?_
  rintro e w4 ⟨q, rfl, hd4⟩
  have HD4 := Lib.hid (HD3.out.trans hd4)
  have HX4 := Lib.hid (HX3.out.drawn hC1 hd4)
  have HY4 := Lib.hid ((HY.out.1).drawn (C := w.heap.size) (by omega) hd4)
  have hs4 := hd4.2.size
  clear hd4 HX3 HD3 HY
  cases q with
  | false =>
    go_wp2_with fail
    go_ret2
    exact ⟨_, y, a, l, rfl, draw_below HG.out HD4.out, HX4.out.grow.wide (by omega), HAM.out, ⟨HY4.out.mono (by omega) (Nat.le_refl _), Nat.le_refl _⟩, by omega⟩
  | true =>
    have HGL := Lib.hid (show (w4.alloc (.cells ([-1, 4].map (Value.int .i64)).toArray 3)).heap[w4.heap.size]? = some (.cells (([-1, 4] : List Int).map (Value.int .i64)).toArray 3 (0, 0)) from (MapKept.heap_alloc w4 _).1)
    have HD0 := Lib.hid (HD4.out.1.alloc (.cells (([-1, 4] : List Int).map (Value.int .i64)).toArray 3))
    have hb0 : Below w4.heap.size w4 (w4.alloc (.cells (([-1, 4] : List Int).map (Value.int .i64)).toArray 3)) := (Below.refl _ _).alloc (Nat.le_refl _) _
    have HB0 := Lib.hid hb0
    have HPK := Lib.hid (pick_any B w.heap.size (w4.alloc (.cells (([-1, 4] : List Int).map (Value.int .i64)).toArray 3)) cv len w4.heap.size [-1, 4] 2 rfl (by omega) (by omega) (fun v hv => by simp at hv; unfold isI64; omega) HGL.out (by omega) HD0.out)
    clear hb0 HGL
    go_wp2_with fail
    refine HPK.out.mono ?_
    rintro e w5 ⟨v, hv, rfl, hd5⟩
    have hd05 : DrTo B w.heap.size cv len w4 w5 := (DrTo.of_below HD4.out.1 HB0.out).trans hd5
    have HD5 := Lib.hid (HD4.out.trans hd05)
    have HX5 := Lib.hid (HX4.out.drawn hC1 hd05)
    have HY5 := Lib.hid (HY4.out.drawn (C := w.heap.size) (by omega) hd05)
    have hs5 := hd05.2.size
    have HL4 := Lib.hid (show l.length ≤ 4194304 by omega)
    clear hd5 hd05 HPK HB0 HD0 HX4 HY4
    have hsz5 : w2.heap.size ≤ w5.heap.size := by omega
    go_wp2_with (at_builtin; go_must (refine append_int HY5.out hsz5 v rfl rfl rfl rfl HL4.out ?_; intro v6 w6 hr6 hb6 hz6))
    have HR6 := Lib.hid hr6
    have hb6' := hb6 w5 w2.heap.size (Nat.le_refl _) (Below.refl _ _)
    have HX6 := Lib.hid ((HX5.out.same (fun j h1 h2 => hb6'.block j h2) hb6'.size).grow)
    have HB6 := Lib.hid ((draw_below HG.out HD5.out).trans (hb6'.mono (by omega)))
    clear hr6 hb6 hz6 hb6'
    go_wp2_with fail
    go_ret2
    exact ⟨_, _, a, _, rfl, HB6.out, HX6.out.wide (by omega), HAM.out, ⟨HR6.out.mono (by omega) (Nat.le_refl _), Nat.le_refl _⟩, by rw [List.length_append]; simp; omega⟩
end Go.Proofs.Ytbmghddmilgngaa
