/-
  NeighboursOf of the model and of the program: what each call returns.
-/
import Derived.Test.YtgpcacgafbhhdaaDoorTrI
import Derived.Test.YtgpcacgafbhhdaaDoorBondW
import Derived.Test.YtgpcacgafbhhdaaDoorGrow2
namespace Go.Proofs.YtgpcacgafbhhdaaDoor
open Go.RowKit

def nbF (m : List (List Int)) (i j : Nat) : Bool := decide (j ≠ i ∧ entry m i j ≠ 0)
def nbK (m : List (List Int)) (i k : Nat) : List Int := ((List.range k).filter (nbF m i)).map fun (j : Nat) => (j : Int)
theorem nbK_yes {m : List (List Int)} {i k : Nat} (h1 : k ≠ i) (h2 : entry m i k ≠ 0) : nbK m i k ++ [(k : Int)] = nbK m i (k + 1) := by
  have h : nbF m i k = true := decide_eq_true ⟨h1, h2⟩
  unfold nbK
  rw [List.range_succ, List.filter_append, List.map_append]
  simp [h]
theorem nbK_no {m : List (List Int)} {i k : Nat} (h' : ¬ (k ≠ i ∧ entry m i k ≠ 0)) : nbK m i k = nbK m i (k + 1) := by
  have h : nbF m i k = false := decide_eq_false h'
  unfold nbK
  rw [List.range_succ, List.filter_append, List.map_append]
  simp [h]
theorem nbK_len (m : List (List Int)) (i k : Nat) : (nbK m i k).length ≤ k := by
  unfold nbK
  rw [List.length_map]
  exact Nat.le_trans (List.length_filter_le _ _) (by simp)
/-- What NeighboursOf returns. -/
def NbOk (m : List (List Int)) (i : Int) : Prop := IsC m ∧ (0 ≤ i ∧ i ≤ (m.length : Int) - 1)
open Classical in
noncomputable def nbs (m : List (List Int)) (i : Int) : List Int := if NbOk m i then nbK m i.toNat m.length else []
theorem nbs_yes {m : List (List Int)} {i : Int} (h : NbOk m i) : nbs m i = nbK m i.toNat m.length := if_pos h
theorem nbs_no {m : List (List Int)} {i : Int} (h : ¬ NbOk m i) : nbs m i = [] := if_neg h
theorem nbs_len (m : List (List Int)) (i : Int) : (nbs m i).length ≤ 4 := by
  by_cases h : NbOk m i
  · rw [nbs_yes h]; exact Nat.le_trans (nbK_len _ _ _) h.1.2.2.2
  · rw [nbs_no h]; simp
theorem makesS_nil {w w' : World} {x : Value} {l : List Int} (hl : l = []) (h : RowI w.heap.size w'.heap.size w' x []) (hb : Below w.heap.size w w') : MakesS w l (.returned x) w' :=
  ⟨x, rfl, by rw [hl]; exact ⟨h, Nat.le_refl _⟩, hb⟩
theorem RowI.nil (A B : Nat) (w : World) : RowI A B w (.slice none 0 0) [] := ⟨World.ownsRow_nil _ _ _ _, fun g h => by simp [Value.ownBlock] at h⟩

set_option maxHeartbeats 2000000 in
set_option maxRecDepth 100000 in
theorem nbs_good (B : Nat) (v : Value) (m : List (List Int)) (p : Nat) (w : World) (h : MatB B w v m) (hB : B ≤ w.heap.size) (hf : RowsFit m) (hI : IsC m) (hp : p < m.length) :
    Calls Tryd.prog 57 #[v, .int .i64 p] w (MakesS w (nbK m p m.length)) := by
  obtain ⟨a, cap, rfl⟩ := h.slice
  have hl := hf.1
  have HR := Lib.hid h; clear h
  have HF := Lib.hid hf; clear hf
  have hrows : Rows0 m m.length m.length := hI.1
  have hn4 := hI.2.2
  have HC := Lib.hid (isB_yes hI)
  have HRW := Lib.hid hrows
  clear hI hrows
  generalize hn : m.length = n at *
  unfold maxLen at hl
  have HN := Lib.hid hn; clear hn
  have HI := Lib.hid (inB_yes (x := (p : Int)) (a := 0) (b := (n : Int) - 1) (by omega))
  go_enter Tryd.func57, Tryd.ntmps57
  go_wp2_with fail
  go_loopw [5, 6] (fun o i wr => ∃ (k : Nat) (wq : World), wq = wr ∧ k ≤ n ∧ i = .int .i64 k ∧ RowI w.heap.size wq.heap.size wq o (nbK m p k) ∧ Below w.heap.size w wq) (fun _ i _ => n - (intOf i).toNat)
  case atStart => exact ⟨0, _, rfl, Nat.zero_le _, rfl, row_empty w, (Below.refl _ _).alloc (Nat.le_refl _) _⟩
  case round =>
    obtain ⟨k, wq, rfl, hk, rfl, hM, hb⟩ := hrel
    have HM := Lib.hid hM; clear hM
    have HB := Lib.hid hb; clear hb
    by_cases hlt : k < n
    · have hlt' : decide (k < n) = true := decide_eq_true hlt
      go_wp2_with fail
      refine (isc_w B _ m true HC.out _ (HR.out.below HB.out hB) HF.out).mono ?_
      rintro e w2 ⟨rfl, hb2⟩
      have HM2 := Lib.hid (HM.out.step hb2)
      have HB2 := Lib.hid (HB.out.trans (hb2.mono HB.out.size))
      clear hb2 HM HB
      go_wp2_with fail
      refine (l1in_c _ _ _ true HI.out _).mono ?_; rintro e w' ⟨rfl, rfl⟩
      obtain ⟨b, off, rb, roff, rcap, rfl, hc1, hx⟩ := (HR.out.below HB2.out hB).entry HRW.out hp hlt
      by_cases hkp : k = p
      · have hq : ((k : Int) != (p : Int)) = false := by rw [bne_eq_false_iff_eq]; omega
        have HST := Lib.hid (nbK_no (m := m) (i := p) (k := k) (fun h => h.1 hkp))
        clear hkp
        go_wp2_with fail
        exact ⟨⟨k + 1, _, rfl, by omega, by go_num, by rw [← HST.out]; exact HM2.out, HB2.out⟩, by simp [intOf]; omega⟩
      · have hq : ((k : Int) != (p : Int)) = true := by rw [bne_iff_ne]; omega
        by_cases hx0 : entry m p k = 0
        · have HST := Lib.hid (nbK_no (m := m) (i := p) (k := k) (fun h => h.2 hx0))
          rw [hx0] at hx
          clear hkp hx0
          go_wp2_with fail
          exact ⟨⟨k + 1, _, rfl, by omega, by go_num, by rw [← HST.out]; exact HM2.out, HB2.out⟩, by simp [intOf]; omega⟩
        · have HST := Lib.hid (nbK_yes hkp hx0)
          have hx1 : (entry m p k != 0) = true := by rw [bne_iff_ne]; exact hx0
          have hsz := HB2.out.size
          have hrl : (nbK m p k).length ≤ 4194304 := by have := nbK_len m p k; omega
          have HRL := Lib.hid hrl; clear hrl
          clear hkp hx0
          generalize entry m p k = x at *
          go_wp2_with (at_builtin; go_must (refine append_int HM2.out hsz (k : Int) rfl rfl rfl rfl HRL.out ?_; intro v' w3 hr3 hb3 hz3))
          rw [HST.out] at hr3
          have HR3 := Lib.hid hr3
          have HB3 := Lib.hid (hb3 w w.heap.size (Nat.le_refl _) HB2.out)
          exact ⟨⟨k + 1, _, rfl, by omega, by go_num, HR3.out, HB3.out⟩, by simp [intOf]; omega⟩
    · obtain rfl : k = n := by omega
      have hlt' : decide (k < k) = false := by simp
      go_wp2_with fail
      go_ret
      exact ⟨_, rfl, ⟨HM.out, Nat.le_refl _⟩, HB.out⟩

set_option maxHeartbeats 2000000 in
set_option maxRecDepth 100000 in
theorem nbs_any (B : Nat) (v : Value) (m : List (List Int)) (i : Int) (w : World) (h : MatB B w v m) (hB : B ≤ w.heap.size) (hf : RowsFit m) :
    Calls Tryd.prog 57 #[v, .int .i64 i] w (MakesS w (nbs m i)) := by
  by_cases hok : NbOk m i
  · rw [nbs_yes hok]
    obtain ⟨hI, h0, h1⟩ := hok
    obtain ⟨p, rfl⟩ := Int.eq_ofNat_of_zero_le h0
    exact nbs_good B v m p w h hB hf hI (by omega)
  · rw [nbs_no hok]
    obtain ⟨a, cap, rfl⟩ := h.slice
    have hl := hf.1
    have HR := Lib.hid h; clear h
    have HF := Lib.hid hf; clear hf
    by_cases hI : IsC m
    · have hi : ¬ (0 ≤ i ∧ i ≤ (m.length : Int) - 1) := fun h => hok ⟨hI, h⟩
      have HC := Lib.hid (isB_yes hI)
      have hn1 := hI.2.2.1
      clear hI hok
      generalize hn : m.length = n at *
      unfold maxLen at hl
      have HI := Lib.hid (inB_no hi)
      clear hi
      go_enter Tryd.func57, Tryd.ntmps57
      go_wp2_with fail
      go_loopw [5, 6] (fun o i wr => i = .int .i64 0 ∧ o = .slice (some ⟨w.heap.size, 0, none⟩) 0 0 ∧ wr = w.alloc (.cells #[] 3)) (fun _ _ _ => 0)
      case atStart => exact ⟨rfl, rfl, rfl⟩
      case round =>
        obtain ⟨rfl, rfl, rfl⟩ := hrel
        have hb : Below w.heap.size w (w.alloc (.cells #[] 3)) := (Below.refl _ _).alloc (Nat.le_refl _) _
        have HB := Lib.hid hb; clear hb
        go_wp2_with fail
        refine (isc_w B _ m true HC.out _ (HR.out.below HB.out hB) HF.out).mono ?_
        rintro e w2 ⟨rfl, hb2⟩
        have HB2 := Lib.hid hb2; clear hb2
        go_wp2_with fail
        refine (l1in_c _ _ _ false HI.out _).mono ?_; rintro e w' ⟨rfl, rfl⟩
        go_wp2_with fail
        go_ret
        exact makesS_nil rfl ((row_empty w).step HB2.out) (HB.out.trans (HB2.out.mono HB.out.size))
    · have HC := Lib.hid (isB_no hI)
      clear hI hok
      generalize hn : m.length = n at *
      unfold maxLen at hl
      have HN := Lib.hid hn; clear hn
      go_enter Tryd.func57, Tryd.ntmps57
      go_wp2_with fail
      go_loopw [5, 6] (fun o i wr => i = .int .i64 0 ∧ o = .slice (some ⟨w.heap.size, 0, none⟩) 0 0 ∧ wr = w.alloc (.cells #[] 3)) (fun _ _ _ => 0)
      case atStart => exact ⟨rfl, rfl, rfl⟩
      case round =>
        obtain ⟨rfl, rfl, rfl⟩ := hrel
        have hb : Below w.heap.size w (w.alloc (.cells #[] 3)) := (Below.refl _ _).alloc (Nat.le_refl _) _
        have HB := Lib.hid hb; clear hb
        by_cases h0 : 0 < n
        · go_wp2_with fail
          refine (isc_w B _ m false HC.out _ (HR.out.below HB.out hB) HF.out).mono ?_
          rintro e w2 ⟨rfl, hb2⟩
          have HB2 := Lib.hid hb2; clear hb2
          go_wp2_with fail
          go_ret
          exact makesS_nil rfl ((row_empty w).step HB2.out) (HB.out.trans (HB2.out.mono HB.out.size))
        · have hd : decide (0 < n) = false := decide_eq_false h0
          go_wp2_with fail
          go_ret
          exact makesS_nil rfl (row_empty w) HB.out

set_option maxHeartbeats 2000000 in
set_option maxRecDepth 100000 in
theorem nbi_good (B : Nat) (v : Value) (m : List (List Int)) (p : Nat) (w : World) (h : MatB B w v m) (hB : B ≤ w.heap.size) (hf : RowsFit m) (hI : IsC m) (hp : p < m.length) :
    Calls Tryd.prog 60 #[v, .int .i64 p] w (MakesS w (nbK m p m.length)) := by
  obtain ⟨a, cap, rfl⟩ := h.slice
  have hl := hf.1
  have HR := Lib.hid h; clear h
  have HF := Lib.hid hf; clear hf
  have hrows : Rows0 m m.length m.length := hI.1
  have hn4 := hI.2.2
  have HC := Lib.hid (isB_yes hI)
  have HRW := Lib.hid hrows
  clear hI hrows
  generalize hn : m.length = n at *
  unfold maxLen at hl
  have HN := Lib.hid hn; clear hn
  have HI := Lib.hid (ptB_yes (i := (p : Int)) (n := n) (by omega))
  go_enter Tryd.func60, Tryd.ntmps60
  go_wp2_with fail
  refine (icm_w B _ m true HC.out _ HR.out HF.out).mono ?_
  rintro e w1 ⟨rfl, hb1⟩
  have HB1 := Lib.hid hb1; clear hb1
  go_wp2_with fail
  refine (pt_c _ _ _ _ true HI.out _ hl).mono ?_; rintro e w' ⟨rfl, rfl⟩
  obtain ⟨b, off, rb, roff, rcap, rfl, hbB, hrB, hc1, hx⟩ := HR.out.line HRW.out hp
  have HX := Lib.hid hx; clear hx
  have hc1' := (HB1.out.cell (p := ⟨b, off + p, none⟩) (by show b < _; omega)).trans hc1
  clear hc1
  go_wp2_with fail
  clear hc1'
  go_loopw [5, 22] (fun o i wr => ∃ (k : Nat) (wq : World), wq = wr ∧ k ≤ n ∧ i = .int .i64 k ∧ RowI w.heap.size wq.heap.size wq o (nbK m p k) ∧ Below w.heap.size w wq) (fun _ i _ => n - (intOf i).toNat)
  case atStart => exact ⟨0, _, rfl, Nat.zero_le _, rfl, RowI.nil _ _ _, HB1.out⟩
  case round =>
    obtain ⟨k, wq, rfl, hk, rfl, hM, hb⟩ := hrel
    have HM := Lib.hid hM; clear hM
    have HB := Lib.hid hb
    have hsz := hb.size
    clear hb
    by_cases hlt : k < n
    · have hx := (HB.out.cell (p := ⟨rb, roff + k, none⟩) (by show rb < _; omega)).trans (HX.out k hlt)
      by_cases hkp : k = p
      · have hq : ((k : Int) != (p : Int)) = false := by rw [bne_eq_false_iff_eq]; omega
        have HST := Lib.hid (nbK_no (m := m) (i := p) (k := k) (fun h => h.1 hkp))
        clear hkp
        go_wp2_with fail
        exact ⟨⟨k + 1, _, rfl, by omega, by go_num, by rw [← HST.out]; exact HM.out, HB.out⟩, by simp [intOf]; omega⟩
      · have hq : ((k : Int) != (p : Int)) = true := by rw [bne_iff_ne]; omega
        by_cases hx0 : entry m p k = 0
        · have HST := Lib.hid (nbK_no (m := m) (i := p) (k := k) (fun h => h.2 hx0))
          rw [hx0] at hx
          clear hkp hx0
          go_wp2_with fail
          exact ⟨⟨k + 1, _, rfl, by omega, by go_num, by rw [← HST.out]; exact HM.out, HB.out⟩, by simp [intOf]; omega⟩
        · have HST := Lib.hid (nbK_yes hkp hx0)
          have hx1 : (entry m p k != 0) = true := by rw [bne_iff_ne]; exact hx0
          have hrl : (nbK m p k).length ≤ 4194304 := by have := nbK_len m p k; omega
          have HRL := Lib.hid hrl; clear hrl
          clear hkp hx0
          generalize entry m p k = x at *
          go_wp2_with (at_builtin; go_must (refine append_int HM.out hsz (k : Int) rfl rfl rfl rfl HRL.out ?_; intro v' w3 hr3 hb3 hz3))
          rw [HST.out] at hr3
          have HR3 := Lib.hid hr3
          have HB3 := Lib.hid (hb3 w w.heap.size (Nat.le_refl _) HB.out)
          exact ⟨⟨k + 1, _, rfl, by omega, by go_num, HR3.out, HB3.out⟩, by simp [intOf]; omega⟩
    · obtain rfl : k = n := by omega
      go_wp2_with fail
      go_ret
      exact ⟨_, rfl, ⟨HM.out, Nat.le_refl _⟩, HB.out⟩

set_option maxHeartbeats 2000000 in
set_option maxRecDepth 100000 in
theorem nbi_any (B : Nat) (v : Value) (m : List (List Int)) (i : Int) (w : World) (h : MatB B w v m) (hB : B ≤ w.heap.size) (hf : RowsFit m) :
    Calls Tryd.prog 60 #[v, .int .i64 i] w (MakesS w (nbs m i)) := by
  by_cases hok : NbOk m i
  · rw [nbs_yes hok]
    obtain ⟨hI, h0, h1⟩ := hok
    obtain ⟨p, rfl⟩ := Int.eq_ofNat_of_zero_le h0
    exact nbi_good B v m p w h hB hf hI (by omega)
  · rw [nbs_no hok]
    obtain ⟨a, cap, rfl⟩ := h.slice
    have hl := hf.1
    have HR := Lib.hid h; clear h
    have HF := Lib.hid hf; clear hf
    by_cases hI : IsC m
    · have hi : ¬ (0 ≤ i ∧ i ≤ (m.length : Int) - 1) := fun h => hok ⟨hI, h⟩
      have HC := Lib.hid (isB_yes hI)
      clear hI hok
      generalize hn : m.length = n at *
      unfold maxLen at hl
      have HI := Lib.hid (ptB_no hi)
      clear hi
      go_enter Tryd.func60, Tryd.ntmps60
      go_wp2_with fail
      refine (icm_w B _ m true HC.out _ HR.out HF.out).mono ?_
      rintro e w1 ⟨rfl, hb1⟩
      have HB1 := Lib.hid hb1; clear hb1
      go_wp2_with fail
      refine (pt_c _ _ _ _ false HI.out _ hl).mono ?_; rintro e w' ⟨rfl, rfl⟩
      go_wp2_with fail
      go_ret
      exact makesS_nil rfl (RowI.nil _ _ _) HB1.out
    · have HC := Lib.hid (isB_no hI)
      clear hI hok
      generalize hn : m.length = n at *
      unfold maxLen at hl
      have HN := Lib.hid hn; clear hn
      go_enter Tryd.func60, Tryd.ntmps60
      go_wp2_with fail
      refine (icm_w B _ m false HC.out _ HR.out HF.out).mono ?_
      rintro e w1 ⟨rfl, hb1⟩
      have HB1 := Lib.hid hb1; clear hb1
      go_wp2_with fail
      go_ret
      exact makesS_nil rfl (RowI.nil _ _ _) HB1.out
end Go.Proofs.YtgpcacgafbhhdaaDoor
