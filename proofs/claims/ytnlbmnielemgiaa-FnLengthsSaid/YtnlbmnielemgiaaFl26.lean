/-
  Determinants of the model: l4Without and l4Det, what the calls return.
-/
import Derived.Deep.RegionHeld3
import Derived.Test.YtnlbmnielemgiaaFl25
namespace Go.Proofs.Ytnlbmnielemgiaa
open Go.RowKit

/-! ### Without the first row and a column -/
def keepC (n col : Nat) : List Nat := (List.range n).filter fun j => decide (j ≠ col)
def wdR (m : List (List Int)) (col i k : Nat) : List Int := (keepC k col).map (entry m i)
def wdM (m : List (List Int)) (n col k : Nat) : List (List Int) := (List.range k).map fun i => wdR m col (i + 1) n
theorem wdR_yes {m : List (List Int)} {col i k : Nat} (h : k ≠ col) : wdR m col i k ++ [entry m i k] = wdR m col i (k + 1) := by
  unfold wdR keepC
  rw [List.range_succ, List.filter_append, List.map_append]
  simp [h]
theorem wdR_no {m : List (List Int)} {col i k : Nat} (h : k = col) : wdR m col i k = wdR m col i (k + 1) := by
  unfold wdR keepC
  rw [List.range_succ, List.filter_append, List.map_append]
  simp [h]
theorem keepC_len (k col : Nat) : (keepC k col).length = if col < k then k - 1 else k := by
  induction k with
  | zero => rfl
  | succ k ih =>
    unfold keepC at ih ⊢
    rw [List.range_succ, List.filter_append, List.length_append, ih]
    by_cases h : k = col
    · subst h; simp
    · by_cases h2 : col < k
      · simp [h, h2, show col < k + 1 by omega]; omega
      · simp [h, h2, show ¬ col < k + 1 by omega]
theorem wdR_len (m : List (List Int)) (col i k : Nat) : (wdR m col i k).length ≤ k := by
  unfold wdR
  rw [List.length_map, keepC_len]
  split <;> omega
theorem wdR_full (m : List (List Int)) (col i n : Nat) (h : col < n + 1) : (wdR m col i (n + 1)).length = n := by
  unfold wdR
  rw [List.length_map, keepC_len, if_pos h]; rfl
theorem wdM_len (m : List (List Int)) (n col k : Nat) : (wdM m n col k).length = k := by simp [wdM]
theorem wdM_step (m : List (List Int)) (n col k : Nat) : wdM m n col k ++ [wdR m col (k + 1) n] = wdM m n col (k + 1) := by
  unfold wdM
  rw [List.range_succ, List.map_append]; rfl
theorem wdM_get (m : List (List Int)) (n col k i : Nat) (h : i < k) : (wdM m n col k).getD i [] = wdR m col (i + 1) n := by simp [wdM, List.getD, h]
theorem wdM_rows (m : List (List Int)) (col n : Nat) (h : col < n + 1) : Rows0 (wdM m (n + 1) col n) n n := fun i hi => by
  rw [wdM_get _ _ _ _ _ hi]; exact wdR_full m col (i + 1) n h
/-- Entries from -3 to 3. -/
def Bd (m : List (List Int)) : Prop := ∀ i j, -3 ≤ entry m i j ∧ entry m i j ≤ 3
theorem wdM_bd {m : List (List Int)} (hb : Bd m) (n col k : Nat) : Bd (wdM m n col k) := fun i j => by
  by_cases hi : i < k
  · unfold entry
    rw [wdM_get _ _ _ _ _ hi]
    by_cases hj : j < (wdR m col (i + 1) n).length
    · have e : (wdR m col (i + 1) n).getD j 0 = (wdR m col (i + 1) n)[j] := by simp [List.getD, hj]
      rw [e]
      have hm := List.getElem_mem hj
      unfold wdR at hm
      obtain ⟨c, _, hc⟩ := List.mem_map.1 hm
      have : (wdR m col (i + 1) n)[j] = entry m (i + 1) c := hc.symm
      rw [this]
      exact hb _ _
    · rw [List.getD_eq_getElem?_getD, List.getElem?_eq_none (by omega)]; decide
  · unfold entry
    have e : (wdM m n col k).getD i [] = [] := by rw [List.getD_eq_getElem?_getD, List.getElem?_eq_none (by rw [wdM_len]; omega)]; rfl
    rw [e]; simp
theorem isC_bd {m : List (List Int)} (h : IsC m) : Bd m := fun i j => by
  by_cases hi : i < m.length
  · by_cases hj : j < m.length
    · rcases h.2.1 i j hi hj with h1 | h1
      · rw [h1.2]; decide
      · have := h1.2.1; omega
    · have h1 := h.1 i hi
      have : entry m i j = 0 := by
        unfold entry
        have h2 : (m.getD i []).length ≤ j := by omega
        rw [List.getD_eq_getElem?_getD (l := m.getD i []), List.getElem?_eq_none h2]; rfl
      rw [this]; decide
  · have : entry m i j = 0 := by unfold entry; simp [List.getD, List.getElem?_eq_none (show m.length ≤ i by omega)]
    rw [this]; decide

/-! ### Determinants -/
def sgn (j : Nat) (x : Int) : Int := if j % 2 = 1 then -x else x
def detF : Nat → List (List Int) → Int
  | 0, _ => 1
  | n + 1, m => ((List.range (n + 1)).map fun j => sgn j (entry m 0 j * detF n (wdM m (n + 1) j n))).sum
def detS (n : Nat) (m : List (List Int)) (k : Nat) : Int := ((List.range k).map fun j => sgn j (entry m 0 j * detF n (wdM m (n + 1) j n))).sum
theorem detS_step (n : Nat) (m : List (List Int)) (k : Nat) : detS n m (k + 1) = detS n m k + sgn k (entry m 0 k * detF n (wdM m (n + 1) k n)) := by
  unfold detS
  rw [List.range_succ, List.map_append, List.sum_append]
  simp
theorem detS_end (n : Nat) (m : List (List Int)) : detS n m (n + 1) = detF (n + 1) m := rfl
def dB : Nat → Int
  | 0 => 1
  | n + 1 => (n + 1 : Nat) * (3 * dB n)
theorem sgn_le {j : Nat} {x b : Int} (h : -b ≤ x ∧ x ≤ b) : -b ≤ sgn j x ∧ sgn j x ≤ b := by
  unfold sgn
  split <;> omega
theorem mul_le3 {x y b : Int} (hx : -3 ≤ x ∧ x ≤ 3) (hy : -b ≤ y ∧ y ≤ b) (hb : 0 ≤ b) : -(3 * b) ≤ x * y ∧ x * y ≤ 3 * b := by
  obtain ⟨h1, h2⟩ := hx
  rcases (show x = -3 ∨ x = -2 ∨ x = -1 ∨ x = 0 ∨ x = 1 ∨ x = 2 ∨ x = 3 by omega) with rfl | rfl | rfl | rfl | rfl | rfl | rfl <;> omega
theorem dB_nonneg (n : Nat) : 0 ≤ dB n := by
  induction n with
  | zero => decide
  | succ n ih => exact Int.mul_nonneg (by omega) (by omega)
theorem detS_bd {n : Nat} {m : List (List Int)} (hb : Bd m) (hd : ∀ j, -(dB n) ≤ detF n (wdM m (n + 1) j n) ∧ detF n (wdM m (n + 1) j n) ≤ dB n) (k : Nat) :
    -((k : Int) * (3 * dB n)) ≤ detS n m k ∧ detS n m k ≤ (k : Int) * (3 * dB n) := by
  induction k with
  | zero => simp [detS]
  | succ k ih =>
    rw [detS_step]
    have h1 := sgn_le (j := k) (mul_le3 (hb 0 k) (hd k) (dB_nonneg n))
    have e : ((k + 1 : Nat) : Int) * (3 * dB n) = (k : Int) * (3 * dB n) + 3 * dB n := by rw [Int.natCast_succ, Int.add_mul, Int.one_mul]
    rw [e]
    omega
theorem detF_bd (n : Nat) : ∀ m, Bd m → -(dB n) ≤ detF n m ∧ detF n m ≤ dB n := by
  induction n with
  | zero => intro m _; show -(1 : Int) ≤ 1 ∧ (1 : Int) ≤ 1; decide
  | succ n ih =>
    intro m hb
    rw [← detS_end]
    exact detS_bd hb (fun j => ih _ (wdM_bd hb _ _ _)) (n + 1)
theorem dB_small (n : Nat) (h : n ≤ 4) : dB n ≤ 1944 := by
  rcases (show n = 0 ∨ n = 1 ∨ n = 2 ∨ n = 3 ∨ n = 4 by omega) with rfl | rfl | rfl | rfl | rfl <;> decide

/-! ### The calls -/
theorem wdM_pred (m : List (List Int)) (N col kk : Nat) (h : 1 ≤ kk) : wdM m N col (kk - 1) ++ [wdR m col kk N] = wdM m N col kk := by
  obtain ⟨k, rfl⟩ : ∃ k, kk = k + 1 := ⟨kk - 1, by omega⟩
  exact wdM_step m N col k
set_option maxHeartbeats 2000000 in
set_option maxRecDepth 100000 in
theorem wdo_any (B : Nat) (v : Value) (m : List (List Int)) (N col : Nat) (w : World) (h : MatB B w v m) (hB : B ≤ w.heap.size) (hn : m.length = N) (hr : Rows0 m N N) (h1 : 1 ≤ N) (hl : N ≤ 1000) (_hcol : col ≤ 1000) :
    Calls Try.prog 136 #[v, .int .i64 col] w (MakesM w (wdM m N col (N - 1))) := by
  obtain ⟨a, cap, rfl⟩ := h.slice
  rw [hn] at h ⊢
  have HR := Lib.hid h; clear h
  have HRW := Lib.hid hr; clear hr
  have HN := Lib.hid hn; clear hn
  have HPR := Lib.hid (wdM_pred m N col)
  go_enter Try.func136, Try.ntmps136
  go_wp2_with fail
  go_loopw [5, 6] (fun o i wr => ∃ (kk : Nat) (wq : World), wq = wr ∧ 1 ≤ kk ∧ kk ≤ N ∧ i = .int .i64 (kk : Int) ∧ MatI w.heap.size wq.heap.size wq o (wdM m N col (kk - 1)) ∧ Below w.heap.size w wq) (fun _ i _ => N - (intOf i).toNat)
  case atStart => exact ⟨1, _, rfl, Nat.le_refl _, h1, rfl, mat_empty w, (Below.refl _ _).alloc (Nat.le_refl _) _⟩
  case round =>
    obtain ⟨kk, wq, rfl, hk1, hk, rfl, hM, hb⟩ := hrel
    have HM := Lib.hid hM; clear hM
    have HB := Lib.hid hb
    have hsq := hb.size
    clear hb
    by_cases hlt : kk < N
    · have hlt' : decide (kk < N) = true := decide_eq_true hlt
      go_wp2_with fail
      go_loopw [7, 8] (fun r j wr => ∃ (c : Nat) (wi : World), wi = wr ∧ c ≤ N ∧ j = .int .i64 c ∧ RowI wq.heap.size wi.heap.size wi r (wdR m col kk c) ∧ Below wq.heap.size wq wi) (fun _ j _ => N - (intOf j).toNat)
      case atStart => exact ⟨0, _, rfl, Nat.zero_le _, rfl, row_empty wq, (Below.refl _ _).alloc (Nat.le_refl _) _⟩
      case round =>
        obtain ⟨c, wi, rfl, hc, rfl, hR, hbi⟩ := hrel
        have HRI := Lib.hid hR
        have HBI := Lib.hid hbi
        have hsz := hbi.size
        clear hbi
        by_cases hcn : c < N
        · clear hR
          have hcn' : decide (c < N) = true := decide_eq_true hcn
          have hBi : Below w.heap.size w wi := HB.out.trans (HBI.out.mono hsq)
          obtain ⟨b, off, rb, roff, rcap, rfl, hc1, hx⟩ := (HR.out.below hBi hB).entry HRW.out hlt hcn
          clear hBi
          by_cases he : c = col
          · have hq : ((c : Int) != (col : Int)) = false := by rw [bne_eq_false_iff_eq]; omega
            have HST := Lib.hid (wdR_no (m := m) (i := kk) he)
            clear he
            go_wp2_with fail
            exact ⟨⟨c + 1, _, rfl, by omega, by go_num, by rw [← HST.out]; exact HRI.out, HBI.out⟩, by simp [intOf]; omega⟩
          · have hq : ((c : Int) != (col : Int)) = true := by rw [bne_iff_ne]; omega
            have HST := Lib.hid (wdR_yes (m := m) (i := kk) he)
            have hrl : (wdR m col kk c).length ≤ 4194304 := by have := wdR_len m col kk c; omega
            have HRL := Lib.hid hrl; clear hrl he
            generalize entry m kk c = x at *
            go_wp2_with (at_builtin; go_must (refine append_int HRI.out hsz x rfl rfl rfl rfl HRL.out ?_; intro v' w3 hr3 hb3 hz3))
            rw [HST.out] at hr3
            have HR3 := Lib.hid hr3
            have HB3 := Lib.hid (hb3 wq wq.heap.size (Nat.le_refl _) HBI.out)
            clear hr3 hb3 hz3
            exact ⟨⟨c + 1, _, rfl, by omega, by go_num, HR3.out, HB3.out⟩, by simp [intOf]; omega⟩
        · obtain rfl : c = N := by omega
          have hcn' : decide (c < c) = false := by simp
          have hM3 : MatI w.heap.size wq.heap.size wi _ _ := HM.out.same (SameIn.of_below HBI.out (Nat.le_refl _))
          obtain ⟨ra, rcap, rfl⟩ := hR.slice
          have HM3 := Lib.hid hM3
          have hml : (wdM m c col (kk - 1)).length ≤ 1048576 := by rw [wdM_len]; omega
          have HML := Lib.hid hml
          clear hM3 hR hml
          go_wp2_with (at_builtin; go_must (refine append_row HM3.out HRI.out hsq hsz rfl rfl rfl rfl HML.out ?_; intro v' w3 hm3 hb3 hz3))
          rw [HPR.out kk hk1] at hm3
          have HM4 := Lib.hid hm3
          have HB4 := Lib.hid (hb3 w w.heap.size (Nat.le_refl _) (HB.out.trans (HBI.out.mono hsq)))
          clear hm3 hb3 hz3
          exact ⟨⟨kk + 1, _, rfl, by omega, by omega, by go_num, HM4.out, HB4.out⟩, by simp [intOf]; omega⟩
    · obtain rfl : kk = N := by omega
      have hlt' : decide (kk < kk) = false := by simp
      go_wp2_with fail
      go_ret
      exact ⟨_, rfl, ⟨HM.out, Nat.le_refl _⟩, HB.out⟩
theorem keepS {wq w2 : World} {p q : Addr} {c d : Value} (hp : p.block < wq.heap.size) (hq : q.block < wq.heap.size) (h1 : wq.cell? p = some c) (h2 : wq.cell? q = some d) (h : Below wq.heap.size wq w2) :
    Below wq.heap.size wq w2 ∧ w2.cell? p = some c ∧ w2.cell? q = some d := ⟨h, (h.cell hp).trans h1, (h.cell hq).trans h2⟩
theorem detF_ret {a b : Int} {w w' : World} {C : Nat} (h : a = b) (hb : Below C w w') : Ending.returned (.int .i64 a) = .returned (.int .i64 b) ∧ Below C w w' := ⟨by rw [h], hb⟩

set_option maxHeartbeats 4000000 in
set_option maxRecDepth 100000 in
theorem det_any (n : Nat) : ∀ (B : Nat) (v : Value) (m : List (List Int)) (w : World), n ≤ 4 → MatB B w v m → B ≤ w.heap.size → m.length = n → Rows0 m n n → Bd m →
    Calls Try.prog 125 #[v] w fun e w' => e = .returned (.int .i64 (detF n m)) ∧ Below w.heap.size w w' := by
  induction n with
  | zero =>
    intro B v m w _ h hB hn hr hbd
    obtain ⟨a, cap, rfl⟩ := h.slice
    clear h
    rw [hn]
    go_enter Try.func125, Try.ntmps125
    go_wp2_with fail
    go_ret
    exact ⟨rfl, Below.refl _ _⟩
  | succ n ih =>
    intro B v m w h4 h hB hn hr hbd
    obtain ⟨a, cap, rfl⟩ := h.slice
    have HR := Lib.hid h; clear h
    have IH := Lib.hid ih; clear ih
    have HBD := Lib.hid hbd
    have HEN := Lib.hid (detS_end n m)
    have HST := Lib.hid (detS_step n m)
    have HDB := Lib.hid (detS_bd hbd (fun j => detF_bd n _ (wdM_bd hbd (n + 1) j n)))
    have HD1 := Lib.hid (fun j => detF_bd n _ (wdM_bd hbd (n + 1) j n))
    have hdn := dB_small n (by omega)
    have hdn0 := dB_nonneg n
    have HWR := Lib.hid (fun j (hj : j < n + 1) => wdM_rows m j n hj)
    have HWL := Lib.hid (fun j => wdM_len m (n + 1) j n)
    have HWB := Lib.hid (fun j => wdM_bd hbd (n + 1) j n)
    have HW := Lib.hid (fun (w1 : World) (hb : Below w.heap.size w w1) (j : Nat) (hj : j ≤ 1000) => wdo_any B (.slice a m.length cap) m (n + 1) j w1 (HR.out.below hb hB) (Nat.le_trans hB hb.size) hn hr (by omega) (by omega) hj)
    have HRW := Lib.hid hr; clear hr
    rw [show n + 1 - 1 = n by omega] at HW
    clear hbd
    generalize hN : m.length = N at *
    have HNN := Lib.hid hn
    rw [← hn] at HST HRW HWR HWL HWB HD1
    have h1N : 1 ≤ N := by omega
    have h4N : N ≤ 4 := by omega
    have HMN := Lib.hid hN
    clear hn hN h4
    have hz : ((N : Int) == 0) = false := by rw [beq_eq_false_iff_ne]; omega
    generalize dB n = D at *
    go_enter Try.func125, Try.ntmps125
    go_wp2_with fail
    clear hz
    go_loopw [3, 4] (fun d i wr => ∃ (k : Nat) (s : Int) (wq : World), wq = wr ∧ k ≤ N ∧ i = .int .i64 k ∧ d = .int .i64 s ∧ Hid (s = detS n m k) ∧ Below w.heap.size w wq) (fun _ i _ => N - (intOf i).toNat)
    case atStart => exact ⟨0, 0, _, rfl, Nat.zero_le _, rfl, rfl, Lib.hid rfl, Below.refl _ _⟩
    case round =>
      obtain ⟨k, s, wq, rfl, hk, rfl, rfl, hs, hb⟩ := hrel
      have HB := Lib.hid hb
      have hsq := hb.size
      clear hb
      by_cases hlt : k < N
      · have hlt' : decide (k < N) = true := decide_eq_true hlt
        obtain ⟨b, off, rb, roff, rcap, rfl, hbB, hrB, hc1, hxx⟩ := (HR.out.below HB.out hB).line HRW.out (show 0 < N by omega)
        have hx := hxx k hlt
        clear hxx
        rw [Nat.add_zero] at hc1
        have hbq : b < wq.heap.size := by omega
        have hrq : rb < wq.heap.size := by omega
        have HKS := Lib.hid (fun w2 (hb : Below wq.heap.size wq w2) => keepS (p := ⟨b, off, none⟩) (q := ⟨rb, roff + k, none⟩) hbq hrq hc1 hx hb)
        generalize hxe : entry m 0 k = x at *
        have HXE := Lib.hid hxe; clear hxe
        have HXB := Lib.hid (HBD.out 0 k)
        have hn3 : n ≤ 4 := by have := HNN.out; omega
        have hkn : k < n + 1 := by have := HNN.out; omega
        have HN3 := Lib.hid hn3; have HKN := Lib.hid hkn
        clear hn3 hkn
        have h0N : 0 < N := by omega
        have h0I : (0 : Int) < (N : Int) := by omega
        go_wp2_with fail
        go_region_held3 (fun w' => Below wq.heap.size wq w' ∧ w'.cell? ⟨b, off, none⟩ = some (.slice (some ⟨rb, roff, none⟩) N rcap) ∧ w'.cell? ⟨rb, roff + k, none⟩ = some (.int .i64 x)) (first | exact HKS.out _ (Below.refl _ _).drew | exact HKS.out _ hbW | exact HKS.out _ hbD)
          (first
            | (go_at_call 136; refine (HW.out wq.drew HB.out.drew k (by omega)).mono ?_; rintro e w2 ⟨y, rfl, hy, hb2⟩; have hbW : Below wq.heap.size wq w2 := (Below.refl wq.heap.size wq).drew.trans hb2; have HY := Lib.hid hy; clear hy hb2)
            | (go_at_call 125; refine (IH.out _ y (wdM m (n + 1) k n) _ HN3.out HY.out.matB (Nat.le_refl _) (wdM_len m (n + 1) k n) (wdM_rows m k n HKN.out) (wdM_bd HBD.out (n + 1) k n)).mono ?_; rintro e w3 ⟨rfl, hb3⟩; have hbD : Below wq.heap.size wq w3 := hbW.trans (hb3.mono hbW.size); clear hb3))
        have HD1' := Lib.hid (HD1.out k)
        have HSB := Lib.hid (HDB.out k)
        have HSK := Lib.hid (HST.out k)
        have HB3 := Lib.hid (HB.out.trans (hbD.mono hsq))
        have hsb : -23328 ≤ s ∧ s ≤ 23328 := by
          have h1 := HSB.out
          rw [← hs.out] at h1
          have h2 : (k : Int) * (3 * D) ≤ 4 * (3 * D) := Int.mul_le_mul_of_nonneg_right (by omega) (by omega)
          omega
        rw [HXE.out] at HSK
        rw [HNN.out] at HSK HD1'
        generalize detF n (wdM m (n + 1) k n) = dt at *
        have hpb := mul_le3 (x := x) (by rw [← HXE.out]; exact HXB.out) HD1'.out hdn0
        generalize hpe : x * dt = p at *
        obtain ⟨hp1, hp2⟩ := hpb
        have hp3 : -5832 ≤ p := by omega
        have hp4 : p ≤ 5832 := by omega
        clear hp1 hp2
        have hw : IntKind.i64.wrap p = p := IntWalk.i64_in p ⟨by omega, by omega⟩
        rw [hw]
        clear hw HKS hbD hbW hc1 hx hlt' hpe
        obtain ⟨hs1, hs2⟩ := hsb
        rcases (show k = 0 ∨ k = 1 ∨ k = 2 ∨ k = 3 by omega) with rfl | rfl | rfl | rfl
        · go_wp2_with fail
          exact ⟨⟨1, s + p, _, rfl, by omega, rfl, rfl, Lib.hid (by rw [HSK.out, hs.out]; rfl), HB3.out⟩, by simp [intOf]; omega⟩
        · go_wp2_with fail
          exact ⟨⟨2, s + -p, _, rfl, by omega, rfl, rfl, Lib.hid (by rw [HSK.out, hs.out]; rfl), HB3.out⟩, by simp [intOf]; omega⟩
        · go_wp2_with fail
          exact ⟨⟨3, s + p, _, rfl, by omega, rfl, rfl, Lib.hid (by rw [HSK.out, hs.out]; rfl), HB3.out⟩, by simp [intOf]; omega⟩
        · go_wp2_with fail
          exact ⟨⟨4, s + -p, _, rfl, by omega, rfl, rfl, Lib.hid (by rw [HSK.out, hs.out]; rfl), HB3.out⟩, by simp [intOf]; omega⟩
      · obtain rfl : k = N := by omega
        have hlt' : decide (k < k) = false := by simp
        go_wp2_with fail
        go_ret
        exact detF_ret (by rw [hs.out, HNN.out]; exact HEN.out) HB.out
end Go.Proofs.Ytnlbmnielemgiaa
