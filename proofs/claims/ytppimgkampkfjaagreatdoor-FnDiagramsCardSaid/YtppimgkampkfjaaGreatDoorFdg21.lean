/-
  JoinCartans of the program: what the call returns.
  The table of shapes that the program builds in a map: what the call leaves, and what a look-up yields.
-/
import Derived.Test.YtppimgkampkfjaaGreatDoorFdg08
import Derived.Test.YtppimgkampkfjaaGreatDoorFdg20
import Derived.Maps.Own
namespace Go.Proofs.YtppimgkampkfjaaGreatDoor
open Go.RowKit

/-- The first k rows are laid, the others are zeros. -/
def stJ (J : List (List Int)) (N k : Nat) : List (List Int) := J.take k ++ List.replicate (N - k) (zerosR N)
theorem stJ_len {J : List (List Int)} {N k : Nat} (hJ : J.length = N) (hk : k ≤ N) : (stJ J N k).length = N := by simp [stJ, hJ]; omega
theorem stJ_get {J : List (List Int)} {N k : Nat} (hJ : J.length = N) (hk : k < N) : (stJ J N k).getD k [] = zerosR N := by
  have h : (J.take k).length = k := by simp [hJ]; omega
  unfold stJ List.getD
  rw [List.getElem?_append_right (by omega), h, Nat.sub_self, List.getElem?_replicate, if_pos (by omega)]
  rfl
theorem stJ_step {J : List (List Int)} {N k : Nat} {row : List Int} (hJ : J.length = N) (hk : k < N) (hrow : J.take k ++ [row] = J.take (k + 1)) : (stJ J N k).set k row = stJ J N (k + 1) := by
  have h : (J.take k).length = k := by simp [hJ]; omega
  unfold stJ
  rw [← hrow, List.set_append_right _ _ (by omega), h, Nat.sub_self]
  obtain ⟨d, hd⟩ : ∃ d, N - k = d + 1 := ⟨N - k - 1, by omega⟩
  rw [hd, show N - (k + 1) = d by omega, List.replicate_succ, List.set_cons_zero]
  simp
theorem stJ_zero (J : List (List Int)) (N : Nat) : stJ J N 0 = zeros N := by simp [stJ, zeros]
theorem stJ_end {J : List (List Int)} {N : Nat} (hJ : J.length = N) : stJ J N N = J := by simp [stJ, ← hJ]
theorem spl_zeros_top (N : Nat) (r : List Int) (n n' : Nat) (hr : r.length = n) (hN : N = n + n') : spl (zerosR N) 0 r = r ++ List.replicate n' 0 := by
  subst hN; simp [spl, zerosR, hr]
theorem spl_zeros_low (N : Nat) (r : List Int) (n n' : Nat) (hr : r.length = n') (hN : N = n + n') : spl (zerosR N) n r = List.replicate n 0 ++ r := by
  subst hN; simp [spl, zerosR, hr, List.take_replicate]

set_option maxHeartbeats 4000000 in
set_option maxRecDepth 100000 in
theorem joi_yes (B B' : Nat) (v v' : Value) (m m' : List (List Int)) (w : World) (h : MatB B w v m) (h' : MatB B' w v' m') (hB : B ≤ w.heap.size) (hB' : B' ≤ w.heap.size) (hf : RowsFit m) (hf' : RowsFit m') (hj : JoinOk m m') :
    Calls Tryz.prog 26 #[v, v'] w (MakesM2 w (joinL m m') (.bool true)) := by
  obtain ⟨a, cap, rfl⟩ := h.slice
  obtain ⟨a', cap', rfl⟩ := h'.slice
  have HR := Lib.hid h; clear h
  have HR' := Lib.hid h'; clear h'
  have HF := Lib.hid hf; clear hf
  have HF' := Lib.hid hf'; clear hf'
  obtain ⟨hc1, hc2, h4⟩ := hj
  have h1 := hc1.2.2.1
  have h1' := hc2.2.2.1
  have HC := Lib.hid (isB_yes hc1)
  have HC' := Lib.hid (isB_yes hc2)
  have HROW := Lib.hid (fun (k : Nat) (hk : k < m.length) => isC_row hc1 hk)
  have HROW' := Lib.hid (fun (k : Nat) (hk : k < m'.length) => isC_row hc2 hk)
  have HTOP := Lib.hid (joinL_top m m')
  have HLOW := Lib.hid (joinL_low m m')
  have HLEN := Lib.hid (joinL_len m m')
  clear hc1 hc2
  generalize hn : m.length = n at *
  generalize hn' : m'.length = n' at *
  generalize hJ : joinL m m' = J at *
  have HN := Lib.hid hn; clear hn
  have HN' := Lib.hid hn'; clear hn'
  clear hJ
  go_enter Tryz.func26, Tryz.ntmps26
  go_wp2_with fail
  refine (icm_w B _ m true HC.out _ HR.out HF.out).mono ?_
  rintro e w1 ⟨rfl, hb1⟩
  have HB1 := Lib.hid hb1
  have hs1 := hb1.size
  clear hb1
  go_wp2_with fail
  refine (icm_w B' _ m' true HC'.out _ (HR'.out.below HB1.out hB') HF'.out).mono ?_
  rintro e w2 ⟨rfl, hb2⟩
  have HB2 := Lib.hid (HB1.out.trans (hb2.mono hs1))
  clear hb2
  have hs2 := HB2.out.size
  have hd : decide (4 < (n : Int) + n') = false := decide_eq_false (by omega)
  go_wp2_with fail
  clear hd
  have hzm := zm_any (n + n') w2 (by omega)
  rw [show ((n + n' : Nat) : Int) = (n : Int) + n' by omega] at hzm
  refine hzm.mono ?_
  clear hzm
  rintro e w3 ⟨x, rfl, ⟨hm3, _⟩, hb3⟩
  have hz := zeros_len (n + n')
  obtain ⟨ra0, rcap0, rfl⟩ := hm3.slice
  rw [hz] at hm3 ⊢
  rw [← stJ_zero J] at hm3
  have hm3 := hm3.mono (hs2 : w.heap.size ≤ w2.heap.size) (Nat.le_refl _)
  have HM := Lib.hid hm3
  have HB3 := Lib.hid (HB2.out.trans (hb3.mono hs2))
  clear hb3 hm3 hz
  generalize hN : n + n' = N at *
  go_wp2_with fail
  go_loopw [35] (fun i wr => ∃ (k : Nat) (wq : World), wq = wr ∧ k ≤ n ∧ i = .int .i64 k ∧ MatI w.heap.size w3.heap.size wq (.slice ra0 N rcap0) (stJ J N k) ∧ Below w.heap.size w wq ∧ wq.heap.size = w3.heap.size) (fun i _ => n - (intOf i).toNat)
  case atStart => exact ⟨0, _, rfl, Nat.zero_le _, rfl, HM.out, HB3.out, rfl⟩
  case round =>
    obtain ⟨k, wq, rfl, hk, rfl, hM, hb, hsq⟩ := hrel
    have HMQ := Lib.hid hM; clear hM
    have HBQ := Lib.hid hb; clear hb
    have HSQ := Lib.hid hsq; clear hsq
    by_cases hlt : k < n
    · have hkl : k < m.length := by rw [HN.out]; exact hlt
      obtain ⟨b, off, ra, rcap, rfl, hbB, hcell, hrow⟩ := (HR.out.below HBQ.out hB).rowAt hlt hkl
      have hrl : (m.getD k []).length = n := HROW.out k hlt
      rw [hrl] at hcell hrow
      have htk := HTOP.out k hlt
      generalize m.getD k [] = r at *
      have hkN : k < N := by omega
      obtain ⟨g, rr, orcap, rfl, ho1, ho2, ho3, hct⟩ := HMQ.out.copyTo (j := k) (by rw [stJ_len HLEN.out (by omega)]; exact hkN) (by rw [stJ_get HLEN.out hkN, zerosR_len]; omega)
      rw [stJ_get HLEN.out hkN, zerosR_len] at ho1 ho2
      have hset := stJ_step HLEN.out hkN htk
      rw [← spl_zeros_top N r n n' hrl hN.symm, ← stJ_get HLEN.out hkN] at hset
      have hfit : 0 + r.length ≤ ((stJ J N k).getD k []).length := by rw [stJ_get HLEN.out hkN, zerosR_len, hrl]; omega
      have HSET := Lib.hid hset
      have HCT := Lib.hid hct
      have HFIT := Lib.hid hfit
      have HROW1 := Lib.hid hrow
      have HNE := Lib.hid (ne_nil_of_len (l := r) (by omega))
      have HRL : Hid (r.length ≤ N) := Lib.hid (by omega)
      clear htk hset hfit hrow hct
      clear hrl
      go_wp2_with (with_reducible refine copy_row (o := ⟨some 45, _, _, _, _, _⟩) HCT.out ho3 HROW1.out HNE.out 0 N orcap HFIT.out HRL.out HSET.out rfl rfl rfl rfl ?_)
      intro w5 hm5 hb5 hz5
      have HM5 := Lib.hid hm5
      have HB5 := Lib.hid (hb5 w w.heap.size (Nat.le_refl _) HBQ.out)
      have HZ5 := Lib.hid (hz5.trans HSQ.out)
      clear hm5 hb5 hz5
      go_wp2_with fail
      exact ⟨⟨k + 1, _, rfl, by omega, by go_num, HM5.out, HB5.out, HZ5.out⟩, by simp [intOf]; omega⟩
    · obtain rfl : k = n := by omega
      go_wp2_with fail
      go_loopw [49] (fun i wr => ∃ (j : Nat) (wq : World), wq = wr ∧ j ≤ n' ∧ i = .int .i64 j ∧ MatI w.heap.size w3.heap.size wq (.slice ra0 N rcap0) (stJ J N (k + j)) ∧ Below w.heap.size w wq ∧ wq.heap.size = w3.heap.size) (fun i _ => n' - (intOf i).toNat)
      case atStart => exact ⟨0, _, rfl, Nat.zero_le _, rfl, HMQ.out, HBQ.out, HSQ.out⟩
      case round =>
        clear HMQ HBQ HSQ
        clear wq
        obtain ⟨j, wq, rfl, hj, rfl, hM, hb, hsq⟩ := hrel
        have HMQ := Lib.hid hM; clear hM
        have HBQ := Lib.hid hb; clear hb
        have HSQ := Lib.hid hsq; clear hsq
        by_cases hjt : j < n'
        · have hkl : j < m'.length := by rw [HN'.out]; exact hjt
          obtain ⟨b, off, ra, rcap, rfl, hbB, hcell, hrow⟩ := (HR'.out.below HBQ.out hB').rowAt hjt hkl
          have hrl : (m'.getD j []).length = n' := HROW'.out j hjt
          rw [hrl] at hcell hrow
          have htk := HLOW.out j hjt
          generalize m'.getD j [] = r at *
          have hkN : k + j < N := by omega
          obtain ⟨g, rr, orcap, rfl, ho1, ho2, ho3, hct⟩ := HMQ.out.copyTo (j := k + j) (by rw [stJ_len HLEN.out (by omega)]; exact hkN) (by rw [stJ_get HLEN.out hkN, zerosR_len]; omega)
          rw [stJ_get HLEN.out hkN, zerosR_len] at ho1 ho2
          rw [← Nat.add_assoc] at htk
          have hset := stJ_step HLEN.out hkN htk
          rw [← spl_zeros_low N r k n' hrl hN.symm, ← stJ_get HLEN.out hkN] at hset
          have hfit : k + r.length ≤ ((stJ J N (k + j)).getD (k + j) []).length := by rw [stJ_get HLEN.out hkN, zerosR_len, hrl]; omega
          have HSET := Lib.hid hset
          have HCT := Lib.hid hct
          have HFIT := Lib.hid hfit
          have HROW1 := Lib.hid hrow
          have HNE := Lib.hid (ne_nil_of_len (l := r) (by omega))
          have HRL : Hid (r.length ≤ N - k) := Lib.hid (by omega)
          have hcne : ¬ orcap = k := by omega
          clear htk hset hfit hrow hct
          clear hrl
          go_wp2_with (with_reducible refine copy_row (o := ⟨some 65, _, _, _, _, _⟩) HCT.out ho3 HROW1.out HNE.out k (N - k) (orcap - k) HFIT.out HRL.out HSET.out rfl rfl rfl rfl ?_)
          intro w5 hm5 hb5 hz5
          have HM5 := Lib.hid hm5
          have HB5 := Lib.hid (hb5 w w.heap.size (Nat.le_refl _) HBQ.out)
          have HZ5 := Lib.hid (hz5.trans HSQ.out)
          clear hm5 hb5 hz5
          go_wp2_with fail
          exact ⟨⟨j + 1, _, rfl, by omega, by go_num, HM5.out, HB5.out, HZ5.out⟩, by simp [intOf]; omega⟩
        · obtain rfl : j = n' := by omega
          have hM := HMQ.out
          rw [hN, stJ_end HLEN.out] at hM
          have HM2 := Lib.hid hM
          clear hM
          go_wp2_with fail
          go_ret2
          exact ⟨_, rfl, by rw [HSQ.out]; exact ⟨HM2.out, by rw [HSQ.out]; exact Nat.le_refl _⟩, HBQ.out⟩

set_option maxHeartbeats 2000000 in
set_option maxRecDepth 100000 in
theorem joi_no (B B' : Nat) (v v' : Value) (m m' : List (List Int)) (w : World) (h : MatB B w v m) (h' : MatB B' w v' m') (hB : B ≤ w.heap.size) (hB' : B' ≤ w.heap.size) (hf : RowsFit m) (hf' : RowsFit m') (hj : ¬ JoinOk m m') :
    Calls Tryz.prog 26 #[v, v'] w (MakesM2 w [] (.bool false)) := by
  obtain ⟨a, cap, rfl⟩ := h.slice
  obtain ⟨a', cap', rfl⟩ := h'.slice
  have HR := Lib.hid h; clear h
  have HR' := Lib.hid h'; clear h'
  have HF := Lib.hid hf; clear hf
  have HF' := Lib.hid hf'; clear hf'
  by_cases hc : IsC m
  · have HC := Lib.hid (isB_yes hc)
    by_cases hc' : IsC m'
    · have HC' := Lib.hid (isB_yes hc')
      have h4 : ¬ m.length + m'.length ≤ 4 := fun h => hj ⟨hc, hc', h⟩
      have h5 := hc.2.2.2
      have h6 := hc'.2.2.2
      clear hj hc hc'
      generalize m.length = n at *
      generalize m'.length = n' at *
      have hd : decide (4 < (n : Int) + n') = true := decide_eq_true (by omega)
      go_enter Tryz.func26, Tryz.ntmps26
      go_wp2_with fail
      refine (icm_w B _ m true HC.out _ HR.out HF.out).mono ?_
      rintro e w1 ⟨rfl, hb1⟩
      have HB1 := Lib.hid hb1
      clear hb1
      go_wp2_with fail
      refine (icm_w B' _ m' true HC'.out _ (HR'.out.below HB1.out hB') HF'.out).mono ?_
      rintro e w2 ⟨rfl, hb2⟩
      have HB2 := Lib.hid (HB1.out.trans (hb2.mono HB1.out.size))
      clear hb2
      go_wp2_with fail
      go_ret2
      exact ⟨_, rfl, ⟨MatI.nil _ _ _, Nat.le_refl _⟩, HB2.out⟩
    · have HC' := Lib.hid (isB_no hc')
      clear hj hc hc'
      generalize m.length = n at *
      generalize m'.length = n' at *
      go_enter Tryz.func26, Tryz.ntmps26
      go_wp2_with fail
      refine (icm_w B _ m true HC.out _ HR.out HF.out).mono ?_
      rintro e w1 ⟨rfl, hb1⟩
      have HB1 := Lib.hid hb1
      clear hb1
      go_wp2_with fail
      refine (icm_w B' _ m' false HC'.out _ (HR'.out.below HB1.out hB') HF'.out).mono ?_
      rintro e w2 ⟨rfl, hb2⟩
      have HB2 := Lib.hid (HB1.out.trans (hb2.mono HB1.out.size))
      clear hb2
      go_wp2_with fail
      go_ret2
      exact ⟨_, rfl, ⟨MatI.nil _ _ _, Nat.le_refl _⟩, HB2.out⟩
  · have HC := Lib.hid (isB_no hc)
    clear hj hc
    generalize m.length = n at *
    generalize m'.length = n' at *
    go_enter Tryz.func26, Tryz.ntmps26
    go_wp2_with fail
    refine (icm_w B _ m false HC.out _ HR.out HF.out).mono ?_
    rintro e w2 ⟨rfl, hb2⟩
    have HB2 := Lib.hid hb2
    clear hb2
    go_wp2_with fail
    go_ret2
    exact ⟨_, rfl, ⟨MatI.nil _ _ _, Nat.le_refl _⟩, HB2.out⟩

theorem joi_any (B B' : Nat) (v v' : Value) (m m' : List (List Int)) (w : World) (h : MatB B w v m) (h' : MatB B' w v' m') (hB : B ≤ w.heap.size) (hB' : B' ≤ w.heap.size) (hf : RowsFit m) (hf' : RowsFit m') :
    Calls Tryz.prog 26 #[v, v'] w (MakesM2 w (joinM m m') (.bool (joinB m m'))) := by
  by_cases hj : JoinOk m m'
  · rw [joinM_yes hj, joinB_yes hj]
    exact joi_yes B B' v v' m m' w h h' hB hB' hf hf' hj
  · rw [joinM_no hj, joinB_no hj]
    exact joi_no B B' v v' m m' w h h' hB hB' hf hf' hj

theorem sum_map_le (l : List (List Int)) (N : Nat) (h : ∀ r ∈ l, r.length ≤ N) : (l.map List.length).sum ≤ l.length * N := by
  induction l with
  | nil => simp
  | cons r l ih =>
    simp only [List.map_cons, List.sum_cons, List.length_cons]
    have h1 := h r (by simp)
    have h2 := ih (fun x hx => h x (by simp [hx]))
    rw [Nat.add_mul]; omega
theorem joinM_small (a b : List (List Int)) : szSum (joinM a b) ≤ 1048576 := by
  by_cases hj : JoinOk a b
  · rw [joinM_yes hj]
    have hl := joinL_len a b
    obtain ⟨h1, h2, h3⟩ := hj
    have : ((joinL a b).map List.length).sum ≤ (joinL a b).length * 4 := sum_map_le _ 4 (fun r hr => by
      unfold joinL at hr
      rcases List.mem_append.1 hr with hr | hr
      · obtain ⟨x, hx, rfl⟩ := List.mem_map.1 hr
        obtain ⟨k, hk, rfl⟩ := List.getElem_of_mem hx
        have := isC_row h1 hk
        rw [getD_row a k hk] at this
        simp; omega
      · obtain ⟨x, hx, rfl⟩ := List.mem_map.1 hr
        obtain ⟨k, hk, rfl⟩ := List.getElem_of_mem hx
        have := isC_row h2 hk
        rw [getD_row b k hk] at this
        simp; omega)
    unfold szSum
    omega
  · rw [joinM_no hj]; decide
end Go.Proofs.YtppimgkampkfjaaGreatDoor
namespace Go.Proofs.YtppimgkampkfjaaGreatDoor
open Go.RowKit

abbrev Chg := List (Nat × Nat × Int)
abbrev ShTab := List (List UInt8 × Nat × Chg)
def flatC (ch : Chg) : List Value := ch.flatMap fun c => [.int .i64 (c.1 : Int), .int .i64 (c.2.1 : Int), .int .i64 c.2.2]
def ChAt (w : World) (r : Nat) (v : Value) (ch : Chg) : Prop :=
  (ch = [] ∧ v = .slice none 0 0) ∨ ∃ b, b ≠ r ∧ v = .slice (some ⟨b, 0, none⟩) ch.length ch.length ∧ w.heap[b]? = some (.cells (flatC ch).toArray 80 (0, 0))
def ShapesAt (w : World) (r : Nat) (T : ShTab) : Prop :=
  ∃ es clock, w.heap[r]? = some (.map es clock) ∧ es.toList.map (·.key) = T.map (fun p => Value.string ⟨p.1.toArray⟩) ∧
    ∀ i (h : i < T.length), ∃ e chv, es[i]? = some e ∧ e.val = .agg #[.int .i64 (T[i].2.1 : Int), chv] ∧ ChAt w r chv T[i].2.2

theorem ChAt.kept {w w' : World} {r : Nat} {v : Value} {ch : Chg} (h : ChAt w r v ch) (hk : ∀ b, b < w.heap.size → b ≠ r → w'.heap[b]? = w.heap[b]?) : ChAt w' r v ch := by
  rcases h with h | ⟨b, h1, h2, h3⟩
  · exact Or.inl h
  · exact Or.inr ⟨b, h1, h2, by rw [hk b (Array.getElem?_eq_some_iff.1 h3).1 h1]; exact h3⟩
theorem ShapesAt.lt {w : World} {r : Nat} {T : ShTab} (h : ShapesAt w r T) : r < w.heap.size := by
  obtain ⟨es, clock, h1, _⟩ := h
  exact (Array.getElem?_eq_some_iff.1 h1).1
theorem ShapesAt.alloc {w : World} {r : Nat} {T : ShTab} (h : ShapesAt w r T) (o : Obj) : ShapesAt (w.alloc o) r T := by
  have hlt := h.lt
  obtain ⟨es, clock, h1, h2, h3⟩ := h
  refine ⟨es, clock, by rw [(MapKept.heap_alloc w o).2 r hlt]; exact h1, h2, fun i hi => ?_⟩
  obtain ⟨e, chv, h4, h5, h6⟩ := h3 i hi
  exact ⟨e, chv, h4, h5, h6.kept (fun b hb _ => (MapKept.heap_alloc w o).2 b hb)⟩
theorem ShapesAt.step {w w' : World} {r : Nat} {T : ShTab} (h : ShapesAt w r T) (hb : Below w.heap.size w w') : ShapesAt w' r T := by
  have hlt := h.lt
  obtain ⟨es, clock, h1, h2, h3⟩ := h
  refine ⟨es, clock, by rw [hb.block r hlt]; exact h1, h2, fun i hi => ?_⟩
  obtain ⟨e, chv, h4, h5, h6⟩ := h3 i hi
  exact ⟨e, chv, h4, h5, h6.kept (fun b hbb _ => hb.block b hbb)⟩
theorem chAt_new (w : World) (r : Nat) (hr : r < w.heap.size) (ch : Chg) (n : Nat) (hn : n = ch.length) (cs : Array Value) (hcs : cs = (flatC ch).toArray) :
    ChAt (w.alloc (.cells cs 80)) r (.slice (some ⟨w.heap.size, 0, none⟩) n n) ch := by
  subst hn; subst hcs
  exact Or.inr ⟨w.heap.size, by omega, rfl, (MapKept.heap_alloc w _).1⟩

theorem same_no {s k : ByteArray} (h : k ≠ s) : Instr.sameNow .string (.string s) (.string k) = some false := by
  obtain ⟨r, h1, h2⟩ := MapKept.sameNow_of_keys (d := .string) (a := .string s) (b := .string k) trivial trivial
  rw [h1]
  cases r with
  | false => rfl
  | true =>
    have h3 := h2.1 rfl
    injection h3 with h3
    exact absurd h3.symm h
theorem same_yes (s : ByteArray) : Instr.sameNow .string (.string s) (.string s) = some true := by
  obtain ⟨r, h1, h2⟩ := MapKept.sameNow_of_keys (d := .string) (a := .string s) (b := .string s) trivial trivial
  rw [h1, h2.2 rfl]
theorem chAt_nil (w : World) (r : Nat) : ChAt w r (.slice none 0 0) [] := Or.inl ⟨rfl, rfl⟩
theorem findNow_miss (s : ByteArray) : ∀ (es : List MapEntry) (i : Nat), (∀ x ∈ es, ∃ k, x.key = .string k ∧ k ≠ s) → Instr.findNow .string (.string s) es i = some none
  | [], _, _ => rfl
  | x :: es, i, h => by
    obtain ⟨k, h1, h2⟩ := h x (by simp)
    unfold Instr.findNow
    rw [h1, same_no h2]
    exact findNow_miss s es (i + 1) (fun y hy => h y (by simp [hy]))
theorem findNow_hit (s : ByteArray) : ∀ (es : List MapEntry) (i j : Nat) (e : MapEntry), es[j]? = some e → e.key = .string s → (∀ k x, k < j → es[k]? = some x → ∃ t, x.key = .string t ∧ t ≠ s) → Instr.findNow .string (.string s) es i = some (some (i + j, e.val))
  | [], _, _, _, h, _, _ => by simp at h
  | x :: es, i, 0, e, h, hk, _ => by
    obtain rfl : x = e := by simpa using h
    unfold Instr.findNow
    rw [hk, same_yes]
    rfl
  | x :: es, i, j + 1, e, h, hk, hb => by
    obtain ⟨t, h1, h2⟩ := hb 0 x (by omega) (by simp)
    have h' : es[j]? = some e := by simpa using h
    unfold Instr.findNow
    rw [h1, same_no h2]
    show Instr.findNow .string (.string s) es (i + 1) = _
    rw [findNow_hit s es (i + 1) j e h' hk (fun k y hk' hy => hb (k + 1) y (by omega) (by simpa using hy))]
    congr 2
    congr 1
    omega

theorem check_key {P : Program} {w : World} {k : TypeId} (hk : P.underlying k = some .string) (s : ByteArray) (c : Bool) : (Instr.checkKey c 10000 k (.string s)).run P w = .ok () w :=
  MapKept.run_checkKey (n := 9999) (k := .string s) hk trivial c
theorem run_insert_new {P : Program} {w : World} {t k e : TypeId} (ht : P.underlying t = some (.map k e)) (hk : P.underlying k = some .string) {r : Nat} {es : Array MapEntry} {clock : Nat} (hb : w.heap[r]? = some (.map es clock))
    (key : ByteArray) (v : Value) (hnew : ∀ x ∈ es.toList, ∃ s, x.key = .string s ∧ s ≠ key) :
    (Instr.mapUpdate t (.map (some r)) (.string key) v).run P w = .ok () { w with heap := w.heap.setIfInBounds r (.map (es.push { key := .string key, val := v, born := clock }) (clock + 1)) } := by
  have hf := findNow_miss key es.toList 0 hnew
  simp [Instr.mapUpdate, run_underlying ht, run_underlying hk, MapKept.run_getObj_map hb, check_key hk, Instr.findKey, hf, MapKept.run_setObj_map _ hb, Result.andThen]

def Fresh (T : ShTab) (key : List UInt8) : Prop := ∀ p ∈ T, p.1 ≠ key
instance (T : ShTab) (key : List UInt8) : Decidable (Fresh T key) := by unfold Fresh; infer_instance
theorem keys_new {es : Array MapEntry} {T : ShTab} (h : es.toList.map (·.key) = T.map (fun p => Value.string ⟨p.1.toArray⟩)) {key : List UInt8} (hn : Fresh T key) : ∀ x ∈ es.toList, ∃ s, x.key = .string s ∧ s ≠ ⟨key.toArray⟩ := by
  intro x hx
  have hm : x.key ∈ es.toList.map (·.key) := List.mem_map.2 ⟨x, hx, rfl⟩
  rw [h] at hm
  obtain ⟨p, hp, he⟩ := List.mem_map.1 hm
  refine ⟨_, he.symm, fun e => hn p hp ?_⟩
  have e2 : p.1.toArray = key.toArray := congrArg ByteArray.data e
  exact congrArg Array.toList e2
theorem shapes_len {es : Array MapEntry} {T : ShTab} (h : es.toList.map (·.key) = T.map (fun p => Value.string ⟨p.1.toArray⟩)) : es.size = T.length := by
  have := congrArg List.length h
  simpa using this

/-- A new entry of the table. -/
theorem insert_shape {w : World} {r : Nat} {T : ShTab} {chv : Value} (hS : ShapesAt w r T) (key : List UInt8) (n : Nat) (N : Int) (hN : N = (n : Int)) (ch : Chg) (hnew : Fresh T key) (hch : ChAt w r chv ch) :
    ∃ w', (Instr.mapUpdate 77 (.map (some r)) (.string ⟨key.toArray⟩) (.agg #[.int .i64 N, chv])).run Tryz.prog w = .ok () w' ∧ ShapesAt w' r (T ++ [(key, n, ch)]) ∧
      (∀ W C, C ≤ r → Below C W w → Below C W w') ∧ w'.heap.size = w.heap.size := by
  subst hN
  have hlt := hS.lt
  obtain ⟨es, clock, h1, h2, h3⟩ := hS
  have hrun := run_insert_new Tryz.underlying77 Tryz.underlying9 h1 ⟨key.toArray⟩ (.agg #[.int .i64 (n : Int), chv]) (keys_new h2 hnew)
  have hsz := shapes_len h2
  have hk : ∀ b, b < w.heap.size → b ≠ r → (w.heap.setIfInBounds r (.map (es.push { key := .string ⟨key.toArray⟩, val := .agg #[.int .i64 (n : Int), chv], born := clock }) (clock + 1)))[b]? = w.heap[b]? := fun b _ hne => by
    rw [Array.getElem?_setIfInBounds_ne (fun e => hne e.symm)]
  refine ⟨_, hrun, ⟨es.push { key := .string ⟨key.toArray⟩, val := .agg #[.int .i64 (n : Int), chv], born := clock }, clock + 1, ?_, ?_, fun i hi => ?_⟩, fun W C hC hb => ?_, by simp⟩
  · show (w.heap.setIfInBounds r _)[r]? = _
    rw [Array.getElem?_setIfInBounds_self_of_lt hlt]
  · simp [h2]
  · by_cases hi' : i < T.length
    · obtain ⟨e, cv, h4, h5, h6⟩ := h3 i hi'
      rw [List.getElem_append_left hi']
      refine ⟨e, cv, ?_, h5, h6.kept hk⟩
      rw [Array.getElem?_push, if_neg (by omega)]
      exact h4
    · have hi2 : i = T.length := by simp at hi; omega
      subst hi2
      rw [List.getElem_append_right (Nat.le_refl _)]
      simp only [Nat.sub_self, List.getElem_cons_zero]
      exact ⟨_, chv, by rw [Array.getElem?_push, if_pos hsz.symm], rfl, hch.kept hk⟩
  · exact hb.trans ⟨rfl, rfl, rfl, by simp, fun k hk' => by
      show (w.heap.setIfInBounds r _)[k]? = _
      rw [Array.getElem?_setIfInBounds_ne (by omega)]⟩

/-- A look-up in the table. -/
theorem look_hit {w : World} {r : Nat} {T : ShTab} (hS : ShapesAt w r T) (i : Nat) (hi : i < T.length) (hd : ∀ k (h : k < i), T[k].1 ≠ T[i].1) :
    ∃ chv, ChAt w r chv T[i].2.2 ∧ (Instr.lookup 77 (.map (some r)) (.string ⟨T[i].1.toArray⟩) true).run Tryz.prog w = .ok (.tuple #[.agg #[.int .i64 (T[i].2.1 : Int), chv], .bool true]) w := by
  obtain ⟨es, clock, h1, h2, h3⟩ := hS
  obtain ⟨e, chv, h4, h5, h6⟩ := h3 i hi
  have hkey : ∀ j : Nat, (es.toList.map (·.key))[j]? = (T.map (fun p => Value.string ⟨p.1.toArray⟩))[j]? := fun j => by rw [h2]
  have hke : e.key = .string ⟨T[i].1.toArray⟩ := by
    have := hkey i
    rw [List.getElem?_map, List.getElem?_map, List.getElem?_eq_getElem hi] at this
    have h4' : es.toList[i]? = some e := by simpa using h4
    rw [h4'] at this
    simpa using this
  have hf := findNow_hit ⟨T[i].1.toArray⟩ es.toList 0 i e (by simpa using h4) hke (fun k x hk hx => by
    have := hkey k
    rw [List.getElem?_map, List.getElem?_map, hx, List.getElem?_eq_getElem (show k < T.length by omega)] at this
    refine ⟨_, by simpa using this, fun e => hd k hk ?_⟩
    exact congrArg Array.toList (congrArg ByteArray.data e))
  refine ⟨chv, h6, ?_⟩
  simp [Instr.lookup, run_underlying Tryz.underlying77, run_underlying Tryz.underlying9, MapKept.run_getObj_map h1, check_key Tryz.underlying9, Instr.findKey, hf, Result.andThen, h5]
theorem look_miss {w : World} {r : Nat} {T : ShTab} (hS : ShapesAt w r T) (s : ByteArray) (hs : Fresh T s.data.toList) :
    (Instr.lookup 77 (.map (some r)) (.string s) true).run Tryz.prog w = .ok (.tuple #[.agg #[.int .i64 0, .slice none 0 0], .bool false]) w := by
  obtain ⟨es, clock, h1, h2, h3⟩ := hS
  have hz : (zeroValue 75).run Tryz.prog w = .ok (.agg #[.int .i64 0, .slice none 0 0]) w := by kernel_rfl
  have hf := findNow_miss s es.toList 0 (by simpa using keys_new h2 hs)
  simp [Instr.lookup, run_underlying Tryz.underlying77, run_underlying Tryz.underlying9, MapKept.run_getObj_map h1, check_key Tryz.underlying9, Instr.findKey, hf, Result.andThen, hz]
end Go.Proofs.YtppimgkampkfjaaGreatDoor
