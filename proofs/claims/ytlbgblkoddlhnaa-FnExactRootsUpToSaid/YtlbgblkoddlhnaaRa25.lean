/-
  PartsOf of the model and of the program: what each call returns.
  IsConnected and HasCycle of the model and of the program: what each call returns.
-/
import Derived.Test.YtlbgblkoddlhnaaRa23
namespace Go.Proofs.Ytlbgblkoddlhnaa
open Go.RowKit

/-! ### The diagram of a valid matrix is a graph of at most four points -/
theorem nbF_low {m : List (List Int)} {p j : Nat} (h : m.length ≤ p) : nbF m p j = false := by
  have : entry m p j = 0 := by unfold entry; simp [List.getD, List.getElem?_eq_none h]
  exact decide_eq_false (fun hh => hh.2 this)
theorem nbF_far {m : List (List Int)} (hI : IsC m) {p j : Nat} (hp : p < m.length) (h : m.length ≤ j) : nbF m p j = false := by
  have h1 := hI.1 p hp
  have : entry m p j = 0 := by
    unfold entry
    have h2 : (m.getD p []).length ≤ j := by omega
    rw [List.getD_eq_getElem?_getD (l := m.getD p []), List.getElem?_eq_none h2]; rfl
  exact decide_eq_false (fun hh => hh.2 this)
theorem nbF_sym {m : List (List Int)} (hI : IsC m) (p j : Nat) : nbF m p j = nbF m j p := by
  by_cases hp : p < m.length
  · by_cases hj : j < m.length
    · unfold nbF
      have h1 := hI.2.1 p j hp hj
      by_cases e : j = p
      · subst e; rfl
      · have h2 : entry m p j = 0 ↔ entry m j p = 0 := by
          rcases h1 with h1 | h1
          · exact absurd h1.1.symm e
          · exact h1.2.2
        rw [decide_eq_decide]
        constructor
        · rintro ⟨h3, h4⟩; exact ⟨fun e => h3 e.symm, fun h5 => h4 (h2.2 h5)⟩
        · rintro ⟨h3, h4⟩; exact ⟨fun e => h3 e.symm, fun h5 => h4 (h2.1 h5)⟩
    · rw [nbF_far hI hp (by omega), nbF_low (by omega)]
  · by_cases hj : j < m.length
    · rw [nbF_low (by omega), nbF_far hI hj (by omega)]
    · rw [nbF_low (by omega), nbF_low (by omega)]
theorem nbF_self (m : List (List Int)) (p : Nat) : nbF m p p = false := decide_eq_false (fun h => h.1 rfl)
theorem nbF_gr {m : List (List Int)} (hI : IsC m) (p j : Nat) (hj : j < m.length) : nbF m p j = grE (nbF m 0 1) (nbF m 0 2) (nbF m 0 3) (nbF m 1 2) (nbF m 1 3) (nbF m 2 3) p j := by
  have h4 := hI.2.2.2
  by_cases hp : p < 4
  · have hj4 : j < 4 := by omega
    rcases (show p = 0 ∨ p = 1 ∨ p = 2 ∨ p = 3 by omega) with rfl | rfl | rfl | rfl <;> rcases (show j = 0 ∨ j = 1 ∨ j = 2 ∨ j = 3 by omega) with rfl | rfl | rfl | rfl <;>
      first | exact nbF_self m _ | rfl | exact nbF_sym hI _ _
  · rw [nbF_low (by omega)]
    obtain ⟨q, rfl⟩ : ∃ q, p = q + 4 := ⟨p - 4, by omega⟩
    rcases (show j = 0 ∨ j = 1 ∨ j = 2 ∨ j = 3 by omega) with rfl | rfl | rfl | rfl <;> rfl
theorem nbG_gr {m : List (List Int)} (hI : IsC m) : nbG m m.length = grN (grE (nbF m 0 1) (nbF m 0 2) (nbF m 0 3) (nbF m 1 2) (nbF m 1 3) (nbF m 2 3)) m.length := by
  funext p
  unfold nbG grN
  exact List.filter_congr fun j hj => nbF_gr hI p j (List.mem_range.1 hj)
theorem nbG_ok {m : List (List Int)} (hI : IsC m) : GrOk (nbG m m.length) m.length := by
  rw [nbG_gr hI]; exact grOk_all _ hI.2.2.1 hI.2.2.2 _ _ _ _ _ _
theorem edges_gr {m : List (List Int)} (hI : IsC m) (k : Nat) (hk : k ≤ m.length) : edgesN (nbF m) k = edgesN (grE (nbF m 0 1) (nbF m 0 2) (nbF m 0 3) (nbF m 1 2) (nbF m 1 3) (nbF m 2 3)) k := by
  unfold edgesN
  congr 1
  apply List.map_congr_left
  intro i hi
  have hi := List.mem_range.1 hi
  congr 1
  exact List.filter_congr fun j hj => nbF_gr hI i j (by have := List.mem_range.1 hj; omega)
theorem edges_ok {m : List (List Int)} (hI : IsC m) : endsN (nbG m m.length) m.length / 2 = edgesN (nbF m) m.length := by
  rw [edges_gr hI _ (Nat.le_refl _), nbG_gr hI]; exact edOk_all _ hI.2.2.1 hI.2.2.2 _ _ _ _ _ _

/-! ### What PartsOf returns -/
def partsL (m : List (List Int)) : List (List Nat) := partsM (nbG m m.length) m.length m.length
open Classical in
noncomputable def partsV (m : List (List Int)) : List (List Int) := if IsC m then (partsL m).map intL else []
theorem partsV_yes {m : List (List Int)} (h : IsC m) : partsV m = (partsL m).map intL := if_pos h
theorem partsV_no {m : List (List Int)} (h : ¬ IsC m) : partsV m = [] := if_neg h
theorem partsM_yes {G : Nat → List Nat} {n i : Nat} (h : (mPart G n i).getD 0 0 = i) : partsM G n i ++ [mPart G n i] = partsM G n (i + 1) := by
  show _ = if _ then _ else _
  rw [if_pos h]
theorem partsM_no {G : Nat → List Nat} {n i : Nat} (h : ¬ (mPart G n i).getD 0 0 = i) : partsM G n i = partsM G n (i + 1) := by
  show _ = if _ then _ else _
  rw [if_neg h]
theorem partsM_len (G : Nat → List Nat) (n i : Nat) : (partsM G n i).length ≤ i := by
  induction i with
  | zero => exact Nat.le_refl _
  | succ i ih =>
    by_cases h : (mPart G n i).getD 0 0 = i
    · rw [← partsM_yes h, List.length_append]; simp; exact ih
    · rw [← partsM_no h]; omega
theorem partsP_yes {G : Nat → List Nat} {n i : Nat} (h : (partsP G n i).1.getD i false = true) : partsP G n (i + 1) = partsP G n i := by
  show (if _ then _ else _) = _
  rw [if_pos h]
theorem partsP_no {G : Nat → List Nat} {n i : Nat} (h : (partsP G n i).1.getD i false = false) :
    partsP G n (i + 1) = ((bfsE G (start n i (partsP G n i).1)).1, (partsP G n i).2 ++ [sortN n (bfsE G (start n i (partsP G n i).1)).2]) := by
  show (if _ then _ else _) = _
  rw [if_neg (by rw [h]; simp)]
theorem partsP_len (G : Nat → List Nat) (n i : Nat) : (partsP G n i).2.length ≤ i := by
  induction i with
  | zero => exact Nat.le_refl _
  | succ i ih =>
    cases h : (partsP G n i).1.getD i false with
    | true => rw [partsP_yes h]; omega
    | false => rw [partsP_no h]; simp; exact ih
theorem partsV_len (m : List (List Int)) : (partsV m).length ≤ 4 := by
  by_cases h : IsC m
  · rw [partsV_yes h, List.length_map]
    have h1 := partsM_len (nbG m m.length) m.length m.length
    have := h.2.2.2
    unfold partsL
    omega
  · rw [partsV_no h]; simp
theorem partsV_le {m : List (List Int)} (h : IsC m) : (partsV m).length ≤ m.length := by
  rw [partsV_yes h, List.length_map]
  exact partsM_len (nbG m m.length) m.length m.length
theorem partsV_small (m : List (List Int)) : szSum (partsV m) ≤ 1048576 := by
  by_cases h : IsC m
  · have h1 := partsV_len m
    have h2 : ((partsV m).map List.length).sum ≤ m.length := by
      rw [partsV_yes h, List.map_map]
      have : (List.length ∘ intL) = List.length := by funext q; exact intL_len q
      rw [this]
      exact (nbG_ok h).2.2.2.2
    have := h.2.2.2
    unfold szSum
    omega
  · rw [partsV_no h]; decide

/-! ### The model -/
set_option maxHeartbeats 4000000 in
set_option maxRecDepth 100000 in
theorem parts_any (B : Nat) (v : Value) (m : List (List Int)) (w : World) (h : MatB B w v m) (hB : B ≤ w.heap.size) (hf : RowsFit m) :
    Calls Try.prog 86 #[v] w (MakesM w (partsV m)) := by
  obtain ⟨a, cap, rfl⟩ := h.slice
  have hl := hf.1
  have HR := Lib.hid h; clear h
  have HF := Lib.hid hf; clear hf
  by_cases hI : IsC m
  · have HI := Lib.hid hI
    have hn4 := hI.2.2.2
    have HC := Lib.hid (isB_yes hI)
    have HV := Lib.hid (show partsV m = (partsM (nbG m m.length) m.length m.length).map intL from partsV_yes hI)
    have HOK := Lib.hid (nbG_ok hI)
    clear hI
    have HLP := Lib.hid (l3p_any B (.slice a m.length cap) m)
    generalize partsV m = R at *
    generalize hG : nbG m m.length = G at *
    generalize hn : m.length = n at *
    have HN := Lib.hid hn; clear hn
    have HGE := Lib.hid hG; clear hG
    unfold maxLen at hl
    go_enter Try.func86, Try.ntmps86
    go_wp2_with fail
    go_loopw [3, 4] (fun o i wr => ∃ (k : Nat) (wq : World), wq = wr ∧ k ≤ n ∧ i = .int .i64 k ∧ MatI w.heap.size wq.heap.size wq o ((partsM G n k).map intL) ∧ Below w.heap.size w wq) (fun _ i _ => n - (intOf i).toNat)
    case atStart => exact ⟨0, _, rfl, Nat.zero_le _, rfl, mat_empty w, (Below.refl _ _).alloc (Nat.le_refl _) _⟩
    case round =>
      obtain ⟨k, wq, rfl, hk, rfl, hM, hb⟩ := hrel
      have HM := Lib.hid hM; clear hM
      have HB := Lib.hid hb; clear hb
      by_cases hlt : k < n
      · have hlt' : decide (k < n) = true := decide_eq_true hlt
        go_wp2_with fail
        refine (isc_w B _ m true HC.out _ (HR.out.below HB.out hB) HF.out).mono ?_
        rintro e w2 ⟨rfl, hb2⟩
        have HM2 := Lib.hid (HM.out.step hb2)
        have HB2 := Lib.hid (HB.out.trans (hb2.mono HB.out.size))
        clear hb2 HM HB
        go_wp2_with fail
        refine (HLP.out k w2 (HR.out.below HB2.out hB) (Nat.le_trans hB HB2.out.size) HF.out HI.out hlt).mono ?_
        rintro e w3 ⟨x, rfl, hx, hb3⟩
        have HB3 := Lib.hid (HB2.out.trans (hb3.mono HB2.out.size))
        have HM3 := Lib.hid (HM2.out.same (SameIn.of_below hb3 (Nat.le_refl _)))
        have hs3 := hb3.size
        have hs2 := HB2.out.size
        clear hb3
        have hpl : (mPart G n k).length ≠ 0 := HOK.out.2.1 k hlt
        obtain ⟨xa, xcap, rfl⟩ := hx.1.slice
        obtain ⟨xb, xoff, rfl, hxb, hxc⟩ := RowB.getD (j := 0) hx.1.rowB (by rw [intL_len]; omega)
        rw [intL_get _ _ (by omega), Nat.add_zero] at hxc
        have HX := Lib.hid hx; clear hx
        have hml : ((partsM G n k).map intL).length ≤ 1048576 := by rw [List.length_map]; have := partsM_len G n k; omega
        have HML := Lib.hid hml; clear hml
        have hpl2 : 0 < (intL (mPart G n k)).length := by rw [intL_len]; omega
        clear hpl
        by_cases hq : (mPart G n k).getD 0 0 = k
        · have hq' : (((mPart G n k).getD 0 0 : Nat) : Int) == (k : Int) := by rw [beq_iff_eq]; omega
          have HST := Lib.hid (partsM_yes hq)
          clear hq
          generalize (mPart G n k).getD 0 0 = p0 at *
          generalize (intL (mPart G n k)).length = pl at *
          go_wp2_with (at_builtin; go_must (refine append_row HM3.out HX.out.1 hs2 hs3 rfl rfl rfl rfl HML.out ?_; intro v' w4 hm4 hb4 hz4))
          have hm4' : MatI w.heap.size w4.heap.size w4 v' ((partsM G n (k + 1)).map intL) := by
            rw [← HST.out, List.map_append]; exact hm4
          have HM4 := Lib.hid hm4'
          have HB4 := Lib.hid (hb4 w w.heap.size (Nat.le_refl _) HB3.out)
          clear hm4 hm4' hb4 hz4
          go_wp2_with fail
          exact ⟨⟨k + 1, _, rfl, by omega, by go_num, HM4.out, HB4.out⟩, by simp [intOf]; omega⟩
        · have hq' : ((((mPart G n k).getD 0 0 : Nat) : Int) == (k : Int)) = false := by rw [beq_eq_false_iff_ne]; omega
          have HST := Lib.hid (partsM_no hq)
          clear hq
          generalize (mPart G n k).getD 0 0 = p0 at *
          generalize (intL (mPart G n k)).length = pl at *
          go_wp2_with fail
          exact ⟨⟨k + 1, _, rfl, by omega, by go_num, by rw [← HST.out]; exact HM3.out.mono (Nat.le_refl _) hs3, HB3.out⟩, by simp [intOf]; omega⟩
      · obtain rfl : n = k := by omega
        have hlt' : decide (n < n) = false := by simp
        go_wp2_with fail
        go_ret
        exact ⟨_, rfl, by rw [HV.out]; exact ⟨HM.out, Nat.le_refl _⟩, HB.out⟩
  · have HC := Lib.hid (isB_no hI)
    have HV := Lib.hid (partsV_no hI)
    clear hI
    generalize partsV m = R at *
    generalize hn : m.length = n at *
    unfold maxLen at hl
    have HN := Lib.hid hn; clear hn
    go_enter Try.func86, Try.ntmps86
    go_wp2_with fail
    go_loopw [3, 4] (fun o i wr => i = .int .i64 0 ∧ o = .slice (some ⟨w.heap.size, 0, none⟩) 0 0 ∧ wr = w.alloc (.cells #[] 23)) (fun _ _ _ => 0)
    case atStart => exact ⟨rfl, rfl, rfl⟩
    case round =>
      obtain ⟨rfl, rfl, rfl⟩ := hrel
      have hb : Below w.heap.size w (w.alloc (.cells #[] 23)) := (Below.refl _ _).alloc (Nat.le_refl _) _
      have HB := Lib.hid hb; clear hb
      by_cases h0 : 0 < n
      · go_wp2_with fail
        refine (isc_w B _ m false HC.out _ (HR.out.below HB.out hB) HF.out).mono ?_
        rintro e w2 ⟨rfl, hb2⟩
        have HB2 := Lib.hid hb2; clear hb2
        go_wp2_with fail
        go_ret
        exact makesM_nil HV.out ((mat_empty w).step HB2.out) (HB.out.trans (HB2.out.mono HB.out.size))
      · have hd : decide (0 < n) = false := decide_eq_false h0
        go_wp2_with fail
        go_ret
        exact makesM_nil HV.out (mat_empty w) HB.out

/-! ### The program -/
set_option maxHeartbeats 4000000 in
set_option maxRecDepth 100000 in
theorem parti_any (B : Nat) (v : Value) (m : List (List Int)) (w : World) (h : MatB B w v m) (hB : B ≤ w.heap.size) (hf : RowsFit m) :
    Calls Try.prog 87 #[v] w (MakesM w (partsV m)) := by
  obtain ⟨a, cap, rfl⟩ := h.slice
  have hl := hf.1
  have HR := Lib.hid h; clear h
  have HF := Lib.hid hf; clear hf
  by_cases hI : IsC m
  · have HI := Lib.hid hI
    have hn4 := hI.2.2.2
    have HC := Lib.hid (isB_yes hI)
    have HV := Lib.hid (show partsV m = (partsM (nbG m m.length) m.length m.length).map intL from partsV_yes hI)
    have HOK := Lib.hid (nbG_ok hI)
    clear hI
    have HPA := Lib.hid (fun A => part_any B A (.slice a m.length cap) m)
    generalize partsV m = R at *
    generalize hG : nbG m m.length = G at *
    generalize hn : m.length = n at *
    have HN := Lib.hid hn; clear hn
    have HGE := Lib.hid hG; clear hG
    unfold maxLen at hl
    have HMK := Lib.hid (makeBools n (by omega))
    have HSM := Lib.hid (fun w => seen_made w n (by omega))
    have HZ := Lib.hid (show (List.replicate n false) = (partsP G n 0).1 from rfl)
    go_enter Try.func87, Try.ntmps87
    go_wp2_with fail
    refine (icm_w B _ m true HC.out _ HR.out HF.out).mono ?_
    rintro e w1 ⟨rfl, hb1⟩
    have HB1 := Lib.hid hb1
    have hs1 := hb1.size
    have hmk := HMK.out w1
    have hsm := HSM.out w1
    have hb2 := hb1.alloc hs1 (.cells (boolsV (List.replicate n false)).toArray 4)
    have hsz2 : (w1.alloc (.cells (boolsV (List.replicate n false)).toArray 4)).heap.size = w1.heap.size + 1 := by simp
    rw [HZ.out] at hmk hsm hb2 hsz2
    generalize w1.alloc (.cells (boolsV (partsP G n 0).1).toArray 4) = w2 at *
    generalize hgg : w1.heap.size = g at *
    have HB2 := Lib.hid hb2
    have HS2 := Lib.hid hsm
    clear hb1 hb2 hsm
    go_wp2_with fail
    clear hmk
    go_loopw [3, 14] (fun o i wr => ∃ (k : Nat) (wq : World), wq = wr ∧ k ≤ n ∧ i = .int .i64 k ∧ MatI w2.heap.size wq.heap.size wq o ((partsP G n k).2.map intL) ∧ SeenI g wq g n (partsP G n k).1 ∧ Below w.heap.size w wq ∧ w2.heap.size ≤ wq.heap.size) (fun _ i _ => n - (intOf i).toNat)
    case atStart => exact ⟨0, _, rfl, Nat.zero_le _, rfl, MatI.nil _ _ _, HS2.out, HB2.out, Nat.le_refl _⟩
    case round =>
      obtain ⟨k, wq, rfl, hk, rfl, hM, hS, hb, hsz⟩ := hrel
      have HM := Lib.hid hM; clear hM
      have HS := Lib.hid hS; clear hS
      have HB := Lib.hid hb
      have hsq := hb.size
      clear hb
      by_cases hlt : k < n
      · have hsc := HS.out.cell hlt
        by_cases hse : (partsP G n k).1.getD k false = true
        · have HST := Lib.hid (partsP_yes hse)
          rw [hse] at hsc
          clear hse
          go_wp2_with fail
          exact ⟨⟨k + 1, _, rfl, by omega, by go_num, by rw [HST.out]; exact HM.out, by rw [HST.out]; exact HS.out, HB.out, hsz⟩, by simp [intOf]; omega⟩
        · have hse' : (partsP G n k).1.getD k false = false := by simpa using hse
          have HST := Lib.hid (partsP_no hse')
          rw [hse'] at hsc
          have hpm := HOK.out.2.2.1 k hlt hse'
          have HPM := Lib.hid hpm
          have hpl := partsP_len G n k
          clear hse hse' hpm
          go_wp2_with fail
          refine (HPA.out g k g (partsP G n k).1 wq (HR.out.below HB.out hB) (Nat.le_trans hB hsq) (by omega) HF.out HI.out hlt HS.out HPM.out).mono ?_
          rintro e w3 ⟨x, rfl, hx, hS3, hg3⟩
          have HM3 := Lib.hid (HM.out.keep HS.out hg3)
          have HB3 := Lib.hid (HB.out.grown hg3 hsq (fun q hq => by injection hq with hq; omega))
          have HS3 := Lib.hid hS3
          have hs3 := hg3.size
          obtain ⟨xa, xcap, rfl⟩ := hx.slice
          have HX := Lib.hid hx
          have hml : ((partsP G n k).2.map intL).length ≤ 1048576 := by rw [List.length_map]; omega
          have HML := Lib.hid hml; clear hml hx hS3 hg3
          go_wp2_with (at_builtin; go_must (refine append_row HM3.out HX.out hsz hs3 rfl rfl rfl rfl HML.out ?_; intro v' w4 hm4 hb4 hz4))
          have hm4' : MatI w2.heap.size w4.heap.size w4 v' ((partsP G n (k + 1)).2.map intL) := by
            rw [HST.out, List.map_append]; exact hm4
          have HM4 := Lib.hid hm4'
          have hs4' : SeenI g w4 g n (partsP G n (k + 1)).1 := by
            rw [HST.out]; exact HS3.out.below (hb4 _ w2.heap.size (Nat.le_refl _) (Below.refl _ _)) (by omega)
          have HS4 := Lib.hid hs4'
          have HB4 := Lib.hid (hb4 w w.heap.size (by omega) HB3.out)
          clear hm4 hm4' hs4' hb4
          go_wp2_with fail
          exact ⟨⟨k + 1, _, rfl, by omega, by go_num, HM4.out, HS4.out, HB4.out, by omega⟩, by simp [intOf]; omega⟩
      · obtain rfl : n = k := by omega
        go_wp2_with fail
        go_ret
        exact ⟨_, rfl, by rw [HV.out, ← HOK.out.1]; exact ⟨HM.out.mono (by omega) (Nat.le_refl _), Nat.le_refl _⟩, HB.out⟩
  · have HC := Lib.hid (isB_no hI)
    have HV := Lib.hid (partsV_no hI)
    clear hI
    generalize partsV m = R at *
    generalize hn : m.length = n at *
    unfold maxLen at hl
    have HN := Lib.hid hn; clear hn
    go_enter Try.func87, Try.ntmps87
    go_wp2_with fail
    refine (icm_w B _ m false HC.out _ HR.out HF.out).mono ?_
    rintro e w1 ⟨rfl, hb1⟩
    have HB1 := Lib.hid hb1; clear hb1
    go_wp2_with fail
    go_ret
    exact makesM_nil HV.out (MatI.nil _ _ _) HB1.out
end Go.Proofs.Ytlbgblkoddlhnaa
namespace Go.Proofs.Ytlbgblkoddlhnaa
open Go.RowKit

def connB (m : Nat) : Bool := decide (m = 1)
theorem connB_int (L : Nat) : ((L : Int) == 1) = connB L := by
  unfold connB
  by_cases h : L = 1
  · subst h; rfl
  · rw [decide_eq_false h, beq_eq_false_iff_ne]; omega

set_option maxHeartbeats 1000000 in
set_option maxRecDepth 100000 in
theorem cons_any (B : Nat) (v : Value) (m : List (List Int)) (w : World) (h : MatB B w v m) (hB : B ≤ w.heap.size) (hf : RowsFit m) :
    Calls Try.prog 67 #[v] w fun e w' => e = .returned (.bool (connB (partsV m).length)) ∧ Below w.heap.size w w' := by
  have HL := Lib.hid (connB_int (partsV m).length)
  have HP := Lib.hid (parts_any B v m w h hB hf)
  go_enter Try.func67, Try.ntmps67
  go_wp2_with fail
  refine HP.out.mono ?_
  rintro e w2 ⟨x, rfl, hx, hb⟩
  obtain ⟨xa, xcap, rfl⟩ := hx.1.slice
  have HB := Lib.hid hb
  clear hx hb
  generalize hpl : (partsV m).length = L at *
  have HPL := Lib.hid hpl; clear hpl
  go_wp2_with fail
  go_ret
  exact ⟨ret_boolean (by rw [HPL.out]; exact HL.out), HB.out⟩

set_option maxHeartbeats 1000000 in
set_option maxRecDepth 100000 in
theorem coni_any (B : Nat) (v : Value) (m : List (List Int)) (w : World) (h : MatB B w v m) (hB : B ≤ w.heap.size) (hf : RowsFit m) :
    Calls Try.prog 68 #[v] w fun e w' => e = .returned (.bool (connB (partsV m).length)) ∧ Below w.heap.size w w' := by
  have HL := Lib.hid (connB_int (partsV m).length)
  have HP := Lib.hid (parti_any B v m w h hB hf)
  go_enter Try.func68, Try.ntmps68
  go_wp2_with fail
  refine HP.out.mono ?_
  rintro e w2 ⟨x, rfl, hx, hb⟩
  obtain ⟨xa, xcap, rfl⟩ := hx.1.slice
  have HB := Lib.hid hb
  clear hx hb
  generalize hpl : (partsV m).length = L at *
  have HPL := Lib.hid hpl; clear hpl
  go_wp2_with fail
  go_ret
  exact ⟨ret_boolean (by rw [HPL.out]; exact HL.out), HB.out⟩

/-! ### HasCycle -/
def cntK (E : Nat → Nat → Bool) (k j : Nat) : Nat := ((List.range j).filter (E k)).length
theorem cntK_le (E : Nat → Nat → Bool) (k j : Nat) : cntK E k j ≤ j := Nat.le_trans (List.length_filter_le _ _) (by rw [List.length_range]; exact Nat.le_refl _)
theorem cntK_yes {E : Nat → Nat → Bool} {k j : Nat} (h : E k j = true) : cntK E k (j + 1) = cntK E k j + 1 := by
  unfold cntK
  rw [List.range_succ, List.filter_append]
  simp [h]
theorem cntK_no {E : Nat → Nat → Bool} {k j : Nat} (h : E k j = false) : cntK E k (j + 1) = cntK E k j := by
  unfold cntK
  rw [List.range_succ, List.filter_append]
  simp [h]
theorem edgesN_succ (E : Nat → Nat → Bool) (k : Nat) : edgesN E (k + 1) = edgesN E k + cntK E k k := by
  unfold edgesN cntK
  rw [List.range_succ, List.map_append, List.sum_append]
  simp
theorem edgesN_le (E : Nat → Nat → Bool) (k : Nat) (hk : k ≤ 5) : edgesN E k ≤ 4 * k := by
  induction k with
  | zero => exact Nat.le_refl _
  | succ k ih =>
    rw [edgesN_succ]
    have h1 := ih (by omega)
    have h2 := cntK_le E k k
    omega
noncomputable def endsV (m : List (List Int)) (k : Nat) : Nat := ((List.range k).map fun i => (nbs m ((i : Nat) : Int)).length).sum
theorem endsV_succ (m : List (List Int)) (k : Nat) : endsV m (k + 1) = endsV m k + (nbs m (k : Int)).length := by
  unfold endsV
  rw [List.range_succ, List.map_append, List.sum_append]
  simp
theorem endsV_bad {m : List (List Int)} (h : ¬ IsC m) (k : Nat) : endsV m k = 0 := by
  induction k with
  | zero => rfl
  | succ k ih => rw [endsV_succ, ih, nbs_no (fun hh => h hh.1)]; rfl
theorem endsV_le {m : List (List Int)} (k : Nat) (hk : k ≤ m.length) : endsV m k ≤ 16 := by
  by_cases h : IsC m
  · have h4 := h.2.2.2
    have : endsV m k ≤ 4 * k := by
      clear hk
      induction k with
      | zero => exact Nat.le_refl _
      | succ k ih => rw [endsV_succ]; have := nbs_len m (k : Int); omega
    omega
  · rw [endsV_bad h]; omega
theorem endsV_good {m : List (List Int)} (h : IsC m) (k : Nat) (hk : k ≤ m.length) : endsV m k = endsN (nbG m m.length) k := by
  unfold endsV endsN
  congr 1
  apply List.map_congr_left
  intro i hi
  have hi := List.mem_range.1 hi
  rw [nbs_yes ⟨h, by omega⟩, nbK_eq, intL_len]
  rfl
open Classical in
noncomputable def cycB (m : List (List Int)) : Bool := decide (IsC m ∧ (m.length : Int) - ((partsV m).length : Nat) < ((edgesN (nbF m) m.length : Nat) : Int))
open Classical in
theorem cycB_good {m : List (List Int)} (h : IsC m) : cycB m = decide ((m.length : Int) - ((partsV m).length : Nat) < ((edgesN (nbF m) m.length : Nat) : Int)) := by
  unfold cycB
  rw [decide_eq_decide]
  exact ⟨fun h => h.2, fun h' => ⟨h, h'⟩⟩
open Classical in
theorem cycB_bad {m : List (List Int)} (h : ¬ IsC m) : cycB m = false := decide_eq_false (fun hh => h hh.1)

end Go.Proofs.Ytlbgblkoddlhnaa
