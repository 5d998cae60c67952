/-
  WitnessOf, IsFinite and IsAffine of the model: what the calls return.
  IsAffine of the model: what the call returns.
  Minors, being of finite type, being affine and being connected do not change when the points are taken in another order (no walk here).
-/
import Derived.Test.YtppimgkampkfjaaGreatDoorFfg14
import Derived.Test.YtppimgkampkfjaaGreatDoorFfg13
import Derived.Test.YtppimgkampkfjaaGreatDoorFfg12
namespace Go.Proofs.YtppimgkampkfjaaGreatDoor
open Go.RowKit

set_option maxHeartbeats 4000000 in
set_option maxRecDepth 100000 in
theorem wits_any (B : Nat) (v : Value) (m : List (List Int)) (w : World) (h : MatB B w v m) (hB : B ≤ w.heap.size) (hf : RowsFit m) :
    Calls Tryz.prog 59 #[v] w (MakesS w (witV m)) := by
  obtain ⟨a, cap, rfl⟩ := h.slice
  have hl := hf.1
  have HR := Lib.hid h; clear h
  have HF := Lib.hid hf; clear hf
  by_cases hI : IsC m
  · have hn4 := hI.2.2.2
    have hn1 := hI.2.2.1
    have HC := Lib.hid (isB_yes hI)
    have HW0 := Lib.hid (fun (ht : witT m (2 ^ m.length - 1) = none) => witV_none hI ht)
    have HW1 := Lib.hid (fun t (ht : witT m (2 ^ m.length - 1) = some t) => witV_hit hI ht)
    have HMO := Lib.hid (fun t ht => minor_ok hI (t := t) ht)
    have HMP := Lib.hid (fun t => show minP m t = detF (setK (t + 1) m.length).length (pick m (intL (setK (t + 1) m.length))) from rfl)
    have hN15 := two_pow_le m.length hn4
    have HSG := Lib.hid (fun t (ht : t < 2 ^ m.length - 1) => show ((setsL m.length (2 ^ m.length - 1)).map intL).getD t [] = intL (setK (t + 1) m.length) by
      have h1 := setsL_get m.length _ t ht
      have h2 : t < (setsL m.length (2 ^ m.length - 1)).length := by rw [setsL_len]; exact ht
      have h3 : (setsL m.length (2 ^ m.length - 1)).getD t [] = (setsL m.length (2 ^ m.length - 1))[t] := by simp [List.getD, h2]
      rw [← h1, h3]
      simp [List.getD, h2])
    have HSL := Lib.hid (show ((setsL m.length (2 ^ m.length - 1)).map intL).length = 2 ^ m.length - 1 by rw [List.length_map, setsL_len])
    have HS4 := Lib.hid (fun w1 => sets4_any m.length (2 ^ m.length) w1 hn1 hn4 rfl)
    clear hI
    generalize witV m = R at *
    generalize hT : (setsL m.length (2 ^ m.length - 1)).map intL = T at *
    clear hT
    generalize 2 ^ m.length - 1 = N at *
    generalize hn : m.length = n at *
    have HN := Lib.hid hn; clear hn
    unfold maxLen at hl
    go_enter Tryz.func59, Tryz.ntmps59
    go_wp2_with fail
    refine (isc_w B _ m true HC.out _ HR.out HF.out).mono ?_
    rintro e w2 ⟨rfl, hb2⟩
    have HB2 := Lib.hid hb2
    have hs2 := hb2.size
    clear hb2
    go_wp2_with fail
    refine (HS4.out w2).mono ?_
    rintro e w3 ⟨x, rfl, hx, hb3⟩
    have HB3 := Lib.hid (HB2.out.trans (hb3.mono HB2.out.size))
    have hs3 := hb3.size
    obtain ⟨la, lcap, rfl⟩ := hx.1.slice
    rw [HSL.out] at hx ⊢
    have HX := Lib.hid hx.1
    clear hx hb3
    go_wp2_with fail
    go_loopw [4] (fun i wr => ∃ (t : Nat) (wq : World), wq = wr ∧ t ≤ N ∧ i = .int .i64 t ∧ Hid (witT m t = none) ∧ Below w3.heap.size w3 wq) (fun i _ => N - (intOf i).toNat)
    case atStart => exact ⟨0, _, rfl, Nat.zero_le _, rfl, Lib.hid rfl, Below.refl _ _⟩
    case round =>
      obtain ⟨t, wq, rfl, ht, rfl, hse, hbq⟩ := hrel
      have HBQ := Lib.hid hbq
      have hsq := hbq.size
      clear hbq
      by_cases hlt : t < N
      · have hlt' : decide (t < N) = true := decide_eq_true hlt
        obtain ⟨g1, g2, g3, g4, g5, g6⟩ := HMO.out t hlt
        have HMP' := Lib.hid (HMP.out t)
        have HSG' := Lib.hid (HSG.out t hlt)
        have HW1' := Lib.hid (HW1.out t)
        have HXQ := Lib.hid (HX.out.same (SameIn.of_below HBQ.out (Nat.le_refl _)))
        obtain ⟨lb, hv, rfl, hcell, hrow⟩ := HXQ.out.rowI4 (j := t) (by rw [HSL.out]; exact hlt)
        rw [HSG'.out] at hrow
        obtain ⟨ra, rcap, rfl⟩ := hrow.slice
        have HROW := Lib.hid hrow; clear hrow
        have hlb : lb < w3.heap.size := by
          obtain ⟨hs9, q1, q2, _⟩ := HX.out
          exact q2 lb rfl
        have HG1 := Lib.hid g1; have HG2 := Lib.hid g2; have HG4 := Lib.hid g4; have HG5 := Lib.hid g5; have HG6 := Lib.hid g6
        clear g1 g2 g4 g5 g6
        have HCELL := Lib.hid hcell
        have HBw := Lib.hid (HB3.out.trans (HBQ.out.mono (by omega)))
        generalize setK (t + 1) n = q at *
        generalize hrl : (intL q).length = rl at *
        have hrl' : rl = q.length := by rw [← hrl]; exact intL_len q
        have HRL := Lib.hid hrl
        have HRL' := Lib.hid hrl'
        have hq4 : rl ≤ 4 := by omega
        clear hrl hrl' g3
        have hBw : B ≤ wq.heap.size := by omega
        go_wp2_with fail
        refine (subs_any B w3.heap.size _ _ m (intL q) wq (HR.out.below HBw.out hB) HROW.out.rowB hBw hsq HF.out (by rw [HRL.out]; unfold maxLen; omega)).mono ?_
        rintro e w4 ⟨y, rfl, hy, hb4⟩
        rw [HG1.out] at hy
        rw [HG2.out]
        have HY := Lib.hid hy
        have HB4 := Lib.hid (HBQ.out.trans (hb4.mono hsq))
        have hs4 := hb4.size
        clear hy hb4 hcell
        go_wp2_with fail
        refine (det_any q.length _ y (pick m (intL q)) w4 (by have := HRL'.out; omega) HY.out.matB (Nat.le_refl _) HG4.out HG5.out HG6.out).mono ?_
        rintro e w5 ⟨rfl, hb5⟩
        rw [← HMP'.out]
        have HB5 := Lib.hid (HB4.out.trans (hb5.mono (by omega)))
        have hs5 := hb5.size
        clear hb5
        by_cases hneg : minP m t ≤ 0
        · have HQ := Lib.hid (HW1'.out (witT_hit hse.out hneg N hlt))
          have hneg' : decide (minP m t ≤ 0) = true := decide_eq_true hneg
          generalize minP m t = mp at *
          have hcell5 : w5.cell? ⟨lb, t, none⟩ = some (.slice ra rl rcap) := by
            have h6 := HB5.out.cell (p := ⟨lb, t, none⟩) hlb
            have h7 := HBQ.out.cell (p := ⟨lb, t, none⟩) hlb
            rw [h6, ← h7]; exact HCELL.out
          have HROW5 := Lib.hid (HROW.out.same (fun k _ hk => (HB5.out.block k hk).trans (HBQ.out.block k hk).symm))
          have HBw5 := Lib.hid (HB3.out.trans (HB5.out.mono (by omega)))
          go_wp2_with fail
          go_ret
          exact ⟨_, rfl, by rw [HQ.out]; exact ⟨HROW5.out.mono hs2 (by omega), Nat.le_refl _⟩, HBw5.out⟩
        · have HST := Lib.hid (witT_step_no hse.out hneg)
          have hneg' : decide (minP m t ≤ 0) = false := decide_eq_false hneg
          generalize minP m t = mp at *
          go_wp2_with fail
          exact ⟨⟨t + 1, _, rfl, by omega, by go_num, HST, HB5.out⟩, by simp [intOf]; omega⟩
      · obtain rfl : N = t := by omega
        have hlt' : decide (N < N) = false := by simp
        have HQ := Lib.hid (HW0.out hse.out)
        have HBw := Lib.hid (HB3.out.trans (HBQ.out.mono (by omega)))
        go_wp2_with fail
        go_ret
        exact makesS_nil HQ.out ((row_empty wq).mono HBw.out.size (Nat.le_refl _)) (HBw.out.alloc HBw.out.size _)
  · have HC := Lib.hid (isB_no hI)
    have HV := Lib.hid (witV_no hI)
    clear hI
    generalize witV m = R at *
    generalize hn : m.length = n at *
    have HN := Lib.hid hn; clear hn
    unfold maxLen at hl
    go_enter Tryz.func59, Tryz.ntmps59
    go_wp2_with fail
    refine (isc_w B _ m false HC.out _ HR.out HF.out).mono ?_
    rintro e w2 ⟨rfl, hb2⟩
    have HB2 := Lib.hid hb2; clear hb2
    go_wp2_with fail
    go_ret
    exact makesS_nil HV.out ((row_empty w2).mono HB2.out.size (Nat.le_refl _)) (HB2.out.alloc HB2.out.size _)

/-! ### IsFinite -/
open Classical in
noncomputable def finB (m : List (List Int)) : Bool := decide (IsC m ∧ (witV m).length = 0)
open Classical in
theorem finB_yes {m : List (List Int)} (h : IsC m) : finB m = decide ((witV m).length = 0) := by
  unfold finB
  rw [decide_eq_decide]
  exact ⟨fun h => h.2, fun h' => ⟨h, h'⟩⟩
open Classical in
theorem finB_no {m : List (List Int)} (h : ¬ IsC m) : finB m = false := decide_eq_false (fun hh => h hh.1)
theorem len_int0 (L : Nat) : ((L : Int) == 0) = decide (L = 0) := by
  by_cases h : L = 0
  · subst h; rfl
  · rw [decide_eq_false h, beq_eq_false_iff_ne]; omega

set_option maxHeartbeats 1000000 in
set_option maxRecDepth 100000 in
theorem fins_any (B : Nat) (v : Value) (m : List (List Int)) (w : World) (h : MatB B w v m) (hB : B ≤ w.heap.size) (hf : RowsFit m) :
    Calls Tryz.prog 63 #[v] w fun e w' => e = .returned (.bool (finB m)) ∧ Below w.heap.size w w' := by
  have HWI := Lib.hid (fun w1 (hb : Below w.heap.size w w1) => wits_any B v m w1 (h.below hb hB) (Nat.le_trans hB hb.size) hf)
  have HR := Lib.hid h; clear h
  by_cases hI : IsC m
  · have HC := Lib.hid (isB_yes hI)
    have HV := Lib.hid (finB_yes hI)
    have HL := Lib.hid (len_int0 (witV m).length)
    clear hI
    generalize finB m = c at *
    go_enter Tryz.func63, Tryz.ntmps63
    go_wp2_with fail
    refine (isc_w B _ m true HC.out _ HR.out hf).mono ?_
    rintro e w1 ⟨rfl, hb1⟩
    have HB1 := Lib.hid hb1; clear hb1
    go_wp2_with fail
    refine (HWI.out w1 HB1.out).mono ?_
    rintro e w2 ⟨x, rfl, hx, hb2⟩
    obtain ⟨xa, xcap, rfl⟩ := hx.1.slice
    have HB2 := Lib.hid (HB1.out.trans (hb2.mono HB1.out.size))
    clear hx hb2
    generalize hpl : (witV m).length = L at *
    have HPL := Lib.hid hpl; clear hpl
    go_wp2_with fail
    go_ret
    exact ⟨ret_boolean (by rw [HV.out]; exact HL.out), HB2.out⟩
  · have HC := Lib.hid (isB_no hI)
    have HV := Lib.hid (finB_no hI)
    clear hI
    generalize finB m = c at *
    go_enter Tryz.func63, Tryz.ntmps63
    go_wp2_with fail
    refine (isc_w B _ m false HC.out _ HR.out hf).mono ?_
    rintro e w1 ⟨rfl, hb1⟩
    have HB1 := Lib.hid hb1; clear hb1
    go_wp2_with fail
    go_ret
    exact ⟨ret_boolean HV.out.symm, HB1.out⟩
end Go.Proofs.YtppimgkampkfjaaGreatDoor
namespace Go.Proofs.YtppimgkampkfjaaGreatDoor
open Go.RowKit

def affC (c : Bool) (l : List Int) : Prop := c = true ∧ l.getD (l.length - 1) 0 = 0 ∧ ∀ i, i + 1 < l.length → 0 < l.getD i 0
open Classical in
noncomputable def affB (c : Bool) (l : List Int) : Bool := decide (affC c l)
open Classical in
theorem affB_yes {c : Bool} {l : List Int} (h : affC c l) : affB c l = true := decide_eq_true h
open Classical in
theorem affB_no {c : Bool} {l : List Int} (h : ¬ affC c l) : affB c l = false := decide_eq_false h
theorem conn_isC {m : List (List Int)} (h : connB (partsV m).length = true) : IsC m := Classical.byContradiction fun hn => by
  rw [partsV_no hn] at h
  exact absurd h (by decide)
theorem minV_pos {m : List (List Int)} (h : IsC m) : 1 ≤ (minV m).length := by
  rw [minV_yes h, minK_len]
  rcases (show m.length = 1 ∨ m.length = 2 ∨ m.length = 3 ∨ m.length = 4 by have := h.2.2; omega) with e | e | e | e <;> rw [e] <;> decide

set_option maxHeartbeats 2000000 in
set_option maxRecDepth 100000 in
theorem affs_any (B : Nat) (v : Value) (m : List (List Int)) (w : World) (h : MatB B w v m) (hB : B ≤ w.heap.size) (hf : RowsFit m) :
    Calls Tryz.prog 64 #[v] w fun e w' => e = .returned (.bool (affB (connB (partsV m).length) (minV m))) ∧ Below w.heap.size w w' := by
  have HPM := Lib.hid (pmin_any B v m w h hB hf)
  have HCO := Lib.hid (fun w1 (hb : Below w.heap.size w w1) => cons_any B v m w1 (h.below hb hB) (Nat.le_trans hB hb.size) hf)
  have HPOS := Lib.hid (fun (hc : connB (partsV m).length = true) => minV_pos (conn_isC hc))
  have hl15 := minV_len m
  clear h
  generalize minV m = l at *
  generalize connB (partsV m).length = c at *
  have HNO := Lib.hid (fun (h : ¬ affC c l) => affB_no h)
  have HYES := Lib.hid (fun (h : affC c l) => affB_yes h)
  generalize hr : affB c l = r at *
  have HRR := Lib.hid hr; clear hr
  generalize hln : l.length = L at *
  have HLN := Lib.hid hln; clear hln
  go_enter Tryz.func64, Tryz.ntmps64
  go_wp2_with fail
  refine HPM.out.mono ?_
  rintro e w1 ⟨x, rfl, hx, hb1⟩
  have HB1 := Lib.hid hb1
  have hs1 := hb1.size
  obtain ⟨xa, xcap, rfl⟩ := hx.1.slice
  rw [HLN.out] at hx ⊢
  have HX := Lib.hid hx.1
  clear hx hb1
  go_wp2_with fail
  refine (HCO.out w1 HB1.out).mono ?_
  rintro e w2 ⟨rfl, hb2⟩
  have HB2 := Lib.hid (HB1.out.trans (hb2.mono hs1))
  have HX2 := Lib.hid (HX.out.step hb2)
  clear hb2
  by_cases hc : c = true
  · have hp := HPOS.out hc
    obtain ⟨K, hK⟩ : ∃ K, L = K + 1 := ⟨L - 1, by omega⟩
    have hKL : K < L := by omega
    have hsub : (L : Int) - 1 = (K : Int) := by omega
    have hKI : (K : Int) < (L : Int) := by omega
    have HK := Lib.hid hK; clear hK
    obtain ⟨lb, loff, rfl, hlb, hlc⟩ := RowB.getD HX2.out.rowB (j := K) hKL
    have HCT := Lib.hid hc
    rw [hc]
    clear hc
    by_cases hz : l.getD K 0 = 0
    · have hz' : (l.getD K 0 != 0) = false := by rw [bne_eq_false_iff_eq]; exact hz
      rw [hz] at hlc
      have HZ := Lib.hid hz
      clear hz hz'
      go_wp2_with fail
      clear hlc hsub hKI
      go_loopw [4] (fun i wr => ∃ t : Nat, t + 1 ≤ L ∧ i = .int .i64 t ∧ wr = w2 ∧ ∀ j, j < t → 0 < l.getD j 0) (fun i _ => L - (intOf i).toNat)
      case atStart => exact ⟨0, by omega, rfl, rfl, fun j hj => by omega⟩
      case round =>
        obtain ⟨t, ht, rfl, rfl, hpos⟩ := hrel
        have HP := Lib.hid hpos; clear hpos
        by_cases hlt : t + 1 < L
        · have hlt' : decide (t + 1 < L) = true := decide_eq_true hlt
          have htL : t < L := by omega
          have hlc := RowB.prev HX2.out.rowB (j := t) htL
          by_cases hp0 : l.getD t 0 ≤ 0
          · have HQ := Lib.hid (HNO.out (fun h => by have := h.2.2 t (by rw [HLN.out]; exact hlt); omega))
            have hneg : decide (l.getD t 0 ≤ 0) = true := decide_eq_true hp0
            generalize l.getD t 0 = z at *
            go_wp2_with fail
            go_ret
            exact ⟨ret_boolean HQ.out.symm, HB2.out⟩
          · have hpos' : ∀ j, j < t + 1 → 0 < l.getD j 0 := fun j hj => by
              rcases Nat.lt_or_ge j t with h' | h'
              · exact HP.out j h'
              · obtain rfl : j = t := by omega
                omega
            have HP' := Lib.hid hpos'; clear hpos'
            have hneg : decide (l.getD t 0 ≤ 0) = false := decide_eq_false hp0
            generalize l.getD t 0 = z at *
            go_wp2_with fail
            exact ⟨⟨t + 1, by omega, by go_num, trivial, HP'.out⟩, by simp [intOf]; omega⟩
        · have hlt' : decide (t + 1 < L) = false := decide_eq_false hlt
          have HQ := Lib.hid (HYES.out ⟨HCT.out, by rw [HLN.out, show L - 1 = K by have := HK.out; omega]; exact HZ.out, fun i hi => HP.out i (by rw [HLN.out] at hi; omega)⟩)
          go_wp2_with fail
          go_ret
          exact ⟨ret_boolean HQ.out.symm, HB2.out⟩
    · have hz' : (l.getD K 0 != 0) = true := by rw [bne_iff_ne]; exact hz
      have HQ := Lib.hid (HNO.out (fun h => hz (by have h1 := h.2.1; rw [HLN.out, show L - 1 = K by have := HK.out; omega] at h1; exact h1)))
      clear hz
      generalize l.getD K 0 = z at *
      go_wp2_with fail
      go_ret
      exact ⟨ret_boolean HQ.out.symm, HB2.out⟩
  · have hc' : c = false := by simpa using hc
    have HQ := Lib.hid (HNO.out (fun h => hc h.1))
    rw [hc']
    clear hc hc'
    go_wp2_with fail
    go_ret
    exact ⟨ret_boolean HQ.out.symm, HB2.out⟩
end Go.Proofs.YtppimgkampkfjaaGreatDoor
namespace Go.Proofs.YtppimgkampkfjaaGreatDoor
open Go.RowKit

def eF (a : List (List Int)) (L : List Nat) (i j : Nat) : Int := entry a (L.getD i 0) (L.getD j 0)
def mapK (q S : List Nat) : List Nat := S.map fun i => q.getD i 0
theorem mapK_len (q S : List Nat) : (mapK q S).length = S.length := by simp [mapK]
theorem mapK_get (q S : List Nat) (i : Nat) (h : i < S.length) : (mapK q S).getD i 0 = q.getD (S.getD i 0) 0 := by simp [mapK, List.getD, h]
theorem fullF_congr {f g : Nat → Nat → Int} {n : Nat} (h : ∀ i j, i < n → j < n → f i j = g i j) : fullF f n = fullF g n := by
  unfold fullF rowF
  apply List.map_congr_left
  intro i hi
  apply List.map_congr_left
  intro j hj
  exact h i j (List.mem_range.1 hi) (List.mem_range.1 hj)
theorem pick_eF (a : List (List Int)) (L : List Nat) : pick a (intL L) = fullF (eF a L) L.length := by
  unfold pick
  rw [intL_len]
  refine fullF_congr fun i j hi hj => ?_
  unfold ptsF eF
  rw [intL_get _ _ hi, intL_get _ _ hj]; rfl
theorem pick_pick (a : List (List Int)) (q S : List Nat) (hS : ∀ i, i < S.length → S.getD i 0 < q.length) : pick (pick a (intL q)) (intL S) = pick a (intL (mapK q S)) := by
  rw [pick_eF (pick a (intL q)) S, pick_eF a (mapK q S), mapK_len]
  refine fullF_congr fun i j hi hj => ?_
  unfold eF
  rw [pick_eF a q, fullM_entry _ _ _ _ (hS i hi) (hS j hj)]
  unfold eF
  rw [mapK_get _ _ _ hi, mapK_get _ _ _ hj]
theorem det_map (a : List (List Int)) (S r : List Nat) (k : Nat) (hk : k ≤ 4) (hr : r ∈ ords k) (hl : S.length = k) : detF k (pick a (intL (mapK S r))) = detF k (pick a (intL S)) := by
  have hrl : r.length = k := (show ∀ k, k ≤ 4 → ∀ r ∈ ords k, r.length = k by decide +kernel) k hk r hr
  have e : fullF (eF a (mapK S r)) k = fullF (perF (eF a S) r) k := fullF_congr fun i j hi hj => by
    unfold perF eF
    rw [mapK_get _ _ _ (by omega), mapK_get _ _ _ (by omega)]
  rw [pick_eF, pick_eF, mapK_len, hrl, hl, e, det_full k hk, det_full k hk, per_all k hk (eF a S) r hr]

/-! ### Minors -/
def SetMap (n : Nat) (q : List Nat) (t u : Nat) : Prop := ∃ r ∈ ords (setK (u + 1) n).length, mapK q (setK (t + 1) n) = mapK (setK (u + 1) n) r ∧ (setK (t + 1) n).length = (setK (u + 1) n).length ∧ (t = 2 ^ n - 2 ↔ u = 2 ^ n - 2)
instance (n : Nat) (q : List Nat) (t u : Nat) : Decidable (SetMap n q t u) := by unfold SetMap; infer_instance
def MapOk (n : Nat) : Prop := ∀ q ∈ ords n, (∀ t, t < 2 ^ n - 1 → ∃ u, u < 2 ^ n - 1 ∧ SetMap n q t u) ∧ (∀ u, u < 2 ^ n - 1 → ∃ t, t < 2 ^ n - 1 ∧ SetMap n q t u)
instance (n : Nat) : Decidable (MapOk n) := by unfold MapOk; infer_instance
theorem map_ok1 : MapOk 1 := by decide +kernel
theorem map_ok2 : MapOk 2 := by decide +kernel
theorem map_ok3 : MapOk 3 := by decide +kernel
theorem map_ok4 : MapOk 4 := by decide +kernel
theorem map_ok (n : Nat) (h1 : 1 ≤ n) (h4 : n ≤ 4) : MapOk n := by
  rcases (show n = 1 ∨ n = 2 ∨ n = 3 ∨ n = 4 by omega) with rfl | rfl | rfl | rfl
  · exact map_ok1
  · exact map_ok2
  · exact map_ok3
  · exact map_ok4
theorem ords_lt : ∀ n, n ≤ 4 → ∀ q ∈ ords n, q.length = n ∧ ∀ i, i < n → q.getD i 0 < n := by decide +kernel
theorem min_map {a : List (List Int)} {q : List Nat} {n t u : Nat} (hn : a.length = n) (h4 : n ≤ 4) (hq : q ∈ ords n) (ht : t < 2 ^ n - 1) (hb : (pick a (intL q)).length = n) (h : SetMap n q t u) : minP (pick a (intL q)) t = minP a u := by
  obtain ⟨r, hr, h1, h2, _⟩ := h
  obtain ⟨hql, hqn⟩ := ords_lt n h4 q hq
  unfold minP
  rw [hb, hn, pick_pick a q _ (fun i hi => by rw [hql]; exact ((sets_ok n h4 t ht).2 i hi).1), h1, h2]
  exact det_map a _ r _ (Nat.le_trans (setK_len _ _) h4) hr rfl

/-! ### What the functions say, by minors -/
theorem fin_iff {m : List (List Int)} (hI : IsC m) : finB m = true ↔ ∀ t, t < 2 ^ m.length - 1 → 0 < minP m t := by
  rw [finB_yes hI, decide_eq_true_eq]
  have hlen : ∀ t, t < 2 ^ m.length - 1 → (setK (t + 1) m.length).length ≠ 0 := fun t ht => (sets_ok m.length hI.2.2.2 t ht).1
  cases hw : witT m (2 ^ m.length - 1) with
  | none =>
    rw [witV_none hI hw]
    refine ⟨fun _ t ht => ?_, fun _ => rfl⟩
    unfold witT at hw
    have := List.find?_eq_none.1 hw t (List.mem_range.2 ht)
    simp at this
    omega
  | some t =>
    rw [witV_hit hI hw, intL_len]
    have ht : t < 2 ^ m.length - 1 := List.mem_range.1 (List.mem_of_find?_eq_some hw)
    refine ⟨fun h => absurd h (hlen t ht), fun h => ?_⟩
    have h1 := h t ht
    have h2 := List.find?_some hw
    simp at h2
    omega
theorem aff_iff {m : List (List Int)} (hI : IsC m) (c : Bool) : affB c (minV m) = true ↔ c = true ∧ minP m (2 ^ m.length - 2) = 0 ∧ ∀ t, t < 2 ^ m.length - 2 → 0 < minP m t := by
  have hn : 1 ≤ 2 ^ m.length - 1 := by
    rcases (show m.length = 1 ∨ m.length = 2 ∨ m.length = 3 ∨ m.length = 4 by have := hI.2.2; omega) with e | e | e | e <;> rw [e] <;> decide
  have hget : ∀ t, t < 2 ^ m.length - 1 → (minV m).getD t 0 = minP m t := fun t ht => by rw [minV_yes hI]; simp [minK, List.getD, ht]
  have hlen : (minV m).length = 2 ^ m.length - 1 := by rw [minV_yes hI, minK_len]
  have key : affC c (minV m) ↔ c = true ∧ minP m (2 ^ m.length - 2) = 0 ∧ ∀ t, t < 2 ^ m.length - 2 → 0 < minP m t := by
    unfold affC
    rw [hlen, hget _ (by omega)]
    have e : 2 ^ m.length - 1 - 1 = 2 ^ m.length - 2 := by omega
    rw [e]
    refine ⟨fun ⟨h1, h2, h3⟩ => ⟨h1, h2, fun t ht => ?_⟩, fun ⟨h1, h2, h3⟩ => ⟨h1, h2, fun t ht => ?_⟩⟩
    · have := h3 t (by omega)
      rwa [hget t (by omega)] at this
    · rw [hget t (by omega)]
      exact h3 t (by omega)
  by_cases h : affC c (minV m)
  · rw [affB_yes h]
    exact ⟨fun _ => key.1 h, fun _ => rfl⟩
  · rw [affB_no h]
    exact ⟨fun h' => by simp at h', fun h' => absurd (key.2 h') h⟩
/-! ### Another order -/
theorem fin_inv {a : List (List Int)} {q : List Nat} (hI : IsC a) (hq : q ∈ ords a.length) (hB : IsC (pick a (intL q))) (hb : (pick a (intL q)).length = a.length) : finB (pick a (intL q)) = finB a := by
  rw [Bool.eq_iff_iff, fin_iff hB, fin_iff hI, hb]
  have hm := map_ok a.length hI.2.2.1 hI.2.2.2 q hq
  refine ⟨fun h u hu => ?_, fun h t ht => ?_⟩
  · obtain ⟨t, ht, hs⟩ := hm.2 u hu
    rw [← min_map rfl hI.2.2.2 hq ht hb hs]
    exact h t ht
  · obtain ⟨u, hu, hs⟩ := hm.1 t ht
    rw [min_map rfl hI.2.2.2 hq ht hb hs]
    exact h u hu
theorem aff_inv {a : List (List Int)} {q : List Nat} {c : Bool} (hI : IsC a) (hq : q ∈ ords a.length) (hB : IsC (pick a (intL q))) (hb : (pick a (intL q)).length = a.length) : affB c (minV (pick a (intL q))) = affB c (minV a) := by
  rw [Bool.eq_iff_iff, aff_iff hB, aff_iff hI, hb]
  have hm := map_ok a.length hI.2.2.1 hI.2.2.2 q hq
  have hn : 1 ≤ 2 ^ a.length - 1 := by
    rcases (show a.length = 1 ∨ a.length = 2 ∨ a.length = 3 ∨ a.length = 4 by have := hI.2.2; omega) with e | e | e | e <;> rw [e] <;> decide
  have hlast : minP (pick a (intL q)) (2 ^ a.length - 2) = minP a (2 ^ a.length - 2) := by
    obtain ⟨u, hu, hs⟩ := hm.1 (2 ^ a.length - 2) (by omega)
    have hue : u = 2 ^ a.length - 2 := hs.choose_spec.2.2.2.1 rfl
    rw [min_map rfl hI.2.2.2 hq (by omega) hb hs, hue]
  rw [hlast]
  refine ⟨fun ⟨h1, h2, h⟩ => ⟨h1, h2, fun u hu => ?_⟩, fun ⟨h1, h2, h⟩ => ⟨h1, h2, fun t ht => ?_⟩⟩
  · obtain ⟨t, ht, hs⟩ := hm.2 u (by omega)
    have hne : t ≠ 2 ^ a.length - 2 := fun e => by have := hs.choose_spec.2.2.2.1 e; omega
    rw [← min_map rfl hI.2.2.2 hq ht hb hs]
    exact h t (by omega)
  · obtain ⟨u, hu, hs⟩ := hm.1 t (by omega)
    have hne : u ≠ 2 ^ a.length - 2 := fun e => by have := hs.choose_spec.2.2.2.2 e; omega
    rw [min_map rfl hI.2.2.2 hq (by omega) hb hs]
    exact h u (by omega)
end Go.Proofs.YtppimgkampkfjaaGreatDoor
