/-
  The program's sets by bits, principal minors and witness: what the calls return.
  The program's WitnessOf and IsFinite: what the calls return.
-/
import Derived.Test.YtnlbmnielemgiaaGreatEz21
import Derived.Test.YtnlbmnielemgiaaGreatEz35
import Derived.Test.YtnlbmnielemgiaaGreatEz18
namespace Go.Proofs.YtnlbmnielemgiaaGreat
open Go.RowKit

/-! ### The points of a number -/
theorem setK_four : ∀ n : Nat, n ≤ 4 → ∀ t : Nat, t < 2 ^ n → setK t 4 = setK t n := by decide +kernel
theorem bit_bool (t c : Nat) (ht : t < 16) (hc : c < 4) : (bits BinOp.and IntKind.i64 ((t : Int) / 2 ^ c) 1 == 1) = t.testBit c := bit_test t ht c hc
set_option maxHeartbeats 2000000 in
set_option maxRecDepth 100000 in
theorem ptb_any (t : Nat) (w : World) (ht : t < 16) :
    Calls Tryz.prog 90 #[.int .i64 t] w (MakesS w (intL (setK t 4))) := by
  go_enter Tryz.func90, Tryz.ntmps90
  go_wp2_with fail
  go_loopw [3, 5] (fun o i wr => ∃ (c : Nat) (wq : World), wq = wr ∧ c ≤ 4 ∧ i = .int .i64 c ∧ RowI w.heap.size wq.heap.size wq o (intL (setK t c)) ∧ Below w.heap.size w wq) (fun _ i _ => 4 - (intOf i).toNat)
  case atStart => exact ⟨0, _, rfl, Nat.zero_le _, rfl, RowI.nil _ _ _, Below.refl _ _⟩
  case round =>
    obtain ⟨c, wq, rfl, hc, rfl, hR, hbi⟩ := hrel
    have HRI := Lib.hid hR
    have HBI := Lib.hid hbi
    have hsz := hbi.size
    clear hbi
    by_cases hcn : c < 4
    · clear hR
      have hcn' : decide (c < 4) = true := decide_eq_true hcn
      have hbt := bit_test t (by omega) c (by omega)
      by_cases hbit : t.testBit c = true
      · have HST := Lib.hid (setK_yes hbit)
        rw [hbit] at hbt
        clear hbit
        have hrl : (intL (setK t c)).length ≤ 4194304 := by rw [intL_len]; have := setK_len t c; omega
        have HRL := Lib.hid hrl; clear hrl
        go_wp2_with (at_builtin; go_must (refine append_int HRI.out hsz (c : Int) rfl rfl rfl rfl HRL.out ?_; intro v' w3 hr3 hb3 hz3))
        rw [intL_snoc, HST.out] at hr3
        have HR3 := Lib.hid hr3
        have HB3 := Lib.hid (hb3 w w.heap.size (Nat.le_refl _) HBI.out)
        clear hr3 hb3 hz3
        exact ⟨⟨c + 1, _, rfl, by omega, by go_num, HR3.out, HB3.out⟩, by simp [intOf]; omega⟩
      · have hbit' : t.testBit c = false := by simpa using hbit
        have HST := Lib.hid (setK_no hbit')
        rw [hbit'] at hbt
        clear hbit hbit'
        go_wp2_with fail
        exact ⟨⟨c + 1, _, rfl, by omega, by go_num, by rw [← HST.out]; exact HRI.out, HBI.out⟩, by simp [intOf]; omega⟩
    · obtain rfl : c = 4 := by omega
      have hcn' : decide (4 < 4) = false := by simp
      go_wp2_with fail
      go_ret
      exact ⟨_, rfl, ⟨HRI.out, Nat.le_refl _⟩, HBI.out⟩

/-! ### The matrix of a set is valid -/
theorem set_isC4 {m : List (List Int)} (hI : IsC m) {t : Nat} (ht : t < 2 ^ m.length - 1) : IsC (pick m (intL (setK (t + 1) m.length))) ∧ (pick m (intL (setK (t + 1) m.length))).length = (setK (t + 1) m.length).length := by
  have hset := set_is hI.2.2.2 ht
  have hn0 := (sets_ok m.length hI.2.2.2 t ht)
  have hl4 : (setK (t + 1) m.length).length ≤ 4 := Nat.le_trans (setK_len _ _) hI.2.2.2
  have hlen : (pick m (intL (setK (t + 1) m.length))).length = (setK (t + 1) m.length).length := by rw [pick_len, intL_len]
  refine ⟨⟨?_, ?_, by rw [hlen]; have := hn0.1; omega, by rw [hlen]; exact hl4⟩, hlen⟩
  · intro i hi
    have := pick_rows m (intL (setK (t + 1) m.length))
    rw [intL_len] at this
    rw [hlen] at hi ⊢
    exact this i hi
  · intro i j hi hj
    rw [hlen] at hi hj
    have hasc : ∀ k, k < (setK (t + 1) m.length).length → ∀ l, l < k → (setK (t + 1) m.length).getD l 0 < (setK (t + 1) m.length).getD k 0 := by
      intro k
      induction k with
      | zero => intro _ l hl; omega
      | succ k ih =>
        intro hk l hl
        have h1 := (hn0.2 (k + 1) hk).2 (by omega)
        simp only [Nat.add_sub_cancel] at h1
        rcases Nat.lt_or_ge l k with h2 | h2
        · exact Nat.lt_trans (ih (by omega) l h2) h1
        · obtain rfl : l = k := by omega
          exact h1
    have he : ∀ p r, p < (setK (t + 1) m.length).length → r < (setK (t + 1) m.length).length → entry (pick m (intL (setK (t + 1) m.length))) p r = entry m ((setK (t + 1) m.length).getD p 0) ((setK (t + 1) m.length).getD r 0) := fun p r hp hr => by
      unfold pick
      rw [fullM_entry _ _ _ _ (by rw [intL_len]; exact hp) (by rw [intL_len]; exact hr)]
      unfold ptsF
      rw [intL_get _ _ hp, intL_get _ _ hr]; rfl
    have h0 := hI.2.1 _ _ (hn0.2 i hi).1 (hn0.2 j hj).1
    unfold okC at h0 ⊢
    rw [he i j hi hj, he j i hj hi]
    rcases h0 with ⟨h1, h2⟩ | ⟨h1, h2, h3⟩
    · refine Or.inl ⟨?_, h2⟩
      rcases Nat.lt_trichotomy i j with h4 | h4 | h4
      · have := hasc j hj i h4; omega
      · exact h4
      · have := hasc i hi j h4; omega
    · exact Or.inr ⟨fun e => h1 (by rw [e]), h2, h3⟩
theorem pick_detV {m : List (List Int)} (hI : IsC m) {t : Nat} (ht : t < 2 ^ m.length - 1) : detV (pick m (intL (setK (t + 1) m.length))) = minP m t := by
  obtain ⟨h1, h2⟩ := set_isC4 hI ht
  rw [detV_yes h1, h2]; rfl

/-! ### Minors -/
set_option maxHeartbeats 4000000 in
set_option maxRecDepth 100000 in
theorem pmini_any (B : Nat) (v : Value) (m : List (List Int)) (w : World) (h : MatB B w v m) (hB : B ≤ w.heap.size) (hf : RowsFit m) :
    Calls Tryz.prog 89 #[v] w (MakesS w (minV m)) := by
  obtain ⟨a, cap, rfl⟩ := h.slice
  have hl := hf.1
  have HR := Lib.hid h; clear h
  have HF := Lib.hid hf; clear hf
  by_cases hI : IsC m
  · have hn4 := hI.2.2.2
    have hn1 := hI.2.2.1
    have HC := Lib.hid (isB_yes hI)
    have HI := Lib.hid hI
    have HV := Lib.hid (minV_yes hI)
    have HDV := Lib.hid (fun t ht => pick_detV hI (t := t) ht)
    have HPI := Lib.hid (fun t ht => (set_isC4 hI (t := t) ht).1)
    have HSE := Lib.hid (fun t ht => set_is hn4 (t := t) ht)
    have HMS := Lib.hid (minK_step m)
    have HML := Lib.hid (minK_len m)
    have hpw : wrap64 (2 ^ m.length) = ((2 ^ m.length : Nat) : Int) := by
      rcases (show m.length = 1 ∨ m.length = 2 ∨ m.length = 3 ∨ m.length = 4 by omega) with e | e | e | e <;> rw [e] <;> first | decide | decide +kernel
    have hN16 : 2 ^ m.length ≤ 16 ∧ 1 ≤ 2 ^ m.length := by
      rcases (show m.length = 1 ∨ m.length = 2 ∨ m.length = 3 ∨ m.length = 4 by omega) with e | e | e | e <;> rw [e] <;> decide
    have HK4 := Lib.hid (setK_four m.length hn4)
    clear hI
    generalize minV m = R at *
    generalize hNN : 2 ^ m.length = N at *
    have HNN := Lib.hid hNN; clear hNN
    generalize hn : m.length = n at *
    have HN := Lib.hid hn; clear hn
    unfold maxLen at hl
    obtain ⟨hN1, hN2⟩ := hN16
    go_enter Tryz.func89, Tryz.ntmps89
    go_wp2_with fail
    refine (icm_w B _ m true HC.out _ HR.out HF.out).mono ?_
    rintro e w2 ⟨rfl, hb2⟩
    have HB2 := Lib.hid hb2
    clear hb2
    go_wp2_with fail
    go_loopw [3, 4] (fun o i wr => ∃ (t : Nat) (wq : World), wq = wr ∧ 1 ≤ t ∧ t ≤ N ∧ i = .int .i64 t ∧ RowI w.heap.size wq.heap.size wq o (minK m (t - 1)) ∧ Below w.heap.size w wq) (fun _ i _ => N - (intOf i).toNat)
    case atStart => exact ⟨1, _, rfl, Nat.le_refl _, hN2, rfl, RowI.nil _ _ _, HB2.out⟩
    case round =>
      obtain ⟨t, wq, rfl, ht1, ht, rfl, hO, hb⟩ := hrel
      have HO := Lib.hid hO; have HB := Lib.hid hb
      have hsw := hb.size
      clear hO hb
      by_cases hlt : t < N
      · have hlt' : decide (t < N) = true := decide_eq_true hlt
        obtain ⟨u, rfl⟩ : ∃ u, t = u + 1 := ⟨t - 1, by omega⟩
        have hu : u < N - 1 := by omega
        obtain ⟨hset, hne0⟩ := HSE.out u hu
        have hDV := HDV.out u hu
        have HMS' := Lib.hid (HMS.out u)
        have hmlen := HML.out u
        have h4n := HK4.out (u + 1) hlt
        have hsl := isSet_len hset
        have HPT := Lib.hid (isSet_pt hset)
        have hptb := ptb_any (u + 1) wq (by omega)
        rw [h4n] at hptb
        have HPTB := Lib.hid hptb
        rw [show u + 1 - 1 = u from rfl] at HO
        clear hset hne0 hptb h4n
        generalize intL (setK (u + 1) n) = l at *
        have HDV' := Lib.hid hDV; clear hDV
        have HSL := Lib.hid hsl; clear hsl
        have hcu : ((u + 1 : Nat) : Int) = (u : Int) + 1 := by omega
        rw [hcu] at HPTB ⊢
        go_wp2_with fail
        refine HPTB.out.mono ?_
        rintro e w4 ⟨x, rfl, hx, hb4⟩
        have HX := Lib.hid hx.1
        have HB4 := Lib.hid (HB.out.trans (hb4.mono hsw))
        have HO4 := Lib.hid (HO.out.step hb4)
        have hs4 := hb4.size
        clear hx hb4
        go_wp2_with fail
        refine (pickp_any B _ (.slice a n cap) x m l w4 (HR.out.below HB4.out hB) HX.out.rowB (by omega) (Nat.le_refl _) HF.out (by rw [HN.out]; exact (by have := HI.out.1; rw [HN.out] at this; exact this)) (by rw [HN.out]; exact HPT.out) (by have := HSL.out; omega)).mono ?_
        rintro e w5 ⟨y, rfl, hy, hb5⟩
        have HY := Lib.hid hy
        have HB5 := Lib.hid (HB4.out.trans (hb5.mono (by omega)))
        have HO5 := Lib.hid (HO4.out.step hb5)
        have hs5 := hb5.size
        clear hy hb5
        go_wp2_with fail
        refine (deti_any _ y (pick m l) w5 HY.out.matB (Nat.le_refl _) (fit_of_small (small_of (fullF_small _ _ (by have := HSL.out; omega))))).mono ?_
        rintro e w6 ⟨rfl, hb6⟩
        rw [HDV'.out]
        have HB6 := Lib.hid (HB5.out.trans (hb6.mono (by omega)))
        have HO6 := Lib.hid (HO5.out.step hb6)
        have hs6 := hb6.size
        clear hb6
        have hrl6 : (minK m u).length ≤ 4194304 := by omega
        have HRL6 := Lib.hid hrl6; clear hrl6
        have hsw6 : w.heap.size ≤ w6.heap.size := by omega
        go_wp2_with (at_builtin; go_must (refine append_int HO6.out hsw6 (minP m u) rfl rfl rfl rfl HRL6.out ?_; intro v7 w7 hr7 hb7 hz7))
        rw [HMS'.out] at hr7
        have HR7 := Lib.hid hr7
        have HB7 := Lib.hid (hb7 w w.heap.size (Nat.le_refl _) HB6.out)
        clear hr7 hb7 hz7
        exact ⟨⟨u + 2, _, rfl, by omega, by omega, by go_num, HR7.out, HB7.out⟩, by simp [intOf]; omega⟩
      · obtain rfl : N = t := by omega
        have hlt' : decide (N < N) = false := by simp
        go_wp2_with fail
        go_ret
        exact ⟨_, rfl, by rw [HV.out]; exact ⟨HO.out, Nat.le_refl _⟩, HB.out⟩
  · have HC := Lib.hid (isB_no hI)
    have HV := Lib.hid (minV_no hI)
    clear hI
    generalize minV m = R at *
    generalize hn : m.length = n at *
    have HN := Lib.hid hn; clear hn
    unfold maxLen at hl
    go_enter Tryz.func89, Tryz.ntmps89
    go_wp2_with fail
    refine (icm_w B _ m false HC.out _ HR.out HF.out).mono ?_
    rintro e w2 ⟨rfl, hb2⟩
    have HB2 := Lib.hid hb2; clear hb2
    go_wp2_with fail
    go_ret
    exact makesS_nil HV.out (RowI.nil _ _ _) HB2.out
end Go.Proofs.YtnlbmnielemgiaaGreat
namespace Go.Proofs.YtnlbmnielemgiaaGreat
open Go.RowKit

theorem minK_get (m : List (List Int)) (k t : Nat) (h : t < k) : (minK m k).getD t 0 = minP m t := by simp [minK, List.getD, h]
set_option maxHeartbeats 4000000 in
set_option maxRecDepth 100000 in
theorem witi_any (B : Nat) (v : Value) (m : List (List Int)) (w : World) (h : MatB B w v m) (hB : B ≤ w.heap.size) (hf : RowsFit m) :
    Calls Tryz.prog 74 #[v] w (MakesS w (witV m)) := by
  have HPM := Lib.hid (pmini_any B v m w h hB hf)
  obtain ⟨L, hL, hL15, hget, hhit, hnone⟩ : ∃ L, (minV m).length = L ∧ L ≤ 15 ∧ (∀ t, t < L → (minV m).getD t 0 = minP m t) ∧ (∀ t, witT m t = none → minP m t ≤ 0 → t < L → witV m = intL (setK (t + 1) 4) ∧ t + 1 < 16) ∧ (witT m L = none → witV m = []) := by
    by_cases hI : IsC m
    · have hn4 := hI.2.2.2
      have h15 := two_pow_le m.length hn4
      refine ⟨2 ^ m.length - 1, by rw [minV_yes hI, minK_len], h15, fun t ht => by rw [minV_yes hI, minK_get _ _ _ ht], fun t h1 h2 h3 => ⟨?_, by omega⟩, fun h1 => witV_none hI h1⟩
      rw [witV_hit hI (witT_hit h1 h2 _ h3), setK_four m.length hn4 (t + 1) (by omega)]
    · refine ⟨0, by rw [minV_no hI]; rfl, by omega, fun t ht => absurd ht (Nat.not_lt_zero _), fun t _ _ h => absurd h (Nat.not_lt_zero _), fun _ => witV_no hI⟩
  have HL := Lib.hid hL; have HGET := Lib.hid hget; have HHIT := Lib.hid hhit; have HNONE := Lib.hid hnone
  clear h hL hget hhit hnone
  generalize minV m = M at *
  generalize witV m = R at *
  go_enter Tryz.func74, Tryz.ntmps74
  go_wp2_with fail
  refine HPM.out.mono ?_
  rintro e w1 ⟨x, rfl, hx, hb1⟩
  obtain ⟨xa, xcap, rfl⟩ := hx.1.slice
  rw [HL.out] at hx ⊢
  have HX := Lib.hid hx.1
  have HB1 := Lib.hid hb1
  have hs1 := hb1.size
  clear hx hb1
  go_wp2_with fail
  go_loopw [8] (fun i wr => ∃ t : Nat, t ≤ L ∧ i = .int .i64 t ∧ wr = w1 ∧ Hid (witT m t = none)) (fun i _ => L - (intOf i).toNat)
  case atStart => exact ⟨0, Nat.zero_le _, rfl, rfl, Lib.hid rfl⟩
  case round =>
    obtain ⟨t, ht, rfl, rfl, hse⟩ := hrel
    by_cases hlt : t < L
    · have hlt' : decide (t < L) = true := decide_eq_true hlt
      obtain ⟨lb, loff, rfl, hlb, hlc⟩ := HX.out.rowB.getD (j := t) hlt
      rw [HGET.out t hlt] at hlc
      by_cases hneg : minP m t ≤ 0
      · obtain ⟨hR, h16⟩ := HHIT.out t hse.out hneg hlt
        have hneg' : decide (minP m t ≤ 0) = true := decide_eq_true hneg
        have hptb := ptb_any (t + 1) wr h16
        rw [← hR, show ((t + 1 : Nat) : Int) = (t : Int) + 1 by omega] at hptb
        have HPTB := Lib.hid hptb
        clear hR hptb hneg
        generalize minP m t = mp at *
        go_wp2_with fail
        refine HPTB.out.mono ?_
        rintro e w4 ⟨y, rfl, hy, hb4⟩
        have HY := Lib.hid (hy.1.mono hs1 (Nat.le_refl _))
        have HB4 := Lib.hid (HB1.out.trans (hb4.mono hs1))
        clear hy hb4
        go_wp2_with fail
        go_ret
        exact ⟨_, rfl, ⟨HY.out, Nat.le_refl _⟩, HB4.out⟩
      · have HST := Lib.hid (witT_step_no hse.out hneg)
        have hneg' : decide (minP m t ≤ 0) = false := decide_eq_false hneg
        generalize minP m t = mp at *
        go_wp2_with fail
        exact ⟨⟨t + 1, by omega, by go_num, trivial, HST⟩, by simp [intOf]; omega⟩
    · obtain rfl : L = t := by omega
      have hlt' : decide (L < L) = false := by simp
      have HQ := Lib.hid (HNONE.out hse.out)
      go_wp2_with fail
      go_ret
      exact makesS_nil HQ.out (RowI.nil _ _ _) HB1.out

set_option maxHeartbeats 1000000 in
set_option maxRecDepth 100000 in
theorem fini_any (B : Nat) (v : Value) (m : List (List Int)) (w : World) (h : MatB B w v m) (hB : B ≤ w.heap.size) (hf : RowsFit m) :
    Calls Tryz.prog 58 #[v] w fun e w' => e = .returned (.bool (finB m)) ∧ Below w.heap.size w w' := by
  have HWI := Lib.hid (fun w1 (hb : Below w.heap.size w w1) => witi_any B v m w1 (h.below hb hB) (Nat.le_trans hB hb.size) hf)
  have HR := Lib.hid h; clear h
  by_cases hI : IsC m
  · have HC := Lib.hid (isB_yes hI)
    have HV := Lib.hid (finB_yes hI)
    have HL := Lib.hid (len_int0 (witV m).length)
    clear hI
    generalize finB m = c at *
    go_enter Tryz.func58, Tryz.ntmps58
    go_wp2_with fail
    refine (icm_w B _ m true HC.out _ HR.out hf).mono ?_
    rintro e w1 ⟨rfl, hb1⟩
    have HB1 := Lib.hid hb1; clear hb1
    go_wp2_with fail
    refine (HWI.out w1 HB1.out).mono ?_
    rintro e w2 ⟨x, rfl, hx, hb2⟩
    obtain ⟨xa, xcap, rfl⟩ := hx.1.slice
    have HB2 := Lib.hid (HB1.out.trans (hb2.mono HB1.out.size))
    clear hx hb2
    generalize hpl : (witV m).length = L at *
    have HPL := Lib.hid hpl; clear hpl
    go_wp2_with fail
    go_ret
    exact ⟨ret_boolean (by rw [HV.out]; exact HL.out), HB2.out⟩
  · have HC := Lib.hid (isB_no hI)
    have HV := Lib.hid (finB_no hI)
    clear hI
    generalize finB m = c at *
    go_enter Tryz.func58, Tryz.ntmps58
    go_wp2_with fail
    refine (icm_w B _ m false HC.out _ HR.out hf).mono ?_
    rintro e w1 ⟨rfl, hb1⟩
    have HB1 := Lib.hid hb1; clear hb1
    go_wp2_with fail
    go_ret
    exact ⟨ret_boolean HV.out.symm, HB1.out⟩
end Go.Proofs.YtnlbmnielemgiaaGreat
