/-
  Words: what the model's CompareWords, EqualWords, SupportOf and AlternatingWord return.
-/
import Derived.Test.YtnfogfkgbignbaaWrdS
import Derived.Deep.QuietTactic
import Derived.BigQuiet
namespace Go.Proofs.Ytnfogfkgbignbaa
open Go.RowKit

theorem ret_i64 {a b : Int} (h : a = b) : Ending.returned (.int .i64 a) = .returned (.int .i64 b) := by rw [h]
set_option maxHeartbeats 2000000 in
set_option maxRecDepth 100000 in
theorem cmps_any (B : Nat) (v v' : Value) (l l' : List Int) (w : World) (h : RowB B w v l) (h' : RowB B w v' l') (hl : l.length ≤ maxLen) (hl' : l'.length ≤ maxLen) :
    Calls Try.prog 26 #[v, v'] w fun e w' => e = .returned (.int .i64 (cmpW l l')) ∧ ∃ q, w' = w.drewN q := by
  obtain ⟨a, cap, rfl⟩ := h.slice
  obtain ⟨a', cap', rfl⟩ := h'.slice
  have HL := Lib.hid h; have HL' := Lib.hid h'
  clear h h'
  unfold maxLen at hl hl'
  have HLT := Lib.hid (fun (h : l.length < l'.length) => cmpW_lt h)
  have HGT := Lib.hid (fun (h : l'.length < l.length) => cmpW_gt h)
  have HAT := Lib.hid (fun k (hl : l.length = l'.length) (hk : k < l.length) (he : l.take k = l'.take k) (hne : l.getD k 0 ≠ l'.getD k 0) => cmpW_at hl hk he hne)
  have HEQ := Lib.hid (fun (h : l = l') => show cmpW l l' = 0 from cmpW_zero.2 h)
  have HTK := Lib.hid (fun k (hk : k < l.length) (hk' : k < l'.length) (he : l.take k = l'.take k) (hx : l.getD k 0 = l'.getD k 0) => show l.take (k + 1) = l'.take (k + 1) from by
    rw [List.take_succ_eq_append_getElem hk, List.take_succ_eq_append_getElem hk', he]
    simp [List.getD, hk, hk'] at hx
    rw [hx])
  have HFU := Lib.hid (fun (h1 : l.length = l'.length) (he : l.take l.length = l'.take l.length) => show l = l' from by
    rw [List.take_length, h1, List.take_length] at he; exact he)
  generalize cmpW l l' = R at *
  generalize hn : l.length = n at *
  generalize hn' : l'.length = n' at *
  have HN := Lib.hid hn; have HN' := Lib.hid hn'
  clear hn hn'
  rcases Nat.lt_trichotomy n n' with hlt | heq | hgt
  · have HV := Lib.hid (HLT.out hlt)
    have hne : ((n : Int) != (n' : Int)) = true := by rw [bne_iff_ne]; omega
    have hd : decide (n < n') = true := decide_eq_true hlt
    clear HLT HGT HAT HEQ HTK HFU hlt
    go_enter Try.func26, Try.ntmps26
    go_wp2_with fail
    go_ret
    exact ⟨ret_i64 HV.out.symm, 0, rfl⟩
  · subst heq
    go_enter Try.func26, Try.ntmps26
    go_wp2_with fail
    go_loopw [5] (fun i wr => ∃ (k q : Nat), k ≤ n ∧ i = .int .i64 k ∧ wr = w.drewN q ∧ Hid (l.take k = l'.take k)) (fun i _ => n - (intOf i).toNat)
    case atStart => exact ⟨0, 0, Nat.zero_le _, rfl, rfl, Lib.hid rfl⟩
    case round =>
      obtain ⟨k, q, hk, rfl, rfl, hp⟩ := hrel
      by_cases hlt : k < n
      · obtain ⟨b, off, rfl, hb, hc⟩ := HL.out.getD hlt
        obtain ⟨b', off', rfl, hb', hc'⟩ := HL'.out.getD hlt
        have HV := Lib.hid (fun h => HAT.out k (by first | rfl | trivial) hlt hp.out h)
        have HS := Lib.hid (fun h => HTK.out k hlt hlt hp.out h)
        clear HLT HGT HAT HEQ HTK HFU
        generalize l.getD k 0 = x at *
        generalize l'.getD k 0 = y at *
        by_cases hxy : x < y
        · have hd : decide (x < y) = true := decide_eq_true hxy
          have HV2 := Lib.hid ((HV.out (by omega)).trans (if_pos hxy))
          clear HV HS hxy
          go_wp2_with fail
          go_quiet (fail)
          go_wp2_with fail
          go_ret
          exact ⟨ret_i64 HV2.out.symm, q + nq, World.drewN_drewN _ _ _⟩
        · have hd : decide (x < y) = false := decide_eq_false hxy
          by_cases hyx : y < x
          · have hd2 : decide (y < x) = true := decide_eq_true hyx
            have HV2 := Lib.hid ((HV.out (by omega)).trans (if_neg hxy))
            clear HV HS hxy hyx
            go_wp2_with fail
            go_quiet (fail)
            go_wp2_with fail
            go_quiet (fail)
            go_wp2_with fail
            go_ret
            exact ⟨ret_i64 HV2.out.symm, _, by rw [World.drewN_drewN, World.drewN_drewN]⟩
          · have hd2 : decide (y < x) = false := decide_eq_false hyx
            have HS2 := Lib.hid (HS.out (by omega))
            clear HV HS hxy hyx
            go_wp2_with fail
            go_quiet (fail)
            go_wp2_with fail
            go_quiet (fail)
            go_wp2_with fail
            exact ⟨⟨k + 1, _, by omega, by go_num, rfl, HS2⟩, by simp [intOf]; omega⟩
      · obtain rfl : k = n := by omega
        have HV := Lib.hid (HEQ.out (HFU.out (by first | rfl | trivial) hp.out))
        clear HLT HGT HAT HEQ HTK HFU
        go_wp2_with fail
        go_ret
        exact ⟨ret_i64 HV.out.symm, q, rfl⟩
  · have HV := Lib.hid (HGT.out hgt)
    have hne : ((n : Int) != (n' : Int)) = true := by rw [bne_iff_ne]; omega
    have hd : decide (n < n') = false := decide_eq_false (by omega)
    clear HLT HGT HAT HEQ HTK HFU hgt
    go_enter Try.func26, Try.ntmps26
    go_wp2_with fail
    go_ret
    exact ⟨ret_i64 HV.out.symm, 0, rfl⟩
def eqwB (l l' : List Int) : Bool := decide (cmpW l l' = 0)
set_option maxRecDepth 100000 in
theorem eqws_any (B : Nat) (v v' : Value) (l l' : List Int) (w : World) (h : RowB B w v l) (h' : RowB B w v' l') (hl : l.length ≤ maxLen) (hl' : l'.length ≤ maxLen) :
    Calls Try.prog 44 #[v, v'] w fun e w' => e = .returned (.bool (eqwB l l')) ∧ ∃ q, w' = w.drewN q := by
  have HC := Lib.hid (cmps_any B v v' l l' w h h' hl hl')
  have HE := Lib.hid (show (cmpW l l' == 0) = eqwB l l' from rfl)
  clear h h' hl hl'
  generalize cmpW l l' = c at *
  go_enter Try.func44, Try.ntmps44
  go_wp2_with fail
  refine HC.out.mono ?_
  rintro e w' ⟨rfl, q, rfl⟩
  go_wp2_with fail
  go_ret
  exact ⟨ret_boolean HE.out, q, rfl⟩

set_option maxHeartbeats 4000000 in
set_option maxRecDepth 100000 in
theorem put_any (B : Nat) (v : Value) (l : List Int) (x : Int) (w : World) (h : RowB B w v l) (hB : B ≤ w.heap.size) (hl : l.length ≤ 1048576) :
    Calls Try.prog 63 #[v, .int .i64 x] w (MakesS w (putL l x)) := by
  obtain ⟨a, cap, rfl⟩ := h.slice
  have HL := Lib.hid h; clear h
  have HST := Lib.hid (fun k (hk : k < l.length) => putP_take (x := x) hk)
  have HLN := Lib.hid (fun k => putP_len x (l.take k))
  have HPU := Lib.hid (fun (h : (putP x l).2 = true) => show putL l x = (putP x l).1 from if_pos h)
  have HPN := Lib.hid (fun (h : (putP x l).2 = false) => show putL l x = (putP x l).1 ++ [x] from if_neg (by rw [h]; decide))
  have HTA := Lib.hid (show l.take l.length = l from List.take_length)
  have H0 := Lib.hid (show putP x (l.take 0) = ([], false) from rfl)
  generalize putL l x = R at *
  generalize hn : l.length = n at *
  have HN := Lib.hid hn; clear hn
  go_enter Try.func63, Try.ntmps63
  go_wp2_with fail
  go_loopw [5, 6, 7] (fun o p i wr => ∃ (k : Nat) (S : List Int × Bool) (wq : World), wq = wr ∧ k ≤ n ∧ i = .int .i64 k ∧ p = .bool S.2 ∧ Hid (S = putP x (l.take k)) ∧ RowI w.heap.size wq.heap.size wq o S.1 ∧ Below w.heap.size w wq) (fun _ _ i _ => n - (intOf i).toNat)
  case atStart => exact ⟨0, ([], false), _, rfl, Nat.zero_le _, rfl, rfl, Lib.hid H0.out.symm, row_empty w, (Below.refl _ _).alloc (Nat.le_refl _) _⟩
  case round =>
    obtain ⟨k, ⟨S1, S2⟩, wq, rfl, hk, rfl, rfl, hS, hM, hb⟩ := hrel
    have HM := Lib.hid hM; clear hM
    have hsq := hb.size
    have HB := Lib.hid hb; clear hb
    have hlen := HLN.out k
    rw [← hS.out] at hlen
    have hlen1 : S1.length ≤ 1048578 := by
      have h1 : (l.take k).length ≤ n := by rw [List.length_take]; omega
      simp only [] at hlen
      omega
    clear hlen
    by_cases hlt : k < n
    · obtain ⟨b, off, rfl, hbB, hc0⟩ := HL.out.getD hlt
      have hbw : b < w.heap.size := by omega
      have hc := (HB.out.cell (p := ⟨b, off + k, none⟩) hbw).trans hc0
      have HC0 := Lib.hid hc0
      clear hc0
      have hst := HST.out k hlt
      rw [← hS.out] at hst
      have HSN := Lib.hid hst
      clear hst
      have HRL := Lib.hid (show S1.length ≤ 4194304 by omega)
      have HRL2 := Lib.hid (show (S1 ++ [x]).length ≤ 4194304 by simp; omega)
      generalize l.getD k 0 = y at *
      by_cases hyx : y = x
      · subst hyx
        have hq : (y == y) = true := by simp
        have hg : decide (y < y) = false := by simp
        have HE := Lib.hid (show (S1 ++ [y], true) = putP y (l.take (k + 1)) from by rw [HSN.out]; unfold putS; simp)
        go_wp2_with (at_builtin; go_must (refine append_int HM.out hsq y rfl rfl rfl rfl HRL.out ?_; intro v' w3 hr3 hb3 hz3))
        have HR3 := Lib.hid hr3
        have HB3 := Lib.hid (hb3 w w.heap.size (Nat.le_refl _) HB.out)
        clear hr3 hb3 hz3
        go_wp2_with fail
        exact ⟨⟨k + 1, (S1 ++ [y], true), _, rfl, by omega, by go_num, rfl, HE, HR3.out, HB3.out⟩, by simp [intOf]; omega⟩
      · have hq : (y == x) = false := by rw [beq_eq_false_iff_ne]; exact hyx
        by_cases hxy : x < y ∧ S2 = false
        · obtain ⟨hxy, rfl⟩ := hxy
          have hg : decide (x < y) = true := decide_eq_true hxy
          have HE := Lib.hid (show ((S1 ++ [x]) ++ [y], true) = putP x (l.take (k + 1)) from by rw [HSN.out]; unfold putS; simp [hyx, hxy])
          clear hyx hxy
          have tok1 : True := trivial
          go_wp2_with (first | (at_builtin; have _t := tok1; go_must (refine append_int HM.out hsq x rfl rfl rfl rfl HRL.out ?_; intro v' w3 hr3 hb3 hz3; clear tok1 _t; have HR3 := Lib.hid hr3; have hb3' := hb3 w w.heap.size (Nat.le_refl _) HB.out; have hs3 := hb3'.size; have hc3 := (hb3'.cell (p := ⟨b, off + k, none⟩) hbw).trans HC0.out; have HB3 := Lib.hid hb3'; clear hr3 hb3 hz3 hb3' hc)) | (at_builtin; go_must (refine append_int HR3.out hs3 y rfl rfl rfl rfl HRL2.out ?_; intro v4 w4 hr4 hb4 hz4)))
          have HR4 := Lib.hid hr4
          have HB4 := Lib.hid (hb4 w w.heap.size (Nat.le_refl _) HB3.out)
          clear hr4 hb4 hz4
          go_wp2_with fail
          exact ⟨⟨k + 1, ((S1 ++ [x]) ++ [y], true), _, rfl, by omega, by go_num, rfl, HE, HR4.out, HB4.out⟩, by simp [intOf]; omega⟩
        · have HE := Lib.hid (show (S1 ++ [y], S2) = putP x (l.take (k + 1)) from by
            rw [HSN.out]; unfold putS
            have h1 : (decide (x < y) && !(S2 || decide (y = x))) = false := by
              cases S2 with
              | true => simp
              | false =>
                by_cases h : x < y
                · exact absurd ⟨h, rfl⟩ hxy
                · rw [decide_eq_false h]; rfl
            simp only [h1]
            simp [hyx])
          have hcase : decide (x < y) = false ∨ (decide (x < y) = true ∧ S2 = true) := by
            by_cases h : x < y
            · refine Or.inr ⟨decide_eq_true h, ?_⟩
              cases S2 with
              | true => rfl
              | false => exact absurd ⟨h, rfl⟩ hxy
            · exact Or.inl (decide_eq_false h)
          clear hyx hxy
          rcases hcase with hg | ⟨hg, rfl⟩
          case' inl => cases S2
          all_goals
            go_wp2_with (at_builtin; go_must (refine append_int HM.out hsq y rfl rfl rfl rfl HRL.out ?_; intro v' w3 hr3 hb3 hz3))
            have HR3 := Lib.hid hr3
            have HB3 := Lib.hid (hb3 w w.heap.size (Nat.le_refl _) HB.out)
            clear hr3 hb3 hz3
            go_wp2_with fail
            exact ⟨⟨k + 1, (S1 ++ [y], _), _, rfl, by omega, by go_num, rfl, HE, HR3.out, HB3.out⟩, by simp [intOf]; omega⟩
    · obtain rfl : k = n := by omega
      have hS' := hS.out
      rw [HTA.out] at hS'
      cases S2 with
      | true =>
        have HV := Lib.hid (show R = S1 from by rw [HPU.out (by rw [← hS']), ← hS'])
        go_wp2_with fail
        go_ret
        exact ⟨_, rfl, ⟨by rw [HV.out]; exact HM.out, Nat.le_refl _⟩, HB.out⟩
      | false =>
        have HV := Lib.hid (show R = S1 ++ [x] from by rw [HPN.out (by rw [← hS']), ← hS'])
        have HRL := Lib.hid (show S1.length ≤ 4194304 by omega)
        clear hS'
        go_wp2_with (at_builtin; go_must (refine append_int HM.out hsq x rfl rfl rfl rfl HRL.out ?_; intro v' w3 hr3 hb3 hz3))
        have HR3 := Lib.hid hr3
        have HB3 := Lib.hid (hb3 w w.heap.size (Nat.le_refl _) HB.out)
        clear hr3 hb3 hz3
        go_wp2_with fail
        go_ret
        exact ⟨_, rfl, ⟨by rw [HV.out]; exact HR3.out, Nat.le_refl _⟩, HB3.out⟩
set_option maxHeartbeats 2000000 in
set_option maxRecDepth 100000 in
theorem sups_any (B : Nat) (v : Value) (l : List Int) (w : World) (h : RowB B w v l) (hB : B ≤ w.heap.size) (hl : l.length ≤ 1048576) :
    Calls Try.prog 31 #[v] w (MakesS w (suppL l)) := by
  obtain ⟨a, cap, rfl⟩ := h.slice
  have HL := Lib.hid h; clear h
  have HST := Lib.hid (fun k (hk : k < l.length) => suppL_take hk)
  have HLE := Lib.hid (fun k => suppL_len (l.take k))
  have HTA := Lib.hid (show l.take l.length = l from List.take_length)
  generalize hn : l.length = n at *
  have HN := Lib.hid hn; clear hn
  go_enter Try.func31, Try.ntmps31
  go_wp2_with fail
  go_loopw [3, 4] (fun o i wr => ∃ (k : Nat) (wq : World), wq = wr ∧ k ≤ n ∧ i = .int .i64 k ∧ RowI w.heap.size wq.heap.size wq o (suppL (l.take k)) ∧ Below w.heap.size w wq) (fun _ i _ => n - (intOf i).toNat)
  case atStart => exact ⟨0, _, rfl, Nat.zero_le _, rfl, row_empty w, (Below.refl _ _).alloc (Nat.le_refl _) _⟩
  case round =>
    obtain ⟨k, wq, rfl, hk, rfl, hM, hb⟩ := hrel
    have HM := Lib.hid hM; clear hM
    have hsq := hb.size
    have HB := Lib.hid hb; clear hb
    by_cases hlt : k < n
    · obtain ⟨b, off, rfl, hbB, hc⟩ := (HL.out.below HB.out hB).getD hlt
      have HS := Lib.hid (HST.out k hlt)
      have hle := HLE.out k
      rw [List.length_take] at hle
      have HPT := Lib.hid (put_any wq.heap.size _ _ (l.getD k 0) wq HM.out.rowB (Nat.le_refl _) (by omega))
      clear hle
      rw [← HS.out] at HPT
      generalize l.getD k 0 = x at *
      go_wp2_with fail
      refine HPT.out.mono ?_
      rintro e w3 ⟨z, rfl, hz, hb3⟩
      have HR3 := Lib.hid (hz.1.mono hsq (Nat.le_refl _))
      have HB3 := Lib.hid (HB.out.trans (hb3.mono hsq))
      clear hz hb3
      go_wp2_with fail
      exact ⟨⟨k + 1, _, rfl, by omega, by go_num, HR3.out, HB3.out⟩, by simp [intOf]; omega⟩
    · obtain rfl : k = n := by omega
      go_wp2_with fail
      go_ret
      exact ⟨_, rfl, ⟨by have := HM.out; rw [HTA.out] at this; exact this, Nat.le_refl _⟩, HB.out⟩

set_option maxHeartbeats 2000000 in
set_option maxRecDepth 100000 in
theorem alts_any (i j n : Int) (w : World) (hn : n ≤ 9223372036854775807) (hn0 : -9223372036854775808 ≤ n) :
    Calls Try.prog 33 #[.int .i64 i, .int .i64 j, .int .i64 n] w (MakesS w (altL i j n)) := by
  have HV := Lib.hid (show altL i j n = altK i j (min n.toNat 15) from rfl)
  have HEV := Lib.hid (fun k (h : k % 2 = 0) => altK_even (i := i) (j := j) (k := k) h)
  have HOD := Lib.hid (fun k (h : ¬ k % 2 = 0) => altK_odd (i := i) (j := j) (k := k) h)
  have HLN := Lib.hid (altK_len i j)
  generalize altL i j n = R at *
  go_enter Try.func33, Try.ntmps33
  go_wp2_with fail
  go_loopw [7, 8] (fun o i' wr => ∃ (k : Nat) (wq : World), wq = wr ∧ k ≤ min n.toNat 15 ∧ i' = .int .i64 k ∧ RowI w.heap.size wq.heap.size wq o (altK i j k) ∧ Below w.heap.size w wq) (fun _ i' _ => 15 - (intOf i').toNat)
  case atStart => exact ⟨0, _, rfl, Nat.zero_le _, rfl, row_empty w, (Below.refl _ _).alloc (Nat.le_refl _) _⟩
  case round =>
    obtain ⟨k, wq, rfl, hk, rfl, hM, hb⟩ := hrel
    have HM := Lib.hid hM; clear hM
    have hsq := hb.size
    have HB := Lib.hid hb; clear hb
    by_cases hlt : k < min n.toNat 15
    · have h1 : decide ((k : Int) < n) = true := decide_eq_true (by omega)
      have h2 : decide ((k : Int) < 15) = true := decide_eq_true (by omega)
      have h15 : k < 15 := by omega
      have hmin : k + 1 ≤ min n.toNat 15 := hlt
      have HMN := Lib.hid hmin
      have HRL := Lib.hid (show (altK i j k).length ≤ 4194304 by rw [HLN.out]; omega)
      clear hk hlt hmin
      by_cases hev : k % 2 = 0
      · have hm : ((k : Int) % 2 == 0) = true := by rw [beq_iff_eq]; omega
        have HS := Lib.hid (HEV.out k hev)
        clear hev
        go_wp2_with (at_builtin; go_must (refine append_int HM.out hsq i rfl rfl rfl rfl HRL.out ?_; intro v' w3 hr3 hb3 hz3))
        rw [HS.out] at hr3
        have HR3 := Lib.hid hr3
        have HB3 := Lib.hid (hb3 w w.heap.size (Nat.le_refl _) HB.out)
        clear hr3 hb3 hz3
        go_wp2_with fail
        exact ⟨⟨k + 1, _, rfl, HMN.out, by go_num, HR3.out, HB3.out⟩, by simp [intOf]; omega⟩
      · have hm : ((k : Int) % 2 == 0) = false := by rw [beq_eq_false_iff_ne]; omega
        have HS := Lib.hid (HOD.out k hev)
        clear hev
        go_wp2_with (at_builtin; go_must (refine append_int HM.out hsq j rfl rfl rfl rfl HRL.out ?_; intro v' w3 hr3 hb3 hz3))
        rw [HS.out] at hr3
        have HR3 := Lib.hid hr3
        have HB3 := Lib.hid (hb3 w w.heap.size (Nat.le_refl _) HB.out)
        clear hr3 hb3 hz3
        go_wp2_with fail
        exact ⟨⟨k + 1, _, rfl, HMN.out, by go_num, HR3.out, HB3.out⟩, by simp [intOf]; omega⟩
    · have hke : k = min n.toNat 15 := by omega
      have HKE := Lib.hid hke
      have hcase : decide ((k : Int) < n) = false ∨ (decide ((k : Int) < n) = true ∧ decide ((k : Int) < 15) = false) := by
        by_cases h : (k : Int) < n
        · exact Or.inr ⟨decide_eq_true h, decide_eq_false (by omega)⟩
        · exact Or.inl (decide_eq_false h)
      clear hke hlt hk
      rcases hcase with h1 | ⟨h1, h2⟩
      all_goals
        go_wp2_with fail
        go_ret
        exact ⟨_, rfl, ⟨by rw [HV.out, ← HKE.out]; exact HM.out, Nat.le_refl _⟩, HB.out⟩
end Go.Proofs.Ytnfogfkgbignbaa
