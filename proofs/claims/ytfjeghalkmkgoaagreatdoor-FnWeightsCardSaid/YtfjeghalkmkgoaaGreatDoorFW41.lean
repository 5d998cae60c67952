/-
  Weights: what the model's RhoOf, AddWeights and SimpleRootWeight return.
  Words: what the model's CompareWords, EqualWords, SupportOf and AlternatingWord return.
  The law's comparisons of lists and of lists of lists: what the calls return.
-/
import Derived.Test.YtfjeghalkmkgoaaGreatDoorFW40
import Derived.Deep.QuietTactic
import Derived.BigQuiet
import Derived.Test.YtfjeghalkmkgoaaGreatDoorFW25
import Derived.Test.YtfjeghalkmkgoaaGreatDoorFW04
namespace Go.Proofs.YtfjeghalkmkgoaaGreatDoor
open Go.RowKit

set_option maxHeartbeats 4000000 in
set_option maxRecDepth 100000 in
theorem rhos_any (B : Nat) (v : Value) (m : List (List Int)) (w : World) (h : MatB B w v m) (hB : B ≤ w.heap.size) (hf : RowsFit m) :
    Calls Tryz.prog 30 #[v] w (MakesS w (rhoL m)) := by
  have HIS := Lib.hid (fun c (hc : isB m = c) (wx : World) (hb : Below w.heap.size w wx) => isc_w B v m c hc wx (h.below hb hB) hf)
  have hlm := hf.1
  obtain ⟨a, cap, rfl⟩ := h.slice
  clear h hf
  unfold maxLen at hlm
  by_cases hI : IsC m
  · have HV := Lib.hid (rhoL_yes hI)
    have HC := Lib.hid (fun wx hb => HIS.out true (isB_yes hI) wx hb)
    have hn4 := hI.2.2.2
    clear HIS hI
    rw [HV.out]
    clear HV
    generalize m.length = n at *
    go_enter Tryz.func30, Tryz.ntmps30
    go_wp2_with fail
    go_loopw [3, 4] (fun o i wr => ∃ (k : Nat) (wq : World), wq = wr ∧ k ≤ n ∧ i = .int .i64 k ∧ RowI w.heap.size wq.heap.size wq o (onesR k) ∧ Below w.heap.size w wq) (fun _ i _ => n - (intOf i).toNat)
    case atStart => exact ⟨0, _, rfl, Nat.zero_le _, rfl, row_empty w, (Below.refl _ _).alloc (Nat.le_refl _) _⟩
    case round =>
      obtain ⟨k, wq, rfl, hk, rfl, hM, hb⟩ := hrel
      have HM := Lib.hid hM
      have HCQ := Lib.hid (HC.out wq hb)
      have hsq := hb.size
      have HB := Lib.hid hb
      clear hM hb
      by_cases hlt : k < n
      · have hd : decide (k < n) = true := decide_eq_true hlt
        go_wp2_with fail
        refine HCQ.out.mono ?_
        rintro e w1 ⟨rfl, hb1⟩
        have HM1 := Lib.hid (HM.out.step hb1)
        have HB1 := Lib.hid (HB.out.trans (hb1.mono hsq))
        have hs1 : w.heap.size ≤ w1.heap.size := HB1.out.size
        have HRL := Lib.hid (show (onesR k).length ≤ 4194304 by simp [onesR]; omega)
        have HS := Lib.hid (onesR_step k)
        clear hb1
        go_wp2_with (at_builtin; go_must (refine append_int HM1.out hs1 1 rfl rfl rfl rfl HRL.out ?_; intro v' w3 hr3 hb3 hz3))
        rw [HS.out] at hr3
        have HR3 := Lib.hid hr3
        have HB3 := Lib.hid (hb3 w w.heap.size (Nat.le_refl _) HB1.out)
        clear hr3 hb3 hz3
        go_wp2_with fail
        exact ⟨⟨k + 1, _, rfl, by omega, by go_num, HR3.out, HB3.out⟩, by simp [intOf]; omega⟩
      · obtain rfl : k = n := by omega
        have hd : decide (k < k) = false := by simp
        go_wp2_with fail
        go_ret
        exact ⟨_, rfl, ⟨HM.out, Nat.le_refl _⟩, HB.out⟩
  · have HV := Lib.hid (rhoL_no hI)
    have HC := Lib.hid (fun wx hb => HIS.out false (isB_no hI) wx hb)
    clear HIS hI
    rw [HV.out]
    clear HV
    generalize m.length = n at *
    go_enter Tryz.func30, Tryz.ntmps30
    go_wp2_with fail
    go_loopw [3, 4] (fun o i wr => i = .int .i64 0 ∧ o = .slice (some ⟨w.heap.size, 0, none⟩) 0 0 ∧ wr = w.alloc (.cells #[] 3)) (fun _ _ _ => 0)
    case atStart => exact ⟨rfl, rfl, rfl⟩
    case round =>
      obtain ⟨rfl, rfl, rfl⟩ := hrel
      have HB := Lib.hid (show Below w.heap.size w (w.alloc (.cells #[] 3)) from (Below.refl _ _).alloc (Nat.le_refl _) _)
      have HCQ := Lib.hid (HC.out _ HB.out)
      by_cases h0 : 0 < n
      · have hd : decide (0 < n) = true := decide_eq_true h0
        go_wp2_with fail
        refine HCQ.out.mono ?_
        rintro e w2 ⟨rfl, hb2⟩
        have HB2 := Lib.hid hb2; clear hb2
        go_wp2_with fail
        go_ret
        exact ⟨_, rfl, ⟨(row_empty w).step HB2.out, Nat.le_refl _⟩, HB.out.trans (HB2.out.mono HB.out.size)⟩
      · have hd : decide (0 < n) = false := decide_eq_false h0
        go_wp2_with fail
        go_ret
        exact ⟨_, rfl, ⟨row_empty w, Nat.le_refl _⟩, HB.out⟩

set_option maxHeartbeats 4000000 in
set_option maxRecDepth 100000 in
theorem adds_any (B B' : Nat) (v v' : Value) (l l' : List Int) (w : World) (h : RowB B w v l) (h' : RowB B' w v' l') (hB : B ≤ w.heap.size) (hB' : B' ≤ w.heap.size) (hl : l.length ≤ 1048576) (_hl' : l'.length ≤ 1048576) :
    Calls Tryz.prog 26 #[v, v'] w (MakesS w (addL l l')) := by
  obtain ⟨a, cap, rfl⟩ := h.slice
  obtain ⟨a', cap', rfl⟩ := h'.slice
  have HL := Lib.hid h; have HL' := Lib.hid h'
  clear h h'
  have HST := Lib.hid (fun k => addK_step l l' k)
  have HKL := Lib.hid (fun k => addK_len l l' k)
  have HEN := Lib.hid (show addL l l' = addK l l' (min l.length l'.length) from rfl)
  generalize addL l l' = R at *
  generalize hn : l.length = n at *
  generalize hn' : l'.length = n' at *
  have HN := Lib.hid hn; have HN' := Lib.hid hn'
  clear hn hn'
  go_enter Tryz.func26, Tryz.ntmps26
  go_wp2_with fail
  go_loopw [5, 6] (fun o i' wr => ∃ (k : Nat) (wq : World), wq = wr ∧ k ≤ n ∧ k ≤ n' ∧ i' = .int .i64 k ∧ RowI w.heap.size wq.heap.size wq o (addK l l' k) ∧ Below w.heap.size w wq) (fun _ i' _ => n - (intOf i').toNat)
  case atStart => exact ⟨0, _, rfl, Nat.zero_le _, Nat.zero_le _, rfl, row_empty w, (Below.refl _ _).alloc (Nat.le_refl _) _⟩
  case round =>
    obtain ⟨k, wq, rfl, hk, hk', rfl, hM, hb⟩ := hrel
    have HM := Lib.hid hM; clear hM
    have hsq := hb.size
    have HB := Lib.hid hb; clear hb
    by_cases hlt : k < n ∧ k < n'
    · obtain ⟨h1, h2⟩ := hlt
      have hd1 : decide (k < n) = true := decide_eq_true h1
      have hd2 : decide (k < n') = true := decide_eq_true h2
      obtain ⟨b, off, rfl, _, hc⟩ := (HL.out.below HB.out hB).getD h1
      obtain ⟨b', off', rfl, _, hc'⟩ := (HL'.out.below HB.out hB').getD h2
      have HS := Lib.hid (HST.out k)
      have HRL := Lib.hid (show (addK l l' k).length + [addW (l.getD k 0) (l'.getD k 0)].length ≤ 4194304 by rw [HKL.out]; simp; omega)
      have HE := Lib.hid (show wrap64 (l.getD k 0 + l'.getD k 0) = addW (l.getD k 0) (l'.getD k 0) from rfl)
      have HE2 := Lib.hid (show IntKind.i64.wrap (l.getD k 0 + l'.getD k 0) = addW (l.getD k 0) (l'.getD k 0) from by rw [wrapk]; rfl)
      generalize addW (l.getD k 0) (l'.getD k 0) = E at *
      generalize l.getD k 0 = x at *
      generalize l'.getD k 0 = y at *
      have h3 := HE.out; have h4 := HE2.out
      clear HE HE2
      go_wp2_with fail
      go_region_law (refine step_lit6 E wq.heap.size ((HM.out.alloc _).mono (Nat.le_refl _) (by simp)) (by simp; omega) (MapKept.heap_alloc _ _).1 HRL.out rfl rfl rfl rfl ?_; intro v3 w3 hr3 hb3 hz3)
      all_goals
        rw [HS.out] at hr3
        have HR3 := Lib.hid hr3
        have HB3 := Lib.hid (hb3 w w.heap.size (Nat.le_refl _) (HB.out.alloc hsq _).drew)
        clear hr3 hb3 hz3 h3 h4
        go_wp2_with fail
        exact ⟨⟨k + 1, _, rfl, by omega, by omega, by go_num, HR3.out, HB3.out⟩, by simp [intOf]; omega⟩
    · have hkm : k = min n n' := by omega
      have HKM := Lib.hid hkm
      have hcase : decide (k < n) = false ∨ (decide (k < n) = true ∧ decide (k < n') = false) := by
        by_cases h : k < n
        · exact Or.inr ⟨decide_eq_true h, decide_eq_false (by omega)⟩
        · exact Or.inl (decide_eq_false h)
      clear hkm hlt
      rcases hcase with hd | ⟨hd, hd2⟩
      all_goals
        go_wp2_with fail
        go_ret
        exact ⟨_, rfl, ⟨by rw [HEN.out, ← HKM.out]; exact HM.out, Nat.le_refl _⟩, HB.out⟩

set_option maxHeartbeats 4000000 in
set_option maxRecDepth 100000 in
theorem srws_any (B : Nat) (v : Value) (m : List (List Int)) (i : Int) (w : World) (h : MatB B w v m) (hB : B ≤ w.heap.size) (hf : RowsFit m) :
    Calls Tryz.prog 28 #[v, .int .i64 i] w (MakesS w (srwL m i)) := by
  have HIS := Lib.hid (fun c (hc : isB m = c) (wx : World) (hb : Below w.heap.size w wx) => isc_w B v m c hc wx (h.below hb hB) hf)
  have hlm := hf.1
  have HR := Lib.hid h
  obtain ⟨a, cap, rfl⟩ := h.slice
  clear h hf
  unfold maxLen at hlm
  by_cases hok : PtOk m i
  · have HV := Lib.hid (srwL_yes hok)
    obtain ⟨hI, h0, h1⟩ := hok
    obtain ⟨p, rfl⟩ := Int.eq_ofNat_of_zero_le h0
    have HC := Lib.hid (fun wx hb => HIS.out true (isB_yes hI) wx hb)
    have HRW := Lib.hid (show Rows0 m m.length m.length from hI.1)
    have hn4 := hI.2.2.2
    have hp : p < m.length := by omega
    have HIN := Lib.hid (inB_yes (x := (p : Int)) (a := 0) (b := (m.length : Int) - 1) ⟨h0, h1⟩)
    have HST := Lib.hid (fun k => colK_step m p k)
    have HKL := Lib.hid (fun k => colK_len m p k)
    clear HIS hI h0 h1
    rw [HV.out]
    simp only [Int.toNat_natCast]
    clear HV
    generalize m.length = n at *
    go_enter Tryz.func28, Tryz.ntmps28
    go_wp2_with fail
    go_loopw [5, 6] (fun o i wr => ∃ (k : Nat) (wq : World), wq = wr ∧ k ≤ n ∧ i = .int .i64 k ∧ RowI w.heap.size wq.heap.size wq o (colK m p k) ∧ Below w.heap.size w wq) (fun _ i _ => n - (intOf i).toNat)
    case atStart => exact ⟨0, _, rfl, Nat.zero_le _, rfl, row_empty w, (Below.refl _ _).alloc (Nat.le_refl _) _⟩
    case round =>
      obtain ⟨k, wq, rfl, hk, rfl, hM, hb⟩ := hrel
      have HM := Lib.hid hM
      have HCQ := Lib.hid (HC.out wq hb)
      have hsq := hb.size
      have HB := Lib.hid hb
      clear hM hb
      by_cases hlt : k < n
      · have hd : decide (k < n) = true := decide_eq_true hlt
        go_wp2_with fail
        refine HCQ.out.mono ?_
        rintro e w1 ⟨rfl, hb1⟩
        have HM1 := Lib.hid (HM.out.step hb1)
        have hb1' := HB.out.trans (hb1.mono hsq)
        have HB1 := Lib.hid hb1'
        have hs1 : w.heap.size ≤ w1.heap.size := hb1'.size
        obtain ⟨b, off, rb, roff, rcap, rfl, hc1, hx⟩ := (HR.out.below HB1.out hB).entry HRW.out hlt hp
        have HRL := Lib.hid (show (colK m p k).length ≤ 4194304 by rw [HKL.out]; omega)
        have HS := Lib.hid (HST.out k)
        clear hb1 hb1'
        generalize entry m k p = y at *
        go_wp2_with fail
        refine (l1in_c _ _ _ true HIN.out _).mono ?_
        rintro e w' ⟨rfl, rfl⟩
        go_wp2_with (at_builtin; go_must (refine append_int HM1.out hs1 y rfl rfl rfl rfl HRL.out ?_; intro v' w3 hr3 hb3 hz3))
        rw [HS.out] at hr3
        have HR3 := Lib.hid hr3
        have HB3 := Lib.hid (hb3 w w.heap.size (Nat.le_refl _) HB1.out)
        clear hr3 hb3 hz3
        go_wp2_with fail
        exact ⟨⟨k + 1, _, rfl, by omega, by go_num, HR3.out, HB3.out⟩, by simp [intOf]; omega⟩
      · obtain rfl : k = n := by omega
        have hd : decide (k < k) = false := by simp
        go_wp2_with fail
        go_ret
        exact ⟨_, rfl, ⟨HM.out, Nat.le_refl _⟩, HB.out⟩
  · rw [srwL_no hok]
    by_cases hI : IsC m
    · have hi : ¬ (0 ≤ i ∧ i ≤ (m.length : Int) - 1) := fun h => hok ⟨hI, h⟩
      have HC := Lib.hid (fun wx hb => HIS.out true (isB_yes hI) wx hb)
      have HIN := Lib.hid (inB_no hi)
      have h1 := hI.2.2.1
      clear HIS hI hok hi
      generalize m.length = n at *
      have hd : decide (0 < n) = true := decide_eq_true h1
      go_enter Tryz.func28, Tryz.ntmps28
      go_wp2_with fail
      go_loopw [5, 6] (fun o i wr => i = .int .i64 0 ∧ o = .slice (some ⟨w.heap.size, 0, none⟩) 0 0 ∧ wr = w.alloc (.cells #[] 3)) (fun _ _ _ => 0)
      case atStart => exact ⟨rfl, rfl, rfl⟩
      case round =>
        obtain ⟨rfl, rfl, rfl⟩ := hrel
        have HB := Lib.hid (show Below w.heap.size w (w.alloc (.cells #[] 3)) from (Below.refl _ _).alloc (Nat.le_refl _) _)
        have HCQ := Lib.hid (HC.out _ HB.out)
        go_wp2_with fail
        refine HCQ.out.mono ?_
        rintro e w2 ⟨rfl, hb2⟩
        have HB2 := Lib.hid hb2; clear hb2
        go_wp2_with fail
        refine (l1in_c _ _ _ false HIN.out _).mono ?_
        rintro e w' ⟨rfl, rfl⟩
        go_wp2_with fail
        go_ret
        exact ⟨_, rfl, ⟨(row_empty w).step HB2.out, Nat.le_refl _⟩, HB.out.trans (HB2.out.mono HB.out.size)⟩
    · have HC := Lib.hid (fun wx hb => HIS.out false (isB_no hI) wx hb)
      clear HIS hI hok
      generalize m.length = n at *
      go_enter Tryz.func28, Tryz.ntmps28
      go_wp2_with fail
      go_loopw [5, 6] (fun o i wr => i = .int .i64 0 ∧ o = .slice (some ⟨w.heap.size, 0, none⟩) 0 0 ∧ wr = w.alloc (.cells #[] 3)) (fun _ _ _ => 0)
      case atStart => exact ⟨rfl, rfl, rfl⟩
      case round =>
        obtain ⟨rfl, rfl, rfl⟩ := hrel
        have HB := Lib.hid (show Below w.heap.size w (w.alloc (.cells #[] 3)) from (Below.refl _ _).alloc (Nat.le_refl _) _)
        have HCQ := Lib.hid (HC.out _ HB.out)
        by_cases h0 : 0 < n
        · have hd : decide (0 < n) = true := decide_eq_true h0
          go_wp2_with fail
          refine HCQ.out.mono ?_
          rintro e w2 ⟨rfl, hb2⟩
          have HB2 := Lib.hid hb2; clear hb2
          go_wp2_with fail
          go_ret
          exact ⟨_, rfl, ⟨(row_empty w).step HB2.out, Nat.le_refl _⟩, HB.out.trans (HB2.out.mono HB.out.size)⟩
        · have hd : decide (0 < n) = false := decide_eq_false h0
          go_wp2_with fail
          go_ret
          exact ⟨_, rfl, ⟨row_empty w, Nat.le_refl _⟩, HB.out⟩
end Go.Proofs.YtfjeghalkmkgoaaGreatDoor
namespace Go.Proofs.YtfjeghalkmkgoaaGreatDoor
open Go.RowKit

theorem ret_i64 {a b : Int} (h : a = b) : Ending.returned (.int .i64 a) = .returned (.int .i64 b) := by rw [h]
def eqwB (l l' : List Int) : Bool := decide (cmpW l l' = 0)
set_option maxHeartbeats 2000000 in
set_option maxRecDepth 100000 in
theorem alts_any (i j n : Int) (w : World) (hn : n ≤ 9223372036854775807) (hn0 : -9223372036854775808 ≤ n) :
    Calls Tryz.prog 15 #[.int .i64 i, .int .i64 j, .int .i64 n] w (MakesS w (altL i j n)) := by
  have HV := Lib.hid (show altL i j n = altK i j (min n.toNat 15) from rfl)
  have HEV := Lib.hid (fun k (h : k % 2 = 0) => altK_even (i := i) (j := j) (k := k) h)
  have HOD := Lib.hid (fun k (h : ¬ k % 2 = 0) => altK_odd (i := i) (j := j) (k := k) h)
  have HLN := Lib.hid (altK_len i j)
  generalize altL i j n = R at *
  go_enter Tryz.func15, Tryz.ntmps15
  go_wp2_with fail
  go_loopw [7, 8] (fun o i' wr => ∃ (k : Nat) (wq : World), wq = wr ∧ k ≤ min n.toNat 15 ∧ i' = .int .i64 k ∧ RowI w.heap.size wq.heap.size wq o (altK i j k) ∧ Below w.heap.size w wq) (fun _ i' _ => 15 - (intOf i').toNat)
  case atStart => exact ⟨0, _, rfl, Nat.zero_le _, rfl, row_empty w, (Below.refl _ _).alloc (Nat.le_refl _) _⟩
  case round =>
    obtain ⟨k, wq, rfl, hk, rfl, hM, hb⟩ := hrel
    have HM := Lib.hid hM; clear hM
    have hsq := hb.size
    have HB := Lib.hid hb; clear hb
    by_cases hlt : k < min n.toNat 15
    · have h1 : decide ((k : Int) < n) = true := decide_eq_true (by omega)
      have h2 : decide ((k : Int) < 15) = true := decide_eq_true (by omega)
      have h15 : k < 15 := by omega
      have hmin : k + 1 ≤ min n.toNat 15 := hlt
      have HMN := Lib.hid hmin
      have HRL := Lib.hid (show (altK i j k).length ≤ 4194304 by rw [HLN.out]; omega)
      clear hk hlt hmin
      by_cases hev : k % 2 = 0
      · have hm : ((k : Int) % 2 == 0) = true := by rw [beq_iff_eq]; omega
        have HS := Lib.hid (HEV.out k hev)
        clear hev
        go_wp2_with (at_builtin; go_must (refine append_int HM.out hsq i rfl rfl rfl rfl HRL.out ?_; intro v' w3 hr3 hb3 hz3))
        rw [HS.out] at hr3
        have HR3 := Lib.hid hr3
        have HB3 := Lib.hid (hb3 w w.heap.size (Nat.le_refl _) HB.out)
        clear hr3 hb3 hz3
        go_wp2_with fail
        exact ⟨⟨k + 1, _, rfl, HMN.out, by go_num, HR3.out, HB3.out⟩, by simp [intOf]; omega⟩
      · have hm : ((k : Int) % 2 == 0) = false := by rw [beq_eq_false_iff_ne]; omega
        have HS := Lib.hid (HOD.out k hev)
        clear hev
        go_wp2_with (at_builtin; go_must (refine append_int HM.out hsq j rfl rfl rfl rfl HRL.out ?_; intro v' w3 hr3 hb3 hz3))
        rw [HS.out] at hr3
        have HR3 := Lib.hid hr3
        have HB3 := Lib.hid (hb3 w w.heap.size (Nat.le_refl _) HB.out)
        clear hr3 hb3 hz3
        go_wp2_with fail
        exact ⟨⟨k + 1, _, rfl, HMN.out, by go_num, HR3.out, HB3.out⟩, by simp [intOf]; omega⟩
    · have hke : k = min n.toNat 15 := by omega
      have HKE := Lib.hid hke
      have hcase : decide ((k : Int) < n) = false ∨ (decide ((k : Int) < n) = true ∧ decide ((k : Int) < 15) = false) := by
        by_cases h : (k : Int) < n
        · exact Or.inr ⟨decide_eq_true h, decide_eq_false (by omega)⟩
        · exact Or.inl (decide_eq_false h)
      clear hke hlt hk
      rcases hcase with h1 | ⟨h1, h2⟩
      all_goals
        go_wp2_with fail
        go_ret
        exact ⟨_, rfl, ⟨by rw [HV.out, ← HKE.out]; exact HM.out, Nat.le_refl _⟩, HB.out⟩
end Go.Proofs.YtfjeghalkmkgoaaGreatDoor
namespace Go.Proofs.YtfjeghalkmkgoaaGreatDoor
open Go.RowKit

set_option maxHeartbeats 1000000 in
theorem smS_any (B : Nat) (v v' : Value) (l l' : List Int) (w : World) (h : RowB B w v l) (h' : RowB B w v' l') (hl : l.length ≤ maxLen) (hl' : l'.length ≤ maxLen) :
    Calls Tryz.prog 7 #[v, v'] w fun e w' => e = .returned (.bool (eqL l l')) ∧ ∃ q, w' = w.drewN q := by
  obtain ⟨a, cap, rfl⟩ := h.slice
  obtain ⟨a', cap', rfl⟩ := h'.slice
  have HR := Lib.hid h; clear h
  have HR' := Lib.hid h'; clear h'
  generalize hn : l.length = n at *
  generalize hn' : l'.length = n' at *
  unfold maxLen at hl hl'
  have HN := Lib.hid hn; clear hn
  have HN' := Lib.hid hn'; clear hn'
  by_cases hlen : n = n'
  · subst hlen
    go_enter Tryz.func7, Tryz.ntmps7
    go_wp2_with fail
    go_loopw [5] (fun i wr => ∃ (k q : Nat), k ≤ n ∧ i = .int .i64 k ∧ wr = w.drewN q ∧ Pre l l' k) (fun i _ => n - (intOf i).toNat)
    case atStart => exact ⟨0, 0, Nat.zero_le _, rfl, rfl, rfl⟩
    case round =>
      obtain ⟨k, q, hk, rfl, rfl, hp⟩ := hrel
      have HP := Lib.hid hp; clear hp
      by_cases hlt : k < n
      · obtain ⟨b, off, hkl, rfl, hb, hc⟩ := HR.out.get hlt
        obtain ⟨b', off', hkl', rfl, hb', hc'⟩ := HR'.out.get hlt
        by_cases he : l[k] = l'[k]
        · have hst := pre_step hkl hkl' HP.out he
          have HST := Lib.hid hst; clear hst
          rw [← he] at hc'
          clear he
          generalize l[k] = x at *
          go_wp2_with fail
          go_quiet (fail)
          go_wp2_with fail
          exact ⟨⟨k + 1, q + nq, by omega, by go_num, rfl, HST.out⟩, by simp [intOf]; omega⟩
        · have hne : ¬ l = l' := fun e => he (by subst e; rfl)
          have hv := eqL_no hne
          have HV := Lib.hid hv; clear hv hne
          generalize hx : l[k] = x at *
          generalize hy : l'[k] = y at *
          have hxy : (x != y) = true := by rw [bne_iff_ne]; exact he
          have hxy' : (x == y) = false := by rw [beq_eq_false_iff_ne]; exact he
          clear hx hy he
          go_wp2_with fail
          go_quiet (fail)
          go_wp2_with fail
          go_ret
          exact ⟨ret_boolean HV.out.symm, q + nq, World.drewN_drewN _ _ _⟩
      · obtain rfl : k = n := by omega
        have heq : l = l' := by
          have h1 := HP.out
          unfold Pre at h1
          rw [List.take_of_length_le (by rw [HN.out]; exact Nat.le_refl _), List.take_of_length_le (by rw [HN'.out]; exact Nat.le_refl _)] at h1
          exact h1
        have hv := eqL_yes heq
        have HV := Lib.hid hv; clear hv heq
        go_wp2_with fail
        go_ret
        exact ⟨ret_boolean HV.out.symm, _, rfl⟩
  · have hne : ¬ l = l' := fun e => hlen (by rw [← HN.out, ← HN'.out, e])
    have hv := eqL_no hne
    have HV := Lib.hid hv; clear hv hne
    have hq : ((n : Int) != (n' : Int)) = true := by rw [bne_iff_ne]; omega
    clear hlen
    go_enter Tryz.func7, Tryz.ntmps7
    go_wp2_with fail
    all_goals go_ret
    all_goals exact ⟨ret_boolean HV.out.symm, 0, rfl⟩

/-! ### inList -/
def inB2 (T : List (List Int)) (p : List Int) : Bool := decide (p ∈ T)
end Go.Proofs.YtfjeghalkmkgoaaGreatDoor
