/-
  Weights: what the program's formatNumbers and FormatWeight return; FormatCartan by the same.
-/
import Derived.Test.YtcmnkhblnlmfpaaDoorWtF
import Derived.Test.YtcmnkhblnlmfpaaDoorFmI
namespace Go.Proofs.YtcmnkhblnlmfpaaDoor
open Go.RowKit

theorem entS_len (r : List Int) : (entS r).length = r.length := by simp [entS]
theorem entS_at (r : List Int) (j : Nat) (h : j < r.length) : (entS r).getD j ⟨#[]⟩ = ⟨(Lib.itoa (r.getD j 0)).toArray⟩ := by simp [entS, List.getD, h]
theorem rowT_le {l : List Int} (h : Fits l) : (rowT l).length ≤ l.length * 22 := by
  have := join_le [44] 21 (l.map Lib.itoa) (fun x hx => by
    obtain ⟨y, hy, rfl⟩ := List.mem_map.1 hx
    exact Lib.itoa_length_le y (h y hy).1 (h y hy).2)
  simpa [rowT] using this
set_option maxHeartbeats 4000000 in
set_option maxRecDepth 100000 in
theorem fni_any (B : Nat) (v : Value) (l : List Int) (w : World) (h : RowB B w v l) (hB : B ≤ w.heap.size) (hl : l.length ≤ 1048576) (hfit : Fits l) (htab : Lib.TabIs Tryd.prog w "internal/strconv.uint64pow10" .u64 Lib.pow10Tab) :
    Calls Tryd.prog 25 #[v] w fun e w' => e = .returned (.string ⟨(rowT l).toArray⟩) ∧ Below w.heap.size w w' := by
  obtain ⟨a, cap, rfl⟩ := h.slice
  have HT := Lib.hid htab; clear htab
  have HR := Lib.hid h; clear h
  have HE := Lib.hid (fun j => hfit.getD j)
  have HEL := Lib.hid (entS_len l)
  have HEG := Lib.hid (fun (j : Nat) (hj : j < l.length) => entS_at l j hj)
  have HRL := Lib.hid (rowT_le hfit)
  have HEJ := Lib.hid (entS_join l)
  clear hfit
  generalize hn : l.length = n at *
  have HN := Lib.hid hn; clear hn
  obtain ⟨w2, hmk, ho2, hb2, hz2⟩ := make_strs n (by omega) w
  rw [← laidS_zero (entS l)] at ho2
  have HO2 := Lib.hid ho2
  have HB2 := Lib.hid (hb2 w w.heap.size (Nat.le_refl _) (Below.refl _ _))
  clear ho2 hb2 hz2
  go_enter Tryd.func25, Tryd.ntmps25
  go_wp2_with fail
  clear hmk
  go_loopw [11] (fun i wr => ∃ (j : Nat) (wi : World), wi = wr ∧ j ≤ n ∧ i = .int .i64 j ∧ wi.ownsRow w.heap.size 9 1 (.slice (some ⟨w.heap.size, 0, none⟩) n n) n (strVD (laidS (entS l) n j)) ∧ Below w.heap.size w wi) (fun i _ => n - (intOf i).toNat)
  case atStart => exact ⟨0, _, rfl, Nat.zero_le _, rfl, HO2.out, HB2.out⟩
  case round =>
    clear HO2 HB2
    clear w2
    obtain ⟨j, wi, rfl, hj, rfl, ho, hb⟩ := hrel
    have HOI := Lib.hid ho; clear ho
    have hsi := hb.size
    have HBI := Lib.hid hb; clear hb
    by_cases hjn : j < n
    · obtain ⟨b, off, rfl, hbb, hx⟩ := (HR.out.below HBI.out hB).getD hjn
      have HTB := Lib.hid (tab_below HT.out HBI.out)
      have hst := laidS_step HEL.out hjn
      rw [HEG.out j hjn] at hst
      have HST := Lib.hid hst
      have HFM := Lib.hid (fun (wx : World) (ht : Lib.TabIs Tryd.prog wx "internal/strconv.uint64pow10" .u64 Lib.pow10Tab) => fmti_any (l.getD j 0) wx (HE.out j).1 (HE.out j).2 ht)
      clear hst
      generalize l.getD j 0 = x at *
      go_wp2_with fail
      refine (HFM.out _ HTB.out).mono ?_
      rintro e w5 ⟨rfl, hb5⟩
      have ho5 := ownS_step HOI.out hb5
      have HB5 := Lib.hid (HBI.out.trans (hb5.mono hsi))
      obtain ⟨W6, e6, ho6, ⟨c6, hc6⟩, hf6, hb6, hz6, hg6⟩ := strs_put ho5 hjn ⟨(Lib.itoa x).toArray⟩
      rw [HST.out] at ho6
      have HO6 := Lib.hid ho6
      have HB6 := Lib.hid (hb6 w w.heap.size (Nat.le_refl _) HB5.out)
      clear ho6 hb6 ho5 hb5 hg6 hz6
      go_wp2_with fail
      exact ⟨⟨j + 1, _, rfl, by omega, by go_num, HO6.out, HB6.out⟩, by simp [intOf]; omega⟩
    · obtain rfl : j = n := by omega
      have ho := HOI.out
      rw [laidS_end HEL.out] at ho
      have hj := Tryd.strings_Join w.heap.size 0 j (entS l) ⟨#[44]⟩ wi (strs_cell ho) (ho.lt _ rfl).2 (by rw [HEL.out]; omega) (by rw [HEL.out]; exact Nat.le_refl _) (by rw [show (⟨#[44]⟩ : ByteArray).data.toList = [44] from rfl, HEJ.out]; have := HRL.out; omega)
      rw [HEL.out, show (⟨#[44]⟩ : ByteArray).data.toList = [44] from rfl, HEJ.out] at hj
      have HJ := Lib.hid hj
      clear hj ho
      go_wp2_with fail
      refine HJ.out.mono ?_
      rintro e w5 ⟨rfl, hb5⟩
      have HB5 := Lib.hid (HBI.out.trans (hb5.mono hsi))
      clear hb5
      go_wp2_with fail
      go_ret
      exact ⟨rfl, HB5.out⟩
set_option maxHeartbeats 1000000 in
theorem fmtwi_any (B : Nat) (v : Value) (l : List Int) (w : World) (h : RowB B w v l) (hB : B ≤ w.heap.size) (hl : l.length ≤ 1048576) (hfit : Fits l) (htab : Lib.TabIs Tryd.prog w "internal/strconv.uint64pow10" .u64 Lib.pow10Tab) :
    Calls Tryd.prog 9 #[v] w fun e w' => e = .returned (.string ⟨(rowT l).toArray⟩) ∧ Below w.heap.size w w' := by
  have HF := Lib.hid (fni_any B v l w h hB hl hfit htab)
  clear htab h hfit
  go_enter Tryd.func9, Tryd.ntmps9
  go_wp2_with fail
  refine HF.out.mono ?_
  rintro e w5 ⟨rfl, hb5⟩
  have HB5 := Lib.hid hb5; clear hb5
  go_wp2_with fail
  go_ret
  exact ⟨rfl, HB5.out⟩
theorem row_fits {m : List (List Int)} (h : IsC m) {k : Nat} (hk : k < m.length) : Fits (m.getD k []) := fun x hx => by
  have := isC_mem h hk x hx
  omega
set_option maxHeartbeats 4000000 in
set_option maxRecDepth 100000 in
theorem fmi_yes (B : Nat) (v : Value) (m : List (List Int)) (w : World) (h : MatB B w v m) (hB : B ≤ w.heap.size) (hf : RowsFit m) (hI : IsC m) (htab : Lib.TabIs Tryd.prog w "internal/strconv.uint64pow10" .u64 Lib.pow10Tab) :
    Calls Tryd.prog 20 #[v] w fun e w' => e = .returned (.string ⟨(fmtT m).toArray⟩) ∧ Below w.heap.size w w' := by
  obtain ⟨a, cap, rfl⟩ := h.slice
  have hl := hf.1
  have HT := Lib.hid htab; clear htab
  have HR := Lib.hid h; clear h
  have HF := Lib.hid hf; clear hf
  have hn4 := hI.2.2
  have HC := Lib.hid (isB_yes hI)
  have HFN := Lib.hid (fun (k : Nat) (hk : k < m.length) (x : Value) (wx : World) (hx : RowB B wx x (m.getD k [])) (hBx : B ≤ wx.heap.size) (ht : Lib.TabIs Tryd.prog wx "internal/strconv.uint64pow10" .u64 Lib.pow10Tab) => fni_any B x (m.getD k []) wx hx hBx (by have := hI.1 k hk; omega) (row_fits hI hk) ht)
  have HFL := Lib.hid (fmtT_len hI)
  have HRW := Lib.hid (show Rows0 m m.length m.length from hI.1)
  have HRS := Lib.hid (rowS_get m)
  have HRSL : Hid ((rowS m).length = m.length) := Lib.hid (by simp [rowS])
  have HRJ := Lib.hid (rowS_join m)
  clear hI
  generalize hn : m.length = n at *
  unfold maxLen at hl
  have HN := Lib.hid hn; clear hn
  go_enter Tryd.func20, Tryd.ntmps20
  go_wp2_with fail
  refine (icm_wD B _ m true HC.out _ HR.out HF.out).mono ?_
  rintro e w1 ⟨rfl, hb1⟩
  have hs1 := hb1.size
  obtain ⟨w2, hmk, ho2, hb2, hz2⟩ := make_strs n (by omega) w1
  rw [← laidS_zero (rowS m)] at ho2
  have HO2 := Lib.hid ho2
  have HB2 := Lib.hid (hb2 w w.heap.size hs1 hb1)
  clear ho2 hb2 hz2 hb1
  go_wp2_with fail
  clear hmk
  go_loopw [14] (fun i wr => ∃ (k : Nat) (wq : World), wq = wr ∧ k ≤ n ∧ i = .int .i64 k ∧ wq.ownsRow w1.heap.size 9 1 (.slice (some ⟨w1.heap.size, 0, none⟩) n n) n (strVD (laidS (rowS m) n k)) ∧ Below w.heap.size w wq) (fun i _ => n - (intOf i).toNat)
  case atStart => exact ⟨0, _, rfl, Nat.zero_le _, rfl, HO2.out, HB2.out⟩
  case round =>
    clear HO2 HB2
    clear w2
    obtain ⟨k, wq, rfl, hk, rfl, ho, hb⟩ := hrel
    have HO := Lib.hid ho; clear ho
    have hsq := hb.size
    have HB := Lib.hid hb; clear hb
    by_cases hlt : k < n
    · obtain ⟨b, off, rb, roff, rcap, rfl, hbB, hrB, hc1, hx⟩ := HR.out.line HRW.out hlt
      have hc1' := (HB.out.cell (p := ⟨b, off + k, none⟩) (by show b < _; omega)).trans hc1
      have hel : (m.getD k []).length = n := HRW.out k hlt
      have HXR := Lib.hid (show RowB B wq (.slice (some ⟨rb, roff, none⟩) n rcap) (m.getD k []) from Or.inr ⟨rb, roff, rcap, by rw [hel], hrB, fun j hj => by
        have h9 := (HB.out.cell (p := ⟨rb, roff + j, none⟩) (by show rb < _; omega)).trans (hx j (by omega))
        rw [h9]
        unfold entry
        have hgd : ∀ (r : List Int) (h : j < r.length), r.getD j 0 = r[j] := fun r h => by simp [List.getD, h]
        rw [hgd _ hj]⟩)
      have HFX := Lib.hid (HFN.out k hlt _ wq HXR.out (by omega) (tab_below HT.out HB.out))
      have hst := laidS_step HRSL.out hlt
      rw [HRS.out k hlt] at hst
      have HST := Lib.hid hst
      clear hst hc1 hx hel
      generalize rowT (m.getD k []) = y at *
      go_wp2_with fail
      refine HFX.out.mono ?_
      rintro e w5 ⟨rfl, hb5⟩
      have ho5 := ownS_step HO.out hb5
      obtain ⟨W6, e6, ho6, ⟨c6, hc6⟩, hf6, hb6, hz6, hg6⟩ := strs_put ho5 hlt ⟨y.toArray⟩
      rw [HST.out] at ho6
      have HO6 := Lib.hid ho6
      have HB6 := Lib.hid (hb6 w w.heap.size hs1 (HB.out.trans (hb5.mono hsq)))
      clear ho6 hb6 ho5 hb5 hg6 hz6 hc1'
      go_wp2_with fail
      exact ⟨⟨k + 1, _, rfl, by omega, by go_num, HO6.out, HB6.out⟩, by simp [intOf]; omega⟩
    · obtain rfl : k = n := by omega
      have ho := HO.out
      rw [laidS_end HRSL.out] at ho
      have hj := Tryd.strings_Join w1.heap.size 0 k (rowS m) ⟨#[59]⟩ wq (strs_cell ho) (ho.lt _ rfl).2 (by rw [HRSL.out]; omega) (by rw [HRSL.out]; exact Nat.le_refl _) (by rw [show (⟨#[59]⟩ : ByteArray).data.toList = [59] from rfl, HRJ.out]; have := HFL.out; omega)
      rw [HRSL.out, show (⟨#[59]⟩ : ByteArray).data.toList = [59] from rfl, HRJ.out] at hj
      have HJ := Lib.hid hj
      clear hj ho
      go_wp2_with fail
      refine HJ.out.mono ?_
      rintro e w5 ⟨rfl, hb5⟩
      have HB5 := Lib.hid (HB.out.trans (hb5.mono hsq))
      clear hb5
      go_wp2_with fail
      go_ret
      exact ⟨rfl, HB5.out⟩
set_option maxHeartbeats 1000000 in
theorem fmi_any (B : Nat) (v : Value) (m : List (List Int)) (w : World) (h : MatB B w v m) (hB : B ≤ w.heap.size) (hf : RowsFit m) (htab : Lib.TabIs Tryd.prog w "internal/strconv.uint64pow10" .u64 Lib.pow10Tab) :
    Calls Tryd.prog 20 #[v] w fun e w' => e = .returned (.string ⟨(fmtM m).toArray⟩) ∧ Below w.heap.size w w' := by
  by_cases hI : IsC m
  · rw [fmtM_yes hI]
    exact fmi_yes B v m w h hB hf hI htab
  · rw [fmtM_no hI]
    have HC := Lib.hid (isB_no hI)
    go_enter Tryd.func20, Tryd.ntmps20
    go_wp2_with fail
    refine (icm_wD B _ m false HC.out _ h hf).mono ?_
    rintro e w1 ⟨rfl, hb1⟩
    have HB1 := Lib.hid hb1; clear hb1
    go_wp2_with fail
    go_ret
    exact ⟨rfl, HB1.out⟩
end Go.Proofs.YtcmnkhblnlmfpaaDoor
