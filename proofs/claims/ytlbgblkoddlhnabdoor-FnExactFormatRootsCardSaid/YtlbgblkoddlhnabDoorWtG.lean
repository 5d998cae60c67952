/-
  Weights: what the program's formatNumbers and FormatWeight return; FormatCartan by the same.
-/
import Derived.Test.YtlbgblkoddlhnabDoorWtF
import Derived.Test.YtlbgblkoddlhnabDoorFmI
namespace Go.Proofs.YtlbgblkoddlhnabDoor
open Go.RowKit

theorem entS_len (r : List Int) : (entS r).length = r.length := by simp [entS]
theorem entS_at (r : List Int) (j : Nat) (h : j < r.length) : (entS r).getD j ⟨#[]⟩ = ⟨(Lib.itoa (r.getD j 0)).toArray⟩ := by simp [entS, List.getD, h]
theorem rowT_le {l : List Int} (h : Fits l) : (rowT l).length ≤ l.length * 22 := by
  have := join_le [44] 21 (l.map Lib.itoa) (fun x hx => by
    obtain ⟨y, hy, rfl⟩ := List.mem_map.1 hx
    exact Lib.itoa_length_le y (h y hy).1 (h y hy).2)
  simpa [rowT] using this
set_option maxHeartbeats 4000000 in
set_option maxRecDepth 100000 in
theorem fni_any (B : Nat) (v : Value) (l : List Int) (w : World) (h : RowB B w v l) (hB : B ≤ w.heap.size) (hl : l.length ≤ 1048576) (hfit : Fits l) (htab : Lib.TabIs Tryd.prog w "internal/strconv.uint64pow10" .u64 Lib.pow10Tab) :
    Calls Tryd.prog 16 #[v] w fun e w' => e = .returned (.string ⟨(rowT l).toArray⟩) ∧ Below w.heap.size w w' := by
  obtain ⟨a, cap, rfl⟩ := h.slice
  have HT := Lib.hid htab; clear htab
  have HR := Lib.hid h; clear h
  have HE := Lib.hid (fun j => hfit.getD j)
  have HEL := Lib.hid (entS_len l)
  have HEG := Lib.hid (fun (j : Nat) (hj : j < l.length) => entS_at l j hj)
  have HRL := Lib.hid (rowT_le hfit)
  have HEJ := Lib.hid (entS_join l)
  clear hfit
  generalize hn : l.length = n at *
  have HN := Lib.hid hn; clear hn
  obtain ⟨w2, hmk, ho2, hb2, hz2⟩ := make_strs n (by omega) w
  rw [← laidS_zero (entS l)] at ho2
  have HO2 := Lib.hid ho2
  have HB2 := Lib.hid (hb2 w w.heap.size (Nat.le_refl _) (Below.refl _ _))
  clear ho2 hb2 hz2
  go_enter Tryd.func16, Tryd.ntmps16
  go_wp2_with fail
  clear hmk
  go_loopw [11] (fun i wr => ∃ (j : Nat) (wi : World), wi = wr ∧ j ≤ n ∧ i = .int .i64 j ∧ wi.ownsRow w.heap.size 9 1 (.slice (some ⟨w.heap.size, 0, none⟩) n n) n (strVD (laidS (entS l) n j)) ∧ Below w.heap.size w wi) (fun i _ => n - (intOf i).toNat)
  case atStart => exact ⟨0, _, rfl, Nat.zero_le _, rfl, HO2.out, HB2.out⟩
  case round =>
    clear HO2 HB2
    clear w2
    obtain ⟨j, wi, rfl, hj, rfl, ho, hb⟩ := hrel
    have HOI := Lib.hid ho; clear ho
    have hsi := hb.size
    have HBI := Lib.hid hb; clear hb
    by_cases hjn : j < n
    · obtain ⟨b, off, rfl, hbb, hx⟩ := (HR.out.below HBI.out hB).getD hjn
      have HTB := Lib.hid (tab_below HT.out HBI.out)
      have hst := laidS_step HEL.out hjn
      rw [HEG.out j hjn] at hst
      have HST := Lib.hid hst
      have HFM := Lib.hid (fun (wx : World) (ht : Lib.TabIs Tryd.prog wx "internal/strconv.uint64pow10" .u64 Lib.pow10Tab) => fmti_any (l.getD j 0) wx (HE.out j).1 (HE.out j).2 ht)
      clear hst
      generalize l.getD j 0 = x at *
      go_wp2_with fail
      refine (HFM.out _ HTB.out).mono ?_
      rintro e w5 ⟨rfl, hb5⟩
      have ho5 := ownS_step HOI.out hb5
      have HB5 := Lib.hid (HBI.out.trans (hb5.mono hsi))
      obtain ⟨W6, e6, ho6, ⟨c6, hc6⟩, hf6, hb6, hz6, hg6⟩ := strs_put ho5 hjn ⟨(Lib.itoa x).toArray⟩
      rw [HST.out] at ho6
      have HO6 := Lib.hid ho6
      have HB6 := Lib.hid (hb6 w w.heap.size (Nat.le_refl _) HB5.out)
      clear ho6 hb6 ho5 hb5 hg6 hz6
      go_wp2_with fail
      exact ⟨⟨j + 1, _, rfl, by omega, by go_num, HO6.out, HB6.out⟩, by simp [intOf]; omega⟩
    · obtain rfl : j = n := by omega
      have ho := HOI.out
      rw [laidS_end HEL.out] at ho
      have hj := Tryd.strings_Join w.heap.size 0 j (entS l) ⟨#[44]⟩ wi (strs_cell ho) (ho.lt _ rfl).2 (by rw [HEL.out]; omega) (by rw [HEL.out]; exact Nat.le_refl _) (by rw [show (⟨#[44]⟩ : ByteArray).data.toList = [44] from rfl, HEJ.out]; have := HRL.out; omega)
      rw [HEL.out, show (⟨#[44]⟩ : ByteArray).data.toList = [44] from rfl, HEJ.out] at hj
      have HJ := Lib.hid hj
      clear hj ho
      go_wp2_with fail
      refine HJ.out.mono ?_
      rintro e w5 ⟨rfl, hb5⟩
      have HB5 := Lib.hid (HBI.out.trans (hb5.mono hsi))
      clear hb5
      go_wp2_with fail
      go_ret
      exact ⟨rfl, HB5.out⟩
set_option maxHeartbeats 1000000 in
theorem fmtwi_any (B : Nat) (v : Value) (l : List Int) (w : World) (h : RowB B w v l) (hB : B ≤ w.heap.size) (hl : l.length ≤ 1048576) (hfit : Fits l) (htab : Lib.TabIs Tryd.prog w "internal/strconv.uint64pow10" .u64 Lib.pow10Tab) :
    Calls Tryd.prog 12 #[v] w fun e w' => e = .returned (.string ⟨(rowT l).toArray⟩) ∧ Below w.heap.size w w' := by
  have HF := Lib.hid (fni_any B v l w h hB hl hfit htab)
  clear htab h hfit
  go_enter Tryd.func12, Tryd.ntmps12
  go_wp2_with fail
  refine HF.out.mono ?_
  rintro e w5 ⟨rfl, hb5⟩
  have HB5 := Lib.hid hb5; clear hb5
  go_wp2_with fail
  go_ret
  exact ⟨rfl, HB5.out⟩
theorem row_fits {m : List (List Int)} (h : IsC m) {k : Nat} (hk : k < m.length) : Fits (m.getD k []) := fun x hx => by
  have := isC_mem h hk x hx
  omega
end Go.Proofs.YtlbgblkoddlhnabDoor
