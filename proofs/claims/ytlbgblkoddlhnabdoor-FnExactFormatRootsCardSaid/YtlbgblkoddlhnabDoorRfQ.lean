/-
  FormatRoots: what the program returns.
-/
import Derived.Test.YtlbgblkoddlhnabDoorRfP
namespace Go.Proofs.YtlbgblkoddlhnabDoor
open Go.RowKit

theorem rowS_join32 (m : List (List Int)) : Lib.join ((rowS m).map (·.data.toList)) [32] = rootsT m := by simp [rowS, rootsT, List.map_map, Function.comp_def]
theorem rootsT_le {m : List (List Int)} (hs : szSum m ≤ 1048576) (hf : FitsM m) : (rootsT m).length ≤ 24117248 := by
  have h1 := rootsT_len hf m.length (Nat.le_refl _)
  rw [List.take_length] at h1
  unfold szSum at hs
  unfold rootsT
  omega
set_option maxHeartbeats 4000000 in
set_option maxRecDepth 100000 in
theorem fmri_any (B : Nat) (v : Value) (m : List (List Int)) (w : World) (h : MatB B w v m) (hB : B ≤ w.heap.size) (hs : szSum m ≤ 1048576) (hfit : FitsM m) (htab : Lib.TabIs Tryd.prog w "internal/strconv.uint64pow10" .u64 Lib.pow10Tab) :
    Calls Tryd.prog 7 #[v] w fun e w' => e = .returned (.string ⟨(rootsM m).toArray⟩) ∧ Below w.heap.size w w' := by
  obtain ⟨a, cap, rfl⟩ := h.slice
  have HT := Lib.hid htab; clear htab
  have HR := Lib.hid h; clear h
  have HFN := Lib.hid (fun (k : Nat) (x : Value) (wx : World) (hx : RowB B wx x (m.getD k [])) (hBx : B ≤ wx.heap.size) (ht : Lib.TabIs Tryd.prog wx "internal/strconv.uint64pow10" .u64 Lib.pow10Tab) => fmtwi_any B x (m.getD k []) wx hx hBx (row_le hs k) (hfit.getD k) ht)
  have HFL := Lib.hid (rootsT_le hs hfit)
  have HRS := Lib.hid (rowS_get m)
  have HRSL : Hid ((rowS m).length = m.length) := Lib.hid (by simp [rowS])
  have HRJ := Lib.hid (rowS_join32 m)
  have hn : m.length ≤ 1048576 := by unfold szSum at hs; omega
  clear hfit hs
  by_cases h0 : m.length = 0
  · rw [rootsM_no h0]
    generalize m.length = n at *
    subst h0
    go_enter Tryd.func7, Tryd.ntmps7
    go_wp2_with fail
    go_ret
    exact ⟨rfl, Below.refl _ _⟩
  · rw [rootsM_yes h0]
    generalize m.length = n at *
    have hz : ((n : Int) == 0) = false := by rw [beq_eq_false_iff_ne]; omega
    obtain ⟨w2, hmk, ho2, hb2, hz2⟩ := make_strs n hn w
    rw [← laidS_zero (rowS m)] at ho2
    have HO2 := Lib.hid ho2
    have HB2 := Lib.hid (hb2 w w.heap.size (Nat.le_refl _) (Below.refl _ _))
    clear ho2 hb2 hz2
    go_enter Tryd.func7, Tryd.ntmps7
    go_wp2_with fail
    clear hmk
    go_loopw [14] (fun i wr => ∃ (k : Nat) (wq : World), wq = wr ∧ k ≤ n ∧ i = .int .i64 k ∧ wq.ownsRow w.heap.size 9 1 (.slice (some ⟨w.heap.size, 0, none⟩) n n) n (strVD (laidS (rowS m) n k)) ∧ Below w.heap.size w wq) (fun i _ => n - (intOf i).toNat)
    case atStart => exact ⟨0, _, rfl, Nat.zero_le _, rfl, HO2.out, HB2.out⟩
    case round =>
      clear HO2 HB2
      clear w2
      obtain ⟨k, wq, rfl, hk, rfl, ho, hb⟩ := hrel
      have HO := Lib.hid ho; clear ho
      have hsq := hb.size
      have HB := Lib.hid hb; clear hb
      by_cases hlt : k < n
      · obtain ⟨b, off, ra, rcap, _, rfl, hbB, hc, hrow⟩ := (HR.out.below HB.out hB).rowF hlt
        have HFX := Lib.hid (HFN.out k _ wq hrow (Nat.le_trans hB hsq) (tab_below HT.out HB.out))
        have hst := laidS_step HRSL.out hlt
        rw [HRS.out k hlt] at hst
        have HST := Lib.hid hst
        clear hst hrow
        generalize (m.getD k []).length = rl at *
        generalize rowT (m.getD k []) = y at *
        go_wp2_with fail
        refine HFX.out.mono ?_
        rintro e w5 ⟨rfl, hb5⟩
        have ho5 := ownS_step HO.out hb5
        obtain ⟨W6, e6, ho6, ⟨c6, hc6⟩, hf6, hb6, hz6, hg6⟩ := strs_put ho5 hlt ⟨y.toArray⟩
        rw [HST.out] at ho6
        have HO6 := Lib.hid ho6
        have HB6 := Lib.hid (hb6 w w.heap.size (Nat.le_refl _) (HB.out.trans (hb5.mono hsq)))
        clear ho6 hb6 ho5 hb5 hg6 hz6 hc
        go_wp2_with fail
        exact ⟨⟨k + 1, _, rfl, by omega, by go_num, HO6.out, HB6.out⟩, by simp [intOf]; omega⟩
      · obtain rfl : k = n := by omega
        have ho := HO.out
        rw [laidS_end HRSL.out] at ho
        have hj := Tryd.strings_Join w.heap.size 0 k (rowS m) ⟨#[32]⟩ wq (strs_cell ho) (ho.lt _ rfl).2 (by rw [HRSL.out]; omega) (by rw [HRSL.out]; exact Nat.le_refl _) (by rw [show (⟨#[32]⟩ : ByteArray).data.toList = [32] from rfl, HRJ.out]; have := HFL.out; omega)
        rw [HRSL.out, show (⟨#[32]⟩ : ByteArray).data.toList = [32] from rfl, HRJ.out] at hj
        have HJ := Lib.hid hj
        clear hj ho
        have hd : decide (k < k) = false := by simp
        go_wp2_with fail
        refine HJ.out.mono ?_
        rintro e w5 ⟨rfl, hb5⟩
        have HB5 := Lib.hid (HB.out.trans (hb5.mono hsq))
        clear hb5
        go_wp2_with fail
        go_ret
        exact ⟨rfl, HB5.out⟩
end Go.Proofs.YtlbgblkoddlhnabDoor
