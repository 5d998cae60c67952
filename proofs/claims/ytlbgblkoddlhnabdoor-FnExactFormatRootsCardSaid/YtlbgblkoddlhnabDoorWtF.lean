/-
  Weights: what the model's FormatWeight returns.
-/
import Derived.Test.YtlbgblkoddlhnabDoorWtQ
import Derived.Test.YtlbgblkoddlhnabDoorFmS
import Derived.Lib.ItoaLen
import Derived.Test.YtlbgblkoddlhnabDoorGet
namespace Go.Proofs.YtlbgblkoddlhnabDoor
open Go.RowKit

/-- Numbers that an int holds. -/
def Fits (l : List Int) : Prop := ∀ x ∈ l, -9223372036854775808 ≤ x ∧ x ≤ 9223372036854775807
theorem Fits.getD {l : List Int} (h : Fits l) (j : Nat) : -9223372036854775808 ≤ l.getD j 0 ∧ l.getD j 0 ≤ 9223372036854775807 := by
  by_cases hj : j < l.length
  · have e : l.getD j 0 = l[j] := by simp [List.getD, hj]
    rw [e]; exact h _ (List.getElem_mem hj)
  · have e : l.getD j 0 = 0 := by simp [List.getD, hj]
    rw [e]; omega
set_option maxHeartbeats 4000000 in
set_option maxRecDepth 100000 in
theorem fmtws_any (B : Nat) (v : Value) (l : List Int) (w : World) (h : RowB B w v l) (hB : B ≤ w.heap.size) (hl : l.length ≤ 1048577) (hfit : Fits l) :
    Calls Tryd.prog 10 #[v] w fun e w' => e = .returned (.string ⟨(rowT l).toArray⟩) ∧ Below w.heap.size w w' := by
  obtain ⟨a, cap, rfl⟩ := h.slice
  have HR := Lib.hid h; clear h
  have HE := Lib.hid (fun j => hfit.getD j)
  have HSTE := Lib.hid (fun j (hj : j < l.length) => rowT_step l j hj)
  have HALL : Hid (Lib.join ((l.take l.length).map Lib.itoa) [44] = rowT l) := Lib.hid (by rw [List.take_length]; rfl)
  clear hfit
  generalize hn : l.length = n at *
  have HN := Lib.hid hn; clear hn
  go_enter Tryd.func10, Tryd.ntmps10
  go_wp2_with fail
  go_loopw [3, 4] (fun sv i wr => ∃ (j : Nat) (t : ByteArray) (wq : World), wq = wr ∧ j ≤ n ∧ i = .int .i64 j ∧ sv = .string t ∧ Hid (t.data.toList = Lib.join ((l.take j).map Lib.itoa) [44]) ∧ t.size ≤ 22 * j ∧ Below w.heap.size w wq) (fun _ i _ => n - (intOf i).toNat)
  case atStart => exact ⟨0, ⟨#[]⟩, _, rfl, Nat.zero_le _, rfl, rfl, by show Hid _; unfold Hid; simp [Lib.join_nil], Nat.le_refl _, Below.refl _ _⟩
  case round =>
    obtain ⟨j, t, wq, rfl, hj, rfl, rfl, HTT, hts, hb⟩ := hrel
    have HB := Lib.hid hb; clear hb
    by_cases hjn : j < n
    · obtain ⟨b, off, rfl, hbb, hx⟩ := (HR.out.below HB.out hB).getD hjn
      have hen := HE.out j
      have hst := HSTE.out j hjn
      generalize l.getD j 0 = x at *
      have hlx := Lib.itoa_length_le x hen.1 hen.2
      obtain ⟨t1, ht1, ht2, hcase1⟩ : ∃ t1 : ByteArray, t1.data.toList = (if j = 0 then [] else Lib.join ((l.take j).map Lib.itoa) [44] ++ [44]) ∧ t1.size ≤ 22 * j + 1 ∧ ((0 < j ∧ t1 = t ++ ⟨#[44]⟩) ∨ (¬ 0 < j ∧ t1 = t)) := by
        by_cases h1 : 0 < j
        · refine ⟨t ++ ⟨#[44]⟩, ?_, by rw [ba_app_size, ba_one]; omega, Or.inl ⟨h1, rfl⟩⟩
          rw [str_app, HTT.out, if_neg (by omega)]
        · refine ⟨t, ?_, by omega, Or.inr ⟨h1, rfl⟩⟩
          obtain rfl : j = 0 := by omega
          rw [HTT.out]; simp [Lib.join_nil]
      have hfin : (t1 ++ ⟨(Lib.itoa x).toArray⟩).data.toList = Lib.join ((l.take (j + 1)).map Lib.itoa) [44] := by
        rw [str_app, ht1, hst]
      have hsx : (⟨(Lib.itoa x).toArray⟩ : ByteArray).size ≤ 21 := by rw [ba_list]; exact hlx
      have hfs : (t1 ++ ⟨(Lib.itoa x).toArray⟩).size ≤ 22 * (j + 1) := by
        rw [ba_app_size]
        omega
      have HFIN := Lib.hid hfin
      have HFS := Lib.hid hfs
      have HFM := Lib.hid (fun (wx : World) => fmts_any x wx hen.1 hen.2)
      clear hfin hfs hst ht1 hlx hen
      rcases hcase1 with ⟨h1, he1⟩ | ⟨h1, he1⟩
      all_goals
        have HEQ1 := Lib.hid he1.symm
        clear he1
        go_wp2_with fail
        try rw [HEQ1.out]
        refine (HFM.out _).mono ?_
        rintro e w5 ⟨rfl, hb5⟩
        have HB5 := Lib.hid (HB.out.trans (hb5.mono HB.out.size))
        clear hb5
        generalize (⟨(Lib.itoa x).toArray⟩ : ByteArray) = y at *
        go_wp2_with fail
        try rw [HEQ1.out]
        exact ⟨⟨j + 1, _, _, rfl, by omega, by go_num, rfl, HFIN.out, HFS.out, HB5.out⟩, by simp [intOf]; omega⟩
    · obtain rfl : j = n := by omega
      go_wp2_with fail
      go_ret
      refine ⟨?_, HB.out⟩
      exact congrArg (fun x => Ending.returned (.string x)) (str_ofl (HTT.out.trans HALL.out))
end Go.Proofs.YtlbgblkoddlhnabDoor
