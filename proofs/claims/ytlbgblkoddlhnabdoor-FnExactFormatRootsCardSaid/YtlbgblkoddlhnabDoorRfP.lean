/-
  FormatRoots: the text that it returns, and what the model returns.
-/
import Derived.Test.YtlbgblkoddlhnabDoorWtG
import Derived.Test.YtlbgblkoddlhnabDoorWtZ
import Derived.Deep.Matrix
namespace Go.Proofs.YtlbgblkoddlhnabDoor
open Go.ChangeShapes Go.WideShapes Go.ChangeAt Go.ChangeMaps Go.RowKit Go.Deep

/-- Numbers that an int holds, in every row. -/
def FitsM (m : List (List Int)) : Prop := ∀ r ∈ m, Fits r
theorem FitsM.getD {m : List (List Int)} (h : FitsM m) (j : Nat) : Fits (m.getD j []) := by
  by_cases hj : j < m.length
  · rw [getD_row m j hj]; exact h _ (List.getElem_mem hj)
  · have e : m.getD j [] = [] := by simp [List.getD, hj]
    rw [e]; exact fun x hx => by simp at hx
set_option maxRecDepth 100000 in
theorem mat_open2 {H : Type} {enc : TypeId × Value → H} {W : World} {base : Nat} {v : Value} {d : DataW H} {ps : List MemPlace} (hval : Value.okWide Tryd.prog W .any base 22 v)
    (h : DataW.Trod enc Tryd.prog W 0 (fun _ => true) true 22 v d ps) : ∃ m : List (List Int), MatB W.heap.size W v m ∧ RowsFit m ∧ FitsM m := by
  obtain ⟨a0, len, cap, rfl⟩ := okWide_slice Tryd.underlying22 hval
  obtain ⟨fuel, hf⟩ := h
  have ce : Tryd.prog.cellsOf 29 = 1 := by kernel_rfl
  have cq : Tryd.prog.cellsOf 3 = 1 := by kernel_rfl
  rcases open_int_rows Tryd.underlying22 Tryd.underlying29 Tryd.underlying3 ce cq hf with ⟨hcs, _⟩ | ⟨a, len', cap', A, L, C, Z, hcs, _, hl, hm, _, hrow⟩
  · simp [Value.cells] at hcs
    obtain ⟨rfl, rfl, rfl⟩ := hcs
    exact ⟨[], Or.inl ⟨rfl, none, 0, rfl⟩, ⟨Nat.zero_le _, fun j hj => by simp at hj⟩, fun r hr => by simp at hr⟩
  · simp [Value.cells] at hcs
    obtain ⟨rfl, rfl, rfl⟩ := hcs
    refine ⟨(List.range len).map fun r => (Z r).take (L r), ?_, ?_, ?_⟩
    · by_cases hl0 : len = 0
      · subst hl0
        exact Or.inl ⟨rfl, _, _, rfl⟩
      · obtain ⟨b, off, spot⟩ := a
        have h0 := (hrow 0 (by omega)).1
        have hspot : spot = none := by simpa [Addr.add] using World.cell?_spot h0
        subst hspot
        have hb : b < W.heap.size := by
          have := World.block_lt_of_cell? W _ h0
          simpa [Addr.add] using this
        refine Or.inr ⟨b, off, cap, by simp, hb, fun j hj => ?_⟩
        have hj' : j < len := by simpa using hj
        obtain ⟨h1, h2, h3, h4, h5, h6, h7⟩ := hrow j (by omega)
        have hadd : (⟨b, off, none⟩ : Addr).add j = ⟨b, off + j, none⟩ := by unfold Addr.add; split <;> simp_all
        rw [hadd] at h1
        refine ⟨_, h1, ?_⟩
        simp only [List.getElem_map, List.getElem_range]
        by_cases hz : L j = 0
        · exact Or.inl ⟨by rw [hz]; simp, _, _, by rw [hz]⟩
        · cases hA : A j with
          | none => have := h6 hA; omega
          | some a' =>
            obtain ⟨_, h8⟩ := h7 a' hA
            obtain ⟨b', off', spot'⟩ := a'
            have h9 := h8 0 (by omega)
            have hspot' : spot' = none := by simpa [Addr.add] using World.cell?_spot h9
            subst hspot'
            have hb' : b' < W.heap.size := by
              have := World.block_lt_of_cell? W _ h9
              simpa [Addr.add] using this
            have hlen : ((Z j).take (L j)).length = L j := by rw [List.length_take]; omega
            refine Or.inr ⟨b', off', C j, by rw [hlen], hb', fun c hc => ?_⟩
            have hc' : c < L j := by omega
            have hadd' : (⟨b', off', none⟩ : Addr).add c = ⟨b', off' + c, none⟩ := by unfold Addr.add; split <;> simp_all
            have h10 := h8 c (by omega)
            rw [hadd'] at h10
            rw [h10]
            simp [List.getD, show c < (Z j).length by omega]
    · refine ⟨by simp; omega, fun j hj => ?_⟩
      have hj' : j < len := by simpa using hj
      obtain ⟨h1, h2, h3, h4, _⟩ := hrow j (by omega)
      simp only [List.getElem_map, List.getElem_range, List.length_take]
      omega
    · intro r hr x hx
      obtain ⟨j, hj, rfl⟩ := List.mem_map.1 hr
      have hj' : j < len := List.mem_range.1 hj
      obtain ⟨h1, h2, h3, h4, h5, _⟩ := hrow j (by omega)
      exact wf_fit (h5 x (List.mem_of_mem_take hx))

def rootsT (m : List (List Int)) : List UInt8 := Lib.join (m.map rowT) [32]
def rootsM (m : List (List Int)) : List UInt8 := if m.length = 0 then [110, 111, 110, 101] else rootsT m
theorem rootsM_no {m : List (List Int)} (h : m.length = 0) : rootsM m = [110, 111, 110, 101] := if_pos h
theorem rootsM_yes {m : List (List Int)} (h : ¬ m.length = 0) : rootsM m = rootsT m := if_neg h
/-- What stands before the k-th row. -/
def preR (m : List (List Int)) (k : Nat) : List UInt8 := if k = 0 then [] else Lib.join ((m.take k).map rowT) [32] ++ [32]
theorem preR_join (m : List (List Int)) (k : Nat) (h : k < m.length) : preR m k ++ rowT (m.getD k []) = Lib.join ((m.take (k + 1)).map rowT) [32] := by
  rw [getD_row m k h, List.take_succ_eq_append_getElem h, List.map_append]
  unfold preR
  by_cases h0 : k = 0
  · subst h0
    rw [if_pos rfl]
    simp [Lib.join_one]
  · rw [if_neg h0, List.map_cons, List.map_nil, join_snoc _ _ _ (map_take_ne _ _ _ (by omega) (by omega))]
theorem rowT_at {m : List (List Int)} (hf : FitsM m) {k : Nat} (h : k < m.length) : (rowT (m.getD k [])).length + 22 * ((m.take k).map List.length).sum ≤ 22 * ((m.take (k + 1)).map List.length).sum := by
  have h1 := rowT_le (hf.getD k)
  have h2 := sum_take_succ m k h
  rw [getD_row m k h] at h1 ⊢
  omega
theorem row_le {m : List (List Int)} (hs : szSum m ≤ 1048576) (k : Nat) : (m.getD k []).length ≤ 1048576 := by
  by_cases h : k < m.length
  · have h1 := sum_take_succ m k h
    have h2 := sum_take_le m (k + 1)
    unfold szSum at hs
    rw [getD_row m k h]
    omega
  · have e : m.getD k [] = [] := by simp [List.getD, h]
    rw [e]; simp
theorem MatB.rowF {B : Nat} {w : World} {a : Option Addr} {n cap : Nat} {m : List (List Int)} (h : MatB B w (.slice a n cap) m) {j : Nat} (hj : j < n) :
    ∃ b off ra rcap, j < m.length ∧ a = some ⟨b, off, none⟩ ∧ b < B ∧ w.cell? ⟨b, off + j, none⟩ = some (.slice ra (m.getD j []).length rcap) ∧ RowB B w (.slice ra (m.getD j []).length rcap) (m.getD j []) := by
  obtain ⟨b, off, hjl, rfl, hb, ra, rcap, hc, hr⟩ := h.get hj
  have e := getD_row m j hjl
  exact ⟨b, off, ra, rcap, hjl, rfl, hb, by rw [e]; exact hc, by rw [e]; exact hr⟩
theorem rootsT_len {m : List (List Int)} (hf : FitsM m) : ∀ k, k ≤ m.length → (Lib.join ((m.take k).map rowT) [32]).length ≤ 22 * ((m.take k).map List.length).sum + k
  | 0, _ => by simp [Lib.join_nil]
  | k + 1, hk => by
    have h1 := rootsT_len hf k (by omega)
    have h2 := rowT_at hf (k := k) (by omega)
    rw [← preR_join m k (by omega), List.length_append]
    unfold preR
    by_cases h0 : k = 0
    · rw [if_pos h0]; simp only [List.length_nil]; omega
    · rw [if_neg h0, List.length_append]; simp only [List.length_cons, List.length_nil]; omega
set_option maxHeartbeats 4000000 in
set_option maxRecDepth 100000 in
theorem fmrs_any (B : Nat) (v : Value) (m : List (List Int)) (w : World) (h : MatB B w v m) (hB : B ≤ w.heap.size) (hs : szSum m ≤ 1048576) (hfit : FitsM m) :
    Calls Tryd.prog 5 #[v] w fun e w' => e = .returned (.string ⟨(rootsM m).toArray⟩) ∧ Below w.heap.size w w' := by
  obtain ⟨a, cap, rfl⟩ := h.slice
  have HR := Lib.hid h; clear h
  have HFM := Lib.hid (fun (k : Nat) (x : Value) (wx : World) (hx : RowB B wx x (m.getD k [])) (hBx : B ≤ wx.heap.size) => fmtws_any B x (m.getD k []) wx hx hBx (by have := row_le hs k; omega) (hfit.getD k))
  have HST := Lib.hid (fun k (hk : k < m.length) => preR_join m k hk)
  have HLE := Lib.hid (fun k (hk : k < m.length) => rowT_at hfit hk)
  have HPR := Lib.hid (fun k => show preR m k = if k = 0 then [] else Lib.join ((m.take k).map rowT) [32] ++ [32] from rfl)
  have HSUM := Lib.hid (fun k => sum_take_le m k)
  have HALL : Hid (Lib.join ((m.take m.length).map rowT) [32] = rootsT m) := Lib.hid (by rw [List.take_length]; rfl)
  have HNO := Lib.hid (fun h => rootsM_no (m := m) h)
  have HYES := Lib.hid (fun h => rootsM_yes (m := m) h)
  unfold szSum at hs
  have HS := Lib.hid hs
  have hn : m.length ≤ 1048576 := by omega
  clear hfit hs
  generalize rootsM m = R at *
  generalize (m.map List.length).sum = T at *
  generalize m.length = n at *
  go_enter Tryd.func5, Tryd.ntmps5
  go_wp2_with fail
  go_loopw [3, 4] (fun sv i wr => ∃ (j : Nat) (t : ByteArray) (wq : World), wq = wr ∧ j ≤ n ∧ i = .int .i64 j ∧ sv = .string t ∧ Hid (t.data.toList = Lib.join ((m.take j).map rowT) [32]) ∧ Hid (t.size ≤ 22 * ((m.take j).map List.length).sum + j) ∧ Below w.heap.size w wq) (fun _ i _ => n - (intOf i).toNat)
  case atStart => exact ⟨0, ⟨#[]⟩, _, rfl, Nat.zero_le _, rfl, rfl, by show Hid _; unfold Hid; simp [Lib.join_nil], Lib.hid (Nat.zero_le _), Below.refl _ _⟩
  case round =>
    obtain ⟨j, t, wq, rfl, hj, rfl, rfl, HTT, HTS, hb⟩ := hrel
    have HB := Lib.hid hb; clear hb
    have hts : t.size ≤ 24117248 := by have h1 := HTS.out; have h2 := HSUM.out j; have h3 := HS.out; omega
    by_cases hjn : j < n
    · obtain ⟨b, off, ra, rcap, _, rfl, hbB, hc, hrow⟩ := (HR.out.below HB.out hB).rowF hjn
      have HROW := Lib.hid (HFM.out j _ wq hrow (Nat.le_trans hB HB.out.size))
      have hst := HST.out j hjn
      have hle := HLE.out j hjn
      have hpr := HPR.out j
      have hsum := HSUM.out (j + 1)
      have hsz := HTS.out
      have hss := HS.out
      generalize ((m.take j).map List.length).sum = s0 at *
      generalize hg1 : ((m.take (j + 1)).map List.length).sum = s1 at *
      have HG1 := Lib.hid hg1; clear hg1
      generalize (m.getD j []).length = rl at *
      clear hrow
      obtain ⟨t1, ht1, ht2, hcase1⟩ : ∃ t1 : ByteArray, t1.data.toList = preR m j ∧ t1.size ≤ 22 * s0 + j + 1 ∧ ((0 < j ∧ t1 = t ++ ⟨#[32]⟩) ∨ (¬ 0 < j ∧ t1 = t)) := by
        by_cases h1 : 0 < j
        · refine ⟨t ++ ⟨#[32]⟩, ?_, by rw [ba_app_size, ba_one]; omega, Or.inl ⟨h1, rfl⟩⟩
          rw [str_app, HTT.out, hpr, if_neg (by omega)]
        · refine ⟨t, ?_, by omega, Or.inr ⟨h1, rfl⟩⟩
          obtain rfl : j = 0 := by omega
          rw [HTT.out, hpr]; simp [Lib.join_nil]
      have hfin : (t1 ++ ⟨(rowT (m.getD j [])).toArray⟩).data.toList = Lib.join ((m.take (j + 1)).map rowT) [32] := by
        rw [str_app, ht1]; exact hst
      have hsx : (⟨(rowT (m.getD j [])).toArray⟩ : ByteArray).size ≤ 22 * s1 - 22 * s0 := by rw [ba_list]; omega
      have hfs : (t1 ++ ⟨(rowT (m.getD j [])).toArray⟩).size ≤ 22 * s1 + (j + 1) := by
        rw [ba_app_size]
        omega
      have HFIN := Lib.hid hfin
      have HFS := Lib.hid hfs
      have hsx2 : (⟨(rowT (m.getD j [])).toArray⟩ : ByteArray).size ≤ 23068672 := by omega
      have ht3 : t1.size ≤ 24117249 := by omega
      clear hfin hfs hst ht1 hle hpr hsum hsz hss hsx ht2
      generalize (⟨(rowT (m.getD j [])).toArray⟩ : ByteArray) = y at *
      rcases hcase1 with ⟨h1, he1⟩ | ⟨h1, he1⟩
      all_goals
        have HEQ1 := Lib.hid he1.symm
        clear he1
        go_wp2_with fail
        try rw [HEQ1.out]
        refine HROW.out.mono ?_
        rintro e w5 ⟨rfl, hb5⟩
        have HB5 := Lib.hid (HB.out.trans (hb5.mono HB.out.size))
        clear hb5
        go_wp2_with fail
        try rw [HEQ1.out]
        exact ⟨⟨j + 1, _, _, rfl, by omega, by go_num, rfl, HFIN, by rw [HG1.out]; exact HFS, HB5.out⟩, by simp [intOf]; omega⟩
    · obtain rfl : j = n := by omega
      by_cases h0 : j = 0
      · have HV := Lib.hid (HNO.out h0)
        subst h0
        have hd : decide (0 < 0) = false := by simp
        go_wp2_with fail
        go_ret
        exact ⟨by rw [HV.out]; rfl, HB.out⟩
      · have HV := Lib.hid (HYES.out h0)
        have hd : decide (j < j) = false := by simp
        have hz : ((j : Int) == 0) = false := by rw [beq_eq_false_iff_ne]; omega
        go_wp2_with fail
        go_ret
        refine ⟨?_, HB.out⟩
        rw [HV.out]
        exact congrArg (fun x => Ending.returned (.string x)) (str_ofl (HTT.out.trans HALL.out))
end Go.Proofs.YtlbgblkoddlhnabDoor
