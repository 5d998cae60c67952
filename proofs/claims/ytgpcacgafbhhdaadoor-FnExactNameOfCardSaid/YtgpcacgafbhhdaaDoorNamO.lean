/-
  NameOf of the model: what the call returns.
-/
import Derived.Test.YtgpcacgafbhhdaaDoorNamAll
namespace Go.Proofs.YtgpcacgafbhhdaaDoor
open Go.RowKit

theorem s_app (a b : ByteArray) : (a ++ b).data.toList = a.data.toList ++ b.data.toList := by simp [ByteArray.data_append]
theorem s_size (a b : ByteArray) : (a ++ b).size = a.size + b.size := ByteArray.size_append
theorem s_ofl {s : ByteArray} {l : List UInt8} (h : s.data.toList = l) : s = ⟨l.toArray⟩ := by subst h; rfl
theorem names_short : ∀ t, (namesL.getD t []).length ≤ 3 := by
  intro t
  by_cases h : t < 17
  · exact (show ∀ t, t < 17 → (namesL.getD t []).length ≤ 3 by decide) t h
  · rw [List.getD_eq_getElem?_getD, List.getElem?_eq_none (show namesL.length ≤ t by show 17 ≤ t; omega)]; simp
theorem nameP_short (m : List (List Int)) : (nameP m).length ≤ 3 := by
  unfold nameP
  split
  · exact names_short _
  · split <;> simp
noncomputable def partK (m : List (List Int)) (k : Nat) : List (List Int) := subM m ((partsV m).getD k [])
noncomputable def nameS (m : List (List Int)) : Nat → List UInt8
  | 0 => []
  | k + 1 => (if k = 0 then [] else nameS m k ++ [120]) ++ nameP (partK m k)
theorem nameS_succ (m : List (List Int)) (k : Nat) : nameS m (k + 1) = (if k = 0 then [] else nameS m k ++ [120]) ++ nameP (partK m k) := rfl
/-- What NameOf returns. -/
noncomputable def nameO (m : List (List Int)) : List UInt8 := nameS m (partsV m).length
theorem mem_le_sum {x : Nat} {l : List Nat} (h : x ∈ l) : x ≤ l.sum := by
  induction l with
  | nil => simp at h
  | cons y l ih =>
    rw [List.sum_cons]
    rcases List.mem_cons.1 h with rfl | h
    · omega
    · have := ih h; omega
theorem partsV_row {m : List (List Int)} {k : Nat} (hk : k < (partsV m).length) : ((partsV m).getD k []).length ≤ 4 := by
  by_cases h : IsC m
  · have h1 := (nbG_ok h).2.2.2.2
    have h4 := h.2.2.2
    have h2 := hk
    rw [partsV_yes h, List.length_map] at h2
    have e : (partsV m).getD k [] = intL ((partsL m)[k]) := by rw [partsV_yes h]; simp [List.getD, h2]
    rw [e, intL_len]
    have h3 : ((partsL m)[k]).length ≤ ((partsL m).map List.length).sum := by
      have : ((partsL m)[k]).length ∈ (partsL m).map List.length := List.mem_map.2 ⟨_, List.getElem_mem h2, rfl⟩
      exact mem_le_sum this
    have h5 : ((partsL m).map List.length).sum ≤ m.length := h1
    omega
  · rw [partsV_no h] at hk; simp at hk

set_option maxHeartbeats 2000000 in
set_option maxRecDepth 100000 in
theorem nmo_any (B : Nat) (v : Value) (m : List (List Int)) (w : World) (h : MatB B w v m) (hB : B ≤ w.heap.size) (hf : RowsFit m) :
    Calls Tryd.prog 11 #[v] w fun e w' => e = .returned (strV (nameO m)) ∧ Below w.heap.size w w' := by
  have HPA := Lib.hid (parts_any B v m w h hB hf)
  have HSU := Lib.hid (fun (B' : Nat) (v' : Value) (l : List Int) (w1 : World) (hb : Below w.heap.size w w1) (h' : RowB B' w1 v' l) (hB' : B' ≤ w1.heap.size) (hl : l.length ≤ maxLen) => subs_any B B' v v' m l w1 (h.below hb hB) h' (Nat.le_trans hB hb.size) hB' hf hl)
  have HNP := Lib.hid (fun k (B' : Nat) (v' : Value) (w1 : World) (h' : MatB B' w1 v' (partK m k)) (hB' : B' ≤ w1.heap.size) => nmp_any B' v' (partK m k) w1 h' hB' (fit_of_small (small_of (subM_small m ((partsV m).getD k [])))))
  have HSH := Lib.hid (fun k => nameP_short (partK m k))
  have HSS := Lib.hid (nameS_succ m)
  have HPK := Lib.hid (fun k => show partK m k = subM m ((partsV m).getD k []) from rfl)
  have HROW := Lib.hid (fun k (hk : k < (partsV m).length) => partsV_row hk)
  have hl4 := partsV_len m
  have HV := Lib.hid (show nameO m = nameS m (partsV m).length from rfl)
  clear h
  generalize nameO m = R at *
  generalize partsV m = T at *
  generalize hTL : T.length = L at *
  have HTL := Lib.hid hTL; clear hTL
  go_enter Tryd.func11, Tryd.ntmps11
  go_wp2_with fail
  refine HPA.out.mono ?_
  rintro e w1 ⟨x, rfl, hx, hb1⟩
  have HB1 := Lib.hid hb1
  have hs1 := hb1.size
  obtain ⟨la, lcap, rfl⟩ := hx.1.slice
  rw [HTL.out] at hx ⊢
  have HX := Lib.hid hx.1
  clear hx hb1
  go_wp2_with fail
  go_loopw [4, 5] (fun s i wr => ∃ (t : Nat) (sb : ByteArray) (wq : World), wq = wr ∧ t ≤ L ∧ i = .int .i64 t ∧ s = .string sb ∧ Hid (sb.data.toList = nameS m t) ∧ sb.size ≤ 4 * t ∧ Below w1.heap.size w1 wq) (fun _ i _ => L - (intOf i).toNat)
  case atStart => exact ⟨0, ⟨#[]⟩, _, rfl, Nat.zero_le _, rfl, rfl, Lib.hid rfl, Nat.le_refl _, Below.refl _ _⟩
  case round =>
    obtain ⟨t, sb, wq, rfl, ht, rfl, rfl, hs, hsb, hbq⟩ := hrel
    have HBQ := Lib.hid hbq
    have hsq := hbq.size
    clear hbq
    have HBw := Lib.hid (HB1.out.trans (HBQ.out.mono hs1))
    by_cases hlt : t < L
    · have hlt' : decide (t < L) = true := decide_eq_true hlt
      have HXQ := Lib.hid (HX.out.same (SameIn.of_below HBQ.out (Nat.le_refl _)))
      obtain ⟨lb, hv, rfl, hcell, hrow⟩ := HXQ.out.rowI4 (j := t) (by rw [HTL.out]; exact hlt)
      have hr4 := HROW.out t hlt
      have HPK' := Lib.hid (HPK.out t)
      have HNP' := Lib.hid (HNP.out t)
      have hsh := HSH.out t
      have HSS' := Lib.hid (HSS.out t)
      obtain ⟨ra, rcap, rfl⟩ := hrow.slice
      have HRW := Lib.hid hrow; clear hrow
      generalize T.getD t [] = l at *
      generalize hll : l.length = ll at *
      have HLL := Lib.hid hll; clear hll
      generalize partK m t = pk at *
      obtain ⟨s1, hs1', hs2, hcase⟩ : ∃ s1 : ByteArray, s1.data.toList = (if t = 0 then [] else nameS m t ++ [120]) ∧ s1.size ≤ 4 * t + 1 ∧ ((0 < t ∧ s1 = sb ++ ⟨#[120]⟩) ∨ (t = 0 ∧ s1 = sb)) := by
        by_cases h0 : t = 0
        · refine ⟨sb, ?_, by omega, Or.inr ⟨h0, rfl⟩⟩
          subst h0
          rw [hs.out]; rfl
        · refine ⟨sb ++ ⟨#[120]⟩, ?_, ?_, Or.inl ⟨by omega, rfl⟩⟩
          · rw [s_app, hs.out, if_neg h0]
          · rw [s_size]; have : (⟨#[120]⟩ : ByteArray).size = 1 := rfl; omega
      have HS1 := Lib.hid hs1'; clear hs1'
      rcases hcase with ⟨h0, he⟩ | ⟨h0, he⟩
      all_goals
        have HEQ := Lib.hid he
        have HT0 := Lib.hid h0
        clear he
        try subst h0
        go_wp2_with fail
        refine (HSU.out w1.heap.size _ l wq HBw.out HRW.out.rowB hsq (by rw [HLL.out]; unfold maxLen; omega)).mono ?_
        rintro e w4 ⟨y, rfl, hy, hb4⟩
        rw [← HPK'.out] at hy
        have HY := Lib.hid hy
        have HB4 := Lib.hid (HBQ.out.trans (hb4.mono hsq))
        have HBw4 := Lib.hid (HBw.out.trans (hb4.mono (by omega)))
        have hs4 := hb4.size
        clear hy hb4 hcell
        generalize subB m l = sbb at *
        try rw [← HEQ.out]
        go_wp2_with fail
        refine (HNP'.out _ y w4 HY.out.matB (Nat.le_refl _)).mono ?_
        rintro e w5 ⟨rfl, hb5⟩
        have HB5 := Lib.hid (HB4.out.trans (hb5.mono (by omega)))
        clear hb5
        have hfin : (s1 ++ ⟨(nameP pk).toArray⟩ : ByteArray).data.toList = (s1.data.toList ++ nameP pk) := by rw [s_app]
        have hfs : (s1 ++ ⟨(nameP pk).toArray⟩ : ByteArray).size ≤ s1.size + 3 := by
          rw [s_size]; have : (⟨(nameP pk).toArray⟩ : ByteArray).size = (nameP pk).length := rfl; omega
        have hsz3 : (⟨(nameP pk).toArray⟩ : ByteArray).size ≤ 3 := hsh
        rw [HS1.out] at hfin
        have HFIN := Lib.hid (hfin.trans HSS'.out.symm)
        have HFS := Lib.hid hfs
        clear hfin hfs
        unfold strV
        generalize (⟨(nameP pk).toArray⟩ : ByteArray) = nb at *
        go_wp2_with fail
        exact ⟨⟨_, s1 ++ nb, _, rfl, by omega, by go_num, rfl, HFIN, by have := HFS.out; omega, HB5.out⟩, by simp [intOf]; omega⟩
    · obtain rfl : t = L := by omega
      have hlt' : decide (t < t) = false := by simp
      go_wp2_with fail
      go_ret
      refine ⟨?_, HBw.out⟩
      unfold strV
      rw [s_ofl hs.out, HV.out]
      rfl
end Go.Proofs.YtgpcacgafbhhdaaDoor
