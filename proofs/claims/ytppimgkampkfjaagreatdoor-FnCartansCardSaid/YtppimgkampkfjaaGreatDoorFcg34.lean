/-
  SizeByName of the model and of the program: what the calls return.
-/
import Derived.Test.YtppimgkampkfjaaGreatDoorFcg23
namespace Go.Proofs.YtppimgkampkfjaaGreatDoor
open Go.RowKit

/-! ### Sizes -/
def sizeTab : List (List UInt8 × Nat) := [([65, 49], 2), ([65, 50], 6), ([65, 51], 24), ([65, 52], 120), ([66, 50], 8), ([66, 51], 48), ([67, 51], 48), ([66, 52], 384), ([67, 52], 384), ([68, 52], 192), ([70, 52], 1152), ([71, 50], 12)]
def sizeN (l : List UInt8) : Nat := match sizeTab.find? fun p => p.1 == l with
  | some p => p.2
  | none => 0
theorem sizeN_le (l : List UInt8) : sizeN l ≤ 1152 := by
  unfold sizeN
  split
  · rename_i p hp
    have := List.mem_of_find?_eq_some hp
    exact (show ∀ p ∈ sizeTab, p.2 ≤ 1152 by decide) _ this
  · omega
def prodN (L : List (List UInt8)) (k : Nat) : Nat := ((L.take k).map sizeN).foldl (· * ·) 1
theorem prodN_step (L : List (List UInt8)) (k : Nat) (h : k < L.length) : prodN L (k + 1) = prodN L k * sizeN L[k] := by
  unfold prodN
  rw [List.take_succ_eq_append_getElem h, List.map_append, List.foldl_append]; rfl
theorem prodN_next (L : List (List UInt8)) (k : Nat) (h : k < L.length) : prodN L (k + 1) = prodN L k * sizeN (L.getD k []) := by
  rw [prodN_step L k h]; simp [List.getD, h]
theorem prodN_le (L : List (List UInt8)) : ∀ k, k ≤ L.length → prodN L k ≤ 1152 ^ k
  | 0, _ => by simp [prodN]
  | k + 1, h => by
    rw [prodN_step L k (by omega), Nat.pow_succ]
    exact Nat.mul_le_mul (prodN_le L k (by omega)) (sizeN_le _)
def sizeO (l : List UInt8) : Nat := if (cutL 120 l).length > 4 then 0 else prodN (cutL 120 l) (cutL 120 l).length
/-- Whatever is no name of the table. -/
def NoName (l : List UInt8) : Prop := ∀ p ∈ sizeTab, p.1 ≠ l
theorem sizeN_no {l : List UInt8} (h : NoName l) : sizeN l = 0 := by
  unfold sizeN
  rw [List.find?_eq_none.2 (fun p hp => by simpa using h p hp)]
theorem size_cases (l : List UInt8) : NoName l ∨ ∃ i, ∃ h : i < 12, l = (sizeTab[i]'(show i < sizeTab.length from h)).1 := by
  by_cases h : NoName l
  · exact Or.inl h
  · right
    have h' : ∃ p ∈ sizeTab, p.1 = l := Classical.byContradiction fun hn => h fun p hp e => hn ⟨p, hp, e⟩
    obtain ⟨p, hp, rfl⟩ := h'
    obtain ⟨i, hi, rfl⟩ := List.getElem_of_mem hp
    exact ⟨i, hi, rfl⟩
theorem no_lit {s : ByteArray} (h : NoName s.data.toList) {l : List UInt8} (hl : ∃ p ∈ sizeTab, p.1 = l) : (s.toList == l) = false := by
  rw [ByteArray.toList_eq, beq_eq_false_iff_ne]
  intro e
  obtain ⟨p, hp, he⟩ := hl
  exact h p hp (he.trans e.symm)

set_option maxHeartbeats 2000000 in
set_option maxRecDepth 100000 in
theorem szp_any (s : ByteArray) (w : World) : Calls Tryz.prog 115 #[.string s] w fun e w' => e = .returned (.int .i64 (sizeN s.data.toList)) ∧ w' = w := by
  rcases size_cases s.data.toList with h | ⟨i, hi, h⟩
  · rw [sizeN_no h]
    have hl0 : (s.toList == [65, 49]) = false := no_lit h (by decide)
    have hl1 : (s.toList == [65, 50]) = false := no_lit h (by decide)
    have hl2 : (s.toList == [65, 51]) = false := no_lit h (by decide)
    have hl3 : (s.toList == [65, 52]) = false := no_lit h (by decide)
    have hl4 : (s.toList == [66, 50]) = false := no_lit h (by decide)
    have hl5 : (s.toList == [66, 51]) = false := no_lit h (by decide)
    have hl6 : (s.toList == [67, 51]) = false := no_lit h (by decide)
    have hl7 : (s.toList == [66, 52]) = false := no_lit h (by decide)
    have hl8 : (s.toList == [67, 52]) = false := no_lit h (by decide)
    have hl9 : (s.toList == [68, 52]) = false := no_lit h (by decide)
    have hl10 : (s.toList == [70, 52]) = false := no_lit h (by decide)
    have hl11 : (s.toList == [71, 50]) = false := no_lit h (by decide)
    go_enter Tryz.func115, Tryz.ntmps115
    go_wp2_with fail
    go_ret
    exact ⟨rfl, rfl⟩
  · have hs : s = ⟨(sizeTab[i]'(show i < sizeTab.length from hi)).1.toArray⟩ := by rw [← h]
    subst hs
    clear h
    rcases (show i = 0 ∨ i = 1 ∨ i = 2 ∨ i = 3 ∨ i = 4 ∨ i = 5 ∨ i = 6 ∨ i = 7 ∨ i = 8 ∨ i = 9 ∨ i = 10 ∨ i = 11 by omega) with rfl | rfl | rfl | rfl | rfl | rfl | rfl | rfl | rfl | rfl | rfl | rfl
    all_goals
      go_enter Tryz.func115, Tryz.ntmps115
      go_wp2_with fail
      go_ret
      exact ⟨rfl, rfl⟩

/-! ### The model -/
theorem pow_le4 : ∀ k, k ≤ 4 → 1152 ^ k ≤ 1761205026816 := by decide +kernel
set_option maxHeartbeats 4000000 in
set_option maxRecDepth 100000 in
theorem szs_any (s : ByteArray) (w : World) (hs : s.size ≤ 1048576) : Calls Tryz.prog 71 #[.string s] w fun e w' => e = .returned (.int .i64 (sizeO s.data.toList)) ∧ Below w.heap.size w w' := by
  have HCU := Lib.hid (cut_any 120 s w hs)
  have HO := Lib.hid (show sizeO s.data.toList = if (cutL 120 s.data.toList).length > 4 then 0 else prodN (cutL 120 s.data.toList) (cutL 120 s.data.toList).length from rfl)
  have hcl := cutL_len 120 s.data.toList
  have HST := Lib.hid (prodN_next (cutL 120 s.data.toList))
  have HLE := Lib.hid (prodN_le (cutL 120 s.data.toList))
  have HCB := Lib.hid (show cutB 120 s = toB (cutL 120 s.data.toList) from rfl)
  have hsz : s.data.toList.length = s.size := by simp
  rw [hsz] at hcl
  generalize sizeO s.data.toList = R at *
  generalize cutL 120 s.data.toList = P at *
  generalize cutB 120 s = CB at *
  generalize hPL : P.length = L at *
  have HPL := Lib.hid hPL
  have HCL : Hid (CB.length = L) := Lib.hid (by rw [HCB.out, ← hPL]; simp [toB])
  have HCG : Hid (∀ j, j < L → CB[j]? = some ⟨(P.getD j []).toArray⟩) := Lib.hid (fun j h => by rw [← hPL] at h; rw [HCB.out]; simp [toB, h, List.getD])
  clear hPL hsz
  go_enter Tryz.func71, Tryz.ntmps71
  go_wp2_with fail
  refine HCU.out.mono ?_
  rintro e w1 ⟨x, rfl, hx, hb1⟩
  have HB1 := Lib.hid hb1
  obtain ⟨la, lcap, rfl⟩ := hx.slice
  rw [HCL.out] at hx ⊢
  have HX := Lib.hid hx
  clear hx hb1
  go_wp2_with fail
  go_loopw [4, 5] (fun n i wr => ∃ t : Nat, t ≤ L ∧ t ≤ 4 ∧ i = .int .i64 t ∧ n = .int .i64 (prodN P t : Nat) ∧ wr = w1) (fun _ i _ => L - (intOf i).toNat)
  case atStart => exact ⟨0, Nat.zero_le _, Nat.zero_le _, rfl, rfl, rfl⟩
  case round =>
    obtain ⟨t, ht, ht4, rfl, rfl, rfl⟩ := hrel
    by_cases hlt : t < L ∧ t < 4
    · obtain ⟨hltL, hlt4⟩ := hlt
      have hL' : decide (t < L) = true := decide_eq_true hltL
      have h4' : decide (t < 4) = true := decide_eq_true hlt4
      obtain ⟨g, rfl, hgB, hcell⟩ := HX.out.get (j := t) (by rw [HCL.out]; exact hltL)
      have hcg := HCG.out t hltL
      have hcx : CB[t]'(by rw [HCL.out]; exact hltL) = ⟨(P.getD t []).toArray⟩ := by
        obtain ⟨h1, h2⟩ := List.getElem?_eq_some_iff.1 hcg
        exact h2
      rw [hcx] at hcell
      have hst := HST.out t hltL
      have hle := HLE.out t (by omega)
      have hp4 : 1152 ^ t ≤ 1528823808 := by
        rcases (show t = 0 ∨ t = 1 ∨ t = 2 ∨ t = 3 by omega) with rfl | rfl | rfl | rfl <;> decide
      have hN : prodN P t ≤ 1528823808 := Nat.le_trans hle hp4
      have HNX := Lib.hid hst
      clear hst hcg hcx hle hp4
      generalize hx : P.getD t [] = pl at *
      clear hx
      generalize prodN P t = N at *
      rcases size_cases pl with h | ⟨i, hi, rfl⟩
      · obtain ⟨x, hxd⟩ : ∃ x : ByteArray, x = ⟨pl.toArray⟩ := ⟨_, rfl⟩
        have h : NoName x.data.toList := by rw [hxd]; exact h
        rw [sizeN_no (by assumption), Nat.mul_zero] at HNX
        rw [← hxd] at hcell
        have hl0 : (x.toList == [65, 49]) = false := no_lit h (by decide)
        have hl1 : (x.toList == [65, 50]) = false := no_lit h (by decide)
        have hl2 : (x.toList == [65, 51]) = false := no_lit h (by decide)
        have hl3 : (x.toList == [65, 52]) = false := no_lit h (by decide)
        have hl4 : (x.toList == [66, 50]) = false := no_lit h (by decide)
        have hl5 : (x.toList == [66, 51]) = false := no_lit h (by decide)
        have hl6 : (x.toList == [67, 51]) = false := no_lit h (by decide)
        have hl7 : (x.toList == [66, 52]) = false := no_lit h (by decide)
        have hl8 : (x.toList == [67, 52]) = false := no_lit h (by decide)
        have hl9 : (x.toList == [68, 52]) = false := no_lit h (by decide)
        have hl10 : (x.toList == [70, 52]) = false := no_lit h (by decide)
        have hl11 : (x.toList == [71, 50]) = false := no_lit h (by decide)
        clear h hxd
        go_wp2_with fail
        exact ⟨⟨t + 1, by omega, by omega, by go_num, by rw [HNX.out]; rfl, trivial⟩, by simp [intOf]; omega⟩
      · rcases (show i = 0 ∨ i = 1 ∨ i = 2 ∨ i = 3 ∨ i = 4 ∨ i = 5 ∨ i = 6 ∨ i = 7 ∨ i = 8 ∨ i = 9 ∨ i = 10 ∨ i = 11 by omega) with rfl | rfl | rfl | rfl | rfl | rfl | rfl | rfl | rfl | rfl | rfl | rfl
        all_goals
          simp only [sizeTab, List.getElem_cons_zero, List.getElem_cons_succ] at hcell HNX
          go_wp2_with fail
          exact ⟨⟨t + 1, by omega, by omega, by go_num, by rw [HNX.out, Int.natCast_mul]; rfl, trivial⟩, by simp [intOf]; omega⟩
    · by_cases hL4 : L > 4
      · obtain rfl : t = 4 := by omega
        have hR : R = 0 := by rw [HO.out, if_pos hL4]
        subst hR
        have hL' : decide (4 < L) = true := decide_eq_true (by omega)
        have h4' : decide (4 < 4) = false := by simp
        generalize prodN P 4 = N at *
        go_wp2_with fail
        go_ret
        exact ⟨rfl, HB1.out⟩
      · obtain rfl : t = L := by omega
        have hR : R = prodN P t := by rw [HO.out, if_neg hL4]
        have hL' : decide (t < t) = false := by simp
        have h4' : decide (4 < t) = false := decide_eq_false (by omega)
        rw [← hR]
        clear hR
        go_wp2_with fail
        go_ret
        exact ⟨rfl, HB1.out⟩
end Go.Proofs.YtppimgkampkfjaaGreatDoor
