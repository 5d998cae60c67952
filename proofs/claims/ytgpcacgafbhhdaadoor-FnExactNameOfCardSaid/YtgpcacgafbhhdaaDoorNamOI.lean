/-
  NameOf of the program: what the call returns.
-/
import Derived.Test.YtgpcacgafbhhdaaDoorNamO
import Derived.Test.YtgpcacgafbhhdaaDoorNamAll
import Derived.Test.YtgpcacgafbhhdaaDoorSizC
import Derived.Test.YtgpcacgafbhhdaaDoorShelfJ
namespace Go.Proofs.YtgpcacgafbhhdaaDoor
open Go.RowKit

/-! ### Every part is a set of points -/
theorem parts_mem {G : Nat → List Nat} {n : Nat} : ∀ {k : Nat} {q : List Nat}, q ∈ partsM G n k → ∃ i, i < k ∧ q = mPart G n i
  | 0, q, h => by simp [partsM] at h
  | k + 1, q, h => by
    by_cases hc : (mPart G n k).getD 0 0 = k
    · rw [← partsM_yes hc] at h
      rcases List.mem_append.1 h with h | h
      · obtain ⟨i, hi, e⟩ := parts_mem h
        exact ⟨i, by omega, e⟩
      · exact ⟨k, by omega, by simpa using h⟩
    · rw [← partsM_no hc] at h
      obtain ⟨i, hi, e⟩ := parts_mem h
      exact ⟨i, by omega, e⟩
theorem filter_set (n : Nat) (f : Nat → Bool) : IsSet n (intL ((List.range n).filter f)) := by
  have hp : ((List.range n).filter f).Pairwise (· < ·) := List.Pairwise.filter _ List.pairwise_lt_range
  have hm : ∀ k (h : k < ((List.range n).filter f).length), ((List.range n).filter f)[k] < n := fun k h => by
    have := List.getElem_mem h
    exact List.mem_range.1 (List.mem_filter.1 this).1
  generalize (List.range n).filter f = l at *
  intro k hk
  rw [intL_len] at hk
  have hg : ∀ j (h : j < l.length), l.getD j 0 = l[j] := fun j h => by simp [List.getD, h]
  unfold setC
  rw [intL_get _ _ hk, hg k hk]
  have h1 := hm k hk
  refine ⟨⟨by omega, by omega⟩, fun ⟨h2, h3⟩ => ?_⟩
  rw [intL_get _ _ (by omega), hg (k - 1) (by omega)] at h3
  have := List.pairwise_iff_getElem.1 hp (k - 1) k (by omega) hk (by omega)
  omega
theorem part_sub {m : List (List Int)} {k : Nat} (hk : k < (partsV m).length) : SubOk m ((partsV m).getD k []) := by
  by_cases hI : IsC m
  · have h2 := hk
    rw [partsV_yes hI, List.length_map] at h2
    have e : (partsV m).getD k [] = intL ((partsL m)[k]) := by rw [partsV_yes hI]; simp [List.getD, h2]
    obtain ⟨i, hi, hq⟩ := parts_mem (List.getElem_mem h2)
    have hne := (nbG_ok hI).2.1 i hi
    rw [e, hq]
    refine ⟨hI, fun e2 => hne ?_, ?_⟩
    · have := congrArg List.length e2
      rw [intL_len] at this
      exact this
    · exact filter_set _ _
  · rw [partsV_no hI] at hk; simp at hk
/-! ### Names joined -/
theorem rowT_nil (A B : Nat) (w : World) : RowT A B w (.slice none 0 0) [] := ⟨World.ownsRow_nil _ _ _ _, fun g h => by simp [Value.ownBlock] at h⟩
theorem join_snoc4 (l : List (List UInt8)) (x sep : List UInt8) (h : l ≠ []) : Lib.join (l ++ [x]) sep = Lib.join l sep ++ sep ++ x := by
  cases l with
  | nil => exact absurd rfl h
  | cons y r =>
    rw [List.cons_append, Lib.join_cons, Lib.join_cons]
    simp [Lib.joinTail]
noncomputable def nameL (m : List (List Int)) (k : Nat) : List (List UInt8) := (List.range k).map fun i => nameP (partK m i)
theorem nameL_len (m : List (List Int)) (k : Nat) : (nameL m k).length = k := by simp [nameL]
theorem nameL_step (m : List (List Int)) (k : Nat) : nameL m k ++ [nameP (partK m k)] = nameL m (k + 1) := by
  unfold nameL
  rw [List.range_succ, List.map_append]; rfl
theorem nameS_join (m : List (List Int)) : ∀ k, 1 ≤ k → Lib.join (nameL m k) [120] = nameS m k
  | 1, _ => by simp [nameL, nameS, Lib.join_one]
  | k + 2, _ => by
    rw [← nameL_step, join_snoc4 _ _ _ (fun e => by have := congrArg List.length e; rw [nameL_len] at this; simp at this), nameS_join m (k + 1) (by omega)]
    show _ = (if k + 1 = 0 then [] else nameS m (k + 1) ++ [120]) ++ nameP (partK m (k + 1))
    rw [if_neg (by omega)]
theorem nameS_len (m : List (List Int)) : ∀ k, (nameS m k).length ≤ 4 * k
  | 0 => by simp [nameS]
  | k + 1 => by
    rw [nameS_succ, List.length_append]
    have h1 := nameS_len m k
    have h2 := nameP_short (partK m k)
    split
    · simp; omega
    · simp; omega

set_option maxHeartbeats 2000000 in
set_option maxRecDepth 100000 in
theorem nmoi_any (B : Nat) (v : Value) (m : List (List Int)) (w : World) (h : MatB B w v m) (hB : B ≤ w.heap.size) (hf : RowsFit m) (hN : NamesIs w namesL) :
    Calls Tryd.prog 12 #[v] w fun e w' => e = .returned (strV (nameO m)) ∧ Below w.heap.size w w' := by
  have HPA := Lib.hid (parti_any B v m w h hB hf)
  have HPI := Lib.hid (fun k (hk : k < (partsV m).length) (B' : Nat) (v' : Value) (w1 : World) (hb : Below w.heap.size w w1) (h' : RowB B' w1 v' ((partsV m).getD k [])) (hB' : B' ≤ w1.heap.size) =>
    show Calls Tryd.prog 28 #[v, v'] w1 (MakesM w1 (partK m k)) from by
      have hs := part_sub hk
      have := pickp_any B B' v v' m ((partsV m).getD k []) w1 (h.below hb hB) h' (Nat.le_trans hB hb.size) hB' hf hs.1.1 (isSet_pt hs.2.2) (by have := partsV_row hk; omega)
      unfold partK
      rw [subM_yes hs]
      exact this)
  have HNP := Lib.hid (fun k (B' : Nat) (v' : Value) (w1 : World) (hb : Below w.heap.size w w1) (h' : MatB B' w1 v' (partK m k)) (hB' : B' ≤ w1.heap.size) => nmpi_any B' v' (partK m k) w1 h' hB' (fit_of_small (small_of (subM_small m ((partsV m).getD k [])))) (NamesIs.below hN hb))
  have HST := Lib.hid (nameL_step m)
  have HLL := Lib.hid (nameL_len m)
  have HJO := Lib.hid (nameS_join m)
  have HNS := Lib.hid (nameS_len m)
  have HROW := Lib.hid (fun k (hk : k < (partsV m).length) => partsV_row hk)
  have hl4 := partsV_len m
  have HV := Lib.hid (show nameO m = nameS m (partsV m).length from rfl)
  have HE0 := Lib.hid (show nameS m 0 = [] from rfl)
  have hsl := h.slice
  clear h hN
  generalize nameO m = R at *
  generalize partsV m = T at *
  generalize hTL : T.length = L at *
  have HTL := Lib.hid hTL; clear hTL
  go_enter Tryd.func12, Tryd.ntmps12
  go_wp2_with fail
  refine HPA.out.mono ?_
  rintro e w1 ⟨x, rfl, hx, hb1⟩
  have HB1 := Lib.hid hb1
  have hs1 := hb1.size
  obtain ⟨la, lcap, rfl⟩ := hx.1.slice
  rw [HTL.out] at hx ⊢
  have HX := Lib.hid hx.1
  clear hx hb1
  go_wp2_with fail
  go_loopw [3, 9] (fun o i wr => ∃ (t : Nat) (wq : World), wq = wr ∧ t ≤ L ∧ i = .int .i64 t ∧ RowT w1.heap.size wq.heap.size wq o (toB (nameL m t)) ∧ Below w1.heap.size w1 wq) (fun _ i _ => L - (intOf i).toNat)
  case atStart => exact ⟨0, _, rfl, Nat.zero_le _, rfl, rowT_nil _ _ _, Below.refl _ _⟩
  case round =>
    obtain ⟨t, wq, rfl, ht, rfl, hO, hbq⟩ := hrel
    have HBQ := Lib.hid hbq
    have hsq := hbq.size
    have HO := Lib.hid hO
    clear hbq hO
    have HBw := Lib.hid (HB1.out.trans (HBQ.out.mono hs1))
    by_cases hlt : t < L
    · have hlt' : decide (t < L) = true := decide_eq_true hlt
      have HXQ := Lib.hid (HX.out.same (SameIn.of_below HBQ.out (Nat.le_refl _)))
      obtain ⟨lb, hv, rfl, hcell, hrow⟩ := HXQ.out.rowI4 (j := t) (by rw [HTL.out]; exact hlt)
      have HPI' := Lib.hid (HPI.out t hlt)
      have HNP' := Lib.hid (HNP.out t)
      obtain ⟨ra, rn, rcap, rfl⟩ := hrow.slice3
      have HRW := Lib.hid hrow; clear hrow
      have h2 : toB (nameL m t) ++ [(⟨(nameP (partK m t)).toArray⟩ : ByteArray)] = toB (nameL m (t + 1)) := by
        rw [← HST.out t]; simp [toB]
      have H2 := Lib.hid h2; clear h2
      have hll : (toB (nameL m t)).length ≤ 4194304 := by
        have := HLL.out t
        simp [toB]; omega
      have HLE := Lib.hid hll; clear hll
      generalize partK m t = pk at *
      go_wp2_with fail
      refine (HPI'.out w1.heap.size _ wq HBw.out HRW.out.rowB hsq).mono ?_
      rintro e w4 ⟨y, rfl, hy, hb4⟩
      have HY := Lib.hid hy
      have HB4 := Lib.hid (HBQ.out.trans (hb4.mono hsq))
      have HO4 := Lib.hid (HO.out.step hb4)
      have HBw4 := Lib.hid (HBw.out.trans (hb4.mono (by omega)))
      have hs4 := hb4.size
      clear hy hb4 hcell
      go_wp2_with fail
      refine (HNP'.out _ y w4 HBw4.out HY.out.matB (Nat.le_refl _)).mono ?_
      rintro e w5 ⟨rfl, hb5⟩
      have HB5 := Lib.hid (HB4.out.trans (hb5.mono (by omega)))
      have HO5 := Lib.hid (HO4.out.step hb5)
      have hs5 := hb5.size
      clear hb5
      unfold strV
      generalize (⟨(nameP pk).toArray⟩ : ByteArray) = nb at *
      have hsw5 : w1.heap.size ≤ w5.heap.size := by omega
      go_wp2_with (at_builtin; go_must (refine append_str HO5.out hsw5 nb H2.out rfl rfl rfl rfl HLE.out ?_; intro v6 w6 hr6 hb6 hz6))
      have HR6 := Lib.hid hr6
      have HB6 := Lib.hid (hb6 w1 w1.heap.size (Nat.le_refl _) HB5.out)
      clear hr6 hb6 hz6
      exact ⟨⟨t + 1, _, rfl, by omega, by go_num, HR6.out, HB6.out⟩, by simp [intOf]; omega⟩
    · obtain rfl : t = L := by omega
      have hlt' : decide (t < t) = false := by simp
      have hlen : (toB (nameL m t)).length = t := by simp [toB]; exact HLL.out t
      obtain ⟨oa, ocap, rfl⟩ := HO.out.slice
      rw [hlen] at HO ⊢
      by_cases h0 : t = 0
      · subst h0
        rw [HE0.out] at HV
        have HV2 := Lib.hid HV.out
        go_wp2_with fail
        refine (Tryd.strings_Join_none _ _ _ _).mono ?_
        rintro e w7 ⟨rfl, rfl⟩
        go_wp2_with fail
        go_ret
        exact ⟨by rw [HV2.out]; rfl, HBw.out⟩
      · obtain ⟨g, rfl, hgB, _⟩ := HO.out.get (j := 0) (by rw [hlen]; omega)
        have hcells : ∀ (j : Nat) x, (toB (nameL m t))[j]? = some x → wq.cell? ⟨g, 0 + j, none⟩ = some (.string x) := fun j x hx => by
          obtain ⟨hj, he⟩ := List.getElem?_eq_some_iff.1 hx
          obtain ⟨g', hg', _, hc⟩ := HO.out.get (j := j) hj
          injection hg' with hg'
          injection hg' with hg'
          subst hg'
          rw [Nat.zero_add, hc, he]
        have hcap : t ≤ ocap := by
          rcases HO.out.1.2 with ⟨hq, _⟩ | ⟨g', cap', cur, hq, _, _, hnc, _⟩
          · cases hq
          · injection hq with _ _ hq3
            subst hq3
            rw [hlen] at hnc; exact hnc
        have hbytes : (toB (nameL m t)).map (·.data.toList) = nameL m t := by simp [toB, Function.comp_def]
        have hjoin : Lib.join ((toB (nameL m t)).map (·.data.toList)) [120] = nameS m t := by rw [hbytes]; exact HJO.out t (by omega)
        have hJ := Tryd.strings_Join g 0 ocap (toB (nameL m t)) ⟨#[120]⟩ wq hcells hgB (by rw [hlen]; omega) (by rw [hlen]; exact hcap)
        rw [show ((⟨#[120]⟩ : ByteArray).data.toList) = [120] from rfl, hjoin, hlen] at hJ
        have HJ := Lib.hid (hJ (by have := HNS.out t; omega))
        clear hJ hjoin hbytes hcells hcap
        have HVB := Lib.hid HV.out
        go_wp2_with fail
        refine HJ.out.mono ?_
        rintro e w7 ⟨rfl, hb7⟩
        have HB7 := Lib.hid (HBw.out.trans (hb7.mono HBw.out.size))
        clear hb7
        go_wp2_with fail
        go_ret
        exact ⟨by rw [HVB.out]; rfl, HB7.out⟩
end Go.Proofs.YtgpcacgafbhhdaaDoor
