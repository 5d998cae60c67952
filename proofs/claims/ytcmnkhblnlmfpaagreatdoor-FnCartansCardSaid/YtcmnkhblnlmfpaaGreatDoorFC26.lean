/-
  NameOf of the program: what the call returns.
  The determinant by choosing a column for each row (no walk here): the sum over the columns that are left is the expansion along the first row.
  DeterminantOf of the program: the closure over the rows, and what the call returns.
  DeterminantOf of the program: what the call returns.
  The program's sets by bits, principal minors and witness: what the calls return.
  The program's WitnessOf and IsFinite: what the calls return.
  The program's IsAffine: what the call returns.
-/
import Derived.Test.YtcmnkhblnlmfpaaGreatDoorFC22
import Derived.Test.YtcmnkhblnlmfpaaGreatDoorFC25
import Derived.Test.YtcmnkhblnlmfpaaGreatDoorShelfJ
import Derived.Test.YtcmnkhblnlmfpaaGreatDoorFC10
import Derived.Deep.RegionHeld3
import Derived.OneCell
import Derived.Scope
import Derived.Laws.EntriesVeiled
import Derived.Test.YtcmnkhblnlmfpaaGreatDoorFC13
import Derived.Test.YtcmnkhblnlmfpaaGreatDoorFC15
import Derived.Test.YtcmnkhblnlmfpaaGreatDoorFC09
namespace Go.Proofs.YtcmnkhblnlmfpaaGreatDoor
open Go.RowKit

/-! ### Every part is a set of points -/
theorem parts_mem {G : Nat → List Nat} {n : Nat} : ∀ {k : Nat} {q : List Nat}, q ∈ partsM G n k → ∃ i, i < k ∧ q = mPart G n i
  | 0, q, h => by simp [partsM] at h
  | k + 1, q, h => by
    by_cases hc : (mPart G n k).getD 0 0 = k
    · rw [← partsM_yes hc] at h
      rcases List.mem_append.1 h with h | h
      · obtain ⟨i, hi, e⟩ := parts_mem h
        exact ⟨i, by omega, e⟩
      · exact ⟨k, by omega, by simpa using h⟩
    · rw [← partsM_no hc] at h
      obtain ⟨i, hi, e⟩ := parts_mem h
      exact ⟨i, by omega, e⟩
theorem filter_set (n : Nat) (f : Nat → Bool) : IsSet n (intL ((List.range n).filter f)) := by
  have hp : ((List.range n).filter f).Pairwise (· < ·) := List.Pairwise.filter _ List.pairwise_lt_range
  have hm : ∀ k (h : k < ((List.range n).filter f).length), ((List.range n).filter f)[k] < n := fun k h => by
    have := List.getElem_mem h
    exact List.mem_range.1 (List.mem_filter.1 this).1
  generalize (List.range n).filter f = l at *
  intro k hk
  rw [intL_len] at hk
  have hg : ∀ j (h : j < l.length), l.getD j 0 = l[j] := fun j h => by simp [List.getD, h]
  unfold setC
  rw [intL_get _ _ hk, hg k hk]
  have h1 := hm k hk
  refine ⟨⟨by omega, by omega⟩, fun ⟨h2, h3⟩ => ?_⟩
  rw [intL_get _ _ (by omega), hg (k - 1) (by omega)] at h3
  have := List.pairwise_iff_getElem.1 hp (k - 1) k (by omega) hk (by omega)
  omega
theorem part_sub {m : List (List Int)} {k : Nat} (hk : k < (partsV m).length) : SubOk m ((partsV m).getD k []) := by
  by_cases hI : IsC m
  · have h2 := hk
    rw [partsV_yes hI, List.length_map] at h2
    have e : (partsV m).getD k [] = intL ((partsL m)[k]) := by rw [partsV_yes hI]; simp [List.getD, h2]
    obtain ⟨i, hi, hq⟩ := parts_mem (List.getElem_mem h2)
    have hne := (nbG_ok hI).2.1 i hi
    rw [e, hq]
    refine ⟨hI, fun e2 => hne ?_, ?_⟩
    · have := congrArg List.length e2
      rw [intL_len] at this
      exact this
    · exact filter_set _ _
  · rw [partsV_no hI] at hk; simp at hk
/-! ### Names joined -/
theorem rowT_nil (A B : Nat) (w : World) : RowT A B w (.slice none 0 0) [] := ⟨World.ownsRow_nil _ _ _ _, fun g h => by simp [Value.ownBlock] at h⟩
theorem join_snoc4 (l : List (List UInt8)) (x sep : List UInt8) (h : l ≠ []) : Lib.join (l ++ [x]) sep = Lib.join l sep ++ sep ++ x := by
  cases l with
  | nil => exact absurd rfl h
  | cons y r =>
    rw [List.cons_append, Lib.join_cons, Lib.join_cons]
    simp [Lib.joinTail]
noncomputable def nameL (m : List (List Int)) (k : Nat) : List (List UInt8) := (List.range k).map fun i => nameP (partK m i)
theorem nameL_len (m : List (List Int)) (k : Nat) : (nameL m k).length = k := by simp [nameL]
theorem nameL_step (m : List (List Int)) (k : Nat) : nameL m k ++ [nameP (partK m k)] = nameL m (k + 1) := by
  unfold nameL
  rw [List.range_succ, List.map_append]; rfl
theorem nameS_join (m : List (List Int)) : ∀ k, 1 ≤ k → Lib.join (nameL m k) [120] = nameS m k
  | 1, _ => by simp [nameL, nameS, Lib.join_one]
  | k + 2, _ => by
    rw [← nameL_step, join_snoc4 _ _ _ (fun e => by have := congrArg List.length e; rw [nameL_len] at this; simp at this), nameS_join m (k + 1) (by omega)]
    show _ = (if k + 1 = 0 then [] else nameS m (k + 1) ++ [120]) ++ nameP (partK m (k + 1))
    rw [if_neg (by omega)]
theorem nameS_len (m : List (List Int)) : ∀ k, (nameS m k).length ≤ 4 * k
  | 0 => by simp [nameS]
  | k + 1 => by
    rw [nameS_succ, List.length_append]
    have h1 := nameS_len m k
    have h2 := nameP_short (partK m k)
    split
    · simp; omega
    · simp; omega

set_option maxHeartbeats 2000000 in
set_option maxRecDepth 100000 in
theorem nmoi_any (B : Nat) (v : Value) (m : List (List Int)) (w : World) (h : MatB B w v m) (hB : B ≤ w.heap.size) (hf : RowsFit m) (hN : NamesIs w namesL) :
    Calls Tryz.prog 47 #[v] w fun e w' => e = .returned (strV (nameO m)) ∧ Below w.heap.size w w' := by
  have HPA := Lib.hid (parti_any B v m w h hB hf)
  have HPI := Lib.hid (fun k (hk : k < (partsV m).length) (B' : Nat) (v' : Value) (w1 : World) (hb : Below w.heap.size w w1) (h' : RowB B' w1 v' ((partsV m).getD k [])) (hB' : B' ≤ w1.heap.size) =>
    show Calls Tryz.prog 92 #[v, v'] w1 (MakesM w1 (partK m k)) from by
      have hs := part_sub hk
      have := pickp_any B B' v v' m ((partsV m).getD k []) w1 (h.below hb hB) h' (Nat.le_trans hB hb.size) hB' hf hs.1.1 (isSet_pt hs.2.2) (by have := partsV_row hk; omega)
      unfold partK
      rw [subM_yes hs]
      exact this)
  have HNP := Lib.hid (fun k (B' : Nat) (v' : Value) (w1 : World) (hb : Below w.heap.size w w1) (h' : MatB B' w1 v' (partK m k)) (hB' : B' ≤ w1.heap.size) => nmpi_any B' v' (partK m k) w1 h' hB' (fit_of_small (small_of (subM_small m ((partsV m).getD k [])))) (NamesIs.below hN hb))
  have HST := Lib.hid (nameL_step m)
  have HLL := Lib.hid (nameL_len m)
  have HJO := Lib.hid (nameS_join m)
  have HNS := Lib.hid (nameS_len m)
  have HROW := Lib.hid (fun k (hk : k < (partsV m).length) => partsV_row hk)
  have hl4 := partsV_len m
  have HV := Lib.hid (show nameO m = nameS m (partsV m).length from rfl)
  have HE0 := Lib.hid (show nameS m 0 = [] from rfl)
  have hsl := h.slice
  clear h hN
  generalize nameO m = R at *
  generalize partsV m = T at *
  generalize hTL : T.length = L at *
  have HTL := Lib.hid hTL; clear hTL
  go_enter Tryz.func47, Tryz.ntmps47
  go_wp2_with fail
  refine HPA.out.mono ?_
  rintro e w1 ⟨x, rfl, hx, hb1⟩
  have HB1 := Lib.hid hb1
  have hs1 := hb1.size
  obtain ⟨la, lcap, rfl⟩ := hx.1.slice
  rw [HTL.out] at hx ⊢
  have HX := Lib.hid hx.1
  clear hx hb1
  go_wp2_with fail
  go_loopw [3, 9] (fun o i wr => ∃ (t : Nat) (wq : World), wq = wr ∧ t ≤ L ∧ i = .int .i64 t ∧ RowT w1.heap.size wq.heap.size wq o (toB (nameL m t)) ∧ Below w1.heap.size w1 wq) (fun _ i _ => L - (intOf i).toNat)
  case atStart => exact ⟨0, _, rfl, Nat.zero_le _, rfl, rowT_nil _ _ _, Below.refl _ _⟩
  case round =>
    obtain ⟨t, wq, rfl, ht, rfl, hO, hbq⟩ := hrel
    have HBQ := Lib.hid hbq
    have hsq := hbq.size
    have HO := Lib.hid hO
    clear hbq hO
    have HBw := Lib.hid (HB1.out.trans (HBQ.out.mono hs1))
    by_cases hlt : t < L
    · have hlt' : decide (t < L) = true := decide_eq_true hlt
      have HXQ := Lib.hid (HX.out.same (SameIn.of_below HBQ.out (Nat.le_refl _)))
      obtain ⟨lb, hv, rfl, hcell, hrow⟩ := HXQ.out.rowI4 (j := t) (by rw [HTL.out]; exact hlt)
      have HPI' := Lib.hid (HPI.out t hlt)
      have HNP' := Lib.hid (HNP.out t)
      obtain ⟨ra, rn, rcap, rfl⟩ := hrow.slice3
      have HRW := Lib.hid hrow; clear hrow
      have h2 : toB (nameL m t) ++ [(⟨(nameP (partK m t)).toArray⟩ : ByteArray)] = toB (nameL m (t + 1)) := by
        rw [← HST.out t]; simp [toB]
      have H2 := Lib.hid h2; clear h2
      have hll : (toB (nameL m t)).length ≤ 4194304 := by
        have := HLL.out t
        simp [toB]; omega
      have HLE := Lib.hid hll; clear hll
      generalize partK m t = pk at *
      go_wp2_with fail
      refine (HPI'.out w1.heap.size _ wq HBw.out HRW.out.rowB hsq).mono ?_
      rintro e w4 ⟨y, rfl, hy, hb4⟩
      have HY := Lib.hid hy
      have HB4 := Lib.hid (HBQ.out.trans (hb4.mono hsq))
      have HO4 := Lib.hid (HO.out.step hb4)
      have HBw4 := Lib.hid (HBw.out.trans (hb4.mono (by omega)))
      have hs4 := hb4.size
      clear hy hb4 hcell
      go_wp2_with fail
      refine (HNP'.out _ y w4 HBw4.out HY.out.matB (Nat.le_refl _)).mono ?_
      rintro e w5 ⟨rfl, hb5⟩
      have HB5 := Lib.hid (HB4.out.trans (hb5.mono (by omega)))
      have HO5 := Lib.hid (HO4.out.step hb5)
      have hs5 := hb5.size
      clear hb5
      unfold strV
      generalize (⟨(nameP pk).toArray⟩ : ByteArray) = nb at *
      have hsw5 : w1.heap.size ≤ w5.heap.size := by omega
      go_wp2_with (at_builtin; go_must (refine append_str HO5.out hsw5 nb H2.out rfl rfl rfl rfl HLE.out ?_; intro v6 w6 hr6 hb6 hz6))
      have HR6 := Lib.hid hr6
      have HB6 := Lib.hid (hb6 w1 w1.heap.size (Nat.le_refl _) HB5.out)
      clear hr6 hb6 hz6
      exact ⟨⟨t + 1, _, rfl, by omega, by go_num, HR6.out, HB6.out⟩, by simp [intOf]; omega⟩
    · obtain rfl : t = L := by omega
      have hlt' : decide (t < t) = false := by simp
      have hlen : (toB (nameL m t)).length = t := by simp [toB]; exact HLL.out t
      obtain ⟨oa, ocap, rfl⟩ := HO.out.slice
      rw [hlen] at HO ⊢
      by_cases h0 : t = 0
      · subst h0
        rw [HE0.out] at HV
        have HV2 := Lib.hid HV.out
        go_wp2_with fail
        refine (Tryz.strings_Join_none _ _ _ _).mono ?_
        rintro e w7 ⟨rfl, rfl⟩
        go_wp2_with fail
        go_ret
        exact ⟨by rw [HV2.out]; rfl, HBw.out⟩
      · obtain ⟨g, rfl, hgB, _⟩ := HO.out.get (j := 0) (by rw [hlen]; omega)
        have hcells : ∀ (j : Nat) x, (toB (nameL m t))[j]? = some x → wq.cell? ⟨g, 0 + j, none⟩ = some (.string x) := fun j x hx => by
          obtain ⟨hj, he⟩ := List.getElem?_eq_some_iff.1 hx
          obtain ⟨g', hg', _, hc⟩ := HO.out.get (j := j) hj
          injection hg' with hg'
          injection hg' with hg'
          subst hg'
          rw [Nat.zero_add, hc, he]
        have hcap : t ≤ ocap := by
          rcases HO.out.1.2 with ⟨hq, _⟩ | ⟨g', cap', cur, hq, _, _, hnc, _⟩
          · cases hq
          · injection hq with _ _ hq3
            subst hq3
            rw [hlen] at hnc; exact hnc
        have hbytes : (toB (nameL m t)).map (·.data.toList) = nameL m t := by simp [toB, Function.comp_def]
        have hjoin : Lib.join ((toB (nameL m t)).map (·.data.toList)) [120] = nameS m t := by rw [hbytes]; exact HJO.out t (by omega)
        have hJ := Tryz.strings_Join g 0 ocap (toB (nameL m t)) ⟨#[120]⟩ wq hcells hgB (by rw [hlen]; omega) (by rw [hlen]; exact hcap)
        rw [show ((⟨#[120]⟩ : ByteArray).data.toList) = [120] from rfl, hjoin, hlen] at hJ
        have HJ := Lib.hid (hJ (by have := HNS.out t; omega))
        clear hJ hjoin hbytes hcells hcap
        have HVB := Lib.hid HV.out
        go_wp2_with fail
        refine HJ.out.mono ?_
        rintro e w7 ⟨rfl, hb7⟩
        have HB7 := Lib.hid (HBw.out.trans (hb7.mono HBw.out.size))
        clear hb7
        go_wp2_with fail
        go_ret
        exact ⟨by rw [HVB.out]; rfl, HB7.out⟩
end Go.Proofs.YtcmnkhblnlmfpaaGreatDoor
namespace Go.Proofs.YtcmnkhblnlmfpaaGreatDoor
open Go.RowKit

/-! ### Signs of a choice -/
def sgnC (j : Nat) : List Nat → Int
  | [] => 1
  | c :: l => if j < c then -sgnC j l else sgnC j l
/-- The sign behind the first i columns of the choice. -/
def sgnT (j : Nat) (ch : List Nat) (i : Nat) : Int := sgnC j (ch.take i)
theorem sgnC_snoc (j c : Nat) (l : List Nat) : sgnC j (l ++ [c]) = if j < c then -sgnC j l else sgnC j l := by
  induction l with
  | nil => rfl
  | cons x l ih =>
    show (if j < x then -sgnC j (l ++ [c]) else sgnC j (l ++ [c])) = _
    rw [ih]
    show _ = if j < c then -(if j < x then -sgnC j l else sgnC j l) else (if j < x then -sgnC j l else sgnC j l)
    split <;> split <;> simp
theorem sgnC_one (j : Nat) (l : List Nat) : sgnC j l = 1 ∨ sgnC j l = -1 := by
  induction l with
  | nil => exact Or.inl rfl
  | cons x l ih =>
    show (if j < x then -sgnC j l else sgnC j l) = 1 ∨ (if j < x then -sgnC j l else sgnC j l) = -1
    split
    · rcases ih with h | h <;> rw [h] <;> simp
    · exact ih
/-! ### The sum over the columns that are left -/
def expF (m : List (List Int)) (n : Nat) : Nat → List Nat → Int
  | 0, _ => 1
  | k + 1, ch => ((List.range n).map fun j => if ch.contains j then 0 else sgnC j ch * entry m ch.length j * expF m n k (ch ++ [j])).sum
def expT (m : List (List Int)) (n k : Nat) (ch : List Nat) (j : Nat) : Int := if ch.contains j then 0 else sgnC j ch * entry m ch.length j * expF m n k (ch ++ [j])
def expS (m : List (List Int)) (n k : Nat) (ch : List Nat) (j : Nat) : Int := ((List.range j).map (expT m n k ch)).sum
theorem expS_step (m : List (List Int)) (n k : Nat) (ch : List Nat) (j : Nat) : expS m n k ch (j + 1) = expS m n k ch j + expT m n k ch j := by
  unfold expS
  rw [List.range_succ, List.map_append, List.sum_append]
  simp
theorem expS_end (m : List (List Int)) (n k : Nat) (ch : List Nat) : expS m n k ch n = expF m n (k + 1) ch := rfl
/-- 4, 4 * 3 * 4, .. : what a sum comes to at most. -/
def eB : Nat → Int
  | 0 => 1
  | n + 1 => 4 * (3 * eB n)
theorem eB_nonneg (n : Nat) : 0 ≤ eB n := by
  induction n with
  | zero => decide
  | succ n ih => exact Int.mul_nonneg (by omega) (by omega)
theorem expT_bd {m : List (List Int)} {n k : Nat} {ch : List Nat} {j : Nat} (hb : Bd m) (h : -(eB k) ≤ expF m n k (ch ++ [j]) ∧ expF m n k (ch ++ [j]) ≤ eB k) : -(3 * eB k) ≤ expT m n k ch j ∧ expT m n k ch j ≤ 3 * eB k := by
  have h0 := eB_nonneg k
  unfold expT
  split
  · omega
  · have hx : -3 ≤ sgnC j ch * entry m ch.length j ∧ sgnC j ch * entry m ch.length j ≤ 3 := by
      have := hb ch.length j
      rcases sgnC_one j ch with h1 | h1 <;> rw [h1] <;> omega
    exact mul_le3 hx h h0
theorem expS_bd {m : List (List Int)} {n k : Nat} {ch : List Nat} (hb : Bd m) (h : ∀ j, -(eB k) ≤ expF m n k (ch ++ [j]) ∧ expF m n k (ch ++ [j]) ≤ eB k) (j : Nat) :
    -((j : Int) * (3 * eB k)) ≤ expS m n k ch j ∧ expS m n k ch j ≤ (j : Int) * (3 * eB k) := by
  induction j with
  | zero => simp [expS]
  | succ j ih =>
    rw [expS_step]
    have h1 := expT_bd hb (h j)
    have e : ((j + 1 : Nat) : Int) * (3 * eB k) = (j : Int) * (3 * eB k) + 3 * eB k := by rw [Int.natCast_succ, Int.add_mul, Int.one_mul]
    rw [e]
    omega
theorem expF_bd {m : List (List Int)} {n : Nat} (hn : n ≤ 4) (hb : Bd m) (k : Nat) : ∀ ch, -(eB k) ≤ expF m n k ch ∧ expF m n k ch ≤ eB k := by
  induction k with
  | zero => intro ch; show -(1 : Int) ≤ 1 ∧ (1 : Int) ≤ 1; decide
  | succ k ih =>
    intro ch
    rw [← expS_end]
    have h1 := expS_bd (n := n) (ch := ch) hb (fun j => ih (ch ++ [j])) n
    have h0 := eB_nonneg k
    have h2 : (n : Int) * (3 * eB k) ≤ 4 * (3 * eB k) := Int.mul_le_mul_of_nonneg_right (by omega) (by omega)
    show -(4 * (3 * eB k)) ≤ _ ∧ _ ≤ 4 * (3 * eB k)
    omega
theorem eB_small (n : Nat) (h : n ≤ 4) : eB n ≤ 20736 := by
  rcases (show n = 0 ∨ n = 1 ∨ n = 2 ∨ n = 3 ∨ n = 4 by omega) with rfl | rfl | rfl | rfl | rfl <;> decide
/-! ### It is the determinant -/
theorem exp_det1 (m : List (List Int)) : expF m 1 1 [] = detF 1 m := by
  simp [expF, detF, sgnC, sgn, wdM, wdR, keepC, entry, List.range_succ, List.getD]
theorem exp_det2 (m : List (List Int)) : expF m 2 2 [] = detF 2 m := by
  have e : ∀ i j, ((m[i]?.getD [])[j]?.getD 0) = entry m i j := fun i j => by simp [entry, List.getD]
  simp [expF, detF, sgnC, sgn, wdM, wdR, keepC, List.range_succ, List.contains, List.elem]
  simp [entry, List.getD]
  simp only [e]
  grind
theorem exp_det3 (m : List (List Int)) : expF m 3 3 [] = detF 3 m := by
  have e : ∀ i j, ((m[i]?.getD [])[j]?.getD 0) = entry m i j := fun i j => by simp [entry, List.getD]
  simp [expF, detF, sgnC, sgn, wdM, wdR, keepC, List.range_succ, List.contains, List.elem]
  simp [entry, List.getD]
  simp only [e]
  grind
set_option maxHeartbeats 2000000 in
theorem exp_det4 (m : List (List Int)) : expF m 4 4 [] = detF 4 m := by
  have e : ∀ i j, ((m[i]?.getD [])[j]?.getD 0) = entry m i j := fun i j => by simp [entry, List.getD]
  simp [expF, detF, sgnC, sgn, wdM, wdR, keepC, List.range_succ, List.contains, List.elem]
  simp [entry, List.getD]
  simp only [e]
  grind
theorem exp_det (m : List (List Int)) (n : Nat) (h : n ≤ 4) : expF m n n [] = detF n m := by
  rcases (show n = 0 ∨ n = 1 ∨ n = 2 ∨ n = 3 ∨ n = 4 by omega) with rfl | rfl | rfl | rfl | rfl
  · rfl
  · exact exp_det1 m
  · exact exp_det2 m
  · exact exp_det3 m
  · exact exp_det4 m
end Go.Proofs.YtcmnkhblnlmfpaaGreatDoor
namespace Go.Proofs.YtcmnkhblnlmfpaaGreatDoor
open Go.RowKit

theorem sgnT_step (j : Nat) (ch : List Nat) (i : Nat) (h : i < ch.length) : sgnT j ch (i + 1) = if j < ch.getD i 0 then -sgnT j ch i else sgnT j ch i := by
  unfold sgnT
  rw [List.take_succ_eq_append_getElem h, sgnC_snoc]
  simp [List.getD, h]
theorem sgnT_one (j : Nat) (ch : List Nat) (i : Nat) : sgnT j ch i = 1 ∨ sgnT j ch i = -1 := sgnC_one _ _
set_option maxRecDepth 100000 in
theorem contains_at {ch : List Nat} {i j : Nat} (h : i < ch.length) (he : ch.getD i 0 = j) : ch.contains j = true := by
  rw [List.contains_iff_mem]
  subst he
  simp [List.getD, h]
theorem contains_not {ch : List Nat} {j : Nat} (h : ∀ i, i < ch.length → ch.getD i 0 ≠ j) : ch.contains j = false := by
  rw [Bool.eq_false_iff]
  intro hc
  rw [List.contains_iff_mem] at hc
  obtain ⟨i, hi, he⟩ := List.getElem_of_mem hc
  exact h i hi (by simp [List.getD, hi, he])

end Go.Proofs.YtcmnkhblnlmfpaaGreatDoor
namespace Go.Proofs.YtcmnkhblnlmfpaaGreatDoor
open Go.RowKit

end Go.Proofs.YtcmnkhblnlmfpaaGreatDoor
namespace Go.Proofs.YtcmnkhblnlmfpaaGreatDoor
open Go.RowKit

/-! ### The points of a number -/
theorem setK_four : ∀ n : Nat, n ≤ 4 → ∀ t : Nat, t < 2 ^ n → setK t 4 = setK t n := by decide +kernel
theorem bit_bool (t c : Nat) (ht : t < 16) (hc : c < 4) : (bits BinOp.and IntKind.i64 ((t : Int) / 2 ^ c) 1 == 1) = t.testBit c := bit_test t ht c hc
/-! ### The matrix of a set is valid -/
theorem set_isC4 {m : List (List Int)} (hI : IsC m) {t : Nat} (ht : t < 2 ^ m.length - 1) : IsC (pick m (intL (setK (t + 1) m.length))) ∧ (pick m (intL (setK (t + 1) m.length))).length = (setK (t + 1) m.length).length := by
  have hset := set_is hI.2.2.2 ht
  have hn0 := (sets_ok m.length hI.2.2.2 t ht)
  have hl4 : (setK (t + 1) m.length).length ≤ 4 := Nat.le_trans (setK_len _ _) hI.2.2.2
  have hlen : (pick m (intL (setK (t + 1) m.length))).length = (setK (t + 1) m.length).length := by rw [pick_len, intL_len]
  refine ⟨⟨?_, ?_, by rw [hlen]; have := hn0.1; omega, by rw [hlen]; exact hl4⟩, hlen⟩
  · intro i hi
    have := pick_rows m (intL (setK (t + 1) m.length))
    rw [intL_len] at this
    rw [hlen] at hi ⊢
    exact this i hi
  · intro i j hi hj
    rw [hlen] at hi hj
    have hasc : ∀ k, k < (setK (t + 1) m.length).length → ∀ l, l < k → (setK (t + 1) m.length).getD l 0 < (setK (t + 1) m.length).getD k 0 := by
      intro k
      induction k with
      | zero => intro _ l hl; omega
      | succ k ih =>
        intro hk l hl
        have h1 := (hn0.2 (k + 1) hk).2 (by omega)
        simp only [Nat.add_sub_cancel] at h1
        rcases Nat.lt_or_ge l k with h2 | h2
        · exact Nat.lt_trans (ih (by omega) l h2) h1
        · obtain rfl : l = k := by omega
          exact h1
    have he : ∀ p r, p < (setK (t + 1) m.length).length → r < (setK (t + 1) m.length).length → entry (pick m (intL (setK (t + 1) m.length))) p r = entry m ((setK (t + 1) m.length).getD p 0) ((setK (t + 1) m.length).getD r 0) := fun p r hp hr => by
      unfold pick
      rw [fullM_entry _ _ _ _ (by rw [intL_len]; exact hp) (by rw [intL_len]; exact hr)]
      unfold ptsF
      rw [intL_get _ _ hp, intL_get _ _ hr]; rfl
    have h0 := hI.2.1 _ _ (hn0.2 i hi).1 (hn0.2 j hj).1
    unfold okC at h0 ⊢
    rw [he i j hi hj, he j i hj hi]
    rcases h0 with ⟨h1, h2⟩ | ⟨h1, h2, h3⟩
    · refine Or.inl ⟨?_, h2⟩
      rcases Nat.lt_trichotomy i j with h4 | h4 | h4
      · have := hasc j hj i h4; omega
      · exact h4
      · have := hasc i hi j h4; omega
    · exact Or.inr ⟨fun e => h1 (by rw [e]), h2, h3⟩
theorem pick_detV {m : List (List Int)} (hI : IsC m) {t : Nat} (ht : t < 2 ^ m.length - 1) : detV (pick m (intL (setK (t + 1) m.length))) = minP m t := by
  obtain ⟨h1, h2⟩ := set_isC4 hI ht
  rw [detV_yes h1, h2]; rfl

/-! ### Minors -/
end Go.Proofs.YtcmnkhblnlmfpaaGreatDoor
namespace Go.Proofs.YtcmnkhblnlmfpaaGreatDoor
open Go.RowKit

theorem minK_get (m : List (List Int)) (k t : Nat) (h : t < k) : (minK m k).getD t 0 = minP m t := by simp [minK, List.getD, h]
end Go.Proofs.YtcmnkhblnlmfpaaGreatDoor
namespace Go.Proofs.YtcmnkhblnlmfpaaGreatDoor
open Go.RowKit

/-- The determinant is the last minor. -/
theorem setK_all : ∀ n, n ≤ 4 → 1 ≤ n → setK (2 ^ n - 1 - 1 + 1) n = List.range n := by decide +kernel
theorem pick_all {m : List (List Int)} (hI : IsC m) : pick m (intL (List.range m.length)) = m := by
  unfold pick
  rw [intL_len, List.length_range]
  apply List.ext_getElem
  · rw [fullF_len]
  · intro i h1 h2
    have hrow := hI.1 i h2
    have e : (fullF (ptsF m (intL (List.range m.length))) m.length)[i] = rowF (ptsF m (intL (List.range m.length))) m.length i := by simp [fullF]
    rw [e]
    have hg := getD_row m i h2
    apply List.ext_getElem
    · rw [rowF_len, ← hg, hrow]
    · intro j h3 h4
      have hj : j < m.length := by rw [rowF_len] at h3; exact h3
      have e2 : (rowF (ptsF m (intL (List.range m.length))) m.length i)[j] = ptsF m (intL (List.range m.length)) i j := by simp [rowF]
      rw [e2]
      unfold ptsF
      rw [intL_get _ _ (by rw [List.length_range]; exact h2), intL_get _ _ (by rw [List.length_range]; exact hj)]
      have ri : (List.range m.length).getD i 0 = i := by simp [List.getD, h2]
      have rj : (List.range m.length).getD j 0 = j := by simp [List.getD, hj]
      rw [ri, rj]
      show entry m i j = _
      unfold entry
      rw [hg]
      simp [List.getD, h4]
theorem minP_last {m : List (List Int)} (hI : IsC m) : minP m (2 ^ m.length - 1 - 1) = detF m.length m := by
  unfold minP
  rw [setK_all m.length hI.2.2.2 hI.2.2.1, pick_all hI, List.length_range]
/-- Connected, determinant 0, and the witness is the set of all points. -/
theorem affB_wit {m : List (List Int)} (hI : IsC m) (c : Bool) : affB c (minV m) = (c && ((detV m == 0) && decide ((witV m).length = m.length))) := by
  have hn1 := hI.2.2.1
  have hn4 := hI.2.2.2
  have hN : 1 ≤ 2 ^ m.length - 1 := by
    rcases (show m.length = 1 ∨ m.length = 2 ∨ m.length = 3 ∨ m.length = 4 by omega) with e | e | e | e <;> rw [e] <;> decide
  have hget : ∀ t, t < 2 ^ m.length - 1 → (minV m).getD t 0 = minP m t := fun t ht => by rw [minV_yes hI, minK_get _ _ _ ht]
  have hlen : (minV m).length = 2 ^ m.length - 1 := by rw [minV_yes hI, minK_len]
  have hlast : (minV m).getD ((minV m).length - 1) 0 = detV m := by rw [hlen, hget _ (by omega), minP_last hI, detV_yes hI]
  have hw0 : ∀ t, t < 2 ^ m.length - 1 → (setK (t + 1) m.length).length = m.length → t = 2 ^ m.length - 1 - 1 := by
    have key : ∀ n, n ≤ 4 → 1 ≤ n → ∀ t, t < 2 ^ n - 1 → (setK (t + 1) n).length = n → t = 2 ^ n - 1 - 1 := by decide +kernel
    exact key m.length hn4 hn1
  by_cases hA : affC c (minV m)
  · rw [affB_yes hA]
    obtain ⟨h1, h2, h3⟩ := hA
    rw [hlast] at h2
    have hnone : ∀ k, k ≤ 2 ^ m.length - 1 - 1 → witT m k = none := by
      intro k
      induction k with
      | zero => intro _; rfl
      | succ k ih =>
        intro hk
        refine witT_step_no (ih (by omega)) ?_
        have := h3 k (by rw [hlen]; omega)
        rw [hget k (by omega)] at this
        omega
    have hhit : witT m (2 ^ m.length - 1) = some (2 ^ m.length - 1 - 1) := witT_hit (hnone _ (Nat.le_refl _)) (by rw [minP_last hI, ← detV_yes hI, h2]; decide) _ (by omega)
    have hwl : (witV m).length = m.length := by rw [witV_hit hI hhit, intL_len, setK_all m.length hn4 hn1, List.length_range]
    rw [h1, h2, hwl]; simp
  · rw [affB_no hA]
    symm
    rw [Bool.eq_false_iff]
    intro hc
    rw [Bool.and_eq_true, Bool.and_eq_true, decide_eq_true_eq, beq_iff_eq] at hc
    obtain ⟨h1, h2, h3⟩ := hc
    refine hA ⟨h1, by rw [hlast]; exact h2, fun i hi => ?_⟩
    rw [hlen] at hi
    rw [hget i (by omega)]
    cases ht : witT m (2 ^ m.length - 1) with
    | none =>
      rw [witV_none hI ht] at h3
      simp at h3
      omega
    | some t =>
      rw [witV_hit hI ht, intL_len] at h3
      have ht2 : t < 2 ^ m.length - 1 := by
        have := List.mem_of_find?_eq_some ht
        exact List.mem_range.1 this
      have hte := hw0 t ht2 h3
      have hfind := ht
      unfold witT at hfind
      rw [List.find?_range_eq_some] at hfind
      have := hfind.2.2 i (by omega)
      simpa using this

end Go.Proofs.YtcmnkhblnlmfpaaGreatDoor
