/-
  All sets of points in the order of binary numbers, principal minors and the first set whose minor is not positive (no walk here).
  The model's sets by masks, principal minors and witness: what the calls return.
-/
import Derived.Test.YtlbgblkoddlhnaaRa20
import Derived.Test.YtlbgblkoddlhnaaRa21
import Derived.Test.YtlbgblkoddlhnaaRa23
namespace Go.Proofs.Ytlbgblkoddlhnaa
open Go.RowKit

theorem fullM_get (f : Nat → Nat → Int) (n i : Nat) (h : i < n) : (fullF f n).getD i [] = rowF f n i := by simp [fullF, List.getD, h]
theorem fullM_entry (f : Nat → Nat → Int) (n i j : Nat) (hi : i < n) (hj : j < n) : entry (fullF f n) i j = f i j := by
  unfold entry
  rw [fullM_get f n i hi]
  simp [rowF, List.getD, hj]
/-! ### Sets by masks -/
def setK (mask k : Nat) : List Nat := (List.range k).filter fun i => mask.testBit i
def setsL (n k : Nat) : List (List Nat) := (List.range k).map fun t => setK (t + 1) n
theorem setK_yes {mask k : Nat} (h : mask.testBit k = true) : setK mask k ++ [k] = setK mask (k + 1) := by
  unfold setK
  rw [List.range_succ, List.filter_append, List.filter_cons_of_pos h]; rfl
theorem setK_no {mask k : Nat} (h : mask.testBit k = false) : setK mask k = setK mask (k + 1) := by
  unfold setK
  rw [List.range_succ, List.filter_append, List.filter_cons_of_neg (by rw [h]; simp)]; simp
theorem setK_len (mask k : Nat) : (setK mask k).length ≤ k := by
  unfold setK
  exact Nat.le_trans (List.length_filter_le _ _) (by rw [List.length_range]; exact Nat.le_refl _)
theorem setsL_len (n k : Nat) : (setsL n k).length = k := by simp [setsL]
theorem setsL_step (n k : Nat) : setsL n k ++ [setK (k + 1) n] = setsL n (k + 1) := by
  unfold setsL
  rw [List.range_succ, List.map_append]; rfl
theorem setsL_get (n k t : Nat) (h : t < k) : (setsL n k).getD t [] = setK (t + 1) n := by simp [setsL, List.getD, h]
def SetsOk (n : Nat) : Prop := ∀ t, t < 2 ^ n - 1 → (setK (t + 1) n).length ≠ 0 ∧ ∀ k, k < (setK (t + 1) n).length → (setK (t + 1) n).getD k 0 < n ∧ (0 < k → (setK (t + 1) n).getD (k - 1) 0 < (setK (t + 1) n).getD k 0)
instance (n : Nat) : Decidable (SetsOk n) := by unfold SetsOk; infer_instance
theorem sets_ok (n : Nat) (h : n ≤ 4) : SetsOk n := by
  rcases (show n = 0 ∨ n = 1 ∨ n = 2 ∨ n = 3 ∨ n = 4 by omega) with rfl | rfl | rfl | rfl | rfl <;> decide +kernel
theorem set_is {n : Nat} (h : n ≤ 4) {t : Nat} (ht : t < 2 ^ n - 1) : IsSet n (intL (setK (t + 1) n)) ∧ intL (setK (t + 1) n) ≠ [] := by
  obtain ⟨h0, h1⟩ := sets_ok n h t ht
  refine ⟨fun k hk => ?_, fun e => h0 (by have := congrArg List.length e; rw [intL_len] at this; exact this)⟩
  rw [intL_len] at hk
  obtain ⟨h2, h3⟩ := h1 k hk
  refine ⟨by rw [intL_get _ _ hk]; omega, fun ⟨h4, h5⟩ => ?_⟩
  rw [intL_get _ _ hk, intL_get _ _ (by omega)] at h5
  have := h3 h4
  omega
theorem set_sub {m : List (List Int)} (hI : IsC m) {t : Nat} (ht : t < 2 ^ m.length - 1) : SubOk m (intL (setK (t + 1) m.length)) :=
  ⟨hI, (set_is hI.2.2.2 ht).2, (set_is hI.2.2.2 ht).1⟩

/-! ### Minors -/
theorem pick_len (m : List (List Int)) (l : List Int) : (pick m l).length = l.length := fullF_len _ _
theorem pick_rows (m : List (List Int)) (l : List Int) : Rows0 (pick m l) l.length l.length := fun i hi => by
  unfold pick
  rw [fullM_get _ _ _ hi, rowF_len]
theorem pick_bd {m : List (List Int)} (hb : Bd m) (l : List Int) : Bd (pick m l) := fun i j => by
  unfold pick
  by_cases hi : i < l.length
  · by_cases hj : j < l.length
    · rw [fullM_entry _ _ _ _ hi hj]; exact hb _ _
    · have : entry (fullF (ptsF m l) l.length) i j = 0 := by
        unfold entry
        rw [fullM_get _ _ _ hi, List.getD_eq_getElem?_getD, List.getElem?_eq_none (by rw [rowF_len]; omega)]; rfl
      rw [this]; decide
  · have : entry (fullF (ptsF m l) l.length) i j = 0 := by
      unfold entry
      have e : (fullF (ptsF m l) l.length).getD i [] = [] := by rw [List.getD_eq_getElem?_getD, List.getElem?_eq_none (by rw [fullF_len]; omega)]; rfl
      rw [e]; simp
    rw [this]; decide
/-- The minor of the set with number t + 1. -/
def minP (m : List (List Int)) (t : Nat) : Int := detF (setK (t + 1) m.length).length (pick m (intL (setK (t + 1) m.length)))
def minK (m : List (List Int)) (k : Nat) : List Int := (List.range k).map (minP m)
theorem minK_step (m : List (List Int)) (k : Nat) : minK m k ++ [minP m k] = minK m (k + 1) := by
  unfold minK
  rw [List.range_succ, List.map_append]; rfl
theorem minK_len (m : List (List Int)) (k : Nat) : (minK m k).length = k := by simp [minK]
open Classical in
noncomputable def minV (m : List (List Int)) : List Int := if IsC m then minK m (2 ^ m.length - 1) else []
theorem minV_yes {m : List (List Int)} (h : IsC m) : minV m = minK m (2 ^ m.length - 1) := if_pos h
theorem minV_no {m : List (List Int)} (h : ¬ IsC m) : minV m = [] := if_neg h
theorem two_pow_le (n : Nat) (h : n ≤ 4) : 2 ^ n - 1 ≤ 15 := by
  rcases (show n = 0 ∨ n = 1 ∨ n = 2 ∨ n = 3 ∨ n = 4 by omega) with rfl | rfl | rfl | rfl | rfl <;> decide
theorem minV_len (m : List (List Int)) : (minV m).length ≤ 15 := by
  by_cases h : IsC m
  · rw [minV_yes h, minK_len]; exact two_pow_le _ h.2.2.2
  · rw [minV_no h]; simp
open Classical in
noncomputable def detV (m : List (List Int)) : Int := if IsC m then detF m.length m else 0
theorem detV_yes {m : List (List Int)} (h : IsC m) : detV m = detF m.length m := if_pos h
theorem detV_no {m : List (List Int)} (h : ¬ IsC m) : detV m = 0 := if_neg h

/-! ### The witness -/
/-- The first t below k whose minor is not positive, if there is one. -/
def witT (m : List (List Int)) (k : Nat) : Option Nat := (List.range k).find? fun t => decide (minP m t ≤ 0)
theorem witT_step_no {m : List (List Int)} {k : Nat} (h : witT m k = none) (hk : ¬ minP m k ≤ 0) : witT m (k + 1) = none := by
  unfold witT at h ⊢
  rw [List.range_succ, List.find?_append, h]
  simp [hk]
theorem witT_hit {m : List (List Int)} {k : Nat} (h : witT m k = none) (hk : minP m k ≤ 0) (N : Nat) (hN : k < N) : witT m N = some k := by
  have h1 : witT m (k + 1) = some k := by
    unfold witT at h ⊢
    rw [List.range_succ, List.find?_append, h]
    simp [hk]
  have e : List.range N = List.range (k + 1) ++ (List.range N).drop (k + 1) := by
    have h2 : (List.range N).take (k + 1) = List.range (k + 1) := by rw [List.take_range]; congr 1; omega
    rw [← h2, List.take_append_drop]
  unfold witT at h1 ⊢
  rw [e, List.find?_append, h1]; rfl
open Classical in
noncomputable def witV (m : List (List Int)) : List Int := if IsC m then (match witT m (2 ^ m.length - 1) with | none => [] | some t => intL (setK (t + 1) m.length)) else []
theorem witV_hit {m : List (List Int)} (h : IsC m) {t : Nat} (ht : witT m (2 ^ m.length - 1) = some t) : witV m = intL (setK (t + 1) m.length) := by unfold witV; rw [if_pos h, ht]
theorem witV_none {m : List (List Int)} (h : IsC m) (ht : witT m (2 ^ m.length - 1) = none) : witV m = [] := by unfold witV; rw [if_pos h, ht]
theorem witV_no {m : List (List Int)} (h : ¬ IsC m) : witV m = [] := if_neg h
theorem witV_len (m : List (List Int)) : (witV m).length ≤ 4 := by
  by_cases h : IsC m
  · cases ht : witT m (2 ^ m.length - 1) with
    | none => rw [witV_none h ht]; simp
    | some t =>
      rw [witV_hit h ht, intL_len]
      exact Nat.le_trans (setK_len _ _) h.2.2.2
  · rw [witV_no h]; simp
end Go.Proofs.Ytlbgblkoddlhnaa
namespace Go.Proofs.Ytlbgblkoddlhnaa
open Go.RowKit

theorem MatI.rowI4 {A B : Nat} {w : World} {a : Option Addr} {n cap : Nat} {m : List (List Int)} (h : MatI A B w (.slice a n cap) m) {j : Nat} (hj : j < m.length) :
    ∃ b hv, a = some ⟨b, 0, none⟩ ∧ w.cell? ⟨b, j, none⟩ = some hv ∧ RowI A B w hv (m.getD j []) := by
  obtain ⟨hs, h1, h2, h3, _⟩ := h
  obtain ⟨hv, h4, h5⟩ := h3 j hj
  rcases h1.2 with ⟨_, he⟩ | ⟨g, cap', cur, hval, _⟩
  · omega
  · have ha : a = some ⟨g, 0, none⟩ := by injection hval
    have hn : n = m.length := by injection hval
    subst ha
    subst hn
    exact ⟨g, hv, rfl, by rw [h1.cellAt j (by omega)]; exact h4, by rw [getD_row m j hj]; exact h5⟩

theorem sameIn_grown4 {A B : Nat} {w w' : World} {S : Option Nat} (hg : w.grownBy w' S) (hB : B ≤ w.heap.size) (hS : ∀ g, S = some g → g < A ∨ B ≤ g) : SameIn A B w w' := fun k h1 h2 =>
  hg.block k (by omega) (fun e => by have := hS k e.symm; omega)
theorem bit_test : ∀ t : Nat, t < 16 → ∀ c : Nat, c < 4 → ((bits BinOp.and IntKind.i64 ((t : Int) / 2 ^ c) 1) == 1) = t.testBit c := by decide +kernel
theorem sets_pred (n t : Nat) (h : 1 ≤ t) : (setsL n (t - 1)).map intL ++ [intL (setK t n)] = (setsL n t).map intL := by
  obtain ⟨k, rfl⟩ : ∃ k, t = k + 1 := ⟨t - 1, by omega⟩
  rw [← setsL_step n k, List.map_append]; rfl
def tabS (n : Nat) : List (List Int) := (setsL n (2 ^ n - 1)).map intL
set_option maxHeartbeats 4000000 in
set_option maxRecDepth 100000 in
theorem sets4_any (n N : Nat) (w : World) (h1 : 1 ≤ n) (hn : n ≤ 4) (hN : N = 2 ^ n) :
    Calls Try.prog 91 #[.int .i64 n] w (MakesM w ((setsL n (N - 1)).map intL)) := by
  have hN16 : N ≤ 16 ∧ 2 ≤ N := by
    subst hN
    rcases (show n = 1 ∨ n = 2 ∨ n = 3 ∨ n = 4 by omega) with rfl | rfl | rfl | rfl <;> first | decide | decide +kernel
  have hpw : wrap64 (2 ^ n) = (N : Int) := by
    subst hN
    rcases (show n = 1 ∨ n = 2 ∨ n = 3 ∨ n = 4 by omega) with rfl | rfl | rfl | rfl <;> first | decide | decide +kernel
  have HN := Lib.hid hN; clear hN
  have HPR := Lib.hid (sets_pred n)
  obtain ⟨hN1, hN2⟩ := hN16
  go_enter Try.func91, Try.ntmps91
  go_wp2_with fail
  go_loopw [3, 4] (fun o i wr => ∃ (t : Nat) (wq : World), wq = wr ∧ 1 ≤ t ∧ t ≤ N ∧ i = .int .i64 (t : Int) ∧ MatI w.heap.size wq.heap.size wq o ((setsL n (t - 1)).map intL) ∧ Below w.heap.size w wq) (fun _ i _ => N - (intOf i).toNat)
  case atStart => exact ⟨1, _, rfl, Nat.le_refl _, by omega, rfl, mat_empty w, (Below.refl _ _).alloc (Nat.le_refl _) _⟩
  case round =>
    obtain ⟨t, wq, rfl, ht1, ht, rfl, hM, hb⟩ := hrel
    have HM := Lib.hid hM; clear hM
    have HB := Lib.hid hb
    have hsq := hb.size
    clear hb
    by_cases hlt : t < N
    · have hlt' : decide (t < N) = true := decide_eq_true hlt
      go_wp2_with fail
      rw [hpw]
      go_loopw [5, 6] (fun r j wr => ∃ (c : Nat) (wi : World), wi = wr ∧ c ≤ n ∧ j = .int .i64 c ∧ RowI wq.heap.size wi.heap.size wi r (intL (setK t c)) ∧ Below wq.heap.size wq wi) (fun _ j _ => n - (intOf j).toNat)
      case atStart => exact ⟨0, _, rfl, Nat.zero_le _, rfl, row_empty wq, (Below.refl _ _).alloc (Nat.le_refl _) _⟩
      case round =>
        obtain ⟨c, wi, rfl, hc, rfl, hR, hbi⟩ := hrel
        have HRI := Lib.hid hR
        have HBI := Lib.hid hbi
        have hsz := hbi.size
        clear hbi
        by_cases hcn : c < n
        · clear hR
          have hcn' : decide (c < n) = true := decide_eq_true hcn
          have hbt := bit_test t (by omega) c (by omega)
          by_cases hbit : t.testBit c = true
          · have HST := Lib.hid (setK_yes hbit)
            rw [hbit] at hbt
            clear hbit
            have hrl : (intL (setK t c)).length ≤ 4194304 := by rw [intL_len]; have := setK_len t c; omega
            have HRL := Lib.hid hrl; clear hrl
            go_wp2_with (at_builtin; go_must (refine append_int HRI.out hsz (c : Int) rfl rfl rfl rfl HRL.out ?_; intro v' w3 hr3 hb3 hz3))
            rw [intL_snoc, HST.out] at hr3
            have HR3 := Lib.hid hr3
            have HB3 := Lib.hid (hb3 wq wq.heap.size (Nat.le_refl _) HBI.out)
            clear hr3 hb3 hz3
            exact ⟨⟨c + 1, _, rfl, by omega, by go_num, HR3.out, HB3.out⟩, by simp [intOf]; omega⟩
          · have hbit' : t.testBit c = false := by simpa using hbit
            have HST := Lib.hid (setK_no hbit')
            rw [hbit'] at hbt
            clear hbit hbit'
            go_wp2_with fail
            exact ⟨⟨c + 1, _, rfl, by omega, by go_num, by rw [← HST.out]; exact HRI.out, HBI.out⟩, by simp [intOf]; omega⟩
        · obtain rfl : c = n := by omega
          have hcn' : decide (c < c) = false := by simp
          have hM3 : MatI w.heap.size wq.heap.size wi _ _ := HM.out.same (SameIn.of_below HBI.out (Nat.le_refl _))
          obtain ⟨ra, rcap, rfl⟩ := hR.slice
          have HM3 := Lib.hid hM3
          have hml : ((setsL c (t - 1)).map intL).length ≤ 1048576 := by rw [List.length_map, setsL_len]; omega
          have HML := Lib.hid hml
          clear hM3 hR hml
          go_wp2_with (at_builtin; go_must (refine append_row HM3.out HRI.out hsq hsz rfl rfl rfl rfl HML.out ?_; intro v' w3 hm3 hb3 hz3))
          rw [HPR.out t ht1] at hm3
          have HM4 := Lib.hid hm3
          have HB4 := Lib.hid (hb3 w w.heap.size (Nat.le_refl _) (HB.out.trans (HBI.out.mono hsq)))
          clear hm3 hb3 hz3
          exact ⟨⟨t + 1, _, rfl, by omega, by omega, by go_num, HM4.out, HB4.out⟩, by simp [intOf]; omega⟩
    · obtain rfl : t = N := by omega
      have hlt' : decide (t < t) = false := by simp
      go_wp2_with fail
      go_ret
      exact ⟨_, rfl, ⟨HM.out, Nat.le_refl _⟩, HB.out⟩

/-! ### append(row, x) where the row may be empty -/
set_option maxRecDepth 100000 in
theorem append_intL {ops : Array Oper} {rest : List Oper} {o : Oper} {a : Act} {Q : Exit → Act → World → Prop} {s x : Operand} {A q : Nat} {v : Value} {l : List Int} {wr : World}
    (hM : RowI A wr.heap.size wr v l) (hA : A ≤ wr.heap.size) (hq : q = wr.heap.size) (n : Int) (hgd : o.guard = none)
    (ho : o.op = .call { callee := .builtin .append, args := #[s, x], argTypes := #[23, 23] }) (hs : a.eval s = v)
    (hx : a.eval x = .slice (some ⟨q, 0, none⟩) 1 1) (hlen : l.length ≤ 4194304)
    (h : ∀ v' w', RowI A w'.heap.size w' v' (l ++ [n]) → wr.grownBy w' v.ownBlock → (∀ g, v'.ownBlock = some g → v.ownBlock = some g ∨ wr.heap.size ≤ g) → wpList Try.prog ops Q rest (a.put o.dst v') w') :
    wpList Try.prog ops Q (o :: rest) a (wr.alloc (.cells #[.int .i64 n] 3)) := by
  subst hq
  obtain ⟨h1, h2⟩ := hM
  obtain ⟨i0, hi, hz0, hz1, hz2⟩ := info_parts Try.infoInt
  have h1a := h1.alloc (.cells #[.int .i64 n] 3)
  have hnew : ∀ j u, [Value.int .i64 n][j]? = some u → (wr.alloc (.cells #[.int .i64 n] 3)).cell? ((⟨wr.heap.size, 0, none⟩ : Addr).add j) = some u := by
    intro j u hu
    match j, hu with
    | 0, hu =>
      simp at hu
      subst hu
      rw [Addr.add_lit, cell_of_row _ wr.heap.size 0 _ _ _ (MapKept.heap_alloc wr _).1]
      rfl
    | j + 1, hu => simp at hu
  have hone : ∀ u ∈ [Value.int .i64 n], u.oneCell' = true := by
    intro u hu
    simp at hu
    subst hu
    rfl
  have hlv : (intsV l).length = l.length := intsV_len l
  obtain ⟨v', w', hr, h3, h4, _⟩ := run_append_own (P := Try.prog) (wr.alloc (.cells #[.int .i64 n] 3)) A 23 o.type 3 i0 (.int .i64 0) 1 8 Try.underlying23 hi hz0 hz1 hz2 rfl (by omega) v l.length (intsV l) h1a ⟨wr.heap.size, 0, none⟩ 1 1 [.int .i64 n] rfl hnew hone (by unfold maxLen; omega) (by omega) (by simp; omega)
  have hloc : ∀ g, v'.ownBlock = some g → v.ownBlock = some g ∨ wr.heap.size ≤ g := by
    rcases h1.2 with ⟨rfl, he⟩ | ⟨g, cap, cur, rfl, hAg, hg, hn, hc, hsz, ht⟩
    · have hr2 := run_append_nil (P := Try.prog) (wr.alloc (.cells #[.int .i64 n] 3)) 23 o.type 3 i0 (.int .i64 0) Try.underlying23 hi hz0 ⟨wr.heap.size, 0, none⟩ 1 1 [.int .i64 n] (by rw [hz1]; rfl) hnew (by omega) (by omega) (by rw [hz2]; omega)
      rw [hr] at hr2
      injection hr2 with e1 e2
      subst e1
      intro g' hg'
      right
      have : (wr.alloc (.cells #[.int .i64 n] 3)).heap.size = g' := by simpa [Value.ownBlock] using hg'
      simp at this
      omega
    · have hga : (wr.alloc (.cells #[.int .i64 n] 3)).heap[g]? = some (.cells cur 3 (0, 0)) := by
        rw [(MapKept.heap_alloc wr _).2 g (Array.getElem?_eq_some_iff.1 hg).1]; exact hg
      by_cases hroom : l.length + 1 ≤ cap
      · have hr2 := run_append_room (P := Try.prog) (wr.alloc (.cells #[.int .i64 n] 3)) 23 o.type 3 i0 Try.underlying23 hi g l.length cap cur hga ⟨wr.heap.size, 0, none⟩ 1 1 [.int .i64 n] (by rw [hz1]; rfl) hnew hone hroom (by rw [hz1]; simp; omega)
        rw [hr] at hr2
        injection hr2 with e1 e2
        subst e1
        intro g' hg'
        exact Or.inl hg'
      · have hr2 := run_append_grow (P := Try.prog) (wr.alloc (.cells #[.int .i64 n] 3)) 23 o.type 3 i0 (.int .i64 0) Try.underlying23 hi hz0 ⟨g, 0, none⟩ l.length cap (intsV l) (by rw [hz1, hlv]; omega) (h1a.cells (g := g) rfl) ⟨wr.heap.size, 0, none⟩ 1 1 [.int .i64 n] (by rw [hz1]; rfl) hnew (by omega) (by omega) (growslice_fits (by omega) (by rw [hz2]; omega))
        rw [hr] at hr2
        injection hr2 with e1 e2
        subst e1
        intro g' hg'
        right
        have : (wr.alloc (.cells #[.int .i64 n] 3)).heap.size = g' := by simpa [Value.ownBlock] using hg'
        simp at this
        omega
  refine Lib.wpList_append_run _ hgd s x 23 23 ho _ _ hs hx v' w' hr ?_
  refine h v' w' ⟨?_, fun g hgg => (h3.lt g hgg).2⟩ ⟨h4.os, h4.tape, h4.output, by have := h4.size; simp at this; omega, fun k hk hn => ?_⟩ hloc
  · have e : intsV l ++ [.int .i64 n] = intsV (l ++ [n]) := by simp [intsV]
    rw [e] at h3
    rw [List.length_append]
    exact h3
  · rw [h4.block k (by simp; omega) hn]
    exact (MapKept.heap_alloc wr _).2 k hk

/-! ### Minors -/
/-- One set of the table: the matrix of its points and its minor. -/
theorem minor_ok {m : List (List Int)} (hI : IsC m) {t : Nat} (ht : t < 2 ^ m.length - 1) :
    subM m (intL (setK (t + 1) m.length)) = pick m (intL (setK (t + 1) m.length)) ∧ subB m (intL (setK (t + 1) m.length)) = true ∧ (setK (t + 1) m.length).length ≤ 4 ∧
      (pick m (intL (setK (t + 1) m.length))).length = (setK (t + 1) m.length).length ∧ Rows0 (pick m (intL (setK (t + 1) m.length))) (setK (t + 1) m.length).length (setK (t + 1) m.length).length ∧ Bd (pick m (intL (setK (t + 1) m.length))) := by
  have hs := set_sub hI ht
  have h4 := hI.2.2.2
  have hr := pick_rows m (intL (setK (t + 1) m.length))
  rw [intL_len] at hr
  exact ⟨subM_yes hs, subB_yes hs, Nat.le_trans (setK_len _ _) h4, by rw [pick_len, intL_len], hr, pick_bd (isC_bd hI) _⟩

end Go.Proofs.Ytlbgblkoddlhnaa
