/-
  Determinants do not change when the points are taken in another order (no walk here).
  The model's sets by masks, principal minors and witness: what the calls return.
-/
import Derived.Test.YtppimgkampkfjaaGreatDoorFcg10
import Derived.Test.YtppimgkampkfjaaGreatDoorFcg12
namespace Go.Proofs.YtppimgkampkfjaaGreatDoor
open Go.RowKit

/-! ### Determinants of up to four points as polynomials -/
def P2 (a b c d : Int) : Int := a * d - b * c
def P3 (a b c d e f g h i : Int) : Int := a * (e * i - f * h) - b * (d * i - f * g) + c * (d * h - e * g)
def P4 (f : Nat → Nat → Int) : Int :=
  f 0 0 * P3 (f 1 1) (f 1 2) (f 1 3) (f 2 1) (f 2 2) (f 2 3) (f 3 1) (f 3 2) (f 3 3) - f 0 1 * P3 (f 1 0) (f 1 2) (f 1 3) (f 2 0) (f 2 2) (f 2 3) (f 3 0) (f 3 2) (f 3 3)
    + f 0 2 * P3 (f 1 0) (f 1 1) (f 1 3) (f 2 0) (f 2 1) (f 2 3) (f 3 0) (f 3 1) (f 3 3) - f 0 3 * P3 (f 1 0) (f 1 1) (f 1 2) (f 2 0) (f 2 1) (f 2 2) (f 3 0) (f 3 1) (f 3 2)
def PF (n : Nat) (f : Nat → Nat → Int) : Int := match n with
  | 0 => 1
  | 1 => f 0 0
  | 2 => P2 (f 0 0) (f 0 1) (f 1 0) (f 1 1)
  | 3 => P3 (f 0 0) (f 0 1) (f 0 2) (f 1 0) (f 1 1) (f 1 2) (f 2 0) (f 2 1) (f 2 2)
  | _ => P4 f
theorem det_full1 (f : Nat → Nat → Int) : detF 1 (fullF f 1) = PF 1 f := by
  simp [detF, sgn, wdM, wdR, keepC, entry, List.range_succ, List.getD, fullF, rowF, PF]
theorem det_full2 (f : Nat → Nat → Int) : detF 2 (fullF f 2) = PF 2 f := by
  simp [detF, sgn, wdM, wdR, keepC, entry, List.range_succ, List.getD, fullF, rowF, PF, P2]
  grind
theorem det_full3 (f : Nat → Nat → Int) : detF 3 (fullF f 3) = PF 3 f := by
  simp [detF, sgn, wdM, wdR, keepC, entry, List.range_succ, List.getD, fullF, rowF, PF, P3]
  grind
set_option maxHeartbeats 1000000 in
theorem det_full4 (f : Nat → Nat → Int) : detF 4 (fullF f 4) = PF 4 f := by
  simp [detF, sgn, wdM, wdR, keepC, entry, List.range_succ, List.getD, fullF, rowF, PF, P4, P3]
  grind
theorem det_full (n : Nat) (h : n ≤ 4) (f : Nat → Nat → Int) : detF n (fullF f n) = PF n f := by
  rcases (show n = 0 ∨ n = 1 ∨ n = 2 ∨ n = 3 ∨ n = 4 by omega) with rfl | rfl | rfl | rfl | rfl
  · rfl
  · exact det_full1 f
  · exact det_full2 f
  · exact det_full3 f
  · exact det_full4 f
/-! ### Another order -/
def perF (f : Nat → Nat → Int) (q : List Nat) (i j : Nat) : Int := f (q.getD i 0) (q.getD j 0)
theorem ords1 : ords 1 = [[0]] := by decide +kernel
theorem ords2 : ords 2 = [[0, 1], [1, 0]] := by decide +kernel
theorem ords3 : ords 3 = [[0, 1, 2], [0, 2, 1], [1, 0, 2], [1, 2, 0], [2, 0, 1], [2, 1, 0]] := by decide +kernel
theorem ords4 : ords 4 = [[0, 1, 2, 3], [0, 1, 3, 2], [0, 2, 1, 3], [0, 2, 3, 1], [0, 3, 1, 2], [0, 3, 2, 1], [1, 0, 2, 3], [1, 0, 3, 2], [1, 2, 0, 3], [1, 2, 3, 0], [1, 3, 0, 2], [1, 3, 2, 0],
  [2, 0, 1, 3], [2, 0, 3, 1], [2, 1, 0, 3], [2, 1, 3, 0], [2, 3, 0, 1], [2, 3, 1, 0], [3, 0, 1, 2], [3, 0, 2, 1], [3, 1, 0, 2], [3, 1, 2, 0], [3, 2, 0, 1], [3, 2, 1, 0]] := by decide +kernel
theorem per2 (f : Nat → Nat → Int) : ∀ q ∈ ords 2, PF 2 (perF f q) = PF 2 f := by
  rw [ords2]
  simp only [List.forall_mem_cons, List.forall_mem_nil, and_true]
  refine ⟨?_, ?_⟩ <;> simp [PF, P2, perF, List.getD] <;> grind
theorem per3 (f : Nat → Nat → Int) : ∀ q ∈ ords 3, PF 3 (perF f q) = PF 3 f := by
  rw [ords3]
  simp only [List.forall_mem_cons, List.forall_mem_nil, and_true]
  refine ⟨?_, ?_, ?_, ?_, ?_, ?_⟩ <;> simp [PF, P3, perF, List.getD] <;> grind
set_option maxHeartbeats 4000000 in
theorem per4 (f : Nat → Nat → Int) : ∀ q ∈ ords 4, PF 4 (perF f q) = PF 4 f := by
  rw [ords4]
  simp only [List.forall_mem_cons, List.forall_mem_nil, and_true]
  refine ⟨?_, ?_, ?_, ?_, ?_, ?_, ?_, ?_, ?_, ?_, ?_, ?_, ?_, ?_, ?_, ?_, ?_, ?_, ?_, ?_, ?_, ?_, ?_, ?_⟩ <;> simp [PF, P4, P3, perF, List.getD] <;> grind
theorem per_all (n : Nat) (h : n ≤ 4) (f : Nat → Nat → Int) (q : List Nat) (hq : q ∈ ords n) : PF n (perF f q) = PF n f := by
  rcases (show n = 0 ∨ n = 1 ∨ n = 2 ∨ n = 3 ∨ n = 4 by omega) with rfl | rfl | rfl | rfl | rfl
  · rfl
  · rw [ords1] at hq
    obtain rfl := List.mem_singleton.1 hq
    rfl
  · exact per2 f q hq
  · exact per3 f q hq
  · exact per4 f q hq
end Go.Proofs.YtppimgkampkfjaaGreatDoor
namespace Go.Proofs.YtppimgkampkfjaaGreatDoor
open Go.RowKit

theorem MatI.rowI4 {A B : Nat} {w : World} {a : Option Addr} {n cap : Nat} {m : List (List Int)} (h : MatI A B w (.slice a n cap) m) {j : Nat} (hj : j < m.length) :
    ∃ b hv, a = some ⟨b, 0, none⟩ ∧ w.cell? ⟨b, j, none⟩ = some hv ∧ RowI A B w hv (m.getD j []) := by
  obtain ⟨hs, h1, h2, h3, _⟩ := h
  obtain ⟨hv, h4, h5⟩ := h3 j hj
  rcases h1.2 with ⟨_, he⟩ | ⟨g, cap', cur, hval, _⟩
  · omega
  · have ha : a = some ⟨g, 0, none⟩ := by injection hval
    have hn : n = m.length := by injection hval
    subst ha
    subst hn
    exact ⟨g, hv, rfl, by rw [h1.cellAt j (by omega)]; exact h4, by rw [getD_row m j hj]; exact h5⟩

theorem sameIn_grown4 {A B : Nat} {w w' : World} {S : Option Nat} (hg : w.grownBy w' S) (hB : B ≤ w.heap.size) (hS : ∀ g, S = some g → g < A ∨ B ≤ g) : SameIn A B w w' := fun k h1 h2 =>
  hg.block k (by omega) (fun e => by have := hS k e.symm; omega)
theorem bit_test : ∀ t : Nat, t < 16 → ∀ c : Nat, c < 4 → ((bits BinOp.and IntKind.i64 ((t : Int) / 2 ^ c) 1) == 1) = t.testBit c := by decide +kernel
theorem sets_pred (n t : Nat) (h : 1 ≤ t) : (setsL n (t - 1)).map intL ++ [intL (setK t n)] = (setsL n t).map intL := by
  obtain ⟨k, rfl⟩ : ∃ k, t = k + 1 := ⟨t - 1, by omega⟩
  rw [← setsL_step n k, List.map_append]; rfl
def tabS (n : Nat) : List (List Int) := (setsL n (2 ^ n - 1)).map intL
set_option maxHeartbeats 4000000 in
set_option maxRecDepth 100000 in
theorem sets4_any (n N : Nat) (w : World) (h1 : 1 ≤ n) (hn : n ≤ 4) (hN : N = 2 ^ n) :
    Calls Tryz.prog 111 #[.int .i64 n] w (MakesM w ((setsL n (N - 1)).map intL)) := by
  have hN16 : N ≤ 16 ∧ 2 ≤ N := by
    subst hN
    rcases (show n = 1 ∨ n = 2 ∨ n = 3 ∨ n = 4 by omega) with rfl | rfl | rfl | rfl <;> first | decide | decide +kernel
  have hpw : wrap64 (2 ^ n) = (N : Int) := by
    subst hN
    rcases (show n = 1 ∨ n = 2 ∨ n = 3 ∨ n = 4 by omega) with rfl | rfl | rfl | rfl <;> first | decide | decide +kernel
  have HN := Lib.hid hN; clear hN
  have HPR := Lib.hid (sets_pred n)
  obtain ⟨hN1, hN2⟩ := hN16
  go_enter Tryz.func111, Tryz.ntmps111
  go_wp2_with fail
  go_loopw [3, 4] (fun o i wr => ∃ (t : Nat) (wq : World), wq = wr ∧ 1 ≤ t ∧ t ≤ N ∧ i = .int .i64 (t : Int) ∧ MatI w.heap.size wq.heap.size wq o ((setsL n (t - 1)).map intL) ∧ Below w.heap.size w wq) (fun _ i _ => N - (intOf i).toNat)
  case atStart => exact ⟨1, _, rfl, Nat.le_refl _, by omega, rfl, mat_empty w, (Below.refl _ _).alloc (Nat.le_refl _) _⟩
  case round =>
    obtain ⟨t, wq, rfl, ht1, ht, rfl, hM, hb⟩ := hrel
    have HM := Lib.hid hM; clear hM
    have HB := Lib.hid hb
    have hsq := hb.size
    clear hb
    by_cases hlt : t < N
    · have hlt' : decide (t < N) = true := decide_eq_true hlt
      go_wp2_with fail
      rw [hpw]
      go_loopw [5, 6] (fun r j wr => ∃ (c : Nat) (wi : World), wi = wr ∧ c ≤ n ∧ j = .int .i64 c ∧ RowI wq.heap.size wi.heap.size wi r (intL (setK t c)) ∧ Below wq.heap.size wq wi) (fun _ j _ => n - (intOf j).toNat)
      case atStart => exact ⟨0, _, rfl, Nat.zero_le _, rfl, row_empty wq, (Below.refl _ _).alloc (Nat.le_refl _) _⟩
      case round =>
        obtain ⟨c, wi, rfl, hc, rfl, hR, hbi⟩ := hrel
        have HRI := Lib.hid hR
        have HBI := Lib.hid hbi
        have hsz := hbi.size
        clear hbi
        by_cases hcn : c < n
        · clear hR
          have hcn' : decide (c < n) = true := decide_eq_true hcn
          have hbt := bit_test t (by omega) c (by omega)
          by_cases hbit : t.testBit c = true
          · have HST := Lib.hid (setK_yes hbit)
            rw [hbit] at hbt
            clear hbit
            have hrl : (intL (setK t c)).length ≤ 4194304 := by rw [intL_len]; have := setK_len t c; omega
            have HRL := Lib.hid hrl; clear hrl
            go_wp2_with (at_builtin; go_must (refine append_int HRI.out hsz (c : Int) rfl rfl rfl rfl HRL.out ?_; intro v' w3 hr3 hb3 hz3))
            rw [intL_snoc, HST.out] at hr3
            have HR3 := Lib.hid hr3
            have HB3 := Lib.hid (hb3 wq wq.heap.size (Nat.le_refl _) HBI.out)
            clear hr3 hb3 hz3
            exact ⟨⟨c + 1, _, rfl, by omega, by go_num, HR3.out, HB3.out⟩, by simp [intOf]; omega⟩
          · have hbit' : t.testBit c = false := by simpa using hbit
            have HST := Lib.hid (setK_no hbit')
            rw [hbit'] at hbt
            clear hbit hbit'
            go_wp2_with fail
            exact ⟨⟨c + 1, _, rfl, by omega, by go_num, by rw [← HST.out]; exact HRI.out, HBI.out⟩, by simp [intOf]; omega⟩
        · obtain rfl : c = n := by omega
          have hcn' : decide (c < c) = false := by simp
          have hM3 : MatI w.heap.size wq.heap.size wi _ _ := HM.out.same (SameIn.of_below HBI.out (Nat.le_refl _))
          obtain ⟨ra, rcap, rfl⟩ := hR.slice
          have HM3 := Lib.hid hM3
          have hml : ((setsL c (t - 1)).map intL).length ≤ 1048576 := by rw [List.length_map, setsL_len]; omega
          have HML := Lib.hid hml
          clear hM3 hR hml
          go_wp2_with (at_builtin; go_must (refine append_row HM3.out HRI.out hsq hsz rfl rfl rfl rfl HML.out ?_; intro v' w3 hm3 hb3 hz3))
          rw [HPR.out t ht1] at hm3
          have HM4 := Lib.hid hm3
          have HB4 := Lib.hid (hb3 w w.heap.size (Nat.le_refl _) (HB.out.trans (HBI.out.mono hsq)))
          clear hm3 hb3 hz3
          exact ⟨⟨t + 1, _, rfl, by omega, by omega, by go_num, HM4.out, HB4.out⟩, by simp [intOf]; omega⟩
    · obtain rfl : t = N := by omega
      have hlt' : decide (t < t) = false := by simp
      go_wp2_with fail
      go_ret
      exact ⟨_, rfl, ⟨HM.out, Nat.le_refl _⟩, HB.out⟩

/-! ### append(row, x) where the row may be empty -/
set_option maxRecDepth 100000 in
theorem append_intL {ops : Array Oper} {rest : List Oper} {o : Oper} {a : Act} {Q : Exit → Act → World → Prop} {s x : Operand} {A q : Nat} {v : Value} {l : List Int} {wr : World}
    (hM : RowI A wr.heap.size wr v l) (hA : A ≤ wr.heap.size) (hq : q = wr.heap.size) (n : Int) (hgd : o.guard = none)
    (ho : o.op = .call { callee := .builtin .append, args := #[s, x], argTypes := #[39, 39] }) (hs : a.eval s = v)
    (hx : a.eval x = .slice (some ⟨q, 0, none⟩) 1 1) (hlen : l.length ≤ 4194304)
    (h : ∀ v' w', RowI A w'.heap.size w' v' (l ++ [n]) → wr.grownBy w' v.ownBlock → (∀ g, v'.ownBlock = some g → v.ownBlock = some g ∨ wr.heap.size ≤ g) → wpList Tryz.prog ops Q rest (a.put o.dst v') w') :
    wpList Tryz.prog ops Q (o :: rest) a (wr.alloc (.cells #[.int .i64 n] 3)) := by
  subst hq
  obtain ⟨h1, h2⟩ := hM
  obtain ⟨i0, hi, hz0, hz1, hz2⟩ := info_parts Tryz.infoInt
  have h1a := h1.alloc (.cells #[.int .i64 n] 3)
  have hnew : ∀ j u, [Value.int .i64 n][j]? = some u → (wr.alloc (.cells #[.int .i64 n] 3)).cell? ((⟨wr.heap.size, 0, none⟩ : Addr).add j) = some u := by
    intro j u hu
    match j, hu with
    | 0, hu =>
      simp at hu
      subst hu
      rw [Addr.add_lit, cell_of_row _ wr.heap.size 0 _ _ _ (MapKept.heap_alloc wr _).1]
      rfl
    | j + 1, hu => simp at hu
  have hone : ∀ u ∈ [Value.int .i64 n], u.oneCell' = true := by
    intro u hu
    simp at hu
    subst hu
    rfl
  have hlv : (intsV l).length = l.length := intsV_len l
  obtain ⟨v', w', hr, h3, h4, _⟩ := run_append_own (P := Tryz.prog) (wr.alloc (.cells #[.int .i64 n] 3)) A 39 o.type 3 i0 (.int .i64 0) 1 8 Tryz.underlying39 hi hz0 hz1 hz2 rfl (by omega) v l.length (intsV l) h1a ⟨wr.heap.size, 0, none⟩ 1 1 [.int .i64 n] rfl hnew hone (by unfold maxLen; omega) (by omega) (by simp; omega)
  have hloc : ∀ g, v'.ownBlock = some g → v.ownBlock = some g ∨ wr.heap.size ≤ g := by
    rcases h1.2 with ⟨rfl, he⟩ | ⟨g, cap, cur, rfl, hAg, hg, hn, hc, hsz, ht⟩
    · have hr2 := run_append_nil (P := Tryz.prog) (wr.alloc (.cells #[.int .i64 n] 3)) 39 o.type 3 i0 (.int .i64 0) Tryz.underlying39 hi hz0 ⟨wr.heap.size, 0, none⟩ 1 1 [.int .i64 n] (by rw [hz1]; rfl) hnew (by omega) (by omega) (by rw [hz2]; omega)
      rw [hr] at hr2
      injection hr2 with e1 e2
      subst e1
      intro g' hg'
      right
      have : (wr.alloc (.cells #[.int .i64 n] 3)).heap.size = g' := by simpa [Value.ownBlock] using hg'
      simp at this
      omega
    · have hga : (wr.alloc (.cells #[.int .i64 n] 3)).heap[g]? = some (.cells cur 3 (0, 0)) := by
        rw [(MapKept.heap_alloc wr _).2 g (Array.getElem?_eq_some_iff.1 hg).1]; exact hg
      by_cases hroom : l.length + 1 ≤ cap
      · have hr2 := run_append_room (P := Tryz.prog) (wr.alloc (.cells #[.int .i64 n] 3)) 39 o.type 3 i0 Tryz.underlying39 hi g l.length cap cur hga ⟨wr.heap.size, 0, none⟩ 1 1 [.int .i64 n] (by rw [hz1]; rfl) hnew hone hroom (by rw [hz1]; simp; omega)
        rw [hr] at hr2
        injection hr2 with e1 e2
        subst e1
        intro g' hg'
        exact Or.inl hg'
      · have hr2 := run_append_grow (P := Tryz.prog) (wr.alloc (.cells #[.int .i64 n] 3)) 39 o.type 3 i0 (.int .i64 0) Tryz.underlying39 hi hz0 ⟨g, 0, none⟩ l.length cap (intsV l) (by rw [hz1, hlv]; omega) (h1a.cells (g := g) rfl) ⟨wr.heap.size, 0, none⟩ 1 1 [.int .i64 n] (by rw [hz1]; rfl) hnew (by omega) (by omega) (growslice_fits (by omega) (by rw [hz2]; omega))
        rw [hr] at hr2
        injection hr2 with e1 e2
        subst e1
        intro g' hg'
        right
        have : (wr.alloc (.cells #[.int .i64 n] 3)).heap.size = g' := by simpa [Value.ownBlock] using hg'
        simp at this
        omega
  refine Lib.wpList_append_run _ hgd s x 39 39 ho _ _ hs hx v' w' hr ?_
  refine h v' w' ⟨?_, fun g hgg => (h3.lt g hgg).2⟩ ⟨h4.os, h4.tape, h4.output, by have := h4.size; simp at this; omega, fun k hk hn => ?_⟩ hloc
  · have e : intsV l ++ [.int .i64 n] = intsV (l ++ [n]) := by simp [intsV]
    rw [e] at h3
    rw [List.length_append]
    exact h3
  · rw [h4.block k (by simp; omega) hn]
    exact (MapKept.heap_alloc wr _).2 k hk

/-! ### Minors -/
theorem deto_any (B : Nat) (v : Value) (m : List (List Int)) (w : World) (h : MatB B w v m) (hB : B ≤ w.heap.size) (hf : RowsFit m) :
    Calls Tryz.prog 62 #[v] w fun e w' => e = .returned (.int .i64 (detV m)) ∧ Below w.heap.size w w' := by
  by_cases hI : IsC m
  · have HC := Lib.hid (isB_yes hI)
    have HV := Lib.hid (detV_yes hI)
    have HD := Lib.hid (fun w1 (hb : Below w.heap.size w w1) => det_any m.length B v m w1 hI.2.2.2 (h.below hb hB) (Nat.le_trans hB hb.size) rfl hI.1 (isC_bd hI))
    have HR := Lib.hid h; clear h
    clear hI
    generalize detV m = d at *
    go_enter Tryz.func62, Tryz.ntmps62
    go_wp2_with fail
    refine (isc_w B _ m true HC.out _ HR.out hf).mono ?_
    rintro e w1 ⟨rfl, hb1⟩
    have HB1 := Lib.hid hb1; clear hb1
    go_wp2_with fail
    refine (HD.out w1 HB1.out).mono ?_
    rintro e w2 ⟨rfl, hb2⟩
    have HB2 := Lib.hid (HB1.out.trans (hb2.mono HB1.out.size)); clear hb2
    go_wp2_with fail
    go_ret
    exact detF_ret HV.out.symm HB2.out
  · have HC := Lib.hid (isB_no hI)
    have HV := Lib.hid (detV_no hI)
    have HR := Lib.hid h; clear h
    clear hI
    generalize detV m = d at *
    go_enter Tryz.func62, Tryz.ntmps62
    go_wp2_with fail
    refine (isc_w B _ m false HC.out _ HR.out hf).mono ?_
    rintro e w1 ⟨rfl, hb1⟩
    have HB1 := Lib.hid hb1; clear hb1
    go_wp2_with fail
    go_ret
    exact detF_ret HV.out.symm HB1.out

/-- One set of the table: the matrix of its points and its minor. -/
theorem minor_ok {m : List (List Int)} (hI : IsC m) {t : Nat} (ht : t < 2 ^ m.length - 1) :
    subM m (intL (setK (t + 1) m.length)) = pick m (intL (setK (t + 1) m.length)) ∧ subB m (intL (setK (t + 1) m.length)) = true ∧ (setK (t + 1) m.length).length ≤ 4 ∧
      (pick m (intL (setK (t + 1) m.length))).length = (setK (t + 1) m.length).length ∧ Rows0 (pick m (intL (setK (t + 1) m.length))) (setK (t + 1) m.length).length (setK (t + 1) m.length).length ∧ Bd (pick m (intL (setK (t + 1) m.length))) := by
  have hs := set_sub hI ht
  have h4 := hI.2.2.2
  have hr := pick_rows m (intL (setK (t + 1) m.length))
  rw [intL_len] at hr
  exact ⟨subM_yes hs, subB_yes hs, Nat.le_trans (setK_len _ _) h4, by rw [pick_len, intL_len], hr, pick_bd (isC_bd hI) _⟩

set_option maxHeartbeats 4000000 in
set_option maxRecDepth 100000 in
theorem pmin_any (B : Nat) (v : Value) (m : List (List Int)) (w : World) (h : MatB B w v m) (hB : B ≤ w.heap.size) (hf : RowsFit m) :
    Calls Tryz.prog 60 #[v] w (MakesS w (minV m)) := by
  obtain ⟨a, cap, rfl⟩ := h.slice
  have hl := hf.1
  have HR := Lib.hid h; clear h
  have HF := Lib.hid hf; clear hf
  have hb0 : Below w.heap.size w (w.alloc (.cells #[] 3)) := (Below.refl _ _).alloc (Nat.le_refl _) _
  have HB0 := Lib.hid hb0; clear hb0
  by_cases hI : IsC m
  · have hn4 := hI.2.2.2
    have hn1 := hI.2.2.1
    have HC := Lib.hid (isB_yes hI)
    have HV := Lib.hid (minV_yes hI)
    have HMO := Lib.hid (fun t ht => minor_ok hI (t := t) ht)
    have HMP := Lib.hid (fun t => show minP m t = detF (setK (t + 1) m.length).length (pick m (intL (setK (t + 1) m.length))) from rfl)
    have HMS := Lib.hid (minK_step m)
    have HML := Lib.hid (minK_len m)
    have hN15 := two_pow_le m.length hn4
    have HSG := Lib.hid (fun t (ht : t < 2 ^ m.length - 1) => show ((setsL m.length (2 ^ m.length - 1)).map intL).getD t [] = intL (setK (t + 1) m.length) by
      have h1 := setsL_get m.length _ t ht
      have h2 : t < (setsL m.length (2 ^ m.length - 1)).length := by rw [setsL_len]; exact ht
      have h3 : (setsL m.length (2 ^ m.length - 1)).getD t [] = (setsL m.length (2 ^ m.length - 1))[t] := by simp [List.getD, h2]
      rw [← h1, h3]
      simp [List.getD, h2])
    have HSL := Lib.hid (show ((setsL m.length (2 ^ m.length - 1)).map intL).length = 2 ^ m.length - 1 by rw [List.length_map, setsL_len])
    have HS4 := Lib.hid (fun w1 => sets4_any m.length (2 ^ m.length) w1 hn1 hn4 rfl)
    clear hI
    generalize minV m = R at *
    generalize hT : (setsL m.length (2 ^ m.length - 1)).map intL = T at *
    clear hT
    generalize 2 ^ m.length - 1 = N at *
    generalize hn : m.length = n at *
    have HN := Lib.hid hn; clear hn
    unfold maxLen at hl
    go_enter Tryz.func60, Tryz.ntmps60
    go_wp2_with fail
    refine (isc_w B _ m true HC.out _ (HR.out.below HB0.out hB) HF.out).mono ?_
    rintro e w2 ⟨rfl, hb2⟩
    have HB2 := Lib.hid (HB0.out.trans (hb2.mono HB0.out.size))
    have HO2 := Lib.hid ((row_empty w).step hb2)
    clear hb2
    go_wp2_with fail
    refine (HS4.out w2).mono ?_
    rintro e w3 ⟨x, rfl, hx, hb3⟩
    have HB3 := Lib.hid (HB2.out.trans (hb3.mono HB2.out.size))
    have HO3 := Lib.hid (HO2.out.step hb3)
    have hs2 := HB2.out.size
    have hs3 := hb3.size
    obtain ⟨la, lcap, rfl⟩ := hx.1.slice
    rw [HSL.out] at hx ⊢
    have HX := Lib.hid hx.1
    clear hx hb3
    have hlo0 : ∀ g, (Value.slice (some ⟨w.heap.size, 0, none⟩) 0 0).ownBlock = some g → g < w2.heap.size ∨ w3.heap.size ≤ g := fun g hg => by
      have : w.heap.size = g := by simpa [Value.ownBlock] using hg
      have h9 := HO2.out.2 g hg
      omega
    have HLO0 := Lib.hid hlo0; clear hlo0
    go_wp2_with fail
    go_loopw [3, 5] (fun o i wr => ∃ (t : Nat) (wq : World), wq = wr ∧ t ≤ N ∧ i = .int .i64 t ∧ RowI w.heap.size wq.heap.size wq o (minK m t) ∧ (∀ g, o.ownBlock = some g → g < w2.heap.size ∨ w3.heap.size ≤ g) ∧
      MatI w2.heap.size w3.heap.size wq (.slice la N lcap) T ∧ Below w.heap.size w wq ∧ w3.heap.size ≤ wq.heap.size) (fun _ i _ => N - (intOf i).toNat)
    case atStart => exact ⟨0, _, rfl, Nat.zero_le _, rfl, HO3.out, HLO0.out, HX.out, HB3.out, Nat.le_refl _⟩
    case round =>
      obtain ⟨t, wq, rfl, ht, rfl, hO, hlo, hX, hb, hsq⟩ := hrel
      have HO := Lib.hid hO; have HLO := Lib.hid hlo; have HXQ := Lib.hid hX; have HB := Lib.hid hb
      have hsw := hb.size
      clear hO hlo hX hb
      by_cases hlt : t < N
      · have hlt' : decide (t < N) = true := decide_eq_true hlt
        obtain ⟨g1, g2, g3, g4, g5, g6⟩ := HMO.out t hlt
        have HMP' := Lib.hid (HMP.out t)
        have HMS' := Lib.hid (HMS.out t)
        have hmlen := HML.out t
        have HSG' := Lib.hid (HSG.out t hlt)
        obtain ⟨lb, hv, rfl, hcell, hrow⟩ := HXQ.out.rowI4 (j := t) (by rw [HSL.out]; exact hlt)
        rw [HSG'.out] at hrow
        obtain ⟨ra, rcap, rfl⟩ := hrow.slice
        have HROW := Lib.hid hrow; clear hrow
        have HG1 := Lib.hid g1; have HG2 := Lib.hid g2; have HG4 := Lib.hid g4; have HG5 := Lib.hid g5; have HG6 := Lib.hid g6
        clear g1 g2 g4 g5 g6
        generalize setK (t + 1) n = q at *
        generalize hrl : (intL q).length = rl at *
        have hrl' : rl = q.length := by rw [← hrl]; exact intL_len q
        have HRL := Lib.hid hrl
        have HRL' := Lib.hid hrl'
        have hq4 : rl ≤ 4 := by omega
        clear hrl hrl' g3
        go_wp2_with fail
        refine (subs_any B w3.heap.size _ _ m (intL q) wq (HR.out.below HB.out hB) HROW.out.rowB (Nat.le_trans hB hsw) hsq HF.out (by rw [HRL.out]; unfold maxLen; omega)).mono ?_
        rintro e w4 ⟨y, rfl, hy, hb4⟩
        rw [HG1.out] at hy
        rw [HG2.out]
        have HY := Lib.hid hy
        have HB4 := Lib.hid (HB.out.trans (hb4.mono hsw))
        have HO4 := Lib.hid (HO.out.step hb4)
        have HX4 := Lib.hid (HXQ.out.same (SameIn.of_below hb4 hsq))
        have hs4 := hb4.size
        clear hy hb4 hcell
        go_wp2_with fail
        refine (det_any q.length _ y (pick m (intL q)) w4 (by have := HRL'.out; omega) HY.out.matB (Nat.le_refl _) HG4.out HG5.out HG6.out).mono ?_
        rintro e w5 ⟨rfl, hb5⟩
        rw [← HMP'.out]
        have HB5 := Lib.hid (HB4.out.trans (hb5.mono (by omega)))
        have HO5 := Lib.hid (HO4.out.step hb5)
        have HX5 := Lib.hid (HX4.out.same (SameIn.of_below hb5 (by omega)))
        have hs5 := hb5.size
        clear hb5
        have hrl5 : (minK m t).length ≤ 4194304 := by omega
        have HRL5 := Lib.hid hrl5; clear hrl5
        have hsw5 : w.heap.size ≤ w5.heap.size := by omega
        go_wp2_with (at_builtin; go_must (refine append_intL HO5.out hsw5 rfl (minP m t) rfl rfl rfl rfl HRL5.out ?_; intro v6 w6 hr6 hg6 hl6))
        rw [HMS'.out] at hr6
        have HR6 := Lib.hid hr6
        have HX6 := Lib.hid (HX5.out.same (sameIn_grown4 hg6 (by omega) HLO.out))
        have HB6 := Lib.hid (HB5.out.grown hg6 hsw5 (fun k hk => (HO5.out.1.lt k hk).1))
        have hlo6 : ∀ g, v6.ownBlock = some g → g < w2.heap.size ∨ w3.heap.size ≤ g := fun g hg => by
          rcases hl6 g hg with h1 | h1
          · exact HLO.out g h1
          · right; omega
        have HLO6 := Lib.hid hlo6
        have hs6 := hg6.size
        clear hr6 hg6 hl6 hlo6
        exact ⟨⟨t + 1, _, rfl, by omega, by go_num, HR6.out, HLO6.out, HX6.out, HB6.out, by omega⟩, by simp [intOf]; omega⟩
      · obtain rfl : N = t := by omega
        have hlt' : decide (N < N) = false := by simp
        go_wp2_with fail
        go_ret
        exact ⟨_, rfl, by rw [HV.out]; exact ⟨HO.out, Nat.le_refl _⟩, HB.out⟩
  · have HC := Lib.hid (isB_no hI)
    have HV := Lib.hid (minV_no hI)
    clear hI
    generalize minV m = R at *
    generalize hn : m.length = n at *
    have HN := Lib.hid hn; clear hn
    unfold maxLen at hl
    go_enter Tryz.func60, Tryz.ntmps60
    go_wp2_with fail
    refine (isc_w B _ m false HC.out _ (HR.out.below HB0.out hB) HF.out).mono ?_
    rintro e w2 ⟨rfl, hb2⟩
    have HB2 := Lib.hid hb2; clear hb2
    go_wp2_with fail
    go_ret
    exact makesS_nil HV.out ((row_empty w).step HB2.out) (HB0.out.trans (HB2.out.mono HB0.out.size))
end Go.Proofs.YtppimgkampkfjaaGreatDoor
