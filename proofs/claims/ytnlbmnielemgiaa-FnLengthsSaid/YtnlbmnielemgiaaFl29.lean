/-
  The model's sets by masks, principal minors and witness: what the calls return.
  PartsOf of the model and of the program: what each call returns.
  IsConnected and HasCycle of the model and of the program: what each call returns.
  WitnessOf, IsFinite and IsAffine of the model: what the calls return.
-/
import Derived.Test.YtnlbmnielemgiaaFl28
namespace Go.Proofs.Ytnlbmnielemgiaa
open Go.RowKit

theorem MatI.rowI4 {A B : Nat} {w : World} {a : Option Addr} {n cap : Nat} {m : List (List Int)} (h : MatI A B w (.slice a n cap) m) {j : Nat} (hj : j < m.length) :
    ∃ b hv, a = some ⟨b, 0, none⟩ ∧ w.cell? ⟨b, j, none⟩ = some hv ∧ RowI A B w hv (m.getD j []) := by
  obtain ⟨hs, h1, h2, h3, _⟩ := h
  obtain ⟨hv, h4, h5⟩ := h3 j hj
  rcases h1.2 with ⟨_, he⟩ | ⟨g, cap', cur, hval, _⟩
  · omega
  · have ha : a = some ⟨g, 0, none⟩ := by injection hval
    have hn : n = m.length := by injection hval
    subst ha
    subst hn
    exact ⟨g, hv, rfl, by rw [h1.cellAt j (by omega)]; exact h4, by rw [getD_row m j hj]; exact h5⟩

theorem sameIn_grown4 {A B : Nat} {w w' : World} {S : Option Nat} (hg : w.grownBy w' S) (hB : B ≤ w.heap.size) (hS : ∀ g, S = some g → g < A ∨ B ≤ g) : SameIn A B w w' := fun k h1 h2 =>
  hg.block k (by omega) (fun e => by have := hS k e.symm; omega)
theorem bit_test : ∀ t : Nat, t < 16 → ∀ c : Nat, c < 4 → ((bits BinOp.and IntKind.i64 ((t : Int) / 2 ^ c) 1) == 1) = t.testBit c := by decide +kernel
theorem sets_pred (n t : Nat) (h : 1 ≤ t) : (setsL n (t - 1)).map intL ++ [intL (setK t n)] = (setsL n t).map intL := by
  obtain ⟨k, rfl⟩ : ∃ k, t = k + 1 := ⟨t - 1, by omega⟩
  rw [← setsL_step n k, List.map_append]; rfl
def tabS (n : Nat) : List (List Int) := (setsL n (2 ^ n - 1)).map intL
set_option maxHeartbeats 4000000 in
set_option maxRecDepth 100000 in
theorem sets4_any (n N : Nat) (w : World) (h1 : 1 ≤ n) (hn : n ≤ 4) (hN : N = 2 ^ n) :
    Calls Try.prog 123 #[.int .i64 n] w (MakesM w ((setsL n (N - 1)).map intL)) := by
  have hN16 : N ≤ 16 ∧ 2 ≤ N := by
    subst hN
    rcases (show n = 1 ∨ n = 2 ∨ n = 3 ∨ n = 4 by omega) with rfl | rfl | rfl | rfl <;> first | decide | decide +kernel
  have hpw : wrap64 (2 ^ n) = (N : Int) := by
    subst hN
    rcases (show n = 1 ∨ n = 2 ∨ n = 3 ∨ n = 4 by omega) with rfl | rfl | rfl | rfl <;> first | decide | decide +kernel
  have HN := Lib.hid hN; clear hN
  have HPR := Lib.hid (sets_pred n)
  obtain ⟨hN1, hN2⟩ := hN16
  go_enter Try.func123, Try.ntmps123
  go_wp2_with fail
  go_loopw [3, 4] (fun o i wr => ∃ (t : Nat) (wq : World), wq = wr ∧ 1 ≤ t ∧ t ≤ N ∧ i = .int .i64 (t : Int) ∧ MatI w.heap.size wq.heap.size wq o ((setsL n (t - 1)).map intL) ∧ Below w.heap.size w wq) (fun _ i _ => N - (intOf i).toNat)
  case atStart => exact ⟨1, _, rfl, Nat.le_refl _, by omega, rfl, mat_empty w, (Below.refl _ _).alloc (Nat.le_refl _) _⟩
  case round =>
    obtain ⟨t, wq, rfl, ht1, ht, rfl, hM, hb⟩ := hrel
    have HM := Lib.hid hM; clear hM
    have HB := Lib.hid hb
    have hsq := hb.size
    clear hb
    by_cases hlt : t < N
    · have hlt' : decide (t < N) = true := decide_eq_true hlt
      go_wp2_with fail
      rw [hpw]
      go_loopw [5, 6] (fun r j wr => ∃ (c : Nat) (wi : World), wi = wr ∧ c ≤ n ∧ j = .int .i64 c ∧ RowI wq.heap.size wi.heap.size wi r (intL (setK t c)) ∧ Below wq.heap.size wq wi) (fun _ j _ => n - (intOf j).toNat)
      case atStart => exact ⟨0, _, rfl, Nat.zero_le _, rfl, row_empty wq, (Below.refl _ _).alloc (Nat.le_refl _) _⟩
      case round =>
        obtain ⟨c, wi, rfl, hc, rfl, hR, hbi⟩ := hrel
        have HRI := Lib.hid hR
        have HBI := Lib.hid hbi
        have hsz := hbi.size
        clear hbi
        by_cases hcn : c < n
        · clear hR
          have hcn' : decide (c < n) = true := decide_eq_true hcn
          have hbt := bit_test t (by omega) c (by omega)
          by_cases hbit : t.testBit c = true
          · have HST := Lib.hid (setK_yes hbit)
            rw [hbit] at hbt
            clear hbit
            have hrl : (intL (setK t c)).length ≤ 4194304 := by rw [intL_len]; have := setK_len t c; omega
            have HRL := Lib.hid hrl; clear hrl
            go_wp2_with (at_builtin; go_must (refine append_int HRI.out hsz (c : Int) rfl rfl rfl rfl HRL.out ?_; intro v' w3 hr3 hb3 hz3))
            rw [intL_snoc, HST.out] at hr3
            have HR3 := Lib.hid hr3
            have HB3 := Lib.hid (hb3 wq wq.heap.size (Nat.le_refl _) HBI.out)
            clear hr3 hb3 hz3
            exact ⟨⟨c + 1, _, rfl, by omega, by go_num, HR3.out, HB3.out⟩, by simp [intOf]; omega⟩
          · have hbit' : t.testBit c = false := by simpa using hbit
            have HST := Lib.hid (setK_no hbit')
            rw [hbit'] at hbt
            clear hbit hbit'
            go_wp2_with fail
            exact ⟨⟨c + 1, _, rfl, by omega, by go_num, by rw [← HST.out]; exact HRI.out, HBI.out⟩, by simp [intOf]; omega⟩
        · obtain rfl : c = n := by omega
          have hcn' : decide (c < c) = false := by simp
          have hM3 : MatI w.heap.size wq.heap.size wi _ _ := HM.out.same (SameIn.of_below HBI.out (Nat.le_refl _))
          obtain ⟨ra, rcap, rfl⟩ := hR.slice
          have HM3 := Lib.hid hM3
          have hml : ((setsL c (t - 1)).map intL).length ≤ 1048576 := by rw [List.length_map, setsL_len]; omega
          have HML := Lib.hid hml
          clear hM3 hR hml
          go_wp2_with (at_builtin; go_must (refine append_row HM3.out HRI.out hsq hsz rfl rfl rfl rfl HML.out ?_; intro v' w3 hm3 hb3 hz3))
          rw [HPR.out t ht1] at hm3
          have HM4 := Lib.hid hm3
          have HB4 := Lib.hid (hb3 w w.heap.size (Nat.le_refl _) (HB.out.trans (HBI.out.mono hsq)))
          clear hm3 hb3 hz3
          exact ⟨⟨t + 1, _, rfl, by omega, by omega, by go_num, HM4.out, HB4.out⟩, by simp [intOf]; omega⟩
    · obtain rfl : t = N := by omega
      have hlt' : decide (t < t) = false := by simp
      go_wp2_with fail
      go_ret
      exact ⟨_, rfl, ⟨HM.out, Nat.le_refl _⟩, HB.out⟩

/-! ### append(row, x) where the row may be empty -/
set_option maxRecDepth 100000 in
theorem append_intL {ops : Array Oper} {rest : List Oper} {o : Oper} {a : Act} {Q : Exit → Act → World → Prop} {s x : Operand} {A q : Nat} {v : Value} {l : List Int} {wr : World}
    (hM : RowI A wr.heap.size wr v l) (hA : A ≤ wr.heap.size) (hq : q = wr.heap.size) (n : Int) (hgd : o.guard = none)
    (ho : o.op = .call { callee := .builtin .append, args := #[s, x], argTypes := #[25, 25] }) (hs : a.eval s = v)
    (hx : a.eval x = .slice (some ⟨q, 0, none⟩) 1 1) (hlen : l.length ≤ 4194304)
    (h : ∀ v' w', RowI A w'.heap.size w' v' (l ++ [n]) → wr.grownBy w' v.ownBlock → (∀ g, v'.ownBlock = some g → v.ownBlock = some g ∨ wr.heap.size ≤ g) → wpList Try.prog ops Q rest (a.put o.dst v') w') :
    wpList Try.prog ops Q (o :: rest) a (wr.alloc (.cells #[.int .i64 n] 3)) := by
  subst hq
  obtain ⟨h1, h2⟩ := hM
  obtain ⟨i0, hi, hz0, hz1, hz2⟩ := info_parts Try.infoInt
  have h1a := h1.alloc (.cells #[.int .i64 n] 3)
  have hnew : ∀ j u, [Value.int .i64 n][j]? = some u → (wr.alloc (.cells #[.int .i64 n] 3)).cell? ((⟨wr.heap.size, 0, none⟩ : Addr).add j) = some u := by
    intro j u hu
    match j, hu with
    | 0, hu =>
      simp at hu
      subst hu
      rw [Addr.add_lit, cell_of_row _ wr.heap.size 0 _ _ _ (MapKept.heap_alloc wr _).1]
      rfl
    | j + 1, hu => simp at hu
  have hone : ∀ u ∈ [Value.int .i64 n], u.oneCell' = true := by
    intro u hu
    simp at hu
    subst hu
    rfl
  have hlv : (intsV l).length = l.length := intsV_len l
  obtain ⟨v', w', hr, h3, h4, _⟩ := run_append_own (P := Try.prog) (wr.alloc (.cells #[.int .i64 n] 3)) A 25 o.type 3 i0 (.int .i64 0) 1 8 Try.underlying25 hi hz0 hz1 hz2 rfl (by omega) v l.length (intsV l) h1a ⟨wr.heap.size, 0, none⟩ 1 1 [.int .i64 n] rfl hnew hone (by unfold maxLen; omega) (by omega) (by simp; omega)
  have hloc : ∀ g, v'.ownBlock = some g → v.ownBlock = some g ∨ wr.heap.size ≤ g := by
    rcases h1.2 with ⟨rfl, he⟩ | ⟨g, cap, cur, rfl, hAg, hg, hn, hc, hsz, ht⟩
    · have hr2 := run_append_nil (P := Try.prog) (wr.alloc (.cells #[.int .i64 n] 3)) 25 o.type 3 i0 (.int .i64 0) Try.underlying25 hi hz0 ⟨wr.heap.size, 0, none⟩ 1 1 [.int .i64 n] (by rw [hz1]; rfl) hnew (by omega) (by omega) (by rw [hz2]; omega)
      rw [hr] at hr2
      injection hr2 with e1 e2
      subst e1
      intro g' hg'
      right
      have : (wr.alloc (.cells #[.int .i64 n] 3)).heap.size = g' := by simpa [Value.ownBlock] using hg'
      simp at this
      omega
    · have hga : (wr.alloc (.cells #[.int .i64 n] 3)).heap[g]? = some (.cells cur 3 (0, 0)) := by
        rw [(MapKept.heap_alloc wr _).2 g (Array.getElem?_eq_some_iff.1 hg).1]; exact hg
      by_cases hroom : l.length + 1 ≤ cap
      · have hr2 := run_append_room (P := Try.prog) (wr.alloc (.cells #[.int .i64 n] 3)) 25 o.type 3 i0 Try.underlying25 hi g l.length cap cur hga ⟨wr.heap.size, 0, none⟩ 1 1 [.int .i64 n] (by rw [hz1]; rfl) hnew hone hroom (by rw [hz1]; simp; omega)
        rw [hr] at hr2
        injection hr2 with e1 e2
        subst e1
        intro g' hg'
        exact Or.inl hg'
      · have hr2 := run_append_grow (P := Try.prog) (wr.alloc (.cells #[.int .i64 n] 3)) 25 o.type 3 i0 (.int .i64 0) Try.underlying25 hi hz0 ⟨g, 0, none⟩ l.length cap (intsV l) (by rw [hz1, hlv]; omega) (h1a.cells (g := g) rfl) ⟨wr.heap.size, 0, none⟩ 1 1 [.int .i64 n] (by rw [hz1]; rfl) hnew (by omega) (by omega) (growslice_fits (by omega) (by rw [hz2]; omega))
        rw [hr] at hr2
        injection hr2 with e1 e2
        subst e1
        intro g' hg'
        right
        have : (wr.alloc (.cells #[.int .i64 n] 3)).heap.size = g' := by simpa [Value.ownBlock] using hg'
        simp at this
        omega
  refine Lib.wpList_append_run _ hgd s x 25 25 ho _ _ hs hx v' w' hr ?_
  refine h v' w' ⟨?_, fun g hgg => (h3.lt g hgg).2⟩ ⟨h4.os, h4.tape, h4.output, by have := h4.size; simp at this; omega, fun k hk hn => ?_⟩ hloc
  · have e : intsV l ++ [.int .i64 n] = intsV (l ++ [n]) := by simp [intsV]
    rw [e] at h3
    rw [List.length_append]
    exact h3
  · rw [h4.block k (by simp; omega) hn]
    exact (MapKept.heap_alloc wr _).2 k hk

/-! ### Minors -/
/-- One set of the table: the matrix of its points and its minor. -/
theorem minor_ok {m : List (List Int)} (hI : IsC m) {t : Nat} (ht : t < 2 ^ m.length - 1) :
    subM m (intL (setK (t + 1) m.length)) = pick m (intL (setK (t + 1) m.length)) ∧ subB m (intL (setK (t + 1) m.length)) = true ∧ (setK (t + 1) m.length).length ≤ 4 ∧
      (pick m (intL (setK (t + 1) m.length))).length = (setK (t + 1) m.length).length ∧ Rows0 (pick m (intL (setK (t + 1) m.length))) (setK (t + 1) m.length).length (setK (t + 1) m.length).length ∧ Bd (pick m (intL (setK (t + 1) m.length))) := by
  have hs := set_sub hI ht
  have h4 := hI.2.2.2
  have hr := pick_rows m (intL (setK (t + 1) m.length))
  rw [intL_len] at hr
  exact ⟨subM_yes hs, subB_yes hs, Nat.le_trans (setK_len _ _) h4, by rw [pick_len, intL_len], hr, pick_bd (isC_bd hI) _⟩

end Go.Proofs.Ytnlbmnielemgiaa
namespace Go.Proofs.Ytnlbmnielemgiaa
open Go.RowKit

/-! ### The diagram of a valid matrix is a graph of at most four points -/
theorem nbF_low {m : List (List Int)} {p j : Nat} (h : m.length ≤ p) : nbF m p j = false := by
  have : entry m p j = 0 := by unfold entry; simp [List.getD, List.getElem?_eq_none h]
  exact decide_eq_false (fun hh => hh.2 this)
theorem nbF_far {m : List (List Int)} (hI : IsC m) {p j : Nat} (hp : p < m.length) (h : m.length ≤ j) : nbF m p j = false := by
  have h1 := hI.1 p hp
  have : entry m p j = 0 := by
    unfold entry
    have h2 : (m.getD p []).length ≤ j := by omega
    rw [List.getD_eq_getElem?_getD (l := m.getD p []), List.getElem?_eq_none h2]; rfl
  exact decide_eq_false (fun hh => hh.2 this)
theorem nbF_sym {m : List (List Int)} (hI : IsC m) (p j : Nat) : nbF m p j = nbF m j p := by
  by_cases hp : p < m.length
  · by_cases hj : j < m.length
    · unfold nbF
      have h1 := hI.2.1 p j hp hj
      by_cases e : j = p
      · subst e; rfl
      · have h2 : entry m p j = 0 ↔ entry m j p = 0 := by
          rcases h1 with h1 | h1
          · exact absurd h1.1.symm e
          · exact h1.2.2
        rw [decide_eq_decide]
        constructor
        · rintro ⟨h3, h4⟩; exact ⟨fun e => h3 e.symm, fun h5 => h4 (h2.2 h5)⟩
        · rintro ⟨h3, h4⟩; exact ⟨fun e => h3 e.symm, fun h5 => h4 (h2.1 h5)⟩
    · rw [nbF_far hI hp (by omega), nbF_low (by omega)]
  · by_cases hj : j < m.length
    · rw [nbF_low (by omega), nbF_far hI hj (by omega)]
    · rw [nbF_low (by omega), nbF_low (by omega)]
theorem nbF_self (m : List (List Int)) (p : Nat) : nbF m p p = false := decide_eq_false (fun h => h.1 rfl)
theorem nbF_gr {m : List (List Int)} (hI : IsC m) (p j : Nat) (hj : j < m.length) : nbF m p j = grE (nbF m 0 1) (nbF m 0 2) (nbF m 0 3) (nbF m 1 2) (nbF m 1 3) (nbF m 2 3) p j := by
  have h4 := hI.2.2.2
  by_cases hp : p < 4
  · have hj4 : j < 4 := by omega
    rcases (show p = 0 ∨ p = 1 ∨ p = 2 ∨ p = 3 by omega) with rfl | rfl | rfl | rfl <;> rcases (show j = 0 ∨ j = 1 ∨ j = 2 ∨ j = 3 by omega) with rfl | rfl | rfl | rfl <;>
      first | exact nbF_self m _ | rfl | exact nbF_sym hI _ _
  · rw [nbF_low (by omega)]
    obtain ⟨q, rfl⟩ : ∃ q, p = q + 4 := ⟨p - 4, by omega⟩
    rcases (show j = 0 ∨ j = 1 ∨ j = 2 ∨ j = 3 by omega) with rfl | rfl | rfl | rfl <;> rfl
theorem nbG_gr {m : List (List Int)} (hI : IsC m) : nbG m m.length = grN (grE (nbF m 0 1) (nbF m 0 2) (nbF m 0 3) (nbF m 1 2) (nbF m 1 3) (nbF m 2 3)) m.length := by
  funext p
  unfold nbG grN
  exact List.filter_congr fun j hj => nbF_gr hI p j (List.mem_range.1 hj)
theorem nbG_ok {m : List (List Int)} (hI : IsC m) : GrOk (nbG m m.length) m.length := by
  rw [nbG_gr hI]; exact grOk_all _ hI.2.2.1 hI.2.2.2 _ _ _ _ _ _
theorem edges_gr {m : List (List Int)} (hI : IsC m) (k : Nat) (hk : k ≤ m.length) : edgesN (nbF m) k = edgesN (grE (nbF m 0 1) (nbF m 0 2) (nbF m 0 3) (nbF m 1 2) (nbF m 1 3) (nbF m 2 3)) k := by
  unfold edgesN
  congr 1
  apply List.map_congr_left
  intro i hi
  have hi := List.mem_range.1 hi
  congr 1
  exact List.filter_congr fun j hj => nbF_gr hI i j (by have := List.mem_range.1 hj; omega)
theorem edges_ok {m : List (List Int)} (hI : IsC m) : endsN (nbG m m.length) m.length / 2 = edgesN (nbF m) m.length := by
  rw [edges_gr hI _ (Nat.le_refl _), nbG_gr hI]; exact edOk_all _ hI.2.2.1 hI.2.2.2 _ _ _ _ _ _

/-! ### What PartsOf returns -/
def partsL (m : List (List Int)) : List (List Nat) := partsM (nbG m m.length) m.length m.length
open Classical in
noncomputable def partsV (m : List (List Int)) : List (List Int) := if IsC m then (partsL m).map intL else []
theorem partsV_yes {m : List (List Int)} (h : IsC m) : partsV m = (partsL m).map intL := if_pos h
theorem partsV_no {m : List (List Int)} (h : ¬ IsC m) : partsV m = [] := if_neg h
theorem partsM_yes {G : Nat → List Nat} {n i : Nat} (h : (mPart G n i).getD 0 0 = i) : partsM G n i ++ [mPart G n i] = partsM G n (i + 1) := by
  show _ = if _ then _ else _
  rw [if_pos h]
theorem partsM_no {G : Nat → List Nat} {n i : Nat} (h : ¬ (mPart G n i).getD 0 0 = i) : partsM G n i = partsM G n (i + 1) := by
  show _ = if _ then _ else _
  rw [if_neg h]
theorem partsM_len (G : Nat → List Nat) (n i : Nat) : (partsM G n i).length ≤ i := by
  induction i with
  | zero => exact Nat.le_refl _
  | succ i ih =>
    by_cases h : (mPart G n i).getD 0 0 = i
    · rw [← partsM_yes h, List.length_append]; simp; exact ih
    · rw [← partsM_no h]; omega
theorem partsP_yes {G : Nat → List Nat} {n i : Nat} (h : (partsP G n i).1.getD i false = true) : partsP G n (i + 1) = partsP G n i := by
  show (if _ then _ else _) = _
  rw [if_pos h]
theorem partsP_no {G : Nat → List Nat} {n i : Nat} (h : (partsP G n i).1.getD i false = false) :
    partsP G n (i + 1) = ((bfsE G (start n i (partsP G n i).1)).1, (partsP G n i).2 ++ [sortN n (bfsE G (start n i (partsP G n i).1)).2]) := by
  show (if _ then _ else _) = _
  rw [if_neg (by rw [h]; simp)]
theorem partsP_len (G : Nat → List Nat) (n i : Nat) : (partsP G n i).2.length ≤ i := by
  induction i with
  | zero => exact Nat.le_refl _
  | succ i ih =>
    cases h : (partsP G n i).1.getD i false with
    | true => rw [partsP_yes h]; omega
    | false => rw [partsP_no h]; simp; exact ih
theorem partsV_len (m : List (List Int)) : (partsV m).length ≤ 4 := by
  by_cases h : IsC m
  · rw [partsV_yes h, List.length_map]
    have h1 := partsM_len (nbG m m.length) m.length m.length
    have := h.2.2.2
    unfold partsL
    omega
  · rw [partsV_no h]; simp
theorem partsV_le {m : List (List Int)} (h : IsC m) : (partsV m).length ≤ m.length := by
  rw [partsV_yes h, List.length_map]
  exact partsM_len (nbG m m.length) m.length m.length
theorem partsV_small (m : List (List Int)) : szSum (partsV m) ≤ 1048576 := by
  by_cases h : IsC m
  · have h1 := partsV_len m
    have h2 : ((partsV m).map List.length).sum ≤ m.length := by
      rw [partsV_yes h, List.map_map]
      have : (List.length ∘ intL) = List.length := by funext q; exact intL_len q
      rw [this]
      exact (nbG_ok h).2.2.2.2
    have := h.2.2.2
    unfold szSum
    omega
  · rw [partsV_no h]; decide

/-! ### The model -/
/-! ### The program -/
end Go.Proofs.Ytnlbmnielemgiaa
namespace Go.Proofs.Ytnlbmnielemgiaa
open Go.RowKit

def connB (m : Nat) : Bool := decide (m = 1)
theorem connB_int (L : Nat) : ((L : Int) == 1) = connB L := by
  unfold connB
  by_cases h : L = 1
  · subst h; rfl
  · rw [decide_eq_false h, beq_eq_false_iff_ne]; omega

/-! ### HasCycle -/
def cntK (E : Nat → Nat → Bool) (k j : Nat) : Nat := ((List.range j).filter (E k)).length
theorem cntK_le (E : Nat → Nat → Bool) (k j : Nat) : cntK E k j ≤ j := Nat.le_trans (List.length_filter_le _ _) (by rw [List.length_range]; exact Nat.le_refl _)
theorem cntK_yes {E : Nat → Nat → Bool} {k j : Nat} (h : E k j = true) : cntK E k (j + 1) = cntK E k j + 1 := by
  unfold cntK
  rw [List.range_succ, List.filter_append]
  simp [h]
theorem cntK_no {E : Nat → Nat → Bool} {k j : Nat} (h : E k j = false) : cntK E k (j + 1) = cntK E k j := by
  unfold cntK
  rw [List.range_succ, List.filter_append]
  simp [h]
theorem edgesN_succ (E : Nat → Nat → Bool) (k : Nat) : edgesN E (k + 1) = edgesN E k + cntK E k k := by
  unfold edgesN cntK
  rw [List.range_succ, List.map_append, List.sum_append]
  simp
theorem edgesN_le (E : Nat → Nat → Bool) (k : Nat) (hk : k ≤ 5) : edgesN E k ≤ 4 * k := by
  induction k with
  | zero => exact Nat.le_refl _
  | succ k ih =>
    rw [edgesN_succ]
    have h1 := ih (by omega)
    have h2 := cntK_le E k k
    omega
noncomputable def endsV (m : List (List Int)) (k : Nat) : Nat := ((List.range k).map fun i => (nbs m ((i : Nat) : Int)).length).sum
theorem endsV_succ (m : List (List Int)) (k : Nat) : endsV m (k + 1) = endsV m k + (nbs m (k : Int)).length := by
  unfold endsV
  rw [List.range_succ, List.map_append, List.sum_append]
  simp
theorem endsV_bad {m : List (List Int)} (h : ¬ IsC m) (k : Nat) : endsV m k = 0 := by
  induction k with
  | zero => rfl
  | succ k ih => rw [endsV_succ, ih, nbs_no (fun hh => h hh.1)]; rfl
theorem endsV_le {m : List (List Int)} (k : Nat) (hk : k ≤ m.length) : endsV m k ≤ 16 := by
  by_cases h : IsC m
  · have h4 := h.2.2.2
    have : endsV m k ≤ 4 * k := by
      clear hk
      induction k with
      | zero => exact Nat.le_refl _
      | succ k ih => rw [endsV_succ]; have := nbs_len m (k : Int); omega
    omega
  · rw [endsV_bad h]; omega
theorem endsV_good {m : List (List Int)} (h : IsC m) (k : Nat) (hk : k ≤ m.length) : endsV m k = endsN (nbG m m.length) k := by
  unfold endsV endsN
  congr 1
  apply List.map_congr_left
  intro i hi
  have hi := List.mem_range.1 hi
  rw [nbs_yes ⟨h, by omega⟩, nbK_eq, intL_len]
  rfl
open Classical in
noncomputable def cycB (m : List (List Int)) : Bool := decide (IsC m ∧ (m.length : Int) - ((partsV m).length : Nat) < ((edgesN (nbF m) m.length : Nat) : Int))
open Classical in
theorem cycB_good {m : List (List Int)} (h : IsC m) : cycB m = decide ((m.length : Int) - ((partsV m).length : Nat) < ((edgesN (nbF m) m.length : Nat) : Int)) := by
  unfold cycB
  rw [decide_eq_decide]
  exact ⟨fun h => h.2, fun h' => ⟨h, h'⟩⟩
open Classical in
theorem cycB_bad {m : List (List Int)} (h : ¬ IsC m) : cycB m = false := decide_eq_false (fun hh => h hh.1)

end Go.Proofs.Ytnlbmnielemgiaa
namespace Go.Proofs.Ytnlbmnielemgiaa
open Go.RowKit

set_option maxHeartbeats 4000000 in
set_option maxRecDepth 100000 in
theorem wits_any (B : Nat) (v : Value) (m : List (List Int)) (w : World) (h : MatB B w v m) (hB : B ≤ w.heap.size) (hf : RowsFit m) :
    Calls Try.prog 109 #[v] w (MakesS w (witV m)) := by
  obtain ⟨a, cap, rfl⟩ := h.slice
  have hl := hf.1
  have HR := Lib.hid h; clear h
  have HF := Lib.hid hf; clear hf
  by_cases hI : IsC m
  · have hn4 := hI.2.2.2
    have hn1 := hI.2.2.1
    have HC := Lib.hid (isB_yes hI)
    have HW0 := Lib.hid (fun (ht : witT m (2 ^ m.length - 1) = none) => witV_none hI ht)
    have HW1 := Lib.hid (fun t (ht : witT m (2 ^ m.length - 1) = some t) => witV_hit hI ht)
    have HMO := Lib.hid (fun t ht => minor_ok hI (t := t) ht)
    have HMP := Lib.hid (fun t => show minP m t = detF (setK (t + 1) m.length).length (pick m (intL (setK (t + 1) m.length))) from rfl)
    have hN15 := two_pow_le m.length hn4
    have HSG := Lib.hid (fun t (ht : t < 2 ^ m.length - 1) => show ((setsL m.length (2 ^ m.length - 1)).map intL).getD t [] = intL (setK (t + 1) m.length) by
      have h1 := setsL_get m.length _ t ht
      have h2 : t < (setsL m.length (2 ^ m.length - 1)).length := by rw [setsL_len]; exact ht
      have h3 : (setsL m.length (2 ^ m.length - 1)).getD t [] = (setsL m.length (2 ^ m.length - 1))[t] := by simp [List.getD, h2]
      rw [← h1, h3]
      simp [List.getD, h2])
    have HSL := Lib.hid (show ((setsL m.length (2 ^ m.length - 1)).map intL).length = 2 ^ m.length - 1 by rw [List.length_map, setsL_len])
    have HS4 := Lib.hid (fun w1 => sets4_any m.length (2 ^ m.length) w1 hn1 hn4 rfl)
    clear hI
    generalize witV m = R at *
    generalize hT : (setsL m.length (2 ^ m.length - 1)).map intL = T at *
    clear hT
    generalize 2 ^ m.length - 1 = N at *
    generalize hn : m.length = n at *
    have HN := Lib.hid hn; clear hn
    unfold maxLen at hl
    go_enter Try.func109, Try.ntmps109
    go_wp2_with fail
    refine (isc_w B _ m true HC.out _ HR.out HF.out).mono ?_
    rintro e w2 ⟨rfl, hb2⟩
    have HB2 := Lib.hid hb2
    have hs2 := hb2.size
    clear hb2
    go_wp2_with fail
    refine (HS4.out w2).mono ?_
    rintro e w3 ⟨x, rfl, hx, hb3⟩
    have HB3 := Lib.hid (HB2.out.trans (hb3.mono HB2.out.size))
    have hs3 := hb3.size
    obtain ⟨la, lcap, rfl⟩ := hx.1.slice
    rw [HSL.out] at hx ⊢
    have HX := Lib.hid hx.1
    clear hx hb3
    go_wp2_with fail
    go_loopw [4] (fun i wr => ∃ (t : Nat) (wq : World), wq = wr ∧ t ≤ N ∧ i = .int .i64 t ∧ Hid (witT m t = none) ∧ Below w3.heap.size w3 wq) (fun i _ => N - (intOf i).toNat)
    case atStart => exact ⟨0, _, rfl, Nat.zero_le _, rfl, Lib.hid rfl, Below.refl _ _⟩
    case round =>
      obtain ⟨t, wq, rfl, ht, rfl, hse, hbq⟩ := hrel
      have HBQ := Lib.hid hbq
      have hsq := hbq.size
      clear hbq
      by_cases hlt : t < N
      · have hlt' : decide (t < N) = true := decide_eq_true hlt
        obtain ⟨g1, g2, g3, g4, g5, g6⟩ := HMO.out t hlt
        have HMP' := Lib.hid (HMP.out t)
        have HSG' := Lib.hid (HSG.out t hlt)
        have HW1' := Lib.hid (HW1.out t)
        have HXQ := Lib.hid (HX.out.same (SameIn.of_below HBQ.out (Nat.le_refl _)))
        obtain ⟨lb, hv, rfl, hcell, hrow⟩ := HXQ.out.rowI4 (j := t) (by rw [HSL.out]; exact hlt)
        rw [HSG'.out] at hrow
        obtain ⟨ra, rcap, rfl⟩ := hrow.slice
        have HROW := Lib.hid hrow; clear hrow
        have hlb : lb < w3.heap.size := by
          obtain ⟨hs9, q1, q2, _⟩ := HX.out
          exact q2 lb rfl
        have HG1 := Lib.hid g1; have HG2 := Lib.hid g2; have HG4 := Lib.hid g4; have HG5 := Lib.hid g5; have HG6 := Lib.hid g6
        clear g1 g2 g4 g5 g6
        have HCELL := Lib.hid hcell
        have HBw := Lib.hid (HB3.out.trans (HBQ.out.mono (by omega)))
        generalize setK (t + 1) n = q at *
        generalize hrl : (intL q).length = rl at *
        have hrl' : rl = q.length := by rw [← hrl]; exact intL_len q
        have HRL := Lib.hid hrl
        have HRL' := Lib.hid hrl'
        have hq4 : rl ≤ 4 := by omega
        clear hrl hrl' g3
        have hBw : B ≤ wq.heap.size := by omega
        go_wp2_with fail
        refine (subs_any B w3.heap.size _ _ m (intL q) wq (HR.out.below HBw.out hB) HROW.out.rowB hBw hsq HF.out (by rw [HRL.out]; unfold maxLen; omega)).mono ?_
        rintro e w4 ⟨y, rfl, hy, hb4⟩
        rw [HG1.out] at hy
        rw [HG2.out]
        have HY := Lib.hid hy
        have HB4 := Lib.hid (HBQ.out.trans (hb4.mono hsq))
        have hs4 := hb4.size
        clear hy hb4 hcell
        go_wp2_with fail
        refine (det_any q.length _ y (pick m (intL q)) w4 (by have := HRL'.out; omega) HY.out.matB (Nat.le_refl _) HG4.out HG5.out HG6.out).mono ?_
        rintro e w5 ⟨rfl, hb5⟩
        rw [← HMP'.out]
        have HB5 := Lib.hid (HB4.out.trans (hb5.mono (by omega)))
        have hs5 := hb5.size
        clear hb5
        by_cases hneg : minP m t ≤ 0
        · have HQ := Lib.hid (HW1'.out (witT_hit hse.out hneg N hlt))
          have hneg' : decide (minP m t ≤ 0) = true := decide_eq_true hneg
          generalize minP m t = mp at *
          have hcell5 : w5.cell? ⟨lb, t, none⟩ = some (.slice ra rl rcap) := by
            have h6 := HB5.out.cell (p := ⟨lb, t, none⟩) hlb
            have h7 := HBQ.out.cell (p := ⟨lb, t, none⟩) hlb
            rw [h6, ← h7]; exact HCELL.out
          have HROW5 := Lib.hid (HROW.out.same (fun k _ hk => (HB5.out.block k hk).trans (HBQ.out.block k hk).symm))
          have HBw5 := Lib.hid (HB3.out.trans (HB5.out.mono (by omega)))
          go_wp2_with fail
          go_ret
          exact ⟨_, rfl, by rw [HQ.out]; exact ⟨HROW5.out.mono hs2 (by omega), Nat.le_refl _⟩, HBw5.out⟩
        · have HST := Lib.hid (witT_step_no hse.out hneg)
          have hneg' : decide (minP m t ≤ 0) = false := decide_eq_false hneg
          generalize minP m t = mp at *
          go_wp2_with fail
          exact ⟨⟨t + 1, _, rfl, by omega, by go_num, HST, HB5.out⟩, by simp [intOf]; omega⟩
      · obtain rfl : N = t := by omega
        have hlt' : decide (N < N) = false := by simp
        have HQ := Lib.hid (HW0.out hse.out)
        have HBw := Lib.hid (HB3.out.trans (HBQ.out.mono (by omega)))
        go_wp2_with fail
        go_ret
        exact makesS_nil HQ.out ((row_empty wq).mono HBw.out.size (Nat.le_refl _)) (HBw.out.alloc HBw.out.size _)
  · have HC := Lib.hid (isB_no hI)
    have HV := Lib.hid (witV_no hI)
    clear hI
    generalize witV m = R at *
    generalize hn : m.length = n at *
    have HN := Lib.hid hn; clear hn
    unfold maxLen at hl
    go_enter Try.func109, Try.ntmps109
    go_wp2_with fail
    refine (isc_w B _ m false HC.out _ HR.out HF.out).mono ?_
    rintro e w2 ⟨rfl, hb2⟩
    have HB2 := Lib.hid hb2; clear hb2
    go_wp2_with fail
    go_ret
    exact makesS_nil HV.out ((row_empty w2).mono HB2.out.size (Nat.le_refl _)) (HB2.out.alloc HB2.out.size _)

/-! ### IsFinite -/
open Classical in
noncomputable def finB (m : List (List Int)) : Bool := decide (IsC m ∧ (witV m).length = 0)
open Classical in
theorem finB_yes {m : List (List Int)} (h : IsC m) : finB m = decide ((witV m).length = 0) := by
  unfold finB
  rw [decide_eq_decide]
  exact ⟨fun h => h.2, fun h' => ⟨h, h'⟩⟩
open Classical in
theorem finB_no {m : List (List Int)} (h : ¬ IsC m) : finB m = false := decide_eq_false (fun hh => h hh.1)
theorem len_int0 (L : Nat) : ((L : Int) == 0) = decide (L = 0) := by
  by_cases h : L = 0
  · subst h; rfl
  · rw [decide_eq_false h, beq_eq_false_iff_ne]; omega

set_option maxHeartbeats 1000000 in
set_option maxRecDepth 100000 in
theorem fins_any (B : Nat) (v : Value) (m : List (List Int)) (w : World) (h : MatB B w v m) (hB : B ≤ w.heap.size) (hf : RowsFit m) :
    Calls Try.prog 80 #[v] w fun e w' => e = .returned (.bool (finB m)) ∧ Below w.heap.size w w' := by
  have HWI := Lib.hid (fun w1 (hb : Below w.heap.size w w1) => wits_any B v m w1 (h.below hb hB) (Nat.le_trans hB hb.size) hf)
  have HR := Lib.hid h; clear h
  by_cases hI : IsC m
  · have HC := Lib.hid (isB_yes hI)
    have HV := Lib.hid (finB_yes hI)
    have HL := Lib.hid (len_int0 (witV m).length)
    clear hI
    generalize finB m = c at *
    go_enter Try.func80, Try.ntmps80
    go_wp2_with fail
    refine (isc_w B _ m true HC.out _ HR.out hf).mono ?_
    rintro e w1 ⟨rfl, hb1⟩
    have HB1 := Lib.hid hb1; clear hb1
    go_wp2_with fail
    refine (HWI.out w1 HB1.out).mono ?_
    rintro e w2 ⟨x, rfl, hx, hb2⟩
    obtain ⟨xa, xcap, rfl⟩ := hx.1.slice
    have HB2 := Lib.hid (HB1.out.trans (hb2.mono HB1.out.size))
    clear hx hb2
    generalize hpl : (witV m).length = L at *
    have HPL := Lib.hid hpl; clear hpl
    go_wp2_with fail
    go_ret
    exact ⟨ret_boolean (by rw [HV.out]; exact HL.out), HB2.out⟩
  · have HC := Lib.hid (isB_no hI)
    have HV := Lib.hid (finB_no hI)
    clear hI
    generalize finB m = c at *
    go_enter Try.func80, Try.ntmps80
    go_wp2_with fail
    refine (isc_w B _ m false HC.out _ HR.out hf).mono ?_
    rintro e w1 ⟨rfl, hb1⟩
    have HB1 := Lib.hid hb1; clear hb1
    go_wp2_with fail
    go_ret
    exact ⟨ret_boolean HV.out.symm, HB1.out⟩
end Go.Proofs.Ytnlbmnielemgiaa
