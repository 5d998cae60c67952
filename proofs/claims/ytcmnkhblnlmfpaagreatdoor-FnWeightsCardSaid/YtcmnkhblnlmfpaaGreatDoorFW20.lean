/-
  What ParseCartan's walk wants: the answer's condition by fields; append inside a fence; what SplitSeq hands back.
  NeighboursOf of the model and of the program: what each call returns.
-/
import Derived.Test.YtcmnkhblnlmfpaaGreatDoorFW19
import Derived.Test.YtcmnkhblnlmfpaaGreatDoorFW16
import Derived.Test.YtcmnkhblnlmfpaaGreatDoorFW06
import Derived.Test.YtcmnkhblnlmfpaaGreatDoorFW15
import Derived.Test.YtcmnkhblnlmfpaaGreatDoorFW08
namespace Go.Proofs.YtcmnkhblnlmfpaaGreatDoor
open Go.RowKit Go.Shelf

/-! ### The condition, field by field -/
def AllOk (l : List UInt8) : Prop := ∀ r ∈ cutLD 59 l, ∀ f ∈ cutLD 44 r, POk f
theorem pok_nil : ¬ POk [] := fun h => by
  have h2 := h.2.2
  rcases itoa_cases (PV []) with ⟨_, h3⟩ | ⟨_, h3⟩
  · rw [h3] at h2; simp at h2
  · have h4 : PV [] = 0 := rfl
    rw [h3, h4, show (0 : Int).toNat = 0 from rfl, dec_small (by omega)] at h2
    simp at h2
theorem row_back {r : List UInt8} (h : ∀ f ∈ cutLD 44 r, POk f) : rowT (rowN r) = r := by
  have e : (rowN r).map Lib.itoa = cutLD 44 r := by
    unfold rowN
    rw [List.map_map]
    conv => rhs; rw [← List.map_id (cutLD 44 r)]
    refine List.map_congr_left fun f hf => ?_
    simp only [Function.comp, id]
    rw [numL_yes (h f hf)]
    exact (h f hf).2.2
  unfold rowT
  rw [e, cutL_join]
theorem fmt_back {l : List UInt8} (h : AllOk l) : fmtT (parM l) = l := by
  have e : (parM l).map rowT = cutLD 59 l := by
    unfold parM
    rw [List.map_map]
    conv => rhs; rw [← List.map_id (cutLD 59 l)]
    refine List.map_congr_left fun r hr => ?_
    exact row_back (h r hr)
  unfold fmtT
  rw [e, cutL_join]
theorem allOk_ne {l : List UInt8} (h : AllOk l) : l ≠ [] := fun e => by
  subst e
  exact pok_nil (h [] (by simp [cutLD, cutFD]) [] (by simp [cutLD, cutFD]))
theorem pc_of_all {l : List UInt8} (h : AllOk l) (hI : IsC (parM l)) : PcOk l := ⟨allOk_ne h, by rw [fmtM_yes hI]; exact fmt_back h⟩
theorem pc_isC {l : List UInt8} (h : PcOk l) : IsC (parM l) := Classical.byContradiction fun hn => h.1 (by rw [← h.2, fmtM_no hn])
theorem pc_all {l : List UInt8} (h : PcOk l) : AllOk l := fun r hr f hf => Classical.byContradiction fun hn => by
  have hI := pc_isC h
  obtain ⟨k, hk, hkr⟩ := List.getElem_of_mem hr
  have hkm : k < (parM l).length := by simpa [parM] using hk
  have h1 := isC_mem hI hkm (numL f) (by
    rw [getD_row _ _ hkm]
    have : (parM l)[k] = rowN r := by simp [parM, hkr]
    rw [this]
    exact List.mem_map.2 ⟨f, hf, rfl⟩)
  rw [numL_no hn] at h1
  omega

/-! ### append inside a fence -/
theorem append_hdrI {F : Fence} {n : Nat} {P : Program} {ops : Array Oper} {rest : List Oper} {o : Oper} {a : Act} {Q : Exit → Act → World → Prop} (hgd : o.guard = none) (s x : Operand) (t : TypeId)
    (ho : o.op = .call { callee := .builtin .append, args := #[s, x], argTypes := #[t, t] })
    (base : Nat) (e : TypeId) (i : TypeInfo) (z : Value) (bytes : Nat) (ht : P.underlying t = some (.slice e)) (hi : P.info? e = some i) (hz : i.zero = some z)
    (hsize : i.size = 1) (hby : i.bytes = bytes) (hzs : z.cells.size = 1)
    (v : Value) (xs : List Value) (u : Value) (hu : u.oneCell' = true) (wr : World) (hs : a.eval s = v) (hown : wr.ownsRow base e 1 v xs.length xs)
    (hx : a.eval x = .slice (some ⟨wr.heap.size, 0, none⟩) 1 1) (hlen : (xs.length + 1) * bytes ≤ 140737488355328) (hb1 : 1 ≤ bytes) (hbase : base ≤ wr.heap.size)
    (h : ∀ v' w', w'.ownsRow base e 1 v' (xs ++ [u]).length (xs ++ [u]) → wr.grownBy w' v.ownBlock → wpListIn F n P ops Q rest (a.put o.dst v') w') :
    wpListIn F n P ops Q (o :: rest) a (wr.alloc (.cells #[u] e)) := by
  have hmul : xs.length + 1 ≤ (xs.length + 1) * bytes := Nat.le_mul_of_pos_right _ hb1
  refine wpListIn_append_own _ hgd s x t ho base e i z 1 bytes ht hi hz hsize hby hzs (by omega) v xs.length xs hs (hown.alloc _) ⟨wr.heap.size, 0, none⟩ 1 1 [u] hx rfl ?_ ?_ ?_ ?_ ?_ ?_
  · intro j u' hj
    match j, hj with
    | 0, hj =>
      simp at hj
      subst hj
      rw [show (⟨wr.heap.size, 0, none⟩ : Addr).add 0 = ⟨wr.heap.size, 0, none⟩ from rfl, World.cell?_alloc_at _ _ _ _ rfl]
      rfl
    | j + 1, hj => simp at hj
  · intro u' hu'
    simp at hu'
    subst hu'
    exact hu
  · unfold maxLen; omega
  · exact hlen
  · simp; omega
  · intro v' w' ho' hg _
    refine h v' w' (by simpa using ho') ⟨hg.os, hg.tape, hg.output, by have := hg.size; simp at this; omega, fun k hk hn => ?_⟩
    rw [hg.block k (by simp; omega) hn]
    exact (MapKept.heap_alloc wr _).2 k hk
theorem append_rowI {F : Fence} {n : Nat} {ops : Array Oper} {rest : List Oper} {o : Oper} {a : Act} {Q : Exit → Act → World → Prop} {s x : Operand} {A B : Nat} {v rv : Value} {m : List (List Int)} {l : List Int} {wr : World}
    (hM : MatI A B wr v m) (hr : RowI B wr.heap.size wr rv l) (hAB : A ≤ B) (hBw : B ≤ wr.heap.size) {m2 : List (List Int)} (hm2 : m ++ [l] = m2) (hgd : o.guard = none)
    (ho : o.op = .call { callee := .builtin .append, args := #[s, x], argTypes := #[24, 24] }) (hs : a.eval s = v)
    (hx : a.eval x = .slice (some ⟨wr.heap.size, 0, none⟩) 1 1) (hlen : m.length ≤ 1048577)
    (h : ∀ v' w', (∃ a' n' c', v' = .slice a' n' c') → MatI A w'.heap.size w' v' m2 → (∀ W C, C ≤ A → Below C W wr → Below C W w') → wr.heap.size ≤ w'.heap.size → wpListIn F n Tryz.prog ops Q rest (a.put o.dst v') w') :
    wpListIn F n Tryz.prog ops Q (o :: rest) a (wr.alloc (.cells #[rv] 25)) := by
  subst hm2
  obtain ⟨hh, h1, h2, h3, h4⟩ := hM
  have hll : hh.length = m.length := by have := h1.1; omega
  obtain ⟨i0, hi, hz0, hz1, hz2⟩ := info_parts Tryz.infoRow
  have h1' : wr.ownsRow A 25 1 v hh.length hh := by rw [hll]; exact h1
  have hone : rv.oneCell' = true := by
    obtain ⟨ra, rcap, rfl⟩ := hr.slice
    rfl
  refine append_hdrI hgd _ _ 24 ho A 25 i0 (.slice none 0 0) 24 Tryz.underlying24 hi hz0 hz1 hz2 rfl v hh rv hone wr hs h1' hx (by omega) (by omega) (by omega) ?_
  intro v' w' ho' hg
  have hmm := mat_snoc h1 h2 h3 h4 hr hAB hBw ho' hg
  refine h v' w' (by obtain ⟨a', c', e⟩ := hmm.slice; exact ⟨a', _, c', e⟩) hmm (fun W C hC hb => ?_) hg.size
  exact hb.grown hg (by omega) (fun k hk => by have := (h1.lt k hk).1; omega)
theorem append_intI {F : Fence} {nd : Nat} {ops : Array Oper} {rest : List Oper} {o : Oper} {a : Act} {Q : Exit → Act → World → Prop} {s x : Operand} {A : Nat} {v : Value} {l : List Int} {wr : World}
    (hM : RowI A wr.heap.size wr v l) (hA : A ≤ wr.heap.size) (n : Int) {l2 : List Int} (h2 : l ++ [n] = l2) (hgd : o.guard = none)
    (ho : o.op = .call { callee := .builtin .append, args := #[s, x], argTypes := #[25, 25] }) (hs : a.eval s = v)
    (hx : a.eval x = .slice (some ⟨wr.heap.size, 0, none⟩) 1 1) (hlen : l.length ≤ 4194304)
    (h : ∀ v' w', (∃ a' n' c', v' = .slice a' n' c') → RowI A w'.heap.size w' v' l2 → (∀ W C, C ≤ A → Below C W wr → Below C W w') → wr.heap.size ≤ w'.heap.size → wpListIn F nd Tryz.prog ops Q rest (a.put o.dst v') w') :
    wpListIn F nd Tryz.prog ops Q (o :: rest) a (wr.alloc (.cells #[.int .i64 n] 3)) := by
  subst h2
  obtain ⟨h1, h2⟩ := hM
  obtain ⟨i0, hi, hz0, hz1, hz2⟩ := info_parts Tryz.infoInt
  have h1' : wr.ownsRow A 3 1 v (intsV l).length (intsV l) := by rw [intsV_len]; exact h1
  refine append_hdrI hgd _ _ 25 ho A 3 i0 (.int .i64 0) 8 Tryz.underlying25 hi hz0 hz1 hz2 rfl v (intsV l) (.int .i64 n) rfl wr hs h1' hx (by rw [intsV_len]; omega) (by omega) hA ?_
  intro v' w' ho' hg
  have hmm : RowI A w'.heap.size w' v' (l ++ [n]) := ⟨by
    have e : intsV l ++ [.int .i64 n] = intsV (l ++ [n]) := by simp [intsV]
    rw [e, intsV_len] at ho'
    exact ho', fun g hgg => (ho'.lt g hgg).2⟩
  refine h v' w' hmm.slice3 hmm (fun W C hC hb => ?_) hg.size
  exact hb.grown hg (by omega) (fun k hk => by have := (h1.lt k hk).1; omega)

/-! ### SplitSeq -/
def splitFn (B : Nat) : Value := .func (.func 123) #[] #[.pointer (some ⟨B + 1, 0, none⟩), .pointer (some ⟨B, 0, none⟩), .pointer (some ⟨B + 2, 0, none⟩)]
def splitW (w : World) (l : List UInt8) (c : UInt8) : World := ((w.alloc (.cells #[strL l] 9)).alloc (.cells #[strL [c]] 9)).alloc (.cells #[.int .i64 0] 3)
theorem splitW_size (w : World) (l : List UInt8) (c : UInt8) : (splitW w l c).heap.size = w.heap.size + 3 := by simp [splitW]
theorem splitW_below (w : World) (l : List UInt8) (c : UInt8) : Below w.heap.size w (splitW w l c) := (((Below.refl _ w).alloc (Nat.le_refl _) _).alloc (by simp) _).alloc (by simp; omega) _
theorem splitW_start (w : World) (l : List UInt8) (c : UInt8) : SplitR c l w.heap.size 0 (splitW w l c) := by
  have b1 := ((Boxed.new w 9 (strL l)).alloc (.cells #[strL [c]] 9)).alloc (.cells #[.int .i64 0] 3)
  have b2 := (Boxed.new (w.alloc (.cells #[strL l] 9)) 9 (strL [c])).alloc (.cells #[.int .i64 0] 3)
  have b3 := Boxed.new ((w.alloc (.cells #[strL l] 9)).alloc (.cells #[strL [c]] 9)) 3 (.int .i64 0)
  simp only [World.size_alloc] at b2 b3
  exact .start b1 b2 b3
set_option maxRecDepth 100000 in
theorem splitf_any (l : List UInt8) (c : UInt8) (w : World) :
    Calls Tryz.prog 112 #[strL l, strL [c], .int .i64 0] w fun e w' => e = .returned (splitFn w.heap.size) ∧ w' = splitW w l c := by
  unfold strL
  go_enter Tryz.func112, Tryz.ntmps112
  go_wp2_with fail
  go_ret
  exact ⟨rfl, rfl⟩
set_option maxRecDepth 100000 in
theorem splitseq_any (l : List UInt8) (c : UInt8) (w : World) :
    Calls Tryz.prog 80 #[strL l, strL [c]] w fun e w' => e = .returned (splitFn w.heap.size) ∧ w' = splitW w l c := by
  go_enter Tryz.func80, Tryz.ntmps80
  go_wp2_with fail
  refine (splitf_any l c w).mono ?_
  rintro e w1 ⟨rfl, rfl⟩
  go_wp2_with fail
  go_ret
  exact ⟨rfl, rfl⟩
end Go.Proofs.YtcmnkhblnlmfpaaGreatDoor
namespace Go.Proofs.YtcmnkhblnlmfpaaGreatDoor
open Go.RowKit

def nbF (m : List (List Int)) (i j : Nat) : Bool := decide (j ≠ i ∧ entry m i j ≠ 0)
def nbK (m : List (List Int)) (i k : Nat) : List Int := ((List.range k).filter (nbF m i)).map fun (j : Nat) => (j : Int)
theorem nbK_yes {m : List (List Int)} {i k : Nat} (h1 : k ≠ i) (h2 : entry m i k ≠ 0) : nbK m i k ++ [(k : Int)] = nbK m i (k + 1) := by
  have h : nbF m i k = true := decide_eq_true ⟨h1, h2⟩
  unfold nbK
  rw [List.range_succ, List.filter_append, List.map_append]
  simp [h]
theorem nbK_no {m : List (List Int)} {i k : Nat} (h' : ¬ (k ≠ i ∧ entry m i k ≠ 0)) : nbK m i k = nbK m i (k + 1) := by
  have h : nbF m i k = false := decide_eq_false h'
  unfold nbK
  rw [List.range_succ, List.filter_append, List.map_append]
  simp [h]
theorem nbK_len (m : List (List Int)) (i k : Nat) : (nbK m i k).length ≤ k := by
  unfold nbK
  rw [List.length_map]
  exact Nat.le_trans (List.length_filter_le _ _) (by simp)
/-- What NeighboursOf returns. -/
def NbOk (m : List (List Int)) (i : Int) : Prop := IsC m ∧ (0 ≤ i ∧ i ≤ (m.length : Int) - 1)
open Classical in
noncomputable def nbs (m : List (List Int)) (i : Int) : List Int := if NbOk m i then nbK m i.toNat m.length else []
theorem nbs_yes {m : List (List Int)} {i : Int} (h : NbOk m i) : nbs m i = nbK m i.toNat m.length := if_pos h
theorem nbs_no {m : List (List Int)} {i : Int} (h : ¬ NbOk m i) : nbs m i = [] := if_neg h
theorem nbs_len (m : List (List Int)) (i : Int) : (nbs m i).length ≤ 4 := by
  by_cases h : NbOk m i
  · rw [nbs_yes h]; exact Nat.le_trans (nbK_len _ _ _) h.1.2.2.2
  · rw [nbs_no h]; simp
theorem makesS_nil {w w' : World} {x : Value} {l : List Int} (hl : l = []) (h : RowI w.heap.size w'.heap.size w' x []) (hb : Below w.heap.size w w') : MakesS w l (.returned x) w' :=
  ⟨x, rfl, by rw [hl]; exact ⟨h, Nat.le_refl _⟩, hb⟩
theorem RowI.nil (A B : Nat) (w : World) : RowI A B w (.slice none 0 0) [] := ⟨World.ownsRow_nil _ _ _ _, fun g h => by simp [Value.ownBlock] at h⟩

set_option maxHeartbeats 2000000 in
set_option maxRecDepth 100000 in
theorem nbs_good (B : Nat) (v : Value) (m : List (List Int)) (p : Nat) (w : World) (h : MatB B w v m) (hB : B ≤ w.heap.size) (hf : RowsFit m) (hI : IsC m) (hp : p < m.length) :
    Calls Tryz.prog 116 #[v, .int .i64 p] w (MakesS w (nbK m p m.length)) := by
  obtain ⟨a, cap, rfl⟩ := h.slice
  have hl := hf.1
  have HR := Lib.hid h; clear h
  have HF := Lib.hid hf; clear hf
  have hrows : Rows0 m m.length m.length := hI.1
  have hn4 := hI.2.2
  have HC := Lib.hid (isB_yes hI)
  have HRW := Lib.hid hrows
  clear hI hrows
  generalize hn : m.length = n at *
  unfold maxLen at hl
  have HN := Lib.hid hn; clear hn
  have HI := Lib.hid (inB_yes (x := (p : Int)) (a := 0) (b := (n : Int) - 1) (by omega))
  go_enter Tryz.func116, Tryz.ntmps116
  go_wp2_with fail
  go_loopw [5, 6] (fun o i wr => ∃ (k : Nat) (wq : World), wq = wr ∧ k ≤ n ∧ i = .int .i64 k ∧ RowI w.heap.size wq.heap.size wq o (nbK m p k) ∧ Below w.heap.size w wq) (fun _ i _ => n - (intOf i).toNat)
  case atStart => exact ⟨0, _, rfl, Nat.zero_le _, rfl, row_empty w, (Below.refl _ _).alloc (Nat.le_refl _) _⟩
  case round =>
    obtain ⟨k, wq, rfl, hk, rfl, hM, hb⟩ := hrel
    have HM := Lib.hid hM; clear hM
    have HB := Lib.hid hb; clear hb
    by_cases hlt : k < n
    · have hlt' : decide (k < n) = true := decide_eq_true hlt
      go_wp2_with fail
      refine (isc_w B _ m true HC.out _ (HR.out.below HB.out hB) HF.out).mono ?_
      rintro e w2 ⟨rfl, hb2⟩
      have HM2 := Lib.hid (HM.out.step hb2)
      have HB2 := Lib.hid (HB.out.trans (hb2.mono HB.out.size))
      clear hb2 HM HB
      go_wp2_with fail
      refine (l1in_c _ _ _ true HI.out _).mono ?_; rintro e w' ⟨rfl, rfl⟩
      obtain ⟨b, off, rb, roff, rcap, rfl, hc1, hx⟩ := (HR.out.below HB2.out hB).entry HRW.out hp hlt
      by_cases hkp : k = p
      · have hq : ((k : Int) != (p : Int)) = false := by rw [bne_eq_false_iff_eq]; omega
        have HST := Lib.hid (nbK_no (m := m) (i := p) (k := k) (fun h => h.1 hkp))
        clear hkp
        go_wp2_with fail
        exact ⟨⟨k + 1, _, rfl, by omega, by go_num, by rw [← HST.out]; exact HM2.out, HB2.out⟩, by simp [intOf]; omega⟩
      · have hq : ((k : Int) != (p : Int)) = true := by rw [bne_iff_ne]; omega
        by_cases hx0 : entry m p k = 0
        · have HST := Lib.hid (nbK_no (m := m) (i := p) (k := k) (fun h => h.2 hx0))
          rw [hx0] at hx
          clear hkp hx0
          go_wp2_with fail
          exact ⟨⟨k + 1, _, rfl, by omega, by go_num, by rw [← HST.out]; exact HM2.out, HB2.out⟩, by simp [intOf]; omega⟩
        · have HST := Lib.hid (nbK_yes hkp hx0)
          have hx1 : (entry m p k != 0) = true := by rw [bne_iff_ne]; exact hx0
          have hsz := HB2.out.size
          have hrl : (nbK m p k).length ≤ 4194304 := by have := nbK_len m p k; omega
          have HRL := Lib.hid hrl; clear hrl
          clear hkp hx0
          generalize entry m p k = x at *
          go_wp2_with (at_builtin; go_must (refine append_int HM2.out hsz (k : Int) rfl rfl rfl rfl HRL.out ?_; intro v' w3 hr3 hb3 hz3))
          rw [HST.out] at hr3
          have HR3 := Lib.hid hr3
          have HB3 := Lib.hid (hb3 w w.heap.size (Nat.le_refl _) HB2.out)
          exact ⟨⟨k + 1, _, rfl, by omega, by go_num, HR3.out, HB3.out⟩, by simp [intOf]; omega⟩
    · obtain rfl : k = n := by omega
      have hlt' : decide (k < k) = false := by simp
      go_wp2_with fail
      go_ret
      exact ⟨_, rfl, ⟨HM.out, Nat.le_refl _⟩, HB.out⟩

set_option maxHeartbeats 2000000 in
set_option maxRecDepth 100000 in
theorem nbs_any (B : Nat) (v : Value) (m : List (List Int)) (i : Int) (w : World) (h : MatB B w v m) (hB : B ≤ w.heap.size) (hf : RowsFit m) :
    Calls Tryz.prog 116 #[v, .int .i64 i] w (MakesS w (nbs m i)) := by
  by_cases hok : NbOk m i
  · rw [nbs_yes hok]
    obtain ⟨hI, h0, h1⟩ := hok
    obtain ⟨p, rfl⟩ := Int.eq_ofNat_of_zero_le h0
    exact nbs_good B v m p w h hB hf hI (by omega)
  · rw [nbs_no hok]
    obtain ⟨a, cap, rfl⟩ := h.slice
    have hl := hf.1
    have HR := Lib.hid h; clear h
    have HF := Lib.hid hf; clear hf
    by_cases hI : IsC m
    · have hi : ¬ (0 ≤ i ∧ i ≤ (m.length : Int) - 1) := fun h => hok ⟨hI, h⟩
      have HC := Lib.hid (isB_yes hI)
      have hn1 := hI.2.2.1
      clear hI hok
      generalize hn : m.length = n at *
      unfold maxLen at hl
      have HI := Lib.hid (inB_no hi)
      clear hi
      go_enter Tryz.func116, Tryz.ntmps116
      go_wp2_with fail
      go_loopw [5, 6] (fun o i wr => i = .int .i64 0 ∧ o = .slice (some ⟨w.heap.size, 0, none⟩) 0 0 ∧ wr = w.alloc (.cells #[] 3)) (fun _ _ _ => 0)
      case atStart => exact ⟨rfl, rfl, rfl⟩
      case round =>
        obtain ⟨rfl, rfl, rfl⟩ := hrel
        have hb : Below w.heap.size w (w.alloc (.cells #[] 3)) := (Below.refl _ _).alloc (Nat.le_refl _) _
        have HB := Lib.hid hb; clear hb
        go_wp2_with fail
        refine (isc_w B _ m true HC.out _ (HR.out.below HB.out hB) HF.out).mono ?_
        rintro e w2 ⟨rfl, hb2⟩
        have HB2 := Lib.hid hb2; clear hb2
        go_wp2_with fail
        refine (l1in_c _ _ _ false HI.out _).mono ?_; rintro e w' ⟨rfl, rfl⟩
        go_wp2_with fail
        go_ret
        exact makesS_nil rfl ((row_empty w).step HB2.out) (HB.out.trans (HB2.out.mono HB.out.size))
    · have HC := Lib.hid (isB_no hI)
      clear hI hok
      generalize hn : m.length = n at *
      unfold maxLen at hl
      have HN := Lib.hid hn; clear hn
      go_enter Tryz.func116, Tryz.ntmps116
      go_wp2_with fail
      go_loopw [5, 6] (fun o i wr => i = .int .i64 0 ∧ o = .slice (some ⟨w.heap.size, 0, none⟩) 0 0 ∧ wr = w.alloc (.cells #[] 3)) (fun _ _ _ => 0)
      case atStart => exact ⟨rfl, rfl, rfl⟩
      case round =>
        obtain ⟨rfl, rfl, rfl⟩ := hrel
        have hb : Below w.heap.size w (w.alloc (.cells #[] 3)) := (Below.refl _ _).alloc (Nat.le_refl _) _
        have HB := Lib.hid hb; clear hb
        by_cases h0 : 0 < n
        · go_wp2_with fail
          refine (isc_w B _ m false HC.out _ (HR.out.below HB.out hB) HF.out).mono ?_
          rintro e w2 ⟨rfl, hb2⟩
          have HB2 := Lib.hid hb2; clear hb2
          go_wp2_with fail
          go_ret
          exact makesS_nil rfl ((row_empty w).step HB2.out) (HB.out.trans (HB2.out.mono HB.out.size))
        · have hd : decide (0 < n) = false := decide_eq_false h0
          go_wp2_with fail
          go_ret
          exact makesS_nil rfl (row_empty w) HB.out

set_option maxHeartbeats 2000000 in
set_option maxRecDepth 100000 in
theorem nbi_good (B : Nat) (v : Value) (m : List (List Int)) (p : Nat) (w : World) (h : MatB B w v m) (hB : B ≤ w.heap.size) (hf : RowsFit m) (hI : IsC m) (hp : p < m.length) :
    Calls Tryz.prog 126 #[v, .int .i64 p] w (MakesS w (nbK m p m.length)) := by
  obtain ⟨a, cap, rfl⟩ := h.slice
  have hl := hf.1
  have HR := Lib.hid h; clear h
  have HF := Lib.hid hf; clear hf
  have hrows : Rows0 m m.length m.length := hI.1
  have hn4 := hI.2.2
  have HC := Lib.hid (isB_yes hI)
  have HRW := Lib.hid hrows
  clear hI hrows
  generalize hn : m.length = n at *
  unfold maxLen at hl
  have HN := Lib.hid hn; clear hn
  have HI := Lib.hid (ptB_yes (i := (p : Int)) (n := n) (by omega))
  go_enter Tryz.func126, Tryz.ntmps126
  go_wp2_with fail
  refine (icm_w B _ m true HC.out _ HR.out HF.out).mono ?_
  rintro e w1 ⟨rfl, hb1⟩
  have HB1 := Lib.hid hb1; clear hb1
  go_wp2_with fail
  refine (pt_c _ _ _ _ true HI.out _ hl).mono ?_; rintro e w' ⟨rfl, rfl⟩
  obtain ⟨b, off, rb, roff, rcap, rfl, hbB, hrB, hc1, hx⟩ := HR.out.line HRW.out hp
  have HX := Lib.hid hx; clear hx
  have hc1' := (HB1.out.cell (p := ⟨b, off + p, none⟩) (by show b < _; omega)).trans hc1
  clear hc1
  go_wp2_with fail
  clear hc1'
  go_loopw [5, 22] (fun o i wr => ∃ (k : Nat) (wq : World), wq = wr ∧ k ≤ n ∧ i = .int .i64 k ∧ RowI w.heap.size wq.heap.size wq o (nbK m p k) ∧ Below w.heap.size w wq) (fun _ i _ => n - (intOf i).toNat)
  case atStart => exact ⟨0, _, rfl, Nat.zero_le _, rfl, RowI.nil _ _ _, HB1.out⟩
  case round =>
    obtain ⟨k, wq, rfl, hk, rfl, hM, hb⟩ := hrel
    have HM := Lib.hid hM; clear hM
    have HB := Lib.hid hb
    have hsz := hb.size
    clear hb
    by_cases hlt : k < n
    · have hx := (HB.out.cell (p := ⟨rb, roff + k, none⟩) (by show rb < _; omega)).trans (HX.out k hlt)
      by_cases hkp : k = p
      · have hq : ((k : Int) != (p : Int)) = false := by rw [bne_eq_false_iff_eq]; omega
        have HST := Lib.hid (nbK_no (m := m) (i := p) (k := k) (fun h => h.1 hkp))
        clear hkp
        go_wp2_with fail
        exact ⟨⟨k + 1, _, rfl, by omega, by go_num, by rw [← HST.out]; exact HM.out, HB.out⟩, by simp [intOf]; omega⟩
      · have hq : ((k : Int) != (p : Int)) = true := by rw [bne_iff_ne]; omega
        by_cases hx0 : entry m p k = 0
        · have HST := Lib.hid (nbK_no (m := m) (i := p) (k := k) (fun h => h.2 hx0))
          rw [hx0] at hx
          clear hkp hx0
          go_wp2_with fail
          exact ⟨⟨k + 1, _, rfl, by omega, by go_num, by rw [← HST.out]; exact HM.out, HB.out⟩, by simp [intOf]; omega⟩
        · have HST := Lib.hid (nbK_yes hkp hx0)
          have hx1 : (entry m p k != 0) = true := by rw [bne_iff_ne]; exact hx0
          have hrl : (nbK m p k).length ≤ 4194304 := by have := nbK_len m p k; omega
          have HRL := Lib.hid hrl; clear hrl
          clear hkp hx0
          generalize entry m p k = x at *
          go_wp2_with (at_builtin; go_must (refine append_int HM.out hsz (k : Int) rfl rfl rfl rfl HRL.out ?_; intro v' w3 hr3 hb3 hz3))
          rw [HST.out] at hr3
          have HR3 := Lib.hid hr3
          have HB3 := Lib.hid (hb3 w w.heap.size (Nat.le_refl _) HB.out)
          exact ⟨⟨k + 1, _, rfl, by omega, by go_num, HR3.out, HB3.out⟩, by simp [intOf]; omega⟩
    · obtain rfl : k = n := by omega
      go_wp2_with fail
      go_ret
      exact ⟨_, rfl, ⟨HM.out, Nat.le_refl _⟩, HB.out⟩

set_option maxHeartbeats 2000000 in
set_option maxRecDepth 100000 in
theorem nbi_any (B : Nat) (v : Value) (m : List (List Int)) (i : Int) (w : World) (h : MatB B w v m) (hB : B ≤ w.heap.size) (hf : RowsFit m) :
    Calls Tryz.prog 126 #[v, .int .i64 i] w (MakesS w (nbs m i)) := by
  by_cases hok : NbOk m i
  · rw [nbs_yes hok]
    obtain ⟨hI, h0, h1⟩ := hok
    obtain ⟨p, rfl⟩ := Int.eq_ofNat_of_zero_le h0
    exact nbi_good B v m p w h hB hf hI (by omega)
  · rw [nbs_no hok]
    obtain ⟨a, cap, rfl⟩ := h.slice
    have hl := hf.1
    have HR := Lib.hid h; clear h
    have HF := Lib.hid hf; clear hf
    by_cases hI : IsC m
    · have hi : ¬ (0 ≤ i ∧ i ≤ (m.length : Int) - 1) := fun h => hok ⟨hI, h⟩
      have HC := Lib.hid (isB_yes hI)
      clear hI hok
      generalize hn : m.length = n at *
      unfold maxLen at hl
      have HI := Lib.hid (ptB_no hi)
      clear hi
      go_enter Tryz.func126, Tryz.ntmps126
      go_wp2_with fail
      refine (icm_w B _ m true HC.out _ HR.out HF.out).mono ?_
      rintro e w1 ⟨rfl, hb1⟩
      have HB1 := Lib.hid hb1; clear hb1
      go_wp2_with fail
      refine (pt_c _ _ _ _ false HI.out _ hl).mono ?_; rintro e w' ⟨rfl, rfl⟩
      go_wp2_with fail
      go_ret
      exact makesS_nil rfl (RowI.nil _ _ _) HB1.out
    · have HC := Lib.hid (isB_no hI)
      clear hI hok
      generalize hn : m.length = n at *
      unfold maxLen at hl
      have HN := Lib.hid hn; clear hn
      go_enter Tryz.func126, Tryz.ntmps126
      go_wp2_with fail
      refine (icm_w B _ m false HC.out _ HR.out HF.out).mono ?_
      rintro e w1 ⟨rfl, hb1⟩
      have HB1 := Lib.hid hb1; clear hb1
      go_wp2_with fail
      go_ret
      exact makesS_nil rfl (RowI.nil _ _ _) HB1.out
end Go.Proofs.YtcmnkhblnlmfpaaGreatDoor
