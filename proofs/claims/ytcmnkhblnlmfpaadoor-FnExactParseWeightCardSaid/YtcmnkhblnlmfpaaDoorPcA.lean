/-
  What ParseCartan's walk wants: the answer's condition by fields; append inside a fence; what SplitSeq hands back.
-/
import Derived.Test.YtcmnkhblnlmfpaaDoorPcS
import Derived.Test.YtcmnkhblnlmfpaaDoorSplit
import Derived.Test.YtcmnkhblnlmfpaaDoorLaidC
namespace Go.Proofs.YtcmnkhblnlmfpaaDoor
open Go.RowKit Go.Shelf

/-! ### The condition, field by field -/
def AllOk (l : List UInt8) : Prop := ∀ r ∈ cutLD 59 l, ∀ f ∈ cutLD 44 r, POk f
theorem pok_nil : ¬ POk [] := fun h => by
  have h2 := h.2.2
  rcases itoa_cases (PV []) with ⟨_, h3⟩ | ⟨_, h3⟩
  · rw [h3] at h2; simp at h2
  · have h4 : PV [] = 0 := rfl
    rw [h3, h4, show (0 : Int).toNat = 0 from rfl, dec_small (by omega)] at h2
    simp at h2
theorem row_back {r : List UInt8} (h : ∀ f ∈ cutLD 44 r, POk f) : rowT (rowN r) = r := by
  have e : (rowN r).map Lib.itoa = cutLD 44 r := by
    unfold rowN
    rw [List.map_map]
    conv => rhs; rw [← List.map_id (cutLD 44 r)]
    refine List.map_congr_left fun f hf => ?_
    simp only [Function.comp, id]
    rw [numL_yes (h f hf)]
    exact (h f hf).2.2
  unfold rowT
  rw [e, cutL_join]
theorem fmt_back {l : List UInt8} (h : AllOk l) : fmtT (parM l) = l := by
  have e : (parM l).map rowT = cutLD 59 l := by
    unfold parM
    rw [List.map_map]
    conv => rhs; rw [← List.map_id (cutLD 59 l)]
    refine List.map_congr_left fun r hr => ?_
    exact row_back (h r hr)
  unfold fmtT
  rw [e, cutL_join]
theorem allOk_ne {l : List UInt8} (h : AllOk l) : l ≠ [] := fun e => by
  subst e
  exact pok_nil (h [] (by simp [cutLD, cutFD]) [] (by simp [cutLD, cutFD]))
theorem pc_of_all {l : List UInt8} (h : AllOk l) (hI : IsC (parM l)) : PcOk l := ⟨allOk_ne h, by rw [fmtM_yes hI]; exact fmt_back h⟩
theorem pc_isC {l : List UInt8} (h : PcOk l) : IsC (parM l) := Classical.byContradiction fun hn => h.1 (by rw [← h.2, fmtM_no hn])
theorem pc_all {l : List UInt8} (h : PcOk l) : AllOk l := fun r hr f hf => Classical.byContradiction fun hn => by
  have hI := pc_isC h
  obtain ⟨k, hk, hkr⟩ := List.getElem_of_mem hr
  have hkm : k < (parM l).length := by simpa [parM] using hk
  have h1 := isC_mem hI hkm (numL f) (by
    rw [getD_row _ _ hkm]
    have : (parM l)[k] = rowN r := by simp [parM, hkr]
    rw [this]
    exact List.mem_map.2 ⟨f, hf, rfl⟩)
  rw [numL_no hn] at h1
  omega

/-! ### append inside a fence -/
theorem append_hdrI {F : Fence} {n : Nat} {P : Program} {ops : Array Oper} {rest : List Oper} {o : Oper} {a : Act} {Q : Exit → Act → World → Prop} (hgd : o.guard = none) (s x : Operand) (t : TypeId)
    (ho : o.op = .call { callee := .builtin .append, args := #[s, x], argTypes := #[t, t] })
    (base : Nat) (e : TypeId) (i : TypeInfo) (z : Value) (bytes : Nat) (ht : P.underlying t = some (.slice e)) (hi : P.info? e = some i) (hz : i.zero = some z)
    (hsize : i.size = 1) (hby : i.bytes = bytes) (hzs : z.cells.size = 1)
    (v : Value) (xs : List Value) (u : Value) (hu : u.oneCell' = true) (wr : World) (hs : a.eval s = v) (hown : wr.ownsRow base e 1 v xs.length xs)
    (hx : a.eval x = .slice (some ⟨wr.heap.size, 0, none⟩) 1 1) (hlen : (xs.length + 1) * bytes ≤ 140737488355328) (hb1 : 1 ≤ bytes) (hbase : base ≤ wr.heap.size)
    (h : ∀ v' w', w'.ownsRow base e 1 v' (xs ++ [u]).length (xs ++ [u]) → wr.grownBy w' v.ownBlock → wpListIn F n P ops Q rest (a.put o.dst v') w') :
    wpListIn F n P ops Q (o :: rest) a (wr.alloc (.cells #[u] e)) := by
  have hmul : xs.length + 1 ≤ (xs.length + 1) * bytes := Nat.le_mul_of_pos_right _ hb1
  refine wpListIn_append_own _ hgd s x t ho base e i z 1 bytes ht hi hz hsize hby hzs (by omega) v xs.length xs hs (hown.alloc _) ⟨wr.heap.size, 0, none⟩ 1 1 [u] hx rfl ?_ ?_ ?_ ?_ ?_ ?_
  · intro j u' hj
    match j, hj with
    | 0, hj =>
      simp at hj
      subst hj
      rw [show (⟨wr.heap.size, 0, none⟩ : Addr).add 0 = ⟨wr.heap.size, 0, none⟩ from rfl, World.cell?_alloc_at _ _ _ _ rfl]
      rfl
    | j + 1, hj => simp at hj
  · intro u' hu'
    simp at hu'
    subst hu'
    exact hu
  · unfold maxLen; omega
  · exact hlen
  · simp; omega
  · intro v' w' ho' hg _
    refine h v' w' (by simpa using ho') ⟨hg.os, hg.tape, hg.output, by have := hg.size; simp at this; omega, fun k hk hn => ?_⟩
    rw [hg.block k (by simp; omega) hn]
    exact (MapKept.heap_alloc wr _).2 k hk
theorem append_rowI {F : Fence} {n : Nat} {ops : Array Oper} {rest : List Oper} {o : Oper} {a : Act} {Q : Exit → Act → World → Prop} {s x : Operand} {A B : Nat} {v rv : Value} {m : List (List Int)} {l : List Int} {wr : World}
    (hM : MatI A B wr v m) (hr : RowI B wr.heap.size wr rv l) (hAB : A ≤ B) (hBw : B ≤ wr.heap.size) {m2 : List (List Int)} (hm2 : m ++ [l] = m2) (hgd : o.guard = none)
    (ho : o.op = .call { callee := .builtin .append, args := #[s, x], argTypes := #[27, 27] }) (hs : a.eval s = v)
    (hx : a.eval x = .slice (some ⟨wr.heap.size, 0, none⟩) 1 1) (hlen : m.length ≤ 1048577)
    (h : ∀ v' w', (∃ a' n' c', v' = .slice a' n' c') → MatI A w'.heap.size w' v' m2 → (∀ W C, C ≤ A → Below C W wr → Below C W w') → wr.heap.size ≤ w'.heap.size → wpListIn F n Tryd.prog ops Q rest (a.put o.dst v') w') :
    wpListIn F n Tryd.prog ops Q (o :: rest) a (wr.alloc (.cells #[rv] 22)) := by
  subst hm2
  obtain ⟨hh, h1, h2, h3, h4⟩ := hM
  have hll : hh.length = m.length := by have := h1.1; omega
  obtain ⟨i0, hi, hz0, hz1, hz2⟩ := info_parts Tryd.infoRow
  have h1' : wr.ownsRow A 22 1 v hh.length hh := by rw [hll]; exact h1
  have hone : rv.oneCell' = true := by
    obtain ⟨ra, rcap, rfl⟩ := hr.slice
    rfl
  refine append_hdrI hgd _ _ 27 ho A 22 i0 (.slice none 0 0) 24 Tryd.underlying27 hi hz0 hz1 hz2 rfl v hh rv hone wr hs h1' hx (by omega) (by omega) (by omega) ?_
  intro v' w' ho' hg
  have hmm := mat_snoc h1 h2 h3 h4 hr hAB hBw ho' hg
  refine h v' w' (by obtain ⟨a', c', e⟩ := hmm.slice; exact ⟨a', _, c', e⟩) hmm (fun W C hC hb => ?_) hg.size
  exact hb.grown hg (by omega) (fun k hk => by have := (h1.lt k hk).1; omega)
theorem append_intI {F : Fence} {nd : Nat} {ops : Array Oper} {rest : List Oper} {o : Oper} {a : Act} {Q : Exit → Act → World → Prop} {s x : Operand} {A : Nat} {v : Value} {l : List Int} {wr : World}
    (hM : RowI A wr.heap.size wr v l) (hA : A ≤ wr.heap.size) (n : Int) {l2 : List Int} (h2 : l ++ [n] = l2) (hgd : o.guard = none)
    (ho : o.op = .call { callee := .builtin .append, args := #[s, x], argTypes := #[22, 22] }) (hs : a.eval s = v)
    (hx : a.eval x = .slice (some ⟨wr.heap.size, 0, none⟩) 1 1) (hlen : l.length ≤ 4194304)
    (h : ∀ v' w', (∃ a' n' c', v' = .slice a' n' c') → RowI A w'.heap.size w' v' l2 → (∀ W C, C ≤ A → Below C W wr → Below C W w') → wr.heap.size ≤ w'.heap.size → wpListIn F nd Tryd.prog ops Q rest (a.put o.dst v') w') :
    wpListIn F nd Tryd.prog ops Q (o :: rest) a (wr.alloc (.cells #[.int .i64 n] 3)) := by
  subst h2
  obtain ⟨h1, h2⟩ := hM
  obtain ⟨i0, hi, hz0, hz1, hz2⟩ := info_parts Tryd.infoInt
  have h1' : wr.ownsRow A 3 1 v (intsV l).length (intsV l) := by rw [intsV_len]; exact h1
  refine append_hdrI hgd _ _ 22 ho A 3 i0 (.int .i64 0) 8 Tryd.underlying22 hi hz0 hz1 hz2 rfl v (intsV l) (.int .i64 n) rfl wr hs h1' hx (by rw [intsV_len]; omega) (by omega) hA ?_
  intro v' w' ho' hg
  have hmm : RowI A w'.heap.size w' v' (l ++ [n]) := ⟨by
    have e : intsV l ++ [.int .i64 n] = intsV (l ++ [n]) := by simp [intsV]
    rw [e, intsV_len] at ho'
    exact ho', fun g hgg => (ho'.lt g hgg).2⟩
  refine h v' w' hmm.slice3 hmm (fun W C hC hb => ?_) hg.size
  exact hb.grown hg (by omega) (fun k hk => by have := (h1.lt k hk).1; omega)

/-! ### SplitSeq -/
def splitFn (B : Nat) : Value := .func (.func 53) #[] #[.pointer (some ⟨B + 1, 0, none⟩), .pointer (some ⟨B, 0, none⟩), .pointer (some ⟨B + 2, 0, none⟩)]
def splitW (w : World) (l : List UInt8) (c : UInt8) : World := ((w.alloc (.cells #[strL l] 9)).alloc (.cells #[strL [c]] 9)).alloc (.cells #[.int .i64 0] 3)
theorem splitW_size (w : World) (l : List UInt8) (c : UInt8) : (splitW w l c).heap.size = w.heap.size + 3 := by simp [splitW]
theorem splitW_below (w : World) (l : List UInt8) (c : UInt8) : Below w.heap.size w (splitW w l c) := (((Below.refl _ w).alloc (Nat.le_refl _) _).alloc (by simp) _).alloc (by simp; omega) _
theorem splitW_start (w : World) (l : List UInt8) (c : UInt8) : SplitR c l w.heap.size 0 (splitW w l c) := by
  have b1 := ((Boxed.new w 9 (strL l)).alloc (.cells #[strL [c]] 9)).alloc (.cells #[.int .i64 0] 3)
  have b2 := (Boxed.new (w.alloc (.cells #[strL l] 9)) 9 (strL [c])).alloc (.cells #[.int .i64 0] 3)
  have b3 := Boxed.new ((w.alloc (.cells #[strL l] 9)).alloc (.cells #[strL [c]] 9)) 3 (.int .i64 0)
  simp only [World.size_alloc] at b2 b3
  exact .start b1 b2 b3
set_option maxRecDepth 100000 in
theorem splitf_any (l : List UInt8) (c : UInt8) (w : World) :
    Calls Tryd.prog 47 #[strL l, strL [c], .int .i64 0] w fun e w' => e = .returned (splitFn w.heap.size) ∧ w' = splitW w l c := by
  unfold strL
  go_enter Tryd.func47, Tryd.ntmps47
  go_wp2_with fail
  go_ret
  exact ⟨rfl, rfl⟩
set_option maxRecDepth 100000 in
theorem splitseq_any (l : List UInt8) (c : UInt8) (w : World) :
    Calls Tryd.prog 35 #[strL l, strL [c]] w fun e w' => e = .returned (splitFn w.heap.size) ∧ w' = splitW w l c := by
  go_enter Tryd.func35, Tryd.ntmps35
  go_wp2_with fail
  refine (splitf_any l c w).mono ?_
  rintro e w1 ⟨rfl, rfl⟩
  go_wp2_with fail
  go_ret
  exact ⟨rfl, rfl⟩
end Go.Proofs.YtcmnkhblnlmfpaaDoor
