/-
  strings.SplitSeq's iterator: what it owes where the separator is one byte: the pieces, one by one; its string lies in a cell of its own.
  What ParseCartan's walk wants: the answer's condition by fields; append inside a fence; what SplitSeq hands back.
  What the law on matrices asks: texts of matrices are read back, bonds do not depend on the order of points nor on the transposition, types bear their names, and the parts of a join are those of both (no walk here).
-/
import Derived.Test.YtfjeghalkmkgoaaGreatDoorFW21
import Derived.Test.YtfjeghalkmkgoaaGreatDoorFW23
import Derived.Test.YtfjeghalkmkgoaaGreatDoorShelfD
import Derived.Test.YtfjeghalkmkgoaaGreatDoorShelfJ
import Derived.Test.YtfjeghalkmkgoaaGreatDoorFW19
namespace Go.Proofs.YtfjeghalkmkgoaaGreatDoor
open Go.RowKit Go.Shelf
attribute [local go_sem] Oper.semAt_some

theorem idx_find (c : UInt8) : ∀ (l : List UInt8), (Lib.indexByte l c = -1 ∧ c ∉ l) ∨ ∃ a b, l = a ++ c :: b ∧ c ∉ a ∧ Lib.indexByte l c = (a.length : Int)
  | [] => .inl ⟨rfl, by simp⟩
  | x :: l => by
    unfold Lib.indexByte
    by_cases hx : x = c
    · exact .inr ⟨[], l, by simp [hx], by simp, by simp [hx]⟩
    · rcases idx_find c l with ⟨h, hn⟩ | ⟨a, b, h, hn, hi⟩
      · exact .inl ⟨by simp [hx, h], by simp [hn, Ne.symm hx]⟩
      · exact .inr ⟨x :: a, b, by simp [h], by simp [hn, Ne.symm hx], by rw [hi]; simp [hx]⟩

/-- The bytes of a list as a string's value. -/
def strL (l : List UInt8) : Value := .string ⟨l.toArray⟩
/-- The iterator's cells, before piece k is handed over. -/
def SplitR (c : UInt8) (l : List UInt8) (B : Nat) (k : Nat) (W : World) : Prop :=
  ∃ rest : List UInt8, Boxed W B 9 (strL rest) ∧ Boxed W (B + 1) 9 (strL [c]) ∧ Boxed W (B + 2) 3 (.int .i64 0) ∧ (cutLD c l).drop k = cutLD c rest ∧ rest.length ≤ l.length
/-- The iterator's own step. -/
def SplitAb (B : Nat) (W W' : World) : Prop := ∃ v, W' = W.setCell ⟨B, 0, none⟩ v
/-- How long the string in the iterator's cell is. -/
def cellLen (B : Nat) (W : World) : Nat := match W.cell? ⟨B, 0, none⟩ with | some (.string s) => s.size | _ => 0
theorem cellLen_eq {B : Nat} {W : World} {rest : List UInt8} {t : TypeId} (h : Boxed W B t (strL rest)) : cellLen B W = rest.length := by
  unfold cellLen; rw [h.cell]; simp [strL, ByteArray.size]
theorem SplitR.start {c : UInt8} {l : List UInt8} {B : Nat} {W : World} (h1 : Boxed W B 9 (strL l)) (h2 : Boxed W (B + 1) 9 (strL [c])) (h3 : Boxed W (B + 2) 3 (.int .i64 0)) : SplitR c l B 0 W :=
  ⟨l, h1, h2, h3, by simp, Nat.le_refl _⟩
theorem SplitR.mono {c : UInt8} {l : List UInt8} {B k : Nat} {W W' : World} (h : SplitR c l B k W) (hk : ∀ b t v, B ≤ b → b ≤ B + 2 → Boxed W b t v → Boxed W' b t v) : SplitR c l B k W' := by
  obtain ⟨rest, h1, h2, h3, h4, h5⟩ := h
  exact ⟨rest, hk _ _ _ (by omega) (by omega) h1, hk _ _ _ (by omega) (by omega) h2, hk _ _ _ (by omega) (by omega) h3, h4, h5⟩

theorem cutL_inj {c : UInt8} {a b : List UInt8} (h : cutLD c a = cutLD c b) : a = b := by
  have := cutL_join c a
  rw [h, cutL_join] at this
  exact this.symm
theorem SplitR.get {c : UInt8} {l rest : List UInt8} {B k : Nat} {W : World} (h : SplitR c l B k W) (hd : (cutLD c l).drop k = cutLD c rest) :
    Boxed W B 9 (strL rest) ∧ Boxed W (B + 1) 9 (strL [c]) ∧ Boxed W (B + 2) 3 (.int .i64 0) := by
  obtain ⟨r', h1, h2, h3, h4, _⟩ := h
  obtain rfl : r' = rest := cutL_inj (h4.symm.trans hd)
  exact ⟨h1, h2, h3⟩
theorem drop_head {α : Type} {xs ys : List α} {k : Nat} {x : α} (h : xs.drop k = x :: ys) : ∃ hk : k < xs.length, xs[k] = x ∧ xs.drop (k + 1) = ys := by
  have hk : k < xs.length := by
    rcases Nat.lt_or_ge k xs.length with h' | h'
    · exact h'
    · rw [List.drop_eq_nil_of_le h'] at h; cases h
  rw [List.drop_eq_getElem_cons hk] at h
  cases h
  exact ⟨hk, rfl, rfl⟩

set_option maxRecDepth 100000 in
set_option maxHeartbeats 1000000 in
theorem split_gives (n : Nat) (hn : 1 ≤ n) (c : UInt8) (l : List UInt8) (hl : l.length ≤ 1048576) (B : Nat) :
    GivesB Fence.wide n Tryz.prog 91 #[.pointer (some ⟨B + 1, 0, none⟩), .pointer (some ⟨B, 0, none⟩), .pointer (some ⟨B + 2, 0, none⟩)] ((cutLD c l).map fun x => #[strL x]) (SplitR c l B) (SplitAb B) := by
  intro lp J Jx W hJ hY h0 hR0
  have hlen : ((cutLD c l).map fun x => #[strL x]).length = (cutLD c l).length := by simp
  refine callsIn_of_wp Tryz.func91 rfl trivial ?_ rfl
  simp only [Tryz.ntmps91, List.size_toArray, List.length_cons, List.length_nil, Nat.reduceAdd, Nat.reduceSub, Array.replicate_succ, Array.replicate_zero, List.push_toArray, List.append_toArray, List.nil_append, List.cons_append]
  obtain ⟨r0, b1, b2, b3, hd0, hr0⟩ := hR0
  have hc2 : W.cell? ⟨B + 1, 0, none⟩ = some (.string ⟨#[c]⟩) := b2.cell
  have hz2 : (⟨#[c]⟩ : ByteArray).size = 1 := rfl
  gi_wp2
  gi_loopw [] (fun W' => ∃ k, SplitR c l B k W' ∧ J k W') (fun W' => cellLen B W')
  case atStart => exact ⟨0, ⟨r0, b1, b2, b3, hd0, hr0⟩, h0⟩
  case round =>
    obtain ⟨k, ⟨rest, c1, c2, c3, hd, hr⟩, hj⟩ := hrel
    have e1 : wr.cell? ⟨B, 0, none⟩ = some (.string ⟨rest.toArray⟩) := c1.cell
    have e2 : wr.cell? ⟨B + 1, 0, none⟩ = some (.string ⟨#[c]⟩) := c2.cell
    have e3 := c3.cell
    have e4 := c1.frozen
    have hkl : k < (cutLD c l).length := by
      rcases Nat.lt_or_ge k (cutLD c l).length with h | h
      · exact h
      · rw [List.drop_eq_nil_of_le h] at hd; exact absurd hd.symm (cutL_neD c rest)
    have hlen0 : cellLen B wr = rest.length := cellLen_eq c1
    have hix := Tryz.strings_Index_one ⟨rest.toArray⟩ c wr
    simp only at hix
    rcases idx_find c rest with ⟨hi, hn0⟩ | ⟨a, b, hab, hna, hi⟩
    · rw [hi] at hix
      rw [cutL_freeD c rest hn0] at hd
      obtain ⟨hk, hx, hd1⟩ := drop_head hd
      have hlast : k + 1 = (cutLD c l).length := by
        have := congrArg List.length hd1; simp at this; omega
      have hy1 := hY k (by rw [hlen]; exact hk) wr hj ⟨rest, c1, c2, c3, by rw [hd, cutL_freeD c rest hn0], hr⟩
      rw [List.getElem_map, hx] at hy1
      obtain ⟨fn, tmps, assign, body, hy, hR⟩ := hy1
      dsimp only [strL] at hy
      clear hY hJ
      gi_wp2_with (refine ⟨trivial, ?_⟩; gi_at_call 93; refine (callsIn_wide.2 hix).mono ?_; rintro e w' ⟨rfl, rfl⟩)
      refine hR.mono ?_
      rintro e W3 (⟨rfl, hJ3, -⟩ | ⟨rfl, hJx3⟩)
      · gi_wp2
        go_end0
        exact ⟨⟨_, rfl⟩, .inl (by rw [hlen, ← hlast]; exact hJ3)⟩
      · gi_wp2
        go_end0
        exact ⟨⟨_, rfl⟩, .inr hJx3⟩
    · rw [hi] at hix
      have hdr := hd
      rw [hab, cutL_atD c a b hna] at hd
      obtain ⟨hk, hx, hd1⟩ := drop_head hd
      have hal : a.length + 1 ≤ rest.length := by rw [hab]; simp
      have hbl : b.length + (a.length + 1) = rest.length := by rw [hab]; simp; omega
      have hy1 := hY k (by rw [hlen]; exact hk) wr hj ⟨rest, c1, c2, c3, hdr, hr⟩
      rw [List.getElem_map, hx] at hy1
      obtain ⟨fn, tmps, assign, body, hy, hR⟩ := hy1
      dsimp only [strL] at hy
      clear hY
      have hsz : (⟨rest.toArray⟩ : ByteArray).size = rest.length := by simp [ByteArray.size]
      have hal64 : a.length ≤ 1048576 := by omega
      have hs1 : ∀ (w : World), (Instr.slice 9 (.string ⟨rest.toArray⟩) none (some (.int .i64 (a.length : Int))) none).run Tryz.prog w = .ok (.string ⟨a.toArray⟩) w := by
        intro w
        have := run_slice_string_h (P := Tryz.prog) w 9 ⟨rest.toArray⟩ Tryz.underlying9 .i64 (a.length : Int) (by omega) (by rw [hsz]; omega)
        rw [this, ByteArray.extract_mk, hab]
        simp
      have hdm : rest.drop (a.length + 1) = b := by rw [hab, show a ++ c :: b = (a ++ [c]) ++ b by simp, show a.length + 1 = (a ++ [c]).length by simp, List.drop_left]
      have hs2 : ∀ (w : World), (Instr.slice 9 (.string ⟨rest.toArray⟩) (some (.int .i64 ((a.length : Int) + 1))) none none).run Tryz.prog w = .ok (.string ⟨b.toArray⟩) w := by
        intro w
        have := run_slice_string_l (P := Tryz.prog) w 9 ⟨rest.toArray⟩ Tryz.underlying9 .i64 ((a.length : Int) + 1) (by omega) (by rw [hsz]; omega)
        rw [this, ByteArray.extract_mk, hsz, show ((a.length : Int) + 1).toNat = a.length + 1 by omega, hdm, List.take_of_length_le (by omega)]
      generalize hA : (⟨a.toArray⟩ : ByteArray) = sa at *
      generalize hB : (⟨b.toArray⟩ : ByteArray) = sb at *
      generalize hS : (⟨rest.toArray⟩ : ByteArray) = sr at *
      have HD := Lib.hid hd; have HDR := Lib.hid hdr; have HD1 := Lib.hid hd1; have HAB := Lib.hid hab
      clear hd hdr hd1 hab hdm
      gi_wp2_with (refine ⟨trivial, ?_⟩; gi_at_call 93; refine (callsIn_wide.2 hix).mono ?_; rintro e w' ⟨rfl, rfl⟩)
      refine hR.mono ?_
      rintro e W3 (⟨rfl, hJ3, hR3⟩ | ⟨rfl, hJx3⟩)
      · obtain ⟨d1, d2, d3⟩ := hR3.get HDR.out
        have f1 : W3.cell? ⟨B, 0, none⟩ = some (.string sr) := by rw [← hS]; exact d1.cell
        have f2 : W3.cell? ⟨B + 1, 0, none⟩ = some (.string ⟨#[c]⟩) := d2.cell
        have f4 := d1.frozen
        gi_wp2
        go_roundw
        case rel =>
          refine ⟨k + 1, ⟨b, ?_, d2.other (by omega) _, d3.other (by omega) _, by rw [HD1.out], by omega⟩, hJ _ _ _ hJ3 ⟨_, rfl⟩⟩
          rw [← hB]
          exact d1.set _
        case measure =>
          rw [hlen0, cellLen_eq (rest := b) (by unfold strL; rw [hB]; exact d1.set _)]
          omega
      · gi_wp2
        refine bodyPost_ret (results_none rfl _ _ _) rfl ?_
        exact ⟨⟨_, rfl⟩, .inr hJx3⟩
end Go.Proofs.YtfjeghalkmkgoaaGreatDoor
namespace Go.Proofs.YtfjeghalkmkgoaaGreatDoor
open Go.RowKit Go.Shelf

/-! ### The condition, field by field -/
def AllOk (l : List UInt8) : Prop := ∀ r ∈ cutLD 59 l, ∀ f ∈ cutLD 44 r, POk f
theorem pok_nil : ¬ POk [] := fun h => by
  have h2 := h.2.2
  rcases itoa_cases (PV []) with ⟨_, h3⟩ | ⟨_, h3⟩
  · rw [h3] at h2; simp at h2
  · have h4 : PV [] = 0 := rfl
    rw [h3, h4, show (0 : Int).toNat = 0 from rfl, dec_small (by omega)] at h2
    simp at h2
theorem row_back {r : List UInt8} (h : ∀ f ∈ cutLD 44 r, POk f) : rowT (rowN r) = r := by
  have e : (rowN r).map Lib.itoa = cutLD 44 r := by
    unfold rowN
    rw [List.map_map]
    conv => rhs; rw [← List.map_id (cutLD 44 r)]
    refine List.map_congr_left fun f hf => ?_
    simp only [Function.comp, id]
    rw [numL_yes (h f hf)]
    exact (h f hf).2.2
  unfold rowT
  rw [e, cutL_join]
theorem fmt_back {l : List UInt8} (h : AllOk l) : fmtT (parM l) = l := by
  have e : (parM l).map rowT = cutLD 59 l := by
    unfold parM
    rw [List.map_map]
    conv => rhs; rw [← List.map_id (cutLD 59 l)]
    refine List.map_congr_left fun r hr => ?_
    exact row_back (h r hr)
  unfold fmtT
  rw [e, cutL_join]
theorem allOk_ne {l : List UInt8} (h : AllOk l) : l ≠ [] := fun e => by
  subst e
  exact pok_nil (h [] (by simp [cutLD, cutFD]) [] (by simp [cutLD, cutFD]))
theorem pc_of_all {l : List UInt8} (h : AllOk l) (hI : IsC (parM l)) : PcOk l := ⟨allOk_ne h, by rw [fmtM_yes hI]; exact fmt_back h⟩
theorem pc_isC {l : List UInt8} (h : PcOk l) : IsC (parM l) := Classical.byContradiction fun hn => h.1 (by rw [← h.2, fmtM_no hn])
theorem pc_all {l : List UInt8} (h : PcOk l) : AllOk l := fun r hr f hf => Classical.byContradiction fun hn => by
  have hI := pc_isC h
  obtain ⟨k, hk, hkr⟩ := List.getElem_of_mem hr
  have hkm : k < (parM l).length := by simpa [parM] using hk
  have h1 := isC_mem hI hkm (numL f) (by
    rw [getD_row _ _ hkm]
    have : (parM l)[k] = rowN r := by simp [parM, hkr]
    rw [this]
    exact List.mem_map.2 ⟨f, hf, rfl⟩)
  rw [numL_no hn] at h1
  omega

/-! ### append inside a fence -/
theorem append_hdrI {F : Fence} {n : Nat} {P : Program} {ops : Array Oper} {rest : List Oper} {o : Oper} {a : Act} {Q : Exit → Act → World → Prop} (hgd : o.guard = none) (s x : Operand) (t : TypeId)
    (ho : o.op = .call { callee := .builtin .append, args := #[s, x], argTypes := #[t, t] })
    (base : Nat) (e : TypeId) (i : TypeInfo) (z : Value) (bytes : Nat) (ht : P.underlying t = some (.slice e)) (hi : P.info? e = some i) (hz : i.zero = some z)
    (hsize : i.size = 1) (hby : i.bytes = bytes) (hzs : z.cells.size = 1)
    (v : Value) (xs : List Value) (u : Value) (hu : u.oneCell' = true) (wr : World) (hs : a.eval s = v) (hown : wr.ownsRow base e 1 v xs.length xs)
    (hx : a.eval x = .slice (some ⟨wr.heap.size, 0, none⟩) 1 1) (hlen : (xs.length + 1) * bytes ≤ 140737488355328) (hb1 : 1 ≤ bytes) (hbase : base ≤ wr.heap.size)
    (h : ∀ v' w', w'.ownsRow base e 1 v' (xs ++ [u]).length (xs ++ [u]) → wr.grownBy w' v.ownBlock → wpListIn F n P ops Q rest (a.put o.dst v') w') :
    wpListIn F n P ops Q (o :: rest) a (wr.alloc (.cells #[u] e)) := by
  have hmul : xs.length + 1 ≤ (xs.length + 1) * bytes := Nat.le_mul_of_pos_right _ hb1
  refine wpListIn_append_own _ hgd s x t ho base e i z 1 bytes ht hi hz hsize hby hzs (by omega) v xs.length xs hs (hown.alloc _) ⟨wr.heap.size, 0, none⟩ 1 1 [u] hx rfl ?_ ?_ ?_ ?_ ?_ ?_
  · intro j u' hj
    match j, hj with
    | 0, hj =>
      simp at hj
      subst hj
      rw [show (⟨wr.heap.size, 0, none⟩ : Addr).add 0 = ⟨wr.heap.size, 0, none⟩ from rfl, World.cell?_alloc_at _ _ _ _ rfl]
      rfl
    | j + 1, hj => simp at hj
  · intro u' hu'
    simp at hu'
    subst hu'
    exact hu
  · unfold maxLen; omega
  · exact hlen
  · simp; omega
  · intro v' w' ho' hg _
    refine h v' w' (by simpa using ho') ⟨hg.os, hg.tape, hg.output, by have := hg.size; simp at this; omega, fun k hk hn => ?_⟩
    rw [hg.block k (by simp; omega) hn]
    exact (MapKept.heap_alloc wr _).2 k hk
theorem append_rowI {F : Fence} {n : Nat} {ops : Array Oper} {rest : List Oper} {o : Oper} {a : Act} {Q : Exit → Act → World → Prop} {s x : Operand} {A B : Nat} {v rv : Value} {m : List (List Int)} {l : List Int} {wr : World}
    (hM : MatI A B wr v m) (hr : RowI B wr.heap.size wr rv l) (hAB : A ≤ B) (hBw : B ≤ wr.heap.size) {m2 : List (List Int)} (hm2 : m ++ [l] = m2) (hgd : o.guard = none)
    (ho : o.op = .call { callee := .builtin .append, args := #[s, x], argTypes := #[24, 24] }) (hs : a.eval s = v)
    (hx : a.eval x = .slice (some ⟨wr.heap.size, 0, none⟩) 1 1) (hlen : m.length ≤ 1048577)
    (h : ∀ v' w', (∃ a' n' c', v' = .slice a' n' c') → MatI A w'.heap.size w' v' m2 → (∀ W C, C ≤ A → Below C W wr → Below C W w') → wr.heap.size ≤ w'.heap.size → wpListIn F n Tryz.prog ops Q rest (a.put o.dst v') w') :
    wpListIn F n Tryz.prog ops Q (o :: rest) a (wr.alloc (.cells #[rv] 25)) := by
  subst hm2
  obtain ⟨hh, h1, h2, h3, h4⟩ := hM
  have hll : hh.length = m.length := by have := h1.1; omega
  obtain ⟨i0, hi, hz0, hz1, hz2⟩ := info_parts Tryz.infoRow
  have h1' : wr.ownsRow A 25 1 v hh.length hh := by rw [hll]; exact h1
  have hone : rv.oneCell' = true := by
    obtain ⟨ra, rcap, rfl⟩ := hr.slice
    rfl
  refine append_hdrI hgd _ _ 24 ho A 25 i0 (.slice none 0 0) 24 Tryz.underlying24 hi hz0 hz1 hz2 rfl v hh rv hone wr hs h1' hx (by omega) (by omega) (by omega) ?_
  intro v' w' ho' hg
  have hmm := mat_snoc h1 h2 h3 h4 hr hAB hBw ho' hg
  refine h v' w' (by obtain ⟨a', c', e⟩ := hmm.slice; exact ⟨a', _, c', e⟩) hmm (fun W C hC hb => ?_) hg.size
  exact hb.grown hg (by omega) (fun k hk => by have := (h1.lt k hk).1; omega)
theorem append_intI {F : Fence} {nd : Nat} {ops : Array Oper} {rest : List Oper} {o : Oper} {a : Act} {Q : Exit → Act → World → Prop} {s x : Operand} {A : Nat} {v : Value} {l : List Int} {wr : World}
    (hM : RowI A wr.heap.size wr v l) (hA : A ≤ wr.heap.size) (n : Int) {l2 : List Int} (h2 : l ++ [n] = l2) (hgd : o.guard = none)
    (ho : o.op = .call { callee := .builtin .append, args := #[s, x], argTypes := #[25, 25] }) (hs : a.eval s = v)
    (hx : a.eval x = .slice (some ⟨wr.heap.size, 0, none⟩) 1 1) (hlen : l.length ≤ 4194304)
    (h : ∀ v' w', (∃ a' n' c', v' = .slice a' n' c') → RowI A w'.heap.size w' v' l2 → (∀ W C, C ≤ A → Below C W wr → Below C W w') → wr.heap.size ≤ w'.heap.size → wpListIn F nd Tryz.prog ops Q rest (a.put o.dst v') w') :
    wpListIn F nd Tryz.prog ops Q (o :: rest) a (wr.alloc (.cells #[.int .i64 n] 3)) := by
  subst h2
  obtain ⟨h1, h2⟩ := hM
  obtain ⟨i0, hi, hz0, hz1, hz2⟩ := info_parts Tryz.infoInt
  have h1' : wr.ownsRow A 3 1 v (intsV l).length (intsV l) := by rw [intsV_len]; exact h1
  refine append_hdrI hgd _ _ 25 ho A 3 i0 (.int .i64 0) 8 Tryz.underlying25 hi hz0 hz1 hz2 rfl v (intsV l) (.int .i64 n) rfl wr hs h1' hx (by rw [intsV_len]; omega) (by omega) hA ?_
  intro v' w' ho' hg
  have hmm : RowI A w'.heap.size w' v' (l ++ [n]) := ⟨by
    have e : intsV l ++ [.int .i64 n] = intsV (l ++ [n]) := by simp [intsV]
    rw [e, intsV_len] at ho'
    exact ho', fun g hgg => (ho'.lt g hgg).2⟩
  refine h v' w' hmm.slice3 hmm (fun W C hC hb => ?_) hg.size
  exact hb.grown hg (by omega) (fun k hk => by have := (h1.lt k hk).1; omega)

/-! ### SplitSeq -/
def splitFn (B : Nat) : Value := .func (.func 91) #[] #[.pointer (some ⟨B + 1, 0, none⟩), .pointer (some ⟨B, 0, none⟩), .pointer (some ⟨B + 2, 0, none⟩)]
def splitW (w : World) (l : List UInt8) (c : UInt8) : World := ((w.alloc (.cells #[strL l] 9)).alloc (.cells #[strL [c]] 9)).alloc (.cells #[.int .i64 0] 3)
theorem splitW_size (w : World) (l : List UInt8) (c : UInt8) : (splitW w l c).heap.size = w.heap.size + 3 := by simp [splitW]
theorem splitW_below (w : World) (l : List UInt8) (c : UInt8) : Below w.heap.size w (splitW w l c) := (((Below.refl _ w).alloc (Nat.le_refl _) _).alloc (by simp) _).alloc (by simp; omega) _
theorem splitW_start (w : World) (l : List UInt8) (c : UInt8) : SplitR c l w.heap.size 0 (splitW w l c) := by
  have b1 := ((Boxed.new w 9 (strL l)).alloc (.cells #[strL [c]] 9)).alloc (.cells #[.int .i64 0] 3)
  have b2 := (Boxed.new (w.alloc (.cells #[strL l] 9)) 9 (strL [c])).alloc (.cells #[.int .i64 0] 3)
  have b3 := Boxed.new ((w.alloc (.cells #[strL l] 9)).alloc (.cells #[strL [c]] 9)) 3 (.int .i64 0)
  simp only [World.size_alloc] at b2 b3
  exact .start b1 b2 b3
set_option maxRecDepth 100000 in
theorem splitf_any (l : List UInt8) (c : UInt8) (w : World) :
    Calls Tryz.prog 79 #[strL l, strL [c], .int .i64 0] w fun e w' => e = .returned (splitFn w.heap.size) ∧ w' = splitW w l c := by
  unfold strL
  go_enter Tryz.func79, Tryz.ntmps79
  go_wp2_with fail
  go_ret
  exact ⟨rfl, rfl⟩
set_option maxRecDepth 100000 in
theorem splitseq_any (l : List UInt8) (c : UInt8) (w : World) :
    Calls Tryz.prog 65 #[strL l, strL [c]] w fun e w' => e = .returned (splitFn w.heap.size) ∧ w' = splitW w l c := by
  go_enter Tryz.func65, Tryz.ntmps65
  go_wp2_with fail
  refine (splitf_any l c w).mono ?_
  rintro e w1 ⟨rfl, rfl⟩
  go_wp2_with fail
  go_ret
  exact ⟨rfl, rfl⟩
end Go.Proofs.YtfjeghalkmkgoaaGreatDoor
namespace Go.Proofs.YtfjeghalkmkgoaaGreatDoor
open Go.RowKit

/-! ### Texts are read back -/
theorem joinTail_cons (sep y : List UInt8) (r : List (List UInt8)) : Lib.joinTail sep (y :: r) = sep ++ (y ++ Lib.joinTail sep r) := by simp [Lib.joinTail]
theorem cut_tail (c : UInt8) (r : List (List UInt8)) : ∀ x, c ∉ x → (∀ y ∈ r, c ∉ y) → cutLD c (x ++ Lib.joinTail [c] r) = x :: r := by
  induction r with
  | nil => intro x hx _; simp only [Lib.joinTail, List.map_nil, List.flatten_nil, List.append_nil]; exact cutL_freeD c x hx
  | cons y r ih =>
    intro x hx hr
    rw [joinTail_cons, List.singleton_append, cutL_atD c x _ hx, ih y (hr y (by simp)) (fun z hz => hr z (by simp [hz]))]
theorem cut_join {c : UInt8} {xs : List (List UInt8)} (hne : xs ≠ []) (h : ∀ x ∈ xs, c ∉ x) : cutLD c (Lib.join xs [c]) = xs := by
  cases xs with
  | nil => exact absurd rfl hne
  | cons x r => rw [Lib.join_cons]; exact cut_tail c r x (h x (by simp)) (fun y hy => h y (by simp [hy]))
end Go.Proofs.YtfjeghalkmkgoaaGreatDoor
