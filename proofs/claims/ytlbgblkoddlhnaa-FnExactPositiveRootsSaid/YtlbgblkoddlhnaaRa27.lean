/-
  Roots: sets of root vectors kept as the keys of a map of the call's own.
-/
import Derived.Maps.OwnSet
import Derived.Maps.RangeWalk
import Derived.Maps.Ext
import Derived.WideKeyArr2
import Derived.DeepKeys4
import Derived.Laws.IdiomRangeMap
import Derived.Test.YtlbgblkoddlhnaaRa08
import Derived.Test.YtlbgblkoddlhnaaRa10
import Derived.Test.YtlbgblkoddlhnaaRa26
namespace Go.Proofs.Ytlbgblkoddlhnaa
open Go.RowKit Go.Maps Go.WideMaps

/-! ### Keys -/
def keyV (l : List Int) : Value := .agg #[.int .i64 (l.getD 0 0), .int .i64 (l.getD 1 0), .int .i64 (l.getD 2 0), .int .i64 (l.getD 3 0)]
def keyL (l : List Int) : Lit := .string (keyBytes [.int .i64 (l.getD 0 0), .int .i64 (l.getD 1 0), .int .i64 (l.getD 2 0), .int .i64 (l.getD 3 0)])
def Fit64 (l : List Int) : Prop := ∀ j, -1000000 ≤ l.getD j 0 ∧ l.getD j 0 ≤ 1000000
theorem key_laid : laidOutB Try.prog = true := seat_laidOut
theorem key_row : (53 : TypeId) < Try.prog.types.size := of_decide_eq_true (by kernel_rfl)
theorem key_arr : ArrKey Try.prog 53 3 4 := ⟨Try.underlying53, by kernel_rfl, by kernel_rfl, by kernel_rfl⟩
theorem key_wide : (match Try.prog.underlying 53 with | some (.array _ _) | some (.struct _) => true | _ => false) = true := by rw [Try.underlying53]
set_option maxRecDepth 100000 in
theorem keyK : Keyed Try.prog 53 := Keyed.of_law (deep_law_laid key_laid (m := 2) (by omega) key_row (by kernel_rfl) key_wide)
theorem keyOf_quad {P : Program} {k e : TypeId} {q : IntKind} (A : ArrKey P k e 4) (he : P.underlying e = some (.int q)) (hsz : ∃ m, P.types.size = m + 1) {a b c d : Int} (wa : (Lit.int q a).wf = true) (wb : (Lit.int q b).wf = true) (wc : (Lit.int q c).wf = true) (wd : (Lit.int q d).wf = true) :
    keyOf P k (.agg #[.int q a, .int q b, .int q c, .int q d]) = some (.string (keyBytes [.int q a, .int q b, .int q c, .int q d])) := by
  have hkt := A.keyType hsz
  obtain ⟨m, hm⟩ := hsz
  unfold keyOf
  simp only [A.hu]
  rw [if_pos (by simp [hkt, Value.formed, A.hu, A.size]), hm]
  unfold Program.keyLits
  simp only [A.hu, Value.cells]
  rw [if_pos (by rw [A.size]; rfl), show List.range 4 = [0, 1, 2, 3] from rfl, List.mapM_cons, List.mapM_cons, List.mapM_cons, List.mapM_cons, List.mapM_nil]
  simp [A.one, Program.keyLits, he, wa, wb, wc, wd]
theorem pos_pred {n : Nat} (h : 0 < n) : ∃ m, n = m + 1 := ⟨n - 1, by omega⟩
set_option maxRecDepth 100000 in
theorem types_pos : ∃ m, Try.prog.types.size = m + 1 := pos_pred (Nat.lt_of_le_of_lt (Nat.zero_le _) key_row)
theorem wf_of {x : Int} (h : -1000000 ≤ x ∧ x ≤ 1000000) : (Lit.int .i64 x).wf = true := WalkArith.wf_i64 (by omega)
theorem keyOf_keyV {l : List Int} (h : Fit64 l) : keyOf Try.prog 53 (keyV l) = some (keyL l) :=
  keyOf_quad key_arr Try.underlying3 types_pos (wf_of (h 0)) (wf_of (h 1)) (wf_of (h 2)) (wf_of (h 3))
theorem keyV_inj {a b : List Int} (ha : a.length ≤ 4) (hab : a.length = b.length) (h : keyV a = keyV b) : a = b := by
  refine pad4_inj ha hab ?_
  unfold keyV at h
  injection h with h
  have h1 := congrArg Array.toList h
  simp only [List.cons.injEq, Value.int.injEq, true_and, and_true] at h1
  obtain ⟨h1, h2, h3, h4⟩ := h1
  unfold pad4; rw [h1, h2, h3, h4]
theorem keyL_inj {a b : List Int} (ha : a.length ≤ 4) (hab : a.length = b.length) (fa : Fit64 a) (fb : Fit64 b) (h : keyL a = keyL b) : a = b :=
  keyV_inj ha hab (keyK.inj (keyOf_keyV fa) (by rw [h]; exact keyOf_keyV fb))
theorem low_fit {n : Nat} {l : List Int} (h : Low n l) : Fit64 l := fun j => by have := low_getD h j; omega
theorem keyL_key (l : List Int) : WideAt.IsKeyLit (keyL l) := trivial

/-! ### Sets -/
noncomputable abbrev rdB : Value → Option (DataW Unit × List MemPlace) := plainElem Try.prog 4
/-- What a map's reading says of the set of its keys. -/
structure KeySet (n : Nat) (D : DataW Unit) (S : List Int → Prop) : Prop where
  n4 : n ≤ 4
  low : ∀ l, S l → Low n l
  has : ∀ kl, Maps.has D kl = true ↔ ∃ l, S l ∧ kl = keyL l
  yes : ∀ kl, Maps.has D kl = true → ∀ z, D.atKey kl z = .lit (.bool true)
def SetM (n : Nat) (w : World) (b : Nat) (S : List Int → Prop) : Prop := ∃ D, w.ownsMap Try.prog 53 rdB b (Maps.size D) D ∧ KeySet n D S
theorem own_exact {w : World} {b n : Nat} {D : DataW Unit} (h : w.ownsMap Try.prog 53 rdB b n D) : w.ownsMap Try.prog 53 rdB b (Maps.size D) D := by
  obtain ⟨es, clock, hb, F, _, rfl⟩ := h
  exact ⟨es, clock, hb, F, by simp [Maps.size, length_sorted], rfl⟩
theorem KeySet.at {n : Nat} {D : DataW Unit} {S : List Int → Prop} (h : KeySet n D S) {l : List Int} (hl : l.length = n) (hf : Fit64 l) : Maps.has D (keyL l) = true ↔ S l := by
  rw [h.has]
  constructor
  · rintro ⟨l', hs, e⟩
    have hlow := h.low l' hs
    have : l = l' := keyL_inj (by rw [hl]; exact h.n4) (by rw [hl, hlow.1]) hf (low_fit hlow) e
    rw [this]; exact hs
  · exact fun hs => ⟨l, hs, rfl⟩
theorem KeySet.same {n : Nat} {D : DataW Unit} {S S' : List Int → Prop} (h : KeySet n D S) (hs : ∀ l, S l ↔ S' l) : KeySet n D S' :=
  ⟨h.n4, fun l hl => h.low l ((hs l).2 hl), fun kl => (h.has kl).trans ⟨fun ⟨l, a, e⟩ => ⟨l, (hs l).1 a, e⟩, fun ⟨l, a, e⟩ => ⟨l, (hs l).2 a, e⟩⟩, h.yes⟩
theorem SetM.same {n : Nat} {w : World} {b : Nat} {S S' : List Int → Prop} (h : SetM n w b S) (hs : ∀ l, S l ↔ S' l) : SetM n w b S' := by
  obtain ⟨D, h1, h2⟩ := h
  exact ⟨D, h1, h2.same hs⟩
/-- The keys as a list. -/
theorem keys_list {S : List Int → Prop} (hinj : ∀ a b, S a → S b → keyL a = keyL b → a = b) : ∀ (es : List (Lit × DataW Unit)), es.Pairwise (fun p q => p.1 ≠ q.1) → (∀ p ∈ es, ∃ l, S l ∧ p.1 = keyL l) →
    ∃ L : List (List Int), L.Nodup ∧ L.length = es.length ∧ ∀ l, l ∈ L ↔ (S l ∧ ∃ p ∈ es, p.1 = keyL l)
  | [], _, _ => ⟨[], List.nodup_nil, rfl, fun l => by simp⟩
  | p :: es, hp, h => by
    obtain ⟨hp1, hp2⟩ := List.pairwise_cons.1 hp
    obtain ⟨L, h1, h2, h3⟩ := keys_list hinj es hp2 (fun q hq => h q (List.mem_cons_of_mem _ hq))
    obtain ⟨l, hl, e⟩ := h p (List.mem_cons_self ..)
    refine ⟨l :: L, List.nodup_cons.2 ⟨fun hm => ?_, h1⟩, by simp [h2], fun x => ?_⟩
    · obtain ⟨_, q, hq, eq⟩ := (h3 l).1 hm
      exact hp1 q hq (e.trans eq.symm)
    · rw [List.mem_cons, h3]
      constructor
      · rintro (rfl | ⟨hx, q, hq, eq⟩)
        · exact ⟨hl, p, List.mem_cons_self .., e⟩
        · exact ⟨hx, q, List.mem_cons_of_mem _ hq, eq⟩
      · rintro ⟨hx, q, hq, eq⟩
        rcases List.mem_cons.1 hq with rfl | hq
        · exact Or.inl (hinj x l hx hl (eq.symm.trans e))
        · exact Or.inr ⟨hx, q, hq, eq⟩
def mapSz (w : World) (b : Nat) : Nat := match w.heap[b]? with | some (.map es _) => es.size | _ => 0
theorem own_size {w : World} {b n : Nat} {D : DataW Unit} (h : w.ownsMap Try.prog 53 rdB b n D) : mapSz w b = Maps.size D := by
  obtain ⟨es, clock, hb, F, _, rfl⟩ := h
  unfold mapSz
  rw [hb]
  simp [Maps.size, length_sorted]
theorem SetM.list {n : Nat} {w : World} {b : Nat} {S : List Int → Prop} (h : SetM n w b S) : ∃ L : List (List Int), L.Nodup ∧ L.length = mapSz w b ∧ ∀ l, l ∈ L ↔ S l := by
  obtain ⟨D, h1, h2⟩ := h
  rw [own_size h1]
  obtain ⟨es, rfl, hp, hk⟩ := h1.entries keyK
  have hmem : ∀ p ∈ es, ∃ l, S l ∧ p.1 = keyL l := fun p hpe => (h2.has p.1).1 (by rw [Maps.has_eq, List.any_eq_true]; exact ⟨p, hpe, WideAt.sameKey_self (hk p hpe)⟩)
  obtain ⟨L, l1, l2, l3⟩ := keys_list (S := S) (fun a b ha hb e => keyL_inj (by rw [(h2.low a ha).1]; exact h2.n4) (by rw [(h2.low a ha).1, (h2.low b hb).1]) (low_fit (h2.low a ha)) (low_fit (h2.low b hb)) e) es hp hmem
  refine ⟨L, l1, by rw [l2]; rfl, fun l => (l3 l).trans ⟨fun h => h.1, fun hs => ⟨hs, ?_⟩⟩⟩
  have := (h2.has (keyL l)).2 ⟨l, hs, rfl⟩
  rw [Maps.has_eq, List.any_eq_true] at this
  obtain ⟨p, hpe, e⟩ := this
  exact ⟨p, hpe, WideAt.sameKey_eq e⟩
theorem SetM.low {n : Nat} {w : World} {b : Nat} {S : List Int → Prop} (h : SetM n w b S) : n ≤ 4 ∧ ∀ l, S l → Low n l := by
  obtain ⟨D, _, h2⟩ := h
  exact ⟨h2.n4, h2.low⟩
theorem SetM.count {n : Nat} {w : World} {b : Nat} {S : List Int → Prop} (h : SetM n w b S) : mapSz w b ≤ 28561 := by
  obtain ⟨L, h1, h2, h3⟩ := h.list
  rw [← h2]
  exact low_count h.low.1 h1 (fun r hr => h.low.2 r ((h3 r).1 hr))
theorem SetM.grows {n n' : Nat} {w w' : World} {b b' : Nat} {S S' : List Int → Prop} (h : SetM n w b S) (h' : SetM n' w' b' S') (hs : ∀ l, S l → S' l) {x : List Int} (hx : S' x) (hn : ¬ S x) : mapSz w b < mapSz w' b' := by
  obtain ⟨L, h1, h2, h3⟩ := h.list
  obtain ⟨L', h1', h2', h3'⟩ := h'.list
  rw [← h2, ← h2']
  have hnd : (x :: L).Nodup := List.nodup_cons.2 ⟨fun hm => hn ((h3 x).1 hm), h1⟩
  have := List.Nodup.length_le_of_subset hnd (fun y hy => by
    rcases List.mem_cons.1 hy with rfl | hy
    · exact (h3' _).2 hx
    · exact (h3' y).2 (hs y ((h3 y).1 hy)))
  simp at this
  omega
theorem SetM.empty_iff {n : Nat} {w : World} {b : Nat} {S : List Int → Prop} (h : SetM n w b S) : mapSz w b = 0 ↔ ∀ l, ¬ S l := by
  obtain ⟨L, h1, h2, h3⟩ := h.list
  rw [← h2, List.length_eq_zero_iff]
  constructor
  · rintro rfl l hl
    exact absurd ((h3 l).2 hl) (by simp)
  · intro h0
    exact List.eq_nil_iff_forall_not_mem.2 fun l hl => h0 l ((h3 l).1 hl)
theorem SetM.lt {n : Nat} {w : World} {b : Nat} {S : List Int → Prop} (h : SetM n w b S) : b < w.heap.size := by
  obtain ⟨D, h1, _⟩ := h
  exact h1.lt
theorem SetM.kept {n : Nat} {w w' : World} {b : Nat} {S : List Int → Prop} {row : Option Nat} (h : SetM n w b S) (hg : w.grownBy w' row) (hne : some b ≠ row) : SetM n w' b S := by
  obtain ⟨D, h1, h2⟩ := h
  exact ⟨D, h1.kept hg hne, h2⟩
theorem SetM.below {n : Nat} {w w' : World} {b C : Nat} {S : List Int → Prop} (h : SetM n w b S) (hb : Below C w w') (hC : b < C) : SetM n w' b S := by
  obtain ⟨D, ⟨es, clock, h1, h2⟩, h3⟩ := h
  exact ⟨D, ⟨es, clock, (hb.block b hC).trans h1, h2⟩, h3⟩
theorem setM_made {n : Nat} (hn : n ≤ 4) (w : World) : SetM n (w.alloc (.map #[] 0)) w.heap.size (fun _ => False) :=
  ⟨.map [], World.ownsMap_made w _ _ _, hn, fun _ h => h.elim, fun kl => ⟨fun h => by simp [Maps.has] at h, fun ⟨_, h, _⟩ => h.elim⟩, fun kl h => by simp [Maps.has] at h⟩

/-! ### The operations -/
theorem rdB_true : rdB (.bool true) = some (.lit (.bool true), []) := plainElem_bool Try.underlying4 true
theorem SetM.put {n : Nat} {w : World} {b : Nat} {S : List Int → Prop} (h : SetM n w b S) {l : List Int} (hl : Low n l) :
    ∃ w', (Instr.mapUpdate 50 (.map (some b)) (keyV l) (.bool true)).run Try.prog w = .ok () w' ∧ SetM n w' b (fun x => S x ∨ x = l) ∧ w.grownBy w' (some b) := by
  have hc := h.count
  obtain ⟨D, h1, h2⟩ := h
  rw [own_size h1] at hc
  obtain ⟨w', hr, ho, hg⟩ := h1.update keyK Try.underlying50 (by unfold maxLen; omega) (keyOf_keyV (low_fit hl)) rdB_true
  refine ⟨w', hr, ⟨_, own_exact ho, h2.n4, ?_, fun kl => ?_, fun kl hk z => ?_⟩, hg⟩
  · rintro x (hx | rfl)
    · exact h2.low x hx
    · exact hl
  · by_cases e : kl = keyL l
    · subst e
      rw [Maps.has_put_same h1.isMap (keyL_key l)]
      exact ⟨fun _ => ⟨l, Or.inr rfl, rfl⟩, fun _ => rfl⟩
    · rw [Maps.has_put_other e, h2.has]
      constructor
      · rintro ⟨x, hx, e'⟩
        exact ⟨x, Or.inl hx, e'⟩
      · rintro ⟨x, hx | rfl, e'⟩
        · exact ⟨x, hx, e'⟩
        · exact absurd e' e
  · by_cases e : kl = keyL l
    · subst e
      rw [Maps.atKey_put_same h1.isMap (keyL_key l)]
    · rw [Maps.has_put_other e] at hk
      rw [Maps.atKey_put_other e]
      exact h2.yes kl hk z
theorem wpList_setPut {w : World} {ops : Array Oper} {rest : List Oper} {o : Oper} {a : Act} {Q : Exit → Act → World → Prop} (hg : o.guard = none) (m x v : Operand) (hop : o.op = Op.mapUpdate 50 m x v)
    {n b : Nat} {S : List Int → Prop} (h : SetM n w b S) {l : List Int} (hl : Low n l) (hm : a.eval m = .map (some b)) (hx : a.eval x = keyV l) (hv : a.eval v = .bool true)
    (hK : ∀ w', SetM n w' b (fun x => S x ∨ x = l) → w.grownBy w' (some b) → wpList Try.prog ops Q rest (a.put o.dst undef) w') : wpList Try.prog ops Q (o :: rest) a w := by
  refine wpList_plain hg fun K' hK' => ?_
  obtain ⟨w', hrun, r1, r2⟩ := h.put hl
  unfold Oper.wp
  simp [execOp, hop, hm, hx, hv, hrun, Result.andThen]
  exact hK' _ _ (hK w' r1 r2)
theorem zeroB (w : World) : (zeroValue 4).run Try.prog w = .ok (.bool false) w := by kernel_rfl
set_option maxRecDepth 100000 in
theorem rdB_inv {v : Value} {z : DataW Unit × List MemPlace} (h : rdB v = some z) : ∃ c, v = .bool c ∧ z.1 = .lit (.bool c) := by
  unfold rdB plainElem at h
  rw [Try.underlying4] at h
  cases v <;> simp at h
  subst h
  exact ⟨_, rfl, rfl⟩
theorem SetM.look {n : Nat} {w : World} {b : Nat} {S : List Int → Prop} (h : SetM n w b S) {l : List Int} (hl : l.length = n) (hf : Fit64 l) :
    ∃ c, (Instr.lookup 50 (.map (some b)) (keyV l) false).run Try.prog w = .ok (.bool c) w ∧ (c = true ↔ S l) := by
  obtain ⟨D, h1, h2⟩ := h
  obtain ⟨v, ps, hr, hv⟩ := h1.lookup keyK Try.underlying50 (zeroB w) (plainElem_bool Try.underlying4 false) (keyOf_keyV hf)
  obtain ⟨c, rfl, hc⟩ := rdB_inv hv
  refine ⟨c, hr, ?_⟩
  rw [← h2.at hl hf]
  cases hh : Maps.has D (keyL l) with
  | true =>
    rw [h2.yes _ hh] at hc
    simp at hc
    rw [← hc]
  | false =>
    rw [Maps.atKey_of_not_has hh] at hc
    simp at hc
    rw [← hc]
theorem SetM.len {n : Nat} {w : World} {b : Nat} {S : List Int → Prop} (h : SetM n w b S) (ty : TypeId) : (Builtin.len_ #[50] ty #[.map (some b)]).run Try.prog w = .ok (.int .i64 (mapSz w b)) w := by
  obtain ⟨D, h1, h2⟩ := h
  rw [own_size h1]
  exact h1.len Try.underlying50 ty
theorem SetM.clear {n : Nat} {w : World} {b : Nat} {S : List Int → Prop} (h : SetM n w b S) :
    ∃ w', (∀ ty, (Builtin.clear_ #[50] ty #[.map (some b)]).run Try.prog w = .ok (.tuple #[]) w') ∧ SetM n w' b (fun _ => False) ∧ w.grownBy w' (some b) ∧ w'.heap.size = w.heap.size := by
  obtain ⟨D, ⟨es, clock, hb, F, _, _⟩, h2⟩ := h
  refine ⟨ChangeMaps.setBlock w b (.map #[] clock), fun ty => ?_, ⟨.map [], ⟨#[], clock, ChangeMaps.heap_setBlock_same hb _, ⟨by simp, (MapKept.stamped_iff #[] clock).2 ⟨by simp, by simp, by simp⟩, by simp⟩, Nat.zero_le _, rfl⟩, h2.n4, fun _ h => h.elim, fun kl => ⟨fun h => by simp [Maps.has] at h, fun ⟨_, h, _⟩ => h.elim⟩, fun kl h => by simp [Maps.has] at h⟩, ⟨rfl, rfl, rfl, by simp [ChangeMaps.setBlock], fun i _ hi => ChangeMaps.heap_setBlock_other hb _ (fun e => hi (by rw [e]))⟩, by simp [ChangeMaps.setBlock]⟩
  simp [Builtin.clear_, run_underlying Try.underlying50, MapKept.run_getObj_map hb, MapKept.run_setObj_map _ hb, Result.andThen, ChangeMaps.setBlock]

/-! ### The range -/
/-- Under way over the set S: those in T are still to come. -/
def RngM (n : Nat) (w : World) (b r : Nat) (S T : List Int → Prop) (cnt : Nat) : Prop :=
  ∃ (D : DataW Unit) (left : Lit → Bool), w.ranges Try.prog 53 rdB b r (Maps.size D) D left cnt ∧ KeySet n D S ∧ ∀ l, T l ↔ (S l ∧ left (keyL l) = true)
theorem RngM.setM {n : Nat} {w : World} {b r : Nat} {S T : List Int → Prop} {cnt : Nat} (h : RngM n w b r S T cnt) : SetM n w b S := by
  obtain ⟨D, left, h1, h2, _⟩ := h
  exact ⟨D, h1.owns, h2⟩
theorem RngM.kept {n : Nat} {w w' : World} {b r : Nat} {S T : List Int → Prop} {cnt : Nat} {row : Option Nat} (h : RngM n w b r S T cnt) (hg : w.grownBy w' row) (hb : some b ≠ row) (hr : some r ≠ row) : RngM n w' b r S T cnt := by
  obtain ⟨D, left, h1, h2, h3⟩ := h
  exact ⟨D, left, h1.kept hg hb hr, h2, h3⟩
theorem RngM.left_eq {n : Nat} {w : World} {b r : Nat} {S T : List Int → Prop} {cnt : Nat} (h : RngM n w b r S T cnt) : w.rangeLeft b r = cnt := by
  obtain ⟨D, left, h1, _, _⟩ := h
  exact h1.left_eq
theorem RngM.lt {n : Nat} {w : World} {b r : Nat} {S T : List Int → Prop} {cnt : Nat} (h : RngM n w b r S T cnt) : r < w.heap.size ∧ r ≠ b := by
  obtain ⟨D, left, h1, _, _⟩ := h
  exact ⟨h1.lt, h1.ne⟩
theorem SetM.range {n : Nat} {w : World} {b : Nat} {S : List Int → Prop} (h : SetM n w b S) :
    ∃ w', (Instr.range 50 (.map (some b))).run Try.prog w = .ok (.pointer (some ⟨w.heap.size, 0, none⟩)) w' ∧ RngM n w' b w.heap.size S S (mapSz w b) ∧ w.grownBy w' none ∧ w'.heap.size = w.heap.size + 1 := by
  obtain ⟨D, h1, h2⟩ := h
  obtain ⟨w', hr, hrg, hg, hs⟩ := h1.range keyK Try.underlying50
  refine ⟨w', hr, ⟨D, _, by rw [own_size h1]; exact hrg, h2, fun l => ⟨fun hl => ⟨hl, (h2.has _).2 ⟨l, hl, rfl⟩⟩, fun hl => hl.1⟩⟩, hg, hs⟩
theorem wpList_setRange {w : World} {ops : Array Oper} {rest : List Oper} {o : Oper} {a : Act} {Q : Exit → Act → World → Prop} (hg : o.guard = none) (m : Operand) (hop : o.op = Op.range 50 m)
    {n b : Nat} {S : List Int → Prop} (h : SetM n w b S) (hm : a.eval m = .map (some b))
    (hK : ∀ w', RngM n w' b w.heap.size S S (mapSz w b) → w.grownBy w' none → w'.heap.size = w.heap.size + 1 → wpList Try.prog ops Q rest (a.put o.dst (.pointer (some ⟨w.heap.size, 0, none⟩))) w') : wpList Try.prog ops Q (o :: rest) a w := by
  refine wpList_plain hg fun K' hK' => ?_
  obtain ⟨w', hrun, r1, r2, r3⟩ := h.range
  unfold Oper.wp
  simp [execOp, hop, hm, hrun, Result.andThen]
  exact hK' _ _ (hK w' r1 r2 r3)
theorem wpList_setNext {w : World} {ops : Array Oper} {rest : List Oper} {o : Oper} {a : Act} {Q : Exit → Act → World → Prop} (hg : o.guard = none) (it : Operand) (hop : o.op = Op.next it false)
    {n b r : Nat} {S T : List Int → Prop} {cnt : Nat} (h : RngM n w b r S T cnt) (hit : a.eval it = .pointer (some ⟨r, 0, none⟩))
    (hDone : cnt = 0 → (∀ l, ¬ T l) → wpList Try.prog ops Q rest (a.put o.dst (.tuple #[.bool false])) w)
    (hMore : ∀ (l : List Int) (w' : World) (cnt' : Nat), T l → RngM n w' b r S (fun x => T x ∧ x ≠ l) cnt' → cnt' < cnt → w.grownBy w' (some r) → w'.heap.size = w.heap.size →
      (Instr.entry (.pointer (some ⟨r, 0, none⟩))).run Try.prog w' = .ok (.tuple #[keyV l, .bool true]) w' → wpList Try.prog ops Q rest (a.put o.dst (.tuple #[.bool true, keyV l, .bool true])) w') :
    wpList Try.prog ops Q (o :: rest) a w := by
  obtain ⟨D, left, h1, h2, h3⟩ := h
  refine wpList_plain hg fun K' hK' => ?_
  unfold Oper.wp
  rcases h1.next keyK o.type with ⟨h0, hl, hrun⟩ | ⟨key, v, kl, y, w', cnt', hkey, hlk, hv, hat, hrun, hrg, hlt, hgr, hsz, hen⟩
  · simp [execOp, hop, hit, hrun, Result.andThen]
    exact hK' _ _ (hDone h0 fun l hT => by have := ((h3 l).1 hT).2; rw [hl] at this; exact absurd this (by simp))
  · have hh := Maps.has_true_of_atKey hat
    obtain ⟨l, hS, rfl⟩ := (h2.has kl).1 hh
    have hlow := h2.low l hS
    obtain rfl : key = keyV l := keyK.inj hkey (keyOf_keyV (low_fit hlow))
    obtain ⟨c, rfl, hc⟩ := rdB_inv hv
    have hc1 : c = true := by
      have h4 := h2.yes _ hh .nil
      rw [hat, hc] at h4
      simpa using h4
    subst hc1
    simp [execOp, hop, hit, hrun, Result.andThen]
    refine hK' _ _ (hMore l w' cnt' ((h3 l).2 ⟨hS, hlk⟩) ⟨D, _, hrg, h2, fun x => ?_⟩ hlt hgr hsz hen)
    constructor
    · rintro ⟨hT, hne⟩
      obtain ⟨hSx, hlx⟩ := (h3 x).1 hT
      have hlx' := h2.low x hSx
      refine ⟨hSx, ?_⟩
      show (left (keyL x) && !(keyL x).sameKey (keyL l)) = true
      have : (keyL x).sameKey (keyL l) = false := Maps.sameKey_ne fun e => hne (keyL_inj (by rw [hlx'.1]; exact h2.n4) (by rw [hlx'.1, hlow.1]) (low_fit hlx') (low_fit hlow) e)
      rw [hlx, this]; rfl
    · rintro ⟨hSx, hlx⟩
      have hlx2 : (left (keyL x) && !(keyL x).sameKey (keyL l)) = true := hlx
      rw [Bool.and_eq_true] at hlx2
      refine ⟨(h3 x).2 ⟨hSx, hlx2.1⟩, fun e => ?_⟩
      rw [e, WideAt.sameKey_self (keyL_key l)] at hlx2
      simp at hlx2
end Go.Proofs.Ytlbgblkoddlhnaa
