/-
  A law whose row lists one package-level variable, an array of strings: the variable reads as it read; what its cells hold; that the heap of the door meets the row's condition.
  The table of shapes that the program builds in a map: what the call leaves, and what a look-up yields.
-/
import Derived.Test.YtcmnkhblnlmfpaaGreatDoorRows
import Derived.ChangeVars
import Derived.LaidMore
import Derived.OpenShut
import Derived.Stop.Joined
import Derived.Lib.LaidTab
import Derived.Stop.LaidErr
import Derived.Below
import Derived.Test.YtcmnkhblnlmfpaaGreatDoorFC22
import Derived.Maps.Own
import Derived.Test.YtcmnkhblnlmfpaaGreatDoorFC18
import Derived.Test.YtcmnkhblnlmfpaaGreatDoorFC19
namespace Go.Proofs.YtcmnkhblnlmfpaaGreatDoor
open Go.ChangeShapes Go.WideShapes Go.ChangeAt Go.ChangeMaps Go.RowKit

/-! ### What a law leaves behind when its row lists one variable -/
theorem var_below {P : Program} {W W' : World} {n : String} {cs : Array Value} (h : W.var? P n = some cs) (hb : Below W.heap.size W W') : W'.var? P n = some cs := by
  unfold World.var? at h ⊢
  cases hg : P.globalNamed n with
  | none => rw [hg] at h; exact h
  | some g =>
    rw [hg] at h
    simp only [Option.bind_some] at h ⊢
    have hlt : g < W.heap.size := by
      cases hh : W.heap[g]? with
      | none => rw [hh] at h; cases h
      | some o => exact (Array.getElem?_eq_some_iff.1 hh).1
    rw [hb.block g hlt]; exact h
theorem law_post1 {H : Type} {enc : TypeId × Value → H} {P : Program} {f : Func} {s : ChangeSpec} {W W' : World} {args : Array Value} {ds gs : List (DataW H)} {before : List MemPlace} {tb : TypeId} {n : String} {g0 : Nat} {t0 : TypeId}
    (hl : laidOutB P = true) (hr : rowed P f.params.toList = true) (hv : s.vars = [n]) (hg0 : P.globalNamed n = some g0) (ht0 : (P.globals[g0]?).map (·.type) = some t0) (hr0 : rowed P [t0] = true)
    (hres : f.resultTypes = #[tb]) (htb : P.underlying tb = some .bool)
    (hW : DataW.Whole enc P f.params.toList s.vars false W args.toList ds gs before)
    (hfn : ∀ g, gs = [g] → s.fn H (ds ++ gs) = { results := [.lit (.bool true)], args := ds, vars := gs }) (hb : Below W.heap.size W W') :
    s.post enc P f false true false false W args (.bool true) W' := by
  have hlt : ∀ p ∈ before, p.block < W.heap.size := fun p hp => hW.lt p hp
  have hW0 := hW
  obtain ⟨p, q, hA, hV, rfl, hz, -⟩ := hW
  have hV0 := hV
  rw [hv] at hV0
  obtain ⟨g, t, cs, fuel, d, p1, rfl, h1, h2, h3, h4, rfl⟩ := trodVars_one hV0
  obtain rfl := Option.some.inj (hg0.symm.trans h1)
  obtain rfl := Option.some.inj (ht0.symm.trans h2)
  have hfn' := hfn d rfl
  have hrl : (Value.bool true).resultList f.resultTypes.size = [.bool true] := by rw [hres]; rfl
  have hR : ∀ (b : Nat) (sp : Nat → Bool) (hd : Bool), DataW.TrodAll enc P W' b sp hd f.resultTypes.toList ((Value.bool true).resultList f.resultTypes.size) (s.fn H (ds ++ [d])).results [] := by
    intro b sp hd
    rw [hrl, hres, hfn']
    exact trodAll_mk1 (shut_bool htb true)
  have hA' : ∀ sp : Nat → Bool, (∀ x ∈ p, sp x.block = true) → DataW.TrodAll enc P W' 0 sp true f.params.toList args.toList (s.fn H (ds ++ [d])).args p := by
    intro sp hs
    rw [hfn']
    exact stays_all hl hb sp hr (fun x hx => hlt x (by simp [hx])) hs hA
  simp only [rowed, List.all_cons, List.all_nil, Bool.and_true, Bool.and_eq_true, decide_eq_true_eq] at hr0
  have hV' : ∀ sp : Nat → Bool, (∀ x ∈ p1, sp x.block = true) → DataW.TrodVars enc P W' sp s.vars (s.fn H (ds ++ [d])).vars (MemPlace.row ⟨g0, 0, none⟩ cs.size ++ p1) := by
    intro sp hs
    rw [hfn', hv]
    have hst := WideElems.Trod_stays hl hr0.1 hr0.2 (v := .agg cs) (sp' := sp) ⟨fuel, h4⟩ (fun x hx => hb.same (hlt x (by simp [hx]))) hs
    obtain ⟨fuel', h5⟩ := hst
    exact trodVars_mk1 hg0 ht0 (var_below h3 hb) h5
  refine ⟨ds, [d], p ++ (MemPlace.row ⟨g0, 0, none⟩ cs.size ++ p1), [], p, MemPlace.row ⟨g0, 0, none⟩ cs.size ++ p1, hW0, hR _ _ _, hA' _ (fun x hx => by simpa using hlt x (by simp [hx])), hV' _ (fun x hx => by simpa using hlt x (by simp [hx])), World.keptBut_mono (fun x hx => ?_) (hb.frame (· ∈ p ++ (MemPlace.row ⟨g0, 0, none⟩ cs.size ++ p1))), fun h => by cases h⟩
  refine ⟨hx, ?_⟩
  rcases List.mem_append.1 hx with h | h
  · exact Or.inr (Or.inl h)
  · exact Or.inr (Or.inr h)

/-! ### What the listed variable holds -/
theorem cells_of_strs {H : Type} {enc : TypeId × Value → H} {P : Program} {w : World} {base : Nat} {sp : Nat → Bool} {held : Bool} {fuel : Nat} {t e : TypeId} {n : Nat} {cs : List Value} {zs : List (List UInt8)} {p : List MemPlace}
    (ht : P.underlying t = some (.array n e)) (he : P.underlying e = some .string) (hce : P.cellsOf e = 1) (hct : P.cellsOf t = n)
    (h : DataW.trod enc P w base sp held fuel t cs = some (.agg (zs.map fun z => .lit (.string z)), p)) : cs = zs.map fun z => Value.string ⟨z.toArray⟩ := by
  cases fuel with
  | zero => simp [DataW.trod] at h
  | succ fuel =>
    simp only [DataW.trod, ht, hce, hct, Nat.mul_one] at h
    split at h
    · rename_i hl
      obtain ⟨xs, hm, hx⟩ := Option.map_eq_some_iff.1 h
      have hxs : xs.map (·.1) = zs.map fun z => (DataW.lit (.string z) : DataW H) := by
        have := congrArg Prod.fst hx
        simpa using this
      have hxl : xs.length = n := by simpa using Lib.mapM_length hm
      have hzl : zs.length = n := by
        have := congrArg List.length hxs
        simp at this
        omega
      apply List.ext_getElem?
      intro i
      by_cases hi : i < n
      · obtain ⟨b, hb, hf⟩ := Lib.mapM_at hm i i (by simp [hi])
        obtain ⟨z, hc, rfl, _⟩ := DataW.trod_string he hf
        have h1 : cs[i]? = some (.string z) := by
          have := congrArg (·[0]?) hc
          simpa [List.getElem?_take, List.getElem?_drop] using this
        have h2 : (xs.map (·.1))[i]? = some (DataW.lit (.string z.data.toList) : DataW H) := by simp [hb]
        rw [hxs] at h2
        simp only [List.getElem?_map, Option.map_eq_some_iff, DataW.lit.injEq, Lit.string.injEq] at h2
        obtain ⟨z', hz', he'⟩ := h2
        have hz : z = ⟨z'.toArray⟩ := by rw [he']
        simp [h1, hz', hz]
      · rw [List.getElem?_eq_none (by omega), List.getElem?_eq_none (by simp; omega)]
    · cases h

/-- The variable holds the names of the chapter. -/
def NamesIs (w : World) (ns : List (List UInt8)) : Prop := w.var? Tryz.prog "loop.example/g02076/impl.partNames" = some (ns.map fun z => Value.string ⟨z.toArray⟩).toArray
theorem NamesIs.below {W W' : World} {ns : List (List UInt8)} (h : NamesIs W ns) (hb : Below W.heap.size W W') : NamesIs W' ns := var_below h hb
end Go.Proofs.YtcmnkhblnlmfpaaGreatDoor
namespace Go.Proofs.YtcmnkhblnlmfpaaGreatDoor
open Go.RowKit

def flatC (ch : Chg) : List Value := ch.flatMap fun c => [.int .i64 (c.1 : Int), .int .i64 (c.2.1 : Int), .int .i64 c.2.2]
def ChAt (w : World) (r : Nat) (v : Value) (ch : Chg) : Prop :=
  (ch = [] ∧ v = .slice none 0 0) ∨ ∃ b, b ≠ r ∧ v = .slice (some ⟨b, 0, none⟩) ch.length ch.length ∧ w.heap[b]? = some (.cells (flatC ch).toArray 100 (0, 0))
def ShapesAt (w : World) (r : Nat) (T : ShTab) : Prop :=
  ∃ es clock, w.heap[r]? = some (.map es clock) ∧ es.toList.map (·.key) = T.map (fun p => Value.string ⟨p.1.toArray⟩) ∧
    ∀ i (h : i < T.length), ∃ e chv, es[i]? = some e ∧ e.val = .agg #[.int .i64 (T[i].2.1 : Int), chv] ∧ ChAt w r chv T[i].2.2

theorem ChAt.kept {w w' : World} {r : Nat} {v : Value} {ch : Chg} (h : ChAt w r v ch) (hk : ∀ b, b < w.heap.size → b ≠ r → w'.heap[b]? = w.heap[b]?) : ChAt w' r v ch := by
  rcases h with h | ⟨b, h1, h2, h3⟩
  · exact Or.inl h
  · exact Or.inr ⟨b, h1, h2, by rw [hk b (Array.getElem?_eq_some_iff.1 h3).1 h1]; exact h3⟩
theorem ShapesAt.lt {w : World} {r : Nat} {T : ShTab} (h : ShapesAt w r T) : r < w.heap.size := by
  obtain ⟨es, clock, h1, _⟩ := h
  exact (Array.getElem?_eq_some_iff.1 h1).1
theorem ShapesAt.alloc {w : World} {r : Nat} {T : ShTab} (h : ShapesAt w r T) (o : Obj) : ShapesAt (w.alloc o) r T := by
  have hlt := h.lt
  obtain ⟨es, clock, h1, h2, h3⟩ := h
  refine ⟨es, clock, by rw [(MapKept.heap_alloc w o).2 r hlt]; exact h1, h2, fun i hi => ?_⟩
  obtain ⟨e, chv, h4, h5, h6⟩ := h3 i hi
  exact ⟨e, chv, h4, h5, h6.kept (fun b hb _ => (MapKept.heap_alloc w o).2 b hb)⟩
theorem ShapesAt.step {w w' : World} {r : Nat} {T : ShTab} (h : ShapesAt w r T) (hb : Below w.heap.size w w') : ShapesAt w' r T := by
  have hlt := h.lt
  obtain ⟨es, clock, h1, h2, h3⟩ := h
  refine ⟨es, clock, by rw [hb.block r hlt]; exact h1, h2, fun i hi => ?_⟩
  obtain ⟨e, chv, h4, h5, h6⟩ := h3 i hi
  exact ⟨e, chv, h4, h5, h6.kept (fun b hbb _ => hb.block b hbb)⟩
theorem chAt_new (w : World) (r : Nat) (hr : r < w.heap.size) (ch : Chg) (n : Nat) (hn : n = ch.length) (cs : Array Value) (hcs : cs = (flatC ch).toArray) :
    ChAt (w.alloc (.cells cs 100)) r (.slice (some ⟨w.heap.size, 0, none⟩) n n) ch := by
  subst hn; subst hcs
  exact Or.inr ⟨w.heap.size, by omega, rfl, (MapKept.heap_alloc w _).1⟩

theorem same_no {s k : ByteArray} (h : k ≠ s) : Instr.sameNow .string (.string s) (.string k) = some false := by
  obtain ⟨r, h1, h2⟩ := MapKept.sameNow_of_keys (d := .string) (a := .string s) (b := .string k) trivial trivial
  rw [h1]
  cases r with
  | false => rfl
  | true =>
    have h3 := h2.1 rfl
    injection h3 with h3
    exact absurd h3.symm h
theorem same_yes (s : ByteArray) : Instr.sameNow .string (.string s) (.string s) = some true := by
  obtain ⟨r, h1, h2⟩ := MapKept.sameNow_of_keys (d := .string) (a := .string s) (b := .string s) trivial trivial
  rw [h1, h2.2 rfl]
theorem chAt_nil (w : World) (r : Nat) : ChAt w r (.slice none 0 0) [] := Or.inl ⟨rfl, rfl⟩
theorem findNow_miss (s : ByteArray) : ∀ (es : List MapEntry) (i : Nat), (∀ x ∈ es, ∃ k, x.key = .string k ∧ k ≠ s) → Instr.findNow .string (.string s) es i = some none
  | [], _, _ => rfl
  | x :: es, i, h => by
    obtain ⟨k, h1, h2⟩ := h x (by simp)
    unfold Instr.findNow
    rw [h1, same_no h2]
    exact findNow_miss s es (i + 1) (fun y hy => h y (by simp [hy]))
theorem findNow_hit (s : ByteArray) : ∀ (es : List MapEntry) (i j : Nat) (e : MapEntry), es[j]? = some e → e.key = .string s → (∀ k x, k < j → es[k]? = some x → ∃ t, x.key = .string t ∧ t ≠ s) → Instr.findNow .string (.string s) es i = some (some (i + j, e.val))
  | [], _, _, _, h, _, _ => by simp at h
  | x :: es, i, 0, e, h, hk, _ => by
    obtain rfl : x = e := by simpa using h
    unfold Instr.findNow
    rw [hk, same_yes]
    rfl
  | x :: es, i, j + 1, e, h, hk, hb => by
    obtain ⟨t, h1, h2⟩ := hb 0 x (by omega) (by simp)
    have h' : es[j]? = some e := by simpa using h
    unfold Instr.findNow
    rw [h1, same_no h2]
    show Instr.findNow .string (.string s) es (i + 1) = _
    rw [findNow_hit s es (i + 1) j e h' hk (fun k y hk' hy => hb (k + 1) y (by omega) (by simpa using hy))]
    congr 2
    congr 1
    omega

theorem check_key {P : Program} {w : World} {k : TypeId} (hk : P.underlying k = some .string) (s : ByteArray) (c : Bool) : (Instr.checkKey c 10000 k (.string s)).run P w = .ok () w :=
  MapKept.run_checkKey (n := 9999) (k := .string s) hk trivial c
theorem run_insert_new {P : Program} {w : World} {t k e : TypeId} (ht : P.underlying t = some (.map k e)) (hk : P.underlying k = some .string) {r : Nat} {es : Array MapEntry} {clock : Nat} (hb : w.heap[r]? = some (.map es clock))
    (key : ByteArray) (v : Value) (hnew : ∀ x ∈ es.toList, ∃ s, x.key = .string s ∧ s ≠ key) :
    (Instr.mapUpdate t (.map (some r)) (.string key) v).run P w = .ok () { w with heap := w.heap.setIfInBounds r (.map (es.push { key := .string key, val := v, born := clock }) (clock + 1)) } := by
  have hf := findNow_miss key es.toList 0 hnew
  simp [Instr.mapUpdate, run_underlying ht, run_underlying hk, MapKept.run_getObj_map hb, check_key hk, Instr.findKey, hf, MapKept.run_setObj_map _ hb, Result.andThen]

theorem keys_new {es : Array MapEntry} {T : ShTab} (h : es.toList.map (·.key) = T.map (fun p => Value.string ⟨p.1.toArray⟩)) {key : List UInt8} (hn : Fresh T key) : ∀ x ∈ es.toList, ∃ s, x.key = .string s ∧ s ≠ ⟨key.toArray⟩ := by
  intro x hx
  have hm : x.key ∈ es.toList.map (·.key) := List.mem_map.2 ⟨x, hx, rfl⟩
  rw [h] at hm
  obtain ⟨p, hp, he⟩ := List.mem_map.1 hm
  refine ⟨_, he.symm, fun e => hn p hp ?_⟩
  have e2 : p.1.toArray = key.toArray := congrArg ByteArray.data e
  exact congrArg Array.toList e2
theorem shapes_len {es : Array MapEntry} {T : ShTab} (h : es.toList.map (·.key) = T.map (fun p => Value.string ⟨p.1.toArray⟩)) : es.size = T.length := by
  have := congrArg List.length h
  simpa using this

/-- A new entry of the table. -/
theorem insert_shape {w : World} {r : Nat} {T : ShTab} {chv : Value} (hS : ShapesAt w r T) (key : List UInt8) (n : Nat) (N : Int) (hN : N = (n : Int)) (ch : Chg) (hnew : Fresh T key) (hch : ChAt w r chv ch) :
    ∃ w', (Instr.mapUpdate 97 (.map (some r)) (.string ⟨key.toArray⟩) (.agg #[.int .i64 N, chv])).run Tryz.prog w = .ok () w' ∧ ShapesAt w' r (T ++ [(key, n, ch)]) ∧
      (∀ W C, C ≤ r → Below C W w → Below C W w') ∧ w'.heap.size = w.heap.size := by
  subst hN
  have hlt := hS.lt
  obtain ⟨es, clock, h1, h2, h3⟩ := hS
  have hrun := run_insert_new Tryz.underlying97 Tryz.underlying9 h1 ⟨key.toArray⟩ (.agg #[.int .i64 (n : Int), chv]) (keys_new h2 hnew)
  have hsz := shapes_len h2
  have hk : ∀ b, b < w.heap.size → b ≠ r → (w.heap.setIfInBounds r (.map (es.push { key := .string ⟨key.toArray⟩, val := .agg #[.int .i64 (n : Int), chv], born := clock }) (clock + 1)))[b]? = w.heap[b]? := fun b _ hne => by
    rw [Array.getElem?_setIfInBounds_ne (fun e => hne e.symm)]
  refine ⟨_, hrun, ⟨es.push { key := .string ⟨key.toArray⟩, val := .agg #[.int .i64 (n : Int), chv], born := clock }, clock + 1, ?_, ?_, fun i hi => ?_⟩, fun W C hC hb => ?_, by simp⟩
  · show (w.heap.setIfInBounds r _)[r]? = _
    rw [Array.getElem?_setIfInBounds_self_of_lt hlt]
  · simp [h2]
  · by_cases hi' : i < T.length
    · obtain ⟨e, cv, h4, h5, h6⟩ := h3 i hi'
      rw [List.getElem_append_left hi']
      refine ⟨e, cv, ?_, h5, h6.kept hk⟩
      rw [Array.getElem?_push, if_neg (by omega)]
      exact h4
    · have hi2 : i = T.length := by simp at hi; omega
      subst hi2
      rw [List.getElem_append_right (Nat.le_refl _)]
      simp only [Nat.sub_self, List.getElem_cons_zero]
      exact ⟨_, chv, by rw [Array.getElem?_push, if_pos hsz.symm], rfl, hch.kept hk⟩
  · exact hb.trans ⟨rfl, rfl, rfl, by simp, fun k hk' => by
      show (w.heap.setIfInBounds r _)[k]? = _
      rw [Array.getElem?_setIfInBounds_ne (by omega)]⟩

/-- A look-up in the table. -/
theorem look_hit {w : World} {r : Nat} {T : ShTab} (hS : ShapesAt w r T) (i : Nat) (hi : i < T.length) (hd : ∀ k (h : k < i), T[k].1 ≠ T[i].1) :
    ∃ chv, ChAt w r chv T[i].2.2 ∧ (Instr.lookup 97 (.map (some r)) (.string ⟨T[i].1.toArray⟩) true).run Tryz.prog w = .ok (.tuple #[.agg #[.int .i64 (T[i].2.1 : Int), chv], .bool true]) w := by
  obtain ⟨es, clock, h1, h2, h3⟩ := hS
  obtain ⟨e, chv, h4, h5, h6⟩ := h3 i hi
  have hkey : ∀ j : Nat, (es.toList.map (·.key))[j]? = (T.map (fun p => Value.string ⟨p.1.toArray⟩))[j]? := fun j => by rw [h2]
  have hke : e.key = .string ⟨T[i].1.toArray⟩ := by
    have := hkey i
    rw [List.getElem?_map, List.getElem?_map, List.getElem?_eq_getElem hi] at this
    have h4' : es.toList[i]? = some e := by simpa using h4
    rw [h4'] at this
    simpa using this
  have hf := findNow_hit ⟨T[i].1.toArray⟩ es.toList 0 i e (by simpa using h4) hke (fun k x hk hx => by
    have := hkey k
    rw [List.getElem?_map, List.getElem?_map, hx, List.getElem?_eq_getElem (show k < T.length by omega)] at this
    refine ⟨_, by simpa using this, fun e => hd k hk ?_⟩
    exact congrArg Array.toList (congrArg ByteArray.data e))
  refine ⟨chv, h6, ?_⟩
  simp [Instr.lookup, run_underlying Tryz.underlying97, run_underlying Tryz.underlying9, MapKept.run_getObj_map h1, check_key Tryz.underlying9, Instr.findKey, hf, Result.andThen, h5]
theorem look_miss {w : World} {r : Nat} {T : ShTab} (hS : ShapesAt w r T) (s : ByteArray) (hs : Fresh T s.data.toList) :
    (Instr.lookup 97 (.map (some r)) (.string s) true).run Tryz.prog w = .ok (.tuple #[.agg #[.int .i64 0, .slice none 0 0], .bool false]) w := by
  obtain ⟨es, clock, h1, h2, h3⟩ := hS
  have hz : (zeroValue 95).run Tryz.prog w = .ok (.agg #[.int .i64 0, .slice none 0 0]) w := by kernel_rfl
  have hf := findNow_miss s es.toList 0 (by simpa using keys_new h2 hs)
  simp [Instr.lookup, run_underlying Tryz.underlying97, run_underlying Tryz.underlying9, MapKept.run_getObj_map h1, check_key Tryz.underlying9, Instr.findKey, hf, Result.andThen, hz]
end Go.Proofs.YtcmnkhblnlmfpaaGreatDoor
