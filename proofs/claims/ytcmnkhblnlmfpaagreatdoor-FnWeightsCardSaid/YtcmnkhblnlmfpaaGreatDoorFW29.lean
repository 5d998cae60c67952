/-
  The table of shapes that the program builds in a map: what the call leaves, and what a look-up yields.
  The table of shapes that the program builds in a map: what the call leaves.
  TypeCartan of the program: what the call returns.
-/
import Derived.Maps.Own
import Derived.Test.YtcmnkhblnlmfpaaGreatDoorFW09
import Derived.Test.YtcmnkhblnlmfpaaGreatDoorFW10
import Derived.RegionTactic
import Derived.ChangeAlike
namespace Go.Proofs.YtcmnkhblnlmfpaaGreatDoor
open Go.RowKit

def flatC (ch : Chg) : List Value := ch.flatMap fun c => [.int .i64 (c.1 : Int), .int .i64 (c.2.1 : Int), .int .i64 c.2.2]
def ChAt (w : World) (r : Nat) (v : Value) (ch : Chg) : Prop :=
  (ch = [] ∧ v = .slice none 0 0) ∨ ∃ b, b ≠ r ∧ v = .slice (some ⟨b, 0, none⟩) ch.length ch.length ∧ w.heap[b]? = some (.cells (flatC ch).toArray 100 (0, 0))
def ShapesAt (w : World) (r : Nat) (T : ShTab) : Prop :=
  ∃ es clock, w.heap[r]? = some (.map es clock) ∧ es.toList.map (·.key) = T.map (fun p => Value.string ⟨p.1.toArray⟩) ∧
    ∀ i (h : i < T.length), ∃ e chv, es[i]? = some e ∧ e.val = .agg #[.int .i64 (T[i].2.1 : Int), chv] ∧ ChAt w r chv T[i].2.2

theorem ChAt.kept {w w' : World} {r : Nat} {v : Value} {ch : Chg} (h : ChAt w r v ch) (hk : ∀ b, b < w.heap.size → b ≠ r → w'.heap[b]? = w.heap[b]?) : ChAt w' r v ch := by
  rcases h with h | ⟨b, h1, h2, h3⟩
  · exact Or.inl h
  · exact Or.inr ⟨b, h1, h2, by rw [hk b (Array.getElem?_eq_some_iff.1 h3).1 h1]; exact h3⟩
theorem ShapesAt.lt {w : World} {r : Nat} {T : ShTab} (h : ShapesAt w r T) : r < w.heap.size := by
  obtain ⟨es, clock, h1, _⟩ := h
  exact (Array.getElem?_eq_some_iff.1 h1).1
theorem ShapesAt.alloc {w : World} {r : Nat} {T : ShTab} (h : ShapesAt w r T) (o : Obj) : ShapesAt (w.alloc o) r T := by
  have hlt := h.lt
  obtain ⟨es, clock, h1, h2, h3⟩ := h
  refine ⟨es, clock, by rw [(MapKept.heap_alloc w o).2 r hlt]; exact h1, h2, fun i hi => ?_⟩
  obtain ⟨e, chv, h4, h5, h6⟩ := h3 i hi
  exact ⟨e, chv, h4, h5, h6.kept (fun b hb _ => (MapKept.heap_alloc w o).2 b hb)⟩
theorem ShapesAt.step {w w' : World} {r : Nat} {T : ShTab} (h : ShapesAt w r T) (hb : Below w.heap.size w w') : ShapesAt w' r T := by
  have hlt := h.lt
  obtain ⟨es, clock, h1, h2, h3⟩ := h
  refine ⟨es, clock, by rw [hb.block r hlt]; exact h1, h2, fun i hi => ?_⟩
  obtain ⟨e, chv, h4, h5, h6⟩ := h3 i hi
  exact ⟨e, chv, h4, h5, h6.kept (fun b hbb _ => hb.block b hbb)⟩
theorem chAt_new (w : World) (r : Nat) (hr : r < w.heap.size) (ch : Chg) (n : Nat) (hn : n = ch.length) (cs : Array Value) (hcs : cs = (flatC ch).toArray) :
    ChAt (w.alloc (.cells cs 100)) r (.slice (some ⟨w.heap.size, 0, none⟩) n n) ch := by
  subst hn; subst hcs
  exact Or.inr ⟨w.heap.size, by omega, rfl, (MapKept.heap_alloc w _).1⟩

theorem same_no {s k : ByteArray} (h : k ≠ s) : Instr.sameNow .string (.string s) (.string k) = some false := by
  obtain ⟨r, h1, h2⟩ := MapKept.sameNow_of_keys (d := .string) (a := .string s) (b := .string k) trivial trivial
  rw [h1]
  cases r with
  | false => rfl
  | true =>
    have h3 := h2.1 rfl
    injection h3 with h3
    exact absurd h3.symm h
theorem same_yes (s : ByteArray) : Instr.sameNow .string (.string s) (.string s) = some true := by
  obtain ⟨r, h1, h2⟩ := MapKept.sameNow_of_keys (d := .string) (a := .string s) (b := .string s) trivial trivial
  rw [h1, h2.2 rfl]
theorem chAt_nil (w : World) (r : Nat) : ChAt w r (.slice none 0 0) [] := Or.inl ⟨rfl, rfl⟩
theorem findNow_miss (s : ByteArray) : ∀ (es : List MapEntry) (i : Nat), (∀ x ∈ es, ∃ k, x.key = .string k ∧ k ≠ s) → Instr.findNow .string (.string s) es i = some none
  | [], _, _ => rfl
  | x :: es, i, h => by
    obtain ⟨k, h1, h2⟩ := h x (by simp)
    unfold Instr.findNow
    rw [h1, same_no h2]
    exact findNow_miss s es (i + 1) (fun y hy => h y (by simp [hy]))
theorem findNow_hit (s : ByteArray) : ∀ (es : List MapEntry) (i j : Nat) (e : MapEntry), es[j]? = some e → e.key = .string s → (∀ k x, k < j → es[k]? = some x → ∃ t, x.key = .string t ∧ t ≠ s) → Instr.findNow .string (.string s) es i = some (some (i + j, e.val))
  | [], _, _, _, h, _, _ => by simp at h
  | x :: es, i, 0, e, h, hk, _ => by
    obtain rfl : x = e := by simpa using h
    unfold Instr.findNow
    rw [hk, same_yes]
    rfl
  | x :: es, i, j + 1, e, h, hk, hb => by
    obtain ⟨t, h1, h2⟩ := hb 0 x (by omega) (by simp)
    have h' : es[j]? = some e := by simpa using h
    unfold Instr.findNow
    rw [h1, same_no h2]
    show Instr.findNow .string (.string s) es (i + 1) = _
    rw [findNow_hit s es (i + 1) j e h' hk (fun k y hk' hy => hb (k + 1) y (by omega) (by simpa using hy))]
    congr 2
    congr 1
    omega

theorem check_key {P : Program} {w : World} {k : TypeId} (hk : P.underlying k = some .string) (s : ByteArray) (c : Bool) : (Instr.checkKey c 10000 k (.string s)).run P w = .ok () w :=
  MapKept.run_checkKey (n := 9999) (k := .string s) hk trivial c
theorem run_insert_new {P : Program} {w : World} {t k e : TypeId} (ht : P.underlying t = some (.map k e)) (hk : P.underlying k = some .string) {r : Nat} {es : Array MapEntry} {clock : Nat} (hb : w.heap[r]? = some (.map es clock))
    (key : ByteArray) (v : Value) (hnew : ∀ x ∈ es.toList, ∃ s, x.key = .string s ∧ s ≠ key) :
    (Instr.mapUpdate t (.map (some r)) (.string key) v).run P w = .ok () { w with heap := w.heap.setIfInBounds r (.map (es.push { key := .string key, val := v, born := clock }) (clock + 1)) } := by
  have hf := findNow_miss key es.toList 0 hnew
  simp [Instr.mapUpdate, run_underlying ht, run_underlying hk, MapKept.run_getObj_map hb, check_key hk, Instr.findKey, hf, MapKept.run_setObj_map _ hb, Result.andThen]

theorem keys_new {es : Array MapEntry} {T : ShTab} (h : es.toList.map (·.key) = T.map (fun p => Value.string ⟨p.1.toArray⟩)) {key : List UInt8} (hn : Fresh T key) : ∀ x ∈ es.toList, ∃ s, x.key = .string s ∧ s ≠ ⟨key.toArray⟩ := by
  intro x hx
  have hm : x.key ∈ es.toList.map (·.key) := List.mem_map.2 ⟨x, hx, rfl⟩
  rw [h] at hm
  obtain ⟨p, hp, he⟩ := List.mem_map.1 hm
  refine ⟨_, he.symm, fun e => hn p hp ?_⟩
  have e2 : p.1.toArray = key.toArray := congrArg ByteArray.data e
  exact congrArg Array.toList e2
theorem shapes_len {es : Array MapEntry} {T : ShTab} (h : es.toList.map (·.key) = T.map (fun p => Value.string ⟨p.1.toArray⟩)) : es.size = T.length := by
  have := congrArg List.length h
  simpa using this

/-- A new entry of the table. -/
theorem insert_shape {w : World} {r : Nat} {T : ShTab} {chv : Value} (hS : ShapesAt w r T) (key : List UInt8) (n : Nat) (N : Int) (hN : N = (n : Int)) (ch : Chg) (hnew : Fresh T key) (hch : ChAt w r chv ch) :
    ∃ w', (Instr.mapUpdate 97 (.map (some r)) (.string ⟨key.toArray⟩) (.agg #[.int .i64 N, chv])).run Tryz.prog w = .ok () w' ∧ ShapesAt w' r (T ++ [(key, n, ch)]) ∧
      (∀ W C, C ≤ r → Below C W w → Below C W w') ∧ w'.heap.size = w.heap.size := by
  subst hN
  have hlt := hS.lt
  obtain ⟨es, clock, h1, h2, h3⟩ := hS
  have hrun := run_insert_new Tryz.underlying97 Tryz.underlying9 h1 ⟨key.toArray⟩ (.agg #[.int .i64 (n : Int), chv]) (keys_new h2 hnew)
  have hsz := shapes_len h2
  have hk : ∀ b, b < w.heap.size → b ≠ r → (w.heap.setIfInBounds r (.map (es.push { key := .string ⟨key.toArray⟩, val := .agg #[.int .i64 (n : Int), chv], born := clock }) (clock + 1)))[b]? = w.heap[b]? := fun b _ hne => by
    rw [Array.getElem?_setIfInBounds_ne (fun e => hne e.symm)]
  refine ⟨_, hrun, ⟨es.push { key := .string ⟨key.toArray⟩, val := .agg #[.int .i64 (n : Int), chv], born := clock }, clock + 1, ?_, ?_, fun i hi => ?_⟩, fun W C hC hb => ?_, by simp⟩
  · show (w.heap.setIfInBounds r _)[r]? = _
    rw [Array.getElem?_setIfInBounds_self_of_lt hlt]
  · simp [h2]
  · by_cases hi' : i < T.length
    · obtain ⟨e, cv, h4, h5, h6⟩ := h3 i hi'
      rw [List.getElem_append_left hi']
      refine ⟨e, cv, ?_, h5, h6.kept hk⟩
      rw [Array.getElem?_push, if_neg (by omega)]
      exact h4
    · have hi2 : i = T.length := by simp at hi; omega
      subst hi2
      rw [List.getElem_append_right (Nat.le_refl _)]
      simp only [Nat.sub_self, List.getElem_cons_zero]
      exact ⟨_, chv, by rw [Array.getElem?_push, if_pos hsz.symm], rfl, hch.kept hk⟩
  · exact hb.trans ⟨rfl, rfl, rfl, by simp, fun k hk' => by
      show (w.heap.setIfInBounds r _)[k]? = _
      rw [Array.getElem?_setIfInBounds_ne (by omega)]⟩

/-- A look-up in the table. -/
theorem look_hit {w : World} {r : Nat} {T : ShTab} (hS : ShapesAt w r T) (i : Nat) (hi : i < T.length) (hd : ∀ k (h : k < i), T[k].1 ≠ T[i].1) :
    ∃ chv, ChAt w r chv T[i].2.2 ∧ (Instr.lookup 97 (.map (some r)) (.string ⟨T[i].1.toArray⟩) true).run Tryz.prog w = .ok (.tuple #[.agg #[.int .i64 (T[i].2.1 : Int), chv], .bool true]) w := by
  obtain ⟨es, clock, h1, h2, h3⟩ := hS
  obtain ⟨e, chv, h4, h5, h6⟩ := h3 i hi
  have hkey : ∀ j : Nat, (es.toList.map (·.key))[j]? = (T.map (fun p => Value.string ⟨p.1.toArray⟩))[j]? := fun j => by rw [h2]
  have hke : e.key = .string ⟨T[i].1.toArray⟩ := by
    have := hkey i
    rw [List.getElem?_map, List.getElem?_map, List.getElem?_eq_getElem hi] at this
    have h4' : es.toList[i]? = some e := by simpa using h4
    rw [h4'] at this
    simpa using this
  have hf := findNow_hit ⟨T[i].1.toArray⟩ es.toList 0 i e (by simpa using h4) hke (fun k x hk hx => by
    have := hkey k
    rw [List.getElem?_map, List.getElem?_map, hx, List.getElem?_eq_getElem (show k < T.length by omega)] at this
    refine ⟨_, by simpa using this, fun e => hd k hk ?_⟩
    exact congrArg Array.toList (congrArg ByteArray.data e))
  refine ⟨chv, h6, ?_⟩
  simp [Instr.lookup, run_underlying Tryz.underlying97, run_underlying Tryz.underlying9, MapKept.run_getObj_map h1, check_key Tryz.underlying9, Instr.findKey, hf, Result.andThen, h5]
theorem look_miss {w : World} {r : Nat} {T : ShTab} (hS : ShapesAt w r T) (s : ByteArray) (hs : Fresh T s.data.toList) :
    (Instr.lookup 97 (.map (some r)) (.string s) true).run Tryz.prog w = .ok (.tuple #[.agg #[.int .i64 0, .slice none 0 0], .bool false]) w := by
  obtain ⟨es, clock, h1, h2, h3⟩ := hS
  have hz : (zeroValue 95).run Tryz.prog w = .ok (.agg #[.int .i64 0, .slice none 0 0]) w := by kernel_rfl
  have hf := findNow_miss s es.toList 0 (by simpa using keys_new h2 hs)
  simp [Instr.lookup, run_underlying Tryz.underlying97, run_underlying Tryz.underlying9, MapKept.run_getObj_map h1, check_key Tryz.underlying9, Instr.findKey, hf, Result.andThen, hz]
end Go.Proofs.YtcmnkhblnlmfpaaGreatDoor
namespace Go.Proofs.YtcmnkhblnlmfpaaGreatDoor
open Go.RowKit

theorem fr0 : Fresh (shPre 0) [65, 49] := by decide
theorem fr1 : Fresh (shPre 1) [65, 50] := by decide
theorem fr2 : Fresh (shPre 2) [65, 51] := by decide
theorem fr3 : Fresh (shPre 3) [65, 52] := by decide
theorem fr4 : Fresh (shPre 4) [66, 50] := by decide
theorem fr5 : Fresh (shPre 5) [66, 51] := by decide
theorem fr6 : Fresh (shPre 6) [66, 52] := by decide
theorem fr7 : Fresh (shPre 7) [67, 51] := by decide
theorem fr8 : Fresh (shPre 8) [67, 52] := by decide
theorem fr9 : Fresh (shPre 9) [68, 52] := by decide
theorem fr10 : Fresh (shPre 10) [70, 52] := by decide
theorem fr11 : Fresh (shPre 11) [71, 50] := by decide
theorem fr12 : Fresh (shPre 12) [65, 49, 126] := by decide
theorem fr13 : Fresh (shPre 13) [65, 50, 126] := by decide
theorem fr14 : Fresh (shPre 14) [65, 51, 126] := by decide
theorem fr15 : Fresh (shPre 15) [67, 50, 126] := by decide
theorem fr16 : Fresh (shPre 16) [71, 50, 126] := by decide

set_option maxHeartbeats 4000000 in
set_option maxRecDepth 100000 in
theorem shapes_any (w : World) :
    Calls Tryz.prog 86 #[] w fun e w' => e = .returned (.map (some w.heap.size)) ∧ ShapesAt w' w.heap.size shTab ∧ Below w.heap.size w w' := by
  have h0 : ShapesAt (w.alloc (.map #[] 0)) w.heap.size (shPre 0) := ⟨#[], 0, (MapKept.heap_alloc w _).1, rfl, fun i hi => absurd hi (Nat.not_lt_zero i)⟩
  have hb0 : Below w.heap.size w (w.alloc (.map #[] 0)) := (Below.refl _ _).alloc (Nat.le_refl _) _
  have hz0 : w.heap.size < (w.alloc (.map #[] 0)).heap.size := by simp
  have hmm := @run_makeMap Tryz.prog
  have H0 := Lib.hid h0
  have HB0 := Lib.hid hb0
  have HZ0 := Lib.hid hz0
  clear h0 hb0 hz0
  obtain ⟨w1, hrun1, h1, hb1, hz1⟩ := insert_shape H0.out [65, 49] 1 1 rfl [] fr0 (chAt_nil _ _)
  have H1 : Hid (ShapesAt w1 w.heap.size (shPre 1)) := Lib.hid h1
  have HB1 := Lib.hid (hb1 w w.heap.size (Nat.le_refl _) HB0.out)
  have HZ1 : Hid (w.heap.size < w1.heap.size) := Lib.hid (by have := HZ0.out; rw [hz1]; exact this)
  clear h1 hb1 hz1 H0 HB0 HZ0
  obtain ⟨w2, hrun2, h2, hb2, hz2⟩ := insert_shape H1.out [65, 50] 2 2 rfl [] fr1 (chAt_nil _ _)
  have H2 : Hid (ShapesAt w2 w.heap.size (shPre 2)) := Lib.hid h2
  have HB2 := Lib.hid (hb2 w w.heap.size (Nat.le_refl _) HB1.out)
  have HZ2 : Hid (w.heap.size < w2.heap.size) := Lib.hid (by have := HZ1.out; rw [hz2]; exact this)
  clear h2 hb2 hz2 H1 HB1 HZ1
  obtain ⟨w3, hrun3, h3, hb3, hz3⟩ := insert_shape H2.out [65, 51] 3 3 rfl [] fr2 (chAt_nil _ _)
  have H3 : Hid (ShapesAt w3 w.heap.size (shPre 3)) := Lib.hid h3
  have HB3 := Lib.hid (hb3 w w.heap.size (Nat.le_refl _) HB2.out)
  have HZ3 : Hid (w.heap.size < w3.heap.size) := Lib.hid (by have := HZ2.out; rw [hz3]; exact this)
  clear h3 hb3 hz3 H2 HB2 HZ2
  obtain ⟨w4, hrun4, h4, hb4, hz4⟩ := insert_shape H3.out [65, 52] 4 4 rfl [] fr3 (chAt_nil _ _)
  have H4 : Hid (ShapesAt w4 w.heap.size (shPre 4)) := Lib.hid h4
  have HB4 := Lib.hid (hb4 w w.heap.size (Nat.le_refl _) HB3.out)
  have HZ4 : Hid (w.heap.size < w4.heap.size) := Lib.hid (by have := HZ3.out; rw [hz4]; exact this)
  clear h4 hb4 hz4 H3 HB3 HZ3
  have g5 : ChAt (w4.alloc (.cells #[.int .i64 (1), .int .i64 (0), .int .i64 (-2)] 100)) w.heap.size (.slice (some ⟨w4.heap.size, 0, none⟩) 1 1) [(1, 0, -2)] := chAt_new _ _ HZ4.out _ _ rfl _ rfl
  obtain ⟨w5, hrun5, h5, hb5, hz5⟩ := insert_shape (H4.out.alloc _) [66, 50] 2 2 rfl [(1, 0, -2)] fr4 g5
  have H5 : Hid (ShapesAt w5 w.heap.size (shPre 5)) := Lib.hid h5
  have HB5 := Lib.hid (hb5 w w.heap.size (Nat.le_refl _) (HB4.out.alloc (Nat.le_of_lt HZ4.out) _))
  have HZ5 : Hid (w.heap.size < w5.heap.size) := Lib.hid (by have := HZ4.out; rw [hz5]; simp; omega)
  clear h5 hb5 hz5 H4 HB4 HZ4 g5
  have g6 : ChAt (w5.alloc (.cells #[.int .i64 (2), .int .i64 (1), .int .i64 (-2)] 100)) w.heap.size (.slice (some ⟨w5.heap.size, 0, none⟩) 1 1) [(2, 1, -2)] := chAt_new _ _ HZ5.out _ _ rfl _ rfl
  obtain ⟨w6, hrun6, h6, hb6, hz6⟩ := insert_shape (H5.out.alloc _) [66, 51] 3 3 rfl [(2, 1, -2)] fr5 g6
  have H6 : Hid (ShapesAt w6 w.heap.size (shPre 6)) := Lib.hid h6
  have HB6 := Lib.hid (hb6 w w.heap.size (Nat.le_refl _) (HB5.out.alloc (Nat.le_of_lt HZ5.out) _))
  have HZ6 : Hid (w.heap.size < w6.heap.size) := Lib.hid (by have := HZ5.out; rw [hz6]; simp; omega)
  clear h6 hb6 hz6 H5 HB5 HZ5 g6
  have g7 : ChAt (w6.alloc (.cells #[.int .i64 (3), .int .i64 (2), .int .i64 (-2)] 100)) w.heap.size (.slice (some ⟨w6.heap.size, 0, none⟩) 1 1) [(3, 2, -2)] := chAt_new _ _ HZ6.out _ _ rfl _ rfl
  obtain ⟨w7, hrun7, h7, hb7, hz7⟩ := insert_shape (H6.out.alloc _) [66, 52] 4 4 rfl [(3, 2, -2)] fr6 g7
  have H7 : Hid (ShapesAt w7 w.heap.size (shPre 7)) := Lib.hid h7
  have HB7 := Lib.hid (hb7 w w.heap.size (Nat.le_refl _) (HB6.out.alloc (Nat.le_of_lt HZ6.out) _))
  have HZ7 : Hid (w.heap.size < w7.heap.size) := Lib.hid (by have := HZ6.out; rw [hz7]; simp; omega)
  clear h7 hb7 hz7 H6 HB6 HZ6 g7
  have g8 : ChAt (w7.alloc (.cells #[.int .i64 (1), .int .i64 (2), .int .i64 (-2)] 100)) w.heap.size (.slice (some ⟨w7.heap.size, 0, none⟩) 1 1) [(1, 2, -2)] := chAt_new _ _ HZ7.out _ _ rfl _ rfl
  obtain ⟨w8, hrun8, h8, hb8, hz8⟩ := insert_shape (H7.out.alloc _) [67, 51] 3 3 rfl [(1, 2, -2)] fr7 g8
  have H8 : Hid (ShapesAt w8 w.heap.size (shPre 8)) := Lib.hid h8
  have HB8 := Lib.hid (hb8 w w.heap.size (Nat.le_refl _) (HB7.out.alloc (Nat.le_of_lt HZ7.out) _))
  have HZ8 : Hid (w.heap.size < w8.heap.size) := Lib.hid (by have := HZ7.out; rw [hz8]; simp; omega)
  clear h8 hb8 hz8 H7 HB7 HZ7 g8
  have g9 : ChAt (w8.alloc (.cells #[.int .i64 (2), .int .i64 (3), .int .i64 (-2)] 100)) w.heap.size (.slice (some ⟨w8.heap.size, 0, none⟩) 1 1) [(2, 3, -2)] := chAt_new _ _ HZ8.out _ _ rfl _ rfl
  obtain ⟨w9, hrun9, h9, hb9, hz9⟩ := insert_shape (H8.out.alloc _) [67, 52] 4 4 rfl [(2, 3, -2)] fr8 g9
  have H9 : Hid (ShapesAt w9 w.heap.size (shPre 9)) := Lib.hid h9
  have HB9 := Lib.hid (hb9 w w.heap.size (Nat.le_refl _) (HB8.out.alloc (Nat.le_of_lt HZ8.out) _))
  have HZ9 : Hid (w.heap.size < w9.heap.size) := Lib.hid (by have := HZ8.out; rw [hz9]; simp; omega)
  clear h9 hb9 hz9 H8 HB8 HZ8 g9
  have g10 : ChAt (w9.alloc (.cells #[.int .i64 (2), .int .i64 (3), .int .i64 (0), .int .i64 (3), .int .i64 (2), .int .i64 (0), .int .i64 (1), .int .i64 (3), .int .i64 (-1), .int .i64 (3), .int .i64 (1), .int .i64 (-1)] 100)) w.heap.size (.slice (some ⟨w9.heap.size, 0, none⟩) 4 4) [(2, 3, 0), (3, 2, 0), (1, 3, -1), (3, 1, -1)] := chAt_new _ _ HZ9.out _ _ rfl _ rfl
  obtain ⟨w10, hrun10, h10, hb10, hz10⟩ := insert_shape (H9.out.alloc _) [68, 52] 4 4 rfl [(2, 3, 0), (3, 2, 0), (1, 3, -1), (3, 1, -1)] fr9 g10
  have H10 : Hid (ShapesAt w10 w.heap.size (shPre 10)) := Lib.hid h10
  have HB10 := Lib.hid (hb10 w w.heap.size (Nat.le_refl _) (HB9.out.alloc (Nat.le_of_lt HZ9.out) _))
  have HZ10 : Hid (w.heap.size < w10.heap.size) := Lib.hid (by have := HZ9.out; rw [hz10]; simp; omega)
  clear h10 hb10 hz10 H9 HB9 HZ9 g10
  have g11 : ChAt (w10.alloc (.cells #[.int .i64 (2), .int .i64 (1), .int .i64 (-2)] 100)) w.heap.size (.slice (some ⟨w10.heap.size, 0, none⟩) 1 1) [(2, 1, -2)] := chAt_new _ _ HZ10.out _ _ rfl _ rfl
  obtain ⟨w11, hrun11, h11, hb11, hz11⟩ := insert_shape (H10.out.alloc _) [70, 52] 4 4 rfl [(2, 1, -2)] fr10 g11
  have H11 : Hid (ShapesAt w11 w.heap.size (shPre 11)) := Lib.hid h11
  have HB11 := Lib.hid (hb11 w w.heap.size (Nat.le_refl _) (HB10.out.alloc (Nat.le_of_lt HZ10.out) _))
  have HZ11 : Hid (w.heap.size < w11.heap.size) := Lib.hid (by have := HZ10.out; rw [hz11]; simp; omega)
  clear h11 hb11 hz11 H10 HB10 HZ10 g11
  have g12 : ChAt (w11.alloc (.cells #[.int .i64 (1), .int .i64 (0), .int .i64 (-3)] 100)) w.heap.size (.slice (some ⟨w11.heap.size, 0, none⟩) 1 1) [(1, 0, -3)] := chAt_new _ _ HZ11.out _ _ rfl _ rfl
  obtain ⟨w12, hrun12, h12, hb12, hz12⟩ := insert_shape (H11.out.alloc _) [71, 50] 2 2 rfl [(1, 0, -3)] fr11 g12
  have H12 : Hid (ShapesAt w12 w.heap.size (shPre 12)) := Lib.hid h12
  have HB12 := Lib.hid (hb12 w w.heap.size (Nat.le_refl _) (HB11.out.alloc (Nat.le_of_lt HZ11.out) _))
  have HZ12 : Hid (w.heap.size < w12.heap.size) := Lib.hid (by have := HZ11.out; rw [hz12]; simp; omega)
  clear h12 hb12 hz12 H11 HB11 HZ11 g12
  have g13 : ChAt (w12.alloc (.cells #[.int .i64 (0), .int .i64 (1), .int .i64 (-2), .int .i64 (1), .int .i64 (0), .int .i64 (-2)] 100)) w.heap.size (.slice (some ⟨w12.heap.size, 0, none⟩) 2 2) [(0, 1, -2), (1, 0, -2)] := chAt_new _ _ HZ12.out _ _ rfl _ rfl
  obtain ⟨w13, hrun13, h13, hb13, hz13⟩ := insert_shape (H12.out.alloc _) [65, 49, 126] 2 2 rfl [(0, 1, -2), (1, 0, -2)] fr12 g13
  have H13 : Hid (ShapesAt w13 w.heap.size (shPre 13)) := Lib.hid h13
  have HB13 := Lib.hid (hb13 w w.heap.size (Nat.le_refl _) (HB12.out.alloc (Nat.le_of_lt HZ12.out) _))
  have HZ13 : Hid (w.heap.size < w13.heap.size) := Lib.hid (by have := HZ12.out; rw [hz13]; simp; omega)
  clear h13 hb13 hz13 H12 HB12 HZ12 g13
  have g14 : ChAt (w13.alloc (.cells #[.int .i64 (0), .int .i64 (2), .int .i64 (-1), .int .i64 (2), .int .i64 (0), .int .i64 (-1)] 100)) w.heap.size (.slice (some ⟨w13.heap.size, 0, none⟩) 2 2) [(0, 2, -1), (2, 0, -1)] := chAt_new _ _ HZ13.out _ _ rfl _ rfl
  obtain ⟨w14, hrun14, h14, hb14, hz14⟩ := insert_shape (H13.out.alloc _) [65, 50, 126] 3 3 rfl [(0, 2, -1), (2, 0, -1)] fr13 g14
  have H14 : Hid (ShapesAt w14 w.heap.size (shPre 14)) := Lib.hid h14
  have HB14 := Lib.hid (hb14 w w.heap.size (Nat.le_refl _) (HB13.out.alloc (Nat.le_of_lt HZ13.out) _))
  have HZ14 : Hid (w.heap.size < w14.heap.size) := Lib.hid (by have := HZ13.out; rw [hz14]; simp; omega)
  clear h14 hb14 hz14 H13 HB13 HZ13 g14
  have g15 : ChAt (w14.alloc (.cells #[.int .i64 (0), .int .i64 (3), .int .i64 (-1), .int .i64 (3), .int .i64 (0), .int .i64 (-1)] 100)) w.heap.size (.slice (some ⟨w14.heap.size, 0, none⟩) 2 2) [(0, 3, -1), (3, 0, -1)] := chAt_new _ _ HZ14.out _ _ rfl _ rfl
  obtain ⟨w15, hrun15, h15, hb15, hz15⟩ := insert_shape (H14.out.alloc _) [65, 51, 126] 4 4 rfl [(0, 3, -1), (3, 0, -1)] fr14 g15
  have H15 : Hid (ShapesAt w15 w.heap.size (shPre 15)) := Lib.hid h15
  have HB15 := Lib.hid (hb15 w w.heap.size (Nat.le_refl _) (HB14.out.alloc (Nat.le_of_lt HZ14.out) _))
  have HZ15 : Hid (w.heap.size < w15.heap.size) := Lib.hid (by have := HZ14.out; rw [hz15]; simp; omega)
  clear h15 hb15 hz15 H14 HB14 HZ14 g15
  have g16 : ChAt (w15.alloc (.cells #[.int .i64 (1), .int .i64 (0), .int .i64 (-2), .int .i64 (1), .int .i64 (2), .int .i64 (-2)] 100)) w.heap.size (.slice (some ⟨w15.heap.size, 0, none⟩) 2 2) [(1, 0, -2), (1, 2, -2)] := chAt_new _ _ HZ15.out _ _ rfl _ rfl
  obtain ⟨w16, hrun16, h16, hb16, hz16⟩ := insert_shape (H15.out.alloc _) [67, 50, 126] 3 3 rfl [(1, 0, -2), (1, 2, -2)] fr15 g16
  have H16 : Hid (ShapesAt w16 w.heap.size (shPre 16)) := Lib.hid h16
  have HB16 := Lib.hid (hb16 w w.heap.size (Nat.le_refl _) (HB15.out.alloc (Nat.le_of_lt HZ15.out) _))
  have HZ16 : Hid (w.heap.size < w16.heap.size) := Lib.hid (by have := HZ15.out; rw [hz16]; simp; omega)
  clear h16 hb16 hz16 H15 HB15 HZ15 g16
  have g17 : ChAt (w16.alloc (.cells #[.int .i64 (2), .int .i64 (1), .int .i64 (-3)] 100)) w.heap.size (.slice (some ⟨w16.heap.size, 0, none⟩) 1 1) [(2, 1, -3)] := chAt_new _ _ HZ16.out _ _ rfl _ rfl
  obtain ⟨w17, hrun17, h17, hb17, hz17⟩ := insert_shape (H16.out.alloc _) [71, 50, 126] 3 3 rfl [(2, 1, -3)] fr16 g17
  have H17 : Hid (ShapesAt w17 w.heap.size (shPre 17)) := Lib.hid h17
  have HB17 := Lib.hid (hb17 w w.heap.size (Nat.le_refl _) (HB16.out.alloc (Nat.le_of_lt HZ16.out) _))
  have HZ17 : Hid (w.heap.size < w17.heap.size) := Lib.hid (by have := HZ16.out; rw [hz17]; simp; omega)
  clear h17 hb17 hz17 H16 HB16 HZ16 g17
  go_enter Tryz.func86, Tryz.ntmps86
  go_wp2_with fail
  go_ret
  exact ⟨rfl, H17.out, HB17.out⟩
end Go.Proofs.YtcmnkhblnlmfpaaGreatDoor
namespace Go.Proofs.YtcmnkhblnlmfpaaGreatDoor
open Go.RowKit

theorem flatC_get (ch : Chg) : ∀ (k : Nat) (h : k < ch.length), (flatC ch)[k * 3]? = some (.int .i64 (ch[k].1 : Int)) ∧ (flatC ch)[k * 3 + 1]? = some (.int .i64 (ch[k].2.1 : Int)) ∧ (flatC ch)[k * 3 + 2]? = some (.int .i64 ch[k].2.2) := by
  induction ch with
  | nil => intro k h; simp at h
  | cons c ch ih =>
    intro k h
    cases k with
    | zero => simp [flatC]
    | succ k =>
      obtain ⟨h1, h2, h3⟩ := ih k (by simpa using h)
      have e : flatC (c :: ch) = [.int .i64 (c.1 : Int), .int .i64 (c.2.1 : Int), .int .i64 c.2.2] ++ flatC ch := by simp [flatC]
      rw [e]
      refine ⟨?_, ?_, ?_⟩
      · rw [List.getElem?_append_right (by simp; omega)]; simpa [show (k + 1) * 3 - 3 = k * 3 by omega] using h1
      · rw [List.getElem?_append_right (by simp; omega)]; simpa [show (k + 1) * 3 + 1 - 3 = k * 3 + 1 by omega] using h2
      · rw [List.getElem?_append_right (by simp; omega)]; simpa [show (k + 1) * 3 + 2 - 3 = k * 3 + 2 by omega] using h3
theorem ChAt.slice {w : World} {r : Nat} {v : Value} {ch : Chg} (h : ChAt w r v ch) : ∃ a, v = .slice a ch.length ch.length := by
  rcases h with ⟨rfl, rfl⟩ | ⟨b, _, rfl, _⟩
  · exact ⟨none, rfl⟩
  · exact ⟨_, rfl⟩
theorem ChAt.get {w : World} {r : Nat} {a : Option Addr} {n c : Nat} {ch : Chg} (h : ChAt w r (.slice a n c) ch) {k : Nat} (hk : k < ch.length) :
    ∃ b, a = some ⟨b, 0, none⟩ ∧ b < w.heap.size ∧ w.cell? ⟨b, k * 3, none⟩ = some (.int .i64 (ch[k].1 : Int)) ∧ w.cell? ⟨b, k * 3 + 1, none⟩ = some (.int .i64 (ch[k].2.1 : Int)) ∧ w.cell? ⟨b, k * 3 + 2, none⟩ = some (.int .i64 ch[k].2.2) := by
  rcases h with ⟨rfl, _⟩ | ⟨b, _, h1, h2⟩
  · simp at hk
  · injection h1 with h1
    obtain ⟨h3, h4, h5⟩ := flatC_get ch k hk
    refine ⟨b, h1, (Array.getElem?_eq_some_iff.1 h2).1, ?_, ?_, ?_⟩ <;> rw [cell_of_row w b _ _ _ _ h2] <;> simpa using ‹_›

set_option maxHeartbeats 4000000 in
set_option maxRecDepth 100000 in
theorem tyi_hit (s : ByteArray) (w : World) (i : Nat) (hi : i < shTab.length) (hs : s = ⟨shTab[i].1.toArray⟩) (hd : ∀ k (h : k < i), shTab[k].1 ≠ shTab[i].1) (hn : shTab[i].2.1 < 5) (hch : ∀ c ∈ shTab[i].2.2, c.1 < shTab[i].2.1 ∧ c.2.1 < shTab[i].2.1) (hcl : shTab[i].2.2.length ≤ 4) :
    Calls Tryz.prog 45 #[.string s] w (MakesM2 w (appC (chainL shTab[i].2.1) shTab[i].2.2) (.bool true)) := by
  have hlk : ∀ w r, ShapesAt w r shTab → _ := fun w r hS => look_hit (w := w) (r := r) hS i hi hd
  rw [← hs] at hlk
  generalize shTab[i].2.1 = n at *
  generalize shTab[i].2.2 = ch at *
  have HLK := Lib.hid hlk
  clear hlk hs hd
  generalize hL : ch.length = L at *
  have HL := Lib.hid hL; clear hL
  have HCH := Lib.hid hch; clear hch
  go_enter Tryz.func45, Tryz.ntmps45
  go_wp2_with fail
  refine (shapes_any w).mono ?_
  rintro e w1 ⟨rfl, hS, hb1⟩
  obtain ⟨chv, hat, hlook⟩ := HLK.out w1 w.heap.size hS
  obtain ⟨ca, rfl⟩ := hat.slice
  rw [HL.out] at hat hlook
  have HAT := Lib.hid hat
  have HB1 := Lib.hid hb1
  clear hat hb1 hS
  go_wp2_with fail
  clear hlook
  have hci := chi_any n (w1.alloc (.cells #[.int .i64 n, .slice ca L L] 95)) hn
  refine hci.mono ?_
  clear hci
  rintro e w2 ⟨x1, rfl, ⟨hm2, _⟩, hb2⟩
  have hs1 := HB1.out.size
  have hal : Below w1.heap.size w1 (w1.alloc (.cells #[.int .i64 n, .slice ca L L] 95)) := (Below.refl _ _).alloc (Nat.le_refl _) _
  have hb3 : Below w1.heap.size w1 w2 := hal.trans (hb2.mono hal.size)
  have hfld : w2.cell? ⟨w1.heap.size, 1, none⟩ = some (.slice ca L L) := by
    have h1 : (w1.alloc (.cells #[.int .i64 n, .slice ca L L] 95)).cell? ⟨w1.heap.size, 1, none⟩ = some (.slice ca L L) := by
      rw [World.cell?_alloc_at _ _ _ _ rfl]; rfl
    rw [← h1]
    exact hb2.cell (p := ⟨w1.heap.size, 1, none⟩) (by show w1.heap.size < _; simp)
  have hcl2 := chainL_len n
  obtain ⟨ra, rcap0, rfl⟩ := hm2.slice
  rw [hcl2] at hm2 ⊢
  have hm3 : MatI w1.heap.size w2.heap.size w2 (.slice ra n rcap0) (appC (chainL n) (ch.take 0)) := hm2.mono hal.size (Nat.le_refl _)
  have HM3 := Lib.hid hm3
  have HB3 := Lib.hid hb3
  clear hm2 hm3 hb2 hb3 hal hcl2
  go_wp2_with fail
  clear hfld
  go_loopw [23] (fun i wr => ∃ (k : Nat) (wq : World), wq = wr ∧ k ≤ L ∧ i = .int .i64 k ∧ MatI w1.heap.size wq.heap.size wq (.slice ra n rcap0) (appC (chainL n) (ch.take k)) ∧ Below w1.heap.size w1 wq) (fun i _ => L - (intOf i).toNat)
  case atStart => exact ⟨0, _, rfl, Nat.zero_le _, rfl, HM3.out, HB3.out⟩
  case round =>
    clear HM3 HB3
    obtain ⟨k, wq, rfl, hk, rfl, hM, hb⟩ := hrel
    have HB := Lib.hid hb
    by_cases hlt : k < L
    · have hkl : k < ch.length := by rw [HL.out]; exact hlt
      obtain ⟨b, rfl, hbl, d1, d2, d3⟩ := HAT.out.get hkl
      obtain ⟨hp, hq⟩ := HCH.out ch[k] (List.getElem_mem hkl)
      have hstep := appC_step (chainL n) ch k hkl
      generalize hcp : ch[k].1 = p at *
      generalize hcq : ch[k].2.1 = q at *
      generalize hcx : ch[k].2.2 = x at *
      clear hcp hcq hcx
      have d1' := (hb.cell (p := ⟨b, k * 3, none⟩) hbl).trans d1
      have d2' := (hb.cell (p := ⟨b, k * 3 + 1, none⟩) hbl).trans d2
      have d3' := (hb.cell (p := ⟨b, k * 3 + 2, none⟩) hbl).trans d3
      have hlen : (appC (chainL n) (ch.take k)).length = n := by rw [appC_len, chainL_len]
      have hrow : ((appC (chainL n) (ch.take k)).getD p []).length = n := by rw [appC_row, chainL_row n p hp]
      have hsq := hb.size
      have hbq : Below w1.heap.size w1 (wq.alloc (.cells #[.int .i64 p, .int .i64 q, .int .i64 x] 100)) := hb.alloc hsq _
      have hMq : MatI w1.heap.size (wq.alloc (.cells #[.int .i64 p, .int .i64 q, .int .i64 x] 100)).heap.size (wq.alloc (.cells #[.int .i64 p, .int .i64 q, .int .i64 x] 100)) (.slice ra n rcap0) (appC (chainL n) (ch.take k)) :=
        hM.step ((Below.refl _ _).alloc (Nat.le_refl _) _)
      obtain ⟨g, rfl⟩ : ∃ g, ra = some ⟨g, 0, none⟩ := by
        obtain ⟨g, _, _, h, _⟩ := hMq.put (j := p) (c := q) (by rw [hlen]; exact hp) (by rw [hrow]; exact hq)
        exact ⟨g, h⟩
      obtain ⟨r1, rc1, W1, c1, ⟨y1, c2⟩, f1, e1, hm1, hb1', hz1⟩ := hMq.put2 (j := p) (c := q) (by rw [hlen]; exact hp) (by rw [hrow]; exact hq) x
      rw [hrow] at c1
      rw [hstep] at hm1
      have hM5 : MatI w1.heap.size W1.heap.size W1 (.slice (some ⟨g, 0, none⟩) n rcap0) (appC (chainL n) (ch.take (k + 1))) := by rw [hz1]; exact hm1
      have HM5 := Lib.hid hM5
      have HB5 := Lib.hid (hb1' w1 w1.heap.size (Nat.le_refl _) hbq)
      clear hM5 hm1 hb1' hz1 hbq hM hMq hb d1 d2 d3 hlen hrow hstep
      go_wp2_with fail
      go_region
      all_goals
        go_wp2_with fail
        exact ⟨⟨k + 1, _, rfl, by omega, by go_num, HM5.out, HB5.out.drew⟩, by simp [intOf]; omega⟩
    · obtain rfl : k = L := by omega
      have hM2 := hM
      rw [List.take_of_length_le (by rw [HL.out]; exact Nat.le_refl _)] at hM2
      have HM := Lib.hid hM2
      clear hM hM2 hb
      go_wp2_with fail
      go_ret2
      exact ⟨_, rfl, ⟨HM.out.mono hs1 (Nat.le_refl _), Nat.le_refl _⟩, HB1.out.trans (HB.out.mono hs1)⟩

set_option maxHeartbeats 2000000 in
set_option maxRecDepth 100000 in
theorem tyi_miss (s : ByteArray) (w : World) (hs : Fresh shTab s.data.toList) :
    Calls Tryz.prog 45 #[.string s] w (MakesM2 w [] (.bool false)) := by
  go_enter Tryz.func45, Tryz.ntmps45
  go_wp2_with fail
  refine (shapes_any w).mono ?_
  rintro e w1 ⟨rfl, hS, hb1⟩
  have hlook := look_miss hS s hs
  have HB1 := Lib.hid hb1
  have hs1 := hb1.size
  clear hb1 hS hs
  go_wp2_with fail
  go_ret2
  exact ⟨_, rfl, ⟨MatI.nil _ _ _, Nat.le_refl _⟩, HB1.out.alloc hs1 _⟩

/-- The matrix of a name, and whether there is one. -/
theorem tyi_any (s : ByteArray) (w : World) :
    Calls Tryz.prog 45 #[.string s] w (MakesM2 w (typeM s.data.toList) (.bool (typeB s.data.toList))) := by
  by_cases h : Fresh shTab s.data.toList
  · unfold typeM typeB
    rw [typeAt_fresh h]
    exact tyi_miss s w h
  · have : ∃ p ∈ shTab, p.1 = s.data.toList := by
      refine Classical.byContradiction fun hn => h fun p hp e => hn ⟨p, hp, e⟩
    obtain ⟨p, hp, he⟩ := this
    obtain ⟨i, hi, rfl⟩ := List.getElem_of_mem hp
    obtain ⟨h1, h2, h3, h4, h5⟩ := sh_facts i hi
    have hh := tyi_hit s w i hi (ba_of he.symm) h1 h2 h3 h4
    unfold typeM typeB
    rw [← he, h5]
    exact hh
end Go.Proofs.YtcmnkhblnlmfpaaGreatDoor
