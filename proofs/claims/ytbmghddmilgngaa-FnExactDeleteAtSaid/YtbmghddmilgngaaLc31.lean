/-
  Roots: vectors padded to four numbers, the comparison of roots, sets of roots (no walk here).
  The library's Clone at a list of ints.
  Lengths: the program's image of the ones as an array of its own: what its methods act and descents do.
  Roots: what the program's heights, signs, pairings and reflections in place return.
  Roots: what the program's reflection in place leaves of a list of the call's own.
  Weights and roots: what the program's ReflectWeight and ReflectRoot return (printed by mk_ri.py).
  Weights: what the program's ReflectWeight, AddWeights and SimpleRootWeight return.
-/
import Derived.Test.YtbmghddmilgngaaLc30
import Derived.Lib.SliceRun
import Derived.Test.YtbmghddmilgngaaLc15
import Derived.Test.YtbmghddmilgngaaLc13
import Derived.Test.YtbmghddmilgngaaLc09
import Derived.Deep.QuietTactic
import Derived.Deep.RegionHeld3
import Derived.Test.YtbmghddmilgngaaLc29
import Derived.Test.YtbmghddmilgngaaLc18
namespace Go.Proofs.Ytbmghddmilgngaa
open Go.RowKit

/-! ### A root vector as four numbers -/
def pad4 (l : List Int) : List Int := [l.getD 0 0, l.getD 1 0, l.getD 2 0, l.getD 3 0]
theorem pad4_len (l : List Int) : (pad4 l).length = 4 := rfl
theorem len4 {l : List Int} (h : l.length ≤ 4) : l = [] ∨ (∃ a, l = [a]) ∨ (∃ a b, l = [a, b]) ∨ (∃ a b c, l = [a, b, c]) ∨ ∃ a b c d, l = [a, b, c, d] := by
  match l, h with
  | [], _ => exact Or.inl rfl
  | [a], _ => exact Or.inr (Or.inl ⟨a, rfl⟩)
  | [a, b], _ => exact Or.inr (Or.inr (Or.inl ⟨a, b, rfl⟩))
  | [a, b, c], _ => exact Or.inr (Or.inr (Or.inr (Or.inl ⟨a, b, c, rfl⟩)))
  | [a, b, c, d], _ => exact Or.inr (Or.inr (Or.inr (Or.inr ⟨a, b, c, d, rfl⟩)))
  | _ :: _ :: _ :: _ :: _ :: _, h => simp at h
theorem pad4_get {l : List Int} {j : Nat} (hj : j < 4) : (pad4 l)[j]? = some (l.getD j 0) := by
  have : j = 0 ∨ j = 1 ∨ j = 2 ∨ j = 3 := by omega
  rcases this with e | e | e | e <;> subst e <;> rfl
theorem pad4_getD {l : List Int} (h : l.length ≤ 4) (j : Nat) : (pad4 l).getD j 0 = l.getD j 0 := by
  rcases Nat.lt_or_ge j 4 with hj | hj
  · rw [List.getD_eq_getElem?_getD, pad4_get hj]; rfl
  · rw [List.getD_eq_getElem?_getD, List.getD_eq_getElem?_getD, List.getElem?_eq_none (by rw [pad4_len]; exact hj), List.getElem?_eq_none (by omega)]
theorem pad4_take {l : List Int} (h : l.length ≤ 4) : (pad4 l).take l.length = l := by
  rcases len4 h with e | ⟨a, e⟩ | ⟨a, b, e⟩ | ⟨a, b, c, e⟩ | ⟨a, b, c, d, e⟩ <;> subst e <;> simp [pad4]
theorem pad4_inj {a b : List Int} (ha : a.length ≤ 4) (hab : a.length = b.length) (h : pad4 a = pad4 b) : a = b := by
  rw [← pad4_take ha, h, hab, pad4_take (by omega)]
theorem pad4_set {l : List Int} (h : l.length ≤ 4) {i : Nat} (hi : i < l.length) (x : Int) : (pad4 l).set i x = pad4 (l.set i x) := by
  rcases len4 h with e | ⟨a, e⟩ | ⟨a, b, e⟩ | ⟨a, b, c, e⟩ | ⟨a, b, c, d, e⟩ <;> subst e
  · simp at hi
  · obtain rfl : i = 0 := by simpa using hi
    simp [pad4]
  · have : i = 0 ∨ i = 1 := by simp at hi; omega
    rcases this with e | e <;> subst e <;> simp [pad4]
  · have : i = 0 ∨ i = 1 ∨ i = 2 := by simp at hi; omega
    rcases this with e | e | e <;> subst e <;> simp [pad4]
  · have : i = 0 ∨ i = 1 ∨ i = 2 ∨ i = 3 := by simp at hi; omega
    rcases this with e | e | e | e <;> subst e <;> simp [pad4]
theorem sgn_pad {l : List Int} (h : l.length ≤ 4) : sgnL (pad4 l) = sgnL l := by
  have hu : upL (pad4 l) = upL l := by
    rcases len4 h with e | ⟨a, e⟩ | ⟨a, b, e⟩ | ⟨a, b, c, e⟩ | ⟨a, b, c, d, e⟩ <;> subst e <;> simp [pad4, upL]
  have hd : downL (pad4 l) = downL l := by
    rcases len4 h with e | ⟨a, e⟩ | ⟨a, b, e⟩ | ⟨a, b, c, e⟩ | ⟨a, b, c, d, e⟩ <;> subst e <;> simp [pad4, downL]
  unfold sgnL; rw [hu, hd]
theorem addW_zero (x y : Int) : addW (addW x y) 0 = addW x y := by unfold addW wrap64; omega
theorem addW_00 : addW 0 0 = 0 := by unfold addW wrap64; omega
theorem hgt_pad {l : List Int} (h : l.length ≤ 4) : hgtL (pad4 l) = hgtL l := by
  rcases len4 h with e | ⟨a, e⟩ | ⟨a, b, e⟩ | ⟨a, b, c, e⟩ | ⟨a, b, c, d, e⟩ <;> subst e <;> simp [pad4, hgtL, addW_zero, addW_00]
/-! ### The comparison -/
def lexC : List Int → List Int → Int
  | [], [] => 0
  | [], _ :: _ => -1
  | _ :: _, [] => 1
  | x :: a, y :: b => if x = y then lexC a b else if x < y then -1 else 1
def cmpR (a b : List Int) : Int := if hgtL a < hgtL b then -1 else if hgtL b < hgtL a then 1 else lexC b a
theorem lex_neg : ∀ {a b : List Int}, a.length = b.length → (lexC a b < 0 ↔ gtL b a = true)
  | [], [], _ => by simp [lexC, gtL]
  | [], _ :: _, h => by simp at h
  | _ :: _, [], h => by simp at h
  | x :: a, y :: b, h => by
    simp only [lexC, gtL]
    by_cases e : x = y
    · rw [if_pos e, if_pos e.symm]
      exact lex_neg (by simpa using h)
    · have e3 : ¬ y = x := fun h => e h.symm
      rw [if_neg e, if_neg e3]
      by_cases e2 : x < y
      · simp [e2]
      · simp [e2]
theorem cmpR_neg {a b : List Int} (h : a.length = b.length) : (cmpR a b < 0 ↔ befB a b = true) := by
  unfold cmpR befB
  by_cases h1 : hgtL a < hgtL b
  · rw [if_pos h1, if_neg (by omega), decide_eq_true h1]; simp
  · rw [if_neg h1]
    by_cases h2 : hgtL b < hgtL a
    · rw [if_pos h2, if_neg (by omega), decide_eq_false h1]; simp
    · rw [if_neg h2, if_pos (by omega)]
      exact lex_neg h.symm
/-! ### Sets of roots -/
theorem asc_closed {m : List (List Int)} {h : Int} {S : List Int → Prop} (hs : ∀ r, S r → Asc m h r) (hb : ∀ j, j < m.length → S (unitR m.length j))
    (hc : ∀ r, S r → ∀ j, j < m.length → 0 < sgnL (rflR m j r) → hgtL (rflR m j r) ≤ h → S (rflR m j r)) (r : List Int) : S r ↔ Asc m h r := by
  refine ⟨hs r, fun hr => ?_⟩
  induction hr with
  | base i hi => exact hb i hi
  | step r i _ hi h1 h2 _ ih => exact hc r ih i hi h1 h2
/-- The rounds: what is done (P), what is to be done (L). -/
structure RndI (m : List (List Int)) (h : Int) (P L : List Int → Prop) : Prop where
  all : ∀ r, P r ∨ L r → Asc m h r
  apart : ∀ r, P r → ¬ L r
  base : ∀ j, j < m.length → P (unitR m.length j) ∨ L (unitR m.length j)
  shut : ∀ r, P r → ∀ j, j < m.length → 0 < sgnL (rflR m j r) → hgtL (rflR m j r) ≤ h → P (rflR m j r) ∨ L (rflR m j r)
theorem rndI_end {m : List (List Int)} {h : Int} {P L : List Int → Prop} (hI : RndI m h P L) (hL : ∀ r, ¬ L r) (r : List Int) : P r ↔ Asc m h r :=
  asc_closed (fun r hr => hI.all r (Or.inl hr)) (fun j hj => (hI.base j hj).resolve_right (hL _)) (fun r hr j hj h1 h2 => (hI.shut r hr j hj h1 h2).resolve_right (hL _)) r
theorem rndI_start {m : List (List Int)} {h : Int} : RndI m h (fun _ => False) (fun r => ∃ j, j < m.length ∧ r = unitR m.length j) :=
  ⟨fun r hr => by
    rcases hr with hr | ⟨j, hj, e⟩
    · exact hr.elim
    · rw [e]; exact .base j hj, fun _ h => h.elim, fun j hj => Or.inr ⟨j, hj, rfl⟩, fun _ h => h.elim⟩
/-- One round's new roots: images of those in D (done), not among S. -/
structure NewI (m : List (List Int)) (h : Int) (S D N : List Int → Prop) : Prop where
  all : ∀ r, N r → Asc m h r ∧ ¬ S r
  shut : ∀ r, D r → ∀ j, j < m.length → 0 < sgnL (rflR m j r) → hgtL (rflR m j r) ≤ h → S (rflR m j r) ∨ N (rflR m j r)
theorem rndI_next {m : List (List Int)} {h : Int} {P L N : List Int → Prop} (hI : RndI m h P L) (hN : NewI m h (fun r => P r ∨ L r) L N) : RndI m h (fun r => P r ∨ L r) N :=
  ⟨fun r hr => by
    rcases hr with hr | hr
    · exact hI.all r hr
    · exact (hN.all r hr).1, fun r h1 h2 => (hN.all r h2).2 h1, fun j hj => Or.inl (hI.base j hj), fun r hr j hj h1 h2 => by
    rcases hr with hr | hr
    · exact Or.inl (hI.shut r hr j hj h1 h2)
    · exact hN.shut r hr j hj h1 h2⟩
/-- One letter of one root. -/
structure LetI (m : List (List Int)) (h : Int) (S D N : List Int → Prop) (r : List Int) (i : Nat) : Prop where
  all : ∀ r, N r → Asc m h r ∧ ¬ S r
  shut : ∀ r, D r → ∀ j, j < m.length → 0 < sgnL (rflR m j r) → hgtL (rflR m j r) ≤ h → S (rflR m j r) ∨ N (rflR m j r)
  now : ∀ j, j < i → 0 < sgnL (rflR m j r) → hgtL (rflR m j r) ≤ h → S (rflR m j r) ∨ N (rflR m j r)
theorem letI_start {m : List (List Int)} {h : Int} {S D N : List Int → Prop} (hN : NewI m h S D N) (r : List Int) : LetI m h S D N r 0 :=
  ⟨hN.all, hN.shut, fun _ hj => absurd hj (Nat.not_lt_zero _)⟩
theorem letI_skip {m : List (List Int)} {h : Int} {S D N : List Int → Prop} {r : List Int} {i : Nat} (hL : LetI m h S D N r i) (hn : S (rflR m i r) ∨ ¬ 0 < sgnL (rflR m i r) ∨ ¬ hgtL (rflR m i r) ≤ h) : LetI m h S D N r (i + 1) :=
  ⟨hL.all, hL.shut, fun j hj h1 h2 => by
    rcases Nat.lt_or_ge j i with h' | h'
    · exact hL.now j h' h1 h2
    · obtain rfl : j = i := by omega
      rcases hn with hn | hn | hn
      · exact Or.inl hn
      · exact absurd h1 hn
      · exact absurd h2 hn⟩
theorem letI_put {m : List (List Int)} {h : Int} {S D N : List Int → Prop} {r : List Int} {i : Nat} (hL : LetI m h S D N r i) (hA : Asc m h (rflR m i r)) (hS : ¬ S (rflR m i r)) : LetI m h S D (fun x => N x ∨ x = rflR m i r) r (i + 1) :=
  ⟨fun x hx => by
    rcases hx with hx | rfl
    · exact hL.all x hx
    · exact ⟨hA, hS⟩, fun x hx j hj h1 h2 => (hL.shut x hx j hj h1 h2).imp id Or.inl, fun j hj h1 h2 => by
    rcases Nat.lt_or_ge j i with h' | h'
    · exact (hL.now j h' h1 h2).imp id Or.inl
    · obtain rfl : j = i := by omega
      exact Or.inr (Or.inr rfl)⟩
theorem letI_end {m : List (List Int)} {h : Int} {S D N : List Int → Prop} {r : List Int} (hL : LetI m h S D N r m.length) : NewI m h S (fun x => D x ∨ x = r) N :=
  ⟨hL.all, fun x hx j hj h1 h2 => by
    rcases hx with hx | rfl
    · exact hL.shut x hx j hj h1 h2
    · exact hL.now j hj h1 h2⟩
theorem newI_same {m : List (List Int)} {h : Int} {S D D' N : List Int → Prop} (hN : NewI m h S D N) (hD : ∀ r, D' r → D r) : NewI m h S D' N := ⟨hN.all, fun r hr => hN.shut r (hD r hr)⟩
end Go.Proofs.Ytbmghddmilgngaa
namespace Go.Proofs.Ytbmghddmilgngaa
open Go.RowKit

theorem RowI.nil' (A B : Nat) (w : World) : RowI A B w (.slice none 0 0) [] := ⟨World.ownsRow_nil _ _ _ _, fun g h => by simp [Value.ownBlock] at h⟩
set_option maxHeartbeats 1000000 in
set_option maxRecDepth 100000 in
theorem cloi_any (B : Nat) (v : Value) (l : List Int) (w : World) (h : RowB B w v l) (hB : B ≤ w.heap.size) (hl : l.length ≤ 1048576) :
    Calls Try.prog 61 #[v] w (MakesS w l) := by
  have qe : ∀ (w : World) (a : Option Addr) (n c n' c' : Nat), (binOp .eql 25 (.slice a n c) (.slice none n' c')).run Try.prog w = .ok (.bool a.isNone) w := fun w a n c n' c' => Lib.run_eql_slice_nil w _ _ a n c n' c' Try.underlying25
  obtain ⟨a, cap, rfl⟩ := h.slice
  cases a with
  | none =>
    have hl0 : l = [] := by
      rcases h with ⟨h0, _⟩ | ⟨b, off, c, h1, _⟩
      · exact h0
      · simp at h1
    subst hl0
    go_enter Try.func61, Try.ntmps61
    go_wp2_with fail
    go_ret
    exact ⟨_, rfl, ⟨RowI.nil' _ _ _, Nat.le_refl _⟩, Below.refl _ _⟩
  | some p =>
    have hb0 : Below w.heap.size w (w.alloc (.cells #[] 3)) := (Below.refl _ _).alloc (Nat.le_refl _) _
    have HL := Lib.hid (h.below hb0 hB)
    have hs0 : w.heap.size ≤ (w.alloc (.cells #[] 3)).heap.size := by simp
    have h1 : ([] : List Int).length + l.length ≤ 4194304 := by simp; omega
    have H1 := Lib.hid h1
    clear h hb0 h1
    generalize hln : l.length = n at *
    have HLN := Lib.hid hln; clear hln
    go_enter Try.func61, Try.ntmps61
    go_wp2_with (at_builtin; go_must (refine append_intsA (row_empty w) hs0 HL.out (by rw [HLN.out]; exact H1.out) rfl rfl rfl rfl ?_))
    intro v3 w3 hr3 hb3 hz3
    have hr3 : RowI w.heap.size w3.heap.size w3 v3 l := by simpa using hr3
    have HR3 := Lib.hid hr3
    have HB3 := Lib.hid (hb3 w w.heap.size (Nat.le_refl _) ((Below.refl _ _).alloc (Nat.le_refl _) _))
    clear hb3 hz3 hr3
    go_wp2_with fail
    go_ret
    exact ⟨_, rfl, ⟨HR3.out, Nat.le_refl _⟩, HB3.out⟩
end Go.Proofs.Ytbmghddmilgngaa
namespace Go.Proofs.Ytbmghddmilgngaa
open Go.RowKit

def zer4 (l : List Int) : List Int := List.replicate (4 - l.length) 0
theorem pad4_zer {l : List Int} (h : l.length ≤ 4) : pad4 l = l ++ zer4 l := by
  unfold zer4
  rcases len4 h with e | ⟨a, e⟩ | ⟨a, b, e⟩ | ⟨a, b, c, e⟩ | ⟨a, b, c, d, e⟩ <;> subst e <;> rfl
/-- The block g is an array of four that holds the row, padded. -/
def Im4 (w : World) (g : Nat) (l : List Int) : Prop := w.heap[g]? = some (.cells (intsV (pad4 l)).toArray 58 (0, 0))
theorem Im4.lt {w : World} {g : Nat} {l : List Int} (h : Im4 w g l) : g < w.heap.size := (Array.getElem?_eq_some_iff.1 h).1
theorem Im4.cell {w : World} {b : Nat} {l : List Int} (h : Im4 w b l) {a0 a1 a2 a3 : Int} (hp : pad4 l = [a0, a1, a2, a3]) :
    w.cell? ⟨b, 0, none⟩ = some (.int .i64 a0) ∧ w.cell? ⟨b, 1, none⟩ = some (.int .i64 a1) ∧ w.cell? ⟨b, 2, none⟩ = some (.int .i64 a2) ∧ w.cell? ⟨b, 3, none⟩ = some (.int .i64 a3) := by
  unfold Im4 at h
  rw [hp] at h
  exact ⟨by rw [cell_of_row _ b 0 _ _ _ h]; rfl, by rw [cell_of_row _ b 1 _ _ _ h]; rfl, by rw [cell_of_row _ b 2 _ _ _ h]; rfl, by rw [cell_of_row _ b 3 _ _ _ h]; rfl⟩
theorem Im4.at {w : World} {b : Nat} {l : List Int} (h : Im4 w b l) {k : Nat} (hk : k < 4) : w.cell? ⟨b, k, none⟩ = some (.int .i64 (l.getD k 0)) := by
  rw [cell_of_row _ b k _ _ _ h]
  have := pad4_get (l := l) hk
  simp [intsV, this]
theorem Im4.frozen {w : World} {b : Nat} {l : List Int} (h : Im4 w b l) (j : Nat) : w.frozen? ⟨b, j, none⟩ = false := frozen_of_row w b j _ _ h
theorem Im4.kept {w w' : World} {b : Nat} {l : List Int} {S : Option Nat} (h : Im4 w b l) (hg : w.grownBy w' S) (hne : some b ≠ S) : Im4 w' b l :=
  (hg.block b (Array.getElem?_eq_some_iff.1 h).1 hne).trans h
theorem Im4.below {w w' : World} {b B : Nat} {l : List Int} (h : Im4 w b l) (hb : Below B w w') (hB : b < B) : Im4 w' b l := (hb.block b hB).trans h
theorem Im4.new {w : World} {l : List Int} {a0 a1 a2 a3 : Int} (hp : pad4 l = [a0, a1, a2, a3]) : Im4 (w.alloc (.cells #[.int .i64 a0, .int .i64 a1, .int .i64 a2, .int .i64 a3] 58)) w.heap.size l := by
  unfold Im4
  rw [hp]
  exact (MapKept.heap_alloc w _).1
theorem Im4.rowF {w : World} {A g : Nat} {l : List Int} (h : Im4 w g l) (hl : l.length ≤ 4) (hA : A ≤ g) : RowF 58 A w g 4 l (zer4 l) := by
  have hz : l.length + (zer4 l).length = 4 := by unfold zer4; rw [List.length_replicate]; omega
  unfold Im4 at h
  rw [pad4_zer hl] at h
  refine ⟨by rw [intsV_len, List.length_append]; omega, .inr ⟨g, 4, _, rfl, hA, h, by omega, by unfold maxLen; omega, by simp [intsV_len, hz], ?_⟩⟩
  rw [hz]
  have e : (intsV (l ++ zer4 l)).length = 4 := by rw [intsV_len, List.length_append]; exact hz
  exact List.take_of_length_le (by show (intsV (l ++ zer4 l)).length ≤ _; omega)
theorem RowF.im4 {w : World} {A g : Nat} {l z : List Int} (h : RowF 58 A w g 4 l z) (hz : l.length + z.length = 4) (hp : pad4 l = l ++ z) : Im4 w g l := by
  unfold RowF at h
  rw [hz] at h
  rcases h.2 with ⟨h', _⟩ | ⟨g', cap', cur, h1, h2, h3, h4, h5, h6, h7⟩
  · simp at h'
  · simp only [Value.slice.injEq, Option.some.injEq, Addr.mk.injEq, and_true, true_and] at h1
    obtain ⟨rfl, rfl⟩ := h1
    unfold Im4
    rw [h3, hp]
    have e : cur.toList = intsV (l ++ z) := by
      rw [← h7]
      exact (List.take_of_length_le (by simp; omega)).symm
    rw [← e]
set_option maxRecDepth 100000 in
theorem slice_im (b L : Nat) (h : L ≤ 4) (w : World) : (Instr.sliceAt 58 (.pointer (some ⟨b, 0, none⟩)) none (some (.int .i64 L)) none).run Try.prog w = .ok (.slice (some ⟨b, 0, none⟩) L 4) w := by
  have hA : Try.prog.underlying 58 = some (.array (Try.prog.arrayLen 58) (Try.prog.elem 58)) := by kernel_rfl
  have h4 : Try.prog.arrayLen 58 = 4 := by kernel_rfl
  have he : Try.prog.elem 58 = 3 := by kernel_rfl
  rw [run_sliceAt_array_h w 58 ⟨b, 0, none⟩ hA .i64 L (by omega) (by rw [h4]; omega), he, h4]
  have hs : (sizeOf 3).run Try.prog w = .ok 1 w := by rfl
  rw [hs]
  simp [slicedAt, Addr.add]
set_option maxRecDepth 100000 in
theorem slice_im_all (b : Nat) (w : World) : (Instr.sliceAt 58 (.pointer (some ⟨b, 0, none⟩)) none none none).run Try.prog w = .ok (.slice (some ⟨b, 0, none⟩) 4 4) w := by
  have hA : Try.prog.underlying 58 = some (.array (Try.prog.arrayLen 58) (Try.prog.elem 58)) := by kernel_rfl
  have h4 : Try.prog.arrayLen 58 = 4 := by kernel_rfl
  have he : Try.prog.elem 58 = 3 := by kernel_rfl
  rw [run_sliceAt_array_all w 58 ⟨b, 0, none⟩ hA, he, h4]
  have hs : (sizeOf 3).run Try.prog w = .ok 1 w := by rfl
  rw [hs]
  simp [slicedAt, Addr.add]
set_option maxHeartbeats 1000000 in
set_option maxRecDepth 100000 in
theorem acim_any (B g : Nat) (v v1 : Value) (m : List (List Int)) (ws l : List Int) (w : World) (h : MatB B w v m) (h1 : RowN g w.heap.size w v1 ws) (h2 : Im4 w g l) (hBg : B ≤ g) (hI : IsC m) (hW : LetTo m.length ws ws.length) (hws : ws.length ≤ 1048576) (hll : l.length = m.length) :
    Calls Try.prog 77 #[.pointer (some ⟨g, 0, none⟩), v, v1] w fun e' w' => e' = .returned (.tuple #[]) ∧ Im4 w' g (actW m ws l) ∧ w.grownBy w' (some g) := by
  have hn4 := hI.2.2.2
  have HAP := Lib.hid ((aplw_any 58 B B g 4 4 v v1 m ws l (zer4 l) w h h1 (h2.rowF (by omega) hBg) (Nat.le_refl _) hI hW hws hll).mono (R' := fun e' w' => e' = .returned (.tuple #[]) ∧ Im4 w' g (actW m ws l) ∧ w.grownBy w' (some g)) fun e w' ⟨q1, q2, q3⟩ => by
    have e1 : (actW m ws l).length = l.length := actW_len m ws l
    have e2 : zer4 l = zer4 (actW m ws l) := by unfold zer4; rw [e1]
    refine ⟨q1, q2.im4 (by unfold zer4; rw [List.length_replicate, e1]; omega) ?_, q3⟩
    rw [e2]; exact pad4_zer (by omega))
  have hsl := fun wx => slice_im g m.length hn4 wx
  obtain ⟨a, cap, rfl⟩ := h.slice
  clear h h1 h2 hI hW hll
  generalize m.length = n at *
  generalize actW m ws l = R at *
  go_enter Try.func77, Try.ntmps77
  go_wp2_with fail
  refine HAP.out.mono ?_
  rintro e w1 ⟨rfl, q1, q2⟩
  have H1 := Lib.hid q1; have H2 := Lib.hid q2
  clear q1 q2
  go_wp2_with fail
  go_end0
  exact ⟨rfl, H1.out, H2.out⟩
theorem dnsK_pad {l : List Int} : ∀ k, l.length ≤ k → dnsK l k = dnsK l l.length
  | 0, h => by rw [show l.length = 0 by omega]
  | k + 1, h => by
    rcases Nat.lt_or_ge k l.length with h1 | h1
    · rw [show k + 1 = l.length by omega]
    · rw [← dnsK_no (by have : l.getD k 0 = 0 := by { simp [List.getD, h1] }; omega)]
      exact dnsK_pad k h1
set_option maxHeartbeats 2000000 in
set_option maxRecDepth 100000 in
theorem desc_any (g : Nat) (l : List Int) (w : World) (h : Im4 w g l) (hl : l.length ≤ 4) :
    Calls Try.prog 68 #[.pointer (some ⟨g, 0, none⟩)] w (MakesS w (dnsK l l.length)) := by
  rw [← dnsK_pad 4 hl]
  have HG := Lib.hid h
  have hgw := h.lt
  have HDY := Lib.hid (fun k h => dnsK_yes (l := l) (k := k) h)
  have HDN := Lib.hid (fun k h => dnsK_no (l := l) (k := k) h)
  have HDL := Lib.hid (fun k => dnsK_len l k)
  have H0 := Lib.hid (show RowI w.heap.size w.heap.size w (.slice none 0 0) (dnsK l 0) from RowI.nil' _ _ _)
  have HRF := Lib.hid (Below.refl w.heap.size w)
  clear h
  go_enter Try.func68, Try.ntmps68
  go_wp2_with fail
  go_loopw [3, 7] (fun o i wr => ∃ (k : Nat) (wq : World), wq = wr ∧ k ≤ 4 ∧ i = .int .i64 k ∧ RowI w.heap.size wq.heap.size wq o (dnsK l k) ∧ Below w.heap.size w wq) (fun _ i _ => 4 - (intOf i).toNat)
  case atStart => exact ⟨0, _, rfl, Nat.zero_le _, rfl, H0.out, HRF.out⟩
  case round =>
    obtain ⟨k, wq, rfl, hk, rfl, hM, hb⟩ := hrel
    have HM := Lib.hid hM; have HB := Lib.hid hb
    have hsq := hb.size
    have hx4 := fun (hlt : k < 4) => (HG.out.below hb hgw).at hlt
    clear hM hb
    by_cases hlt : k < 4
    · have hd : decide ((k : Int) < 4) = true := decide_eq_true (by omega)
      have hx := hx4 hlt
      clear hx4
      by_cases hp : l.getD k 0 < 0
      · have hd2 : decide (l.getD k 0 < 0) = true := decide_eq_true hp
        have HS := Lib.hid (HDY.out k hp)
        have HRL := Lib.hid (show (dnsK l k).length ≤ 4194304 from by have := HDL.out k; omega)
        generalize l.getD k 0 = y at *
        have HMD := Lib.hid (show RowI w.heap.size wq.drew.heap.size wq.drew _ (dnsK l k) from HM.out)
        have HBD := Lib.hid (HB.out.trans ((below_drewN (w := wq) 1).mono hsq))
        have hsqd : w.heap.size ≤ wq.drew.heap.size := hsq
        go_wp2_with fail
        go_region
        go_wp2_with (at_builtin; go_must (refine append_intP HMD.out hsqd rfl (k : Int) rfl rfl rfl rfl HRL.out ?_; intro v6 w6 hr6 hg6 hl6))
        rw [HS.out] at hr6
        have HM6 := Lib.hid hr6
        have HB6 := Lib.hid (HBD.out.grown hg6 hsqd (fun j hj => (HMD.out.1.lt j hj).1))
        clear hr6 hg6 hl6
        go_wp2_with fail
        exact ⟨⟨k + 1, _, rfl, by omega, by go_num, HM6.out, HB6.out⟩, by simp [intOf]; omega⟩
      · have hd2 : decide (l.getD k 0 < 0) = false := decide_eq_false hp
        have hs := HDN.out k (by omega)
        have HMS := Lib.hid (show RowI w.heap.size wq.heap.size wq _ (dnsK l (k + 1)) from hs ▸ HM.out)
        clear hs
        generalize l.getD k 0 = y at *
        have HMD := Lib.hid (show RowI w.heap.size wq.drew.heap.size wq.drew _ (dnsK l (k + 1)) from HMS.out)
        have HBD := Lib.hid (HB.out.trans ((below_drewN (w := wq) 1).mono hsq))
        go_wp2_with fail
        go_region
        go_wp2_with fail
        exact ⟨⟨k + 1, _, rfl, by omega, by go_num, HMD.out, HBD.out⟩, by simp [intOf]; omega⟩
    · obtain rfl : k = 4 := by omega
      clear hx4
      go_wp2_with fail
      go_ret
      exact ⟨_, rfl, ⟨HM.out, Nat.le_refl _⟩, HB.out⟩
end Go.Proofs.Ytbmghddmilgngaa
namespace Go.Proofs.Ytbmghddmilgngaa
open Go.RowKit

end Go.Proofs.Ytbmghddmilgngaa
namespace Go.Proofs.Ytbmghddmilgngaa
open Go.RowKit

theorem rowI_rowB {A B : Nat} {w : World} {g n cap : Nat} {l : List Int} (h : RowI A B w (.slice (some ⟨g, 0, none⟩) n cap) l) (hl : l.length = n) : RowB (g + 1) w (.slice (some ⟨g, 0, none⟩) n cap) l := by
  refine Or.inr ⟨g, 0, cap, by rw [hl], by omega, fun j hj => ?_⟩
  have h1 := h.1
  rw [hl] at h1
  have h2 := h1.cellAt j (by omega)
  rw [Nat.zero_add, h2]; simp [intsV, hj]
end Go.Proofs.Ytbmghddmilgngaa
namespace Go.Proofs.Ytbmghddmilgngaa
open Go.RowKit

/-! ### Lists filled from the front -/
/-! ### Lists filled from the front -/
end Go.Proofs.Ytbmghddmilgngaa
namespace Go.Proofs.Ytbmghddmilgngaa
open Go.RowKit

theorem row_whole6 (w : World) (l : List Int) (h : l.length ≤ 1048576) : RowI w.heap.size (w.alloc (.cells (intsV l).toArray 3)).heap.size (w.alloc (.cells (intsV l).toArray 3)) (.slice (some ⟨w.heap.size, 0, none⟩) l.length l.length) l := by
  refine ⟨World.ownsRow_lit (base := w.heap.size) (e := 3) (size := 1) w (intsV l).toArray l.length (Nat.le_refl _) (by unfold maxLen; omega) (by simp [intsV]), fun g hg => ?_⟩
  have : w.heap.size = g := by simpa [Value.ownBlock] using hg
  simp; omega
def filS (l : List Int) (k : Nat) : List Int := l.take k ++ List.replicate (l.length - k) 0
theorem filS_zero (l : List Int) : filS l 0 = zerosR l.length := by simp [filS, zerosR]
theorem filS_len (l : List Int) (k : Nat) (h : k ≤ l.length) : (filS l k).length = l.length := by simp [filS]; omega
theorem filS_end (l : List Int) : filS l l.length = l := by simp [filS]
theorem filS_set (l : List Int) (k : Nat) (h : k < l.length) : (filS l k).set k (l.getD k 0) = filS l (k + 1) := by
  have e : l.length - k = (l.length - (k + 1)) + 1 := by omega
  have ht : (l.take k).length = k := by rw [List.length_take]; omega
  have hg : l.getD k 0 = l[k] := by simp [List.getD, h]
  unfold filS
  rw [e, List.replicate_succ, List.set_append_right _ _ (by omega), ht, Nat.sub_self, List.set_cons_zero, List.take_succ_eq_append_getElem h, List.append_assoc, hg]
  rfl
end Go.Proofs.Ytbmghddmilgngaa
