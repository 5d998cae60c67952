/-
  Roots: vectors padded to four numbers, the comparison of roots, sets of roots (no walk here).
  Roots: what the program's heights, signs, pairings and reflections in place return.
  Roots: what the program's reflection in place leaves of a list of the call's own.
  The library's Clone at a list of ints.
  Weights and roots: what the program's ReflectWeight and ReflectRoot return (printed by mk_ri.py).
-/
import Derived.Test.YtfjeghalkmkgoaaGreatDoorFW33
import Derived.Deep.QuietTactic
import Derived.Deep.RegionHeld3
import Derived.Test.YtfjeghalkmkgoaaGreatDoorFW18
import Derived.Test.YtfjeghalkmkgoaaGreatDoorFW17
import Derived.Lib.SliceRun
import Derived.Test.YtfjeghalkmkgoaaGreatDoorFW15
import Derived.Test.YtfjeghalkmkgoaaGreatDoorFW06
import Derived.Test.YtfjeghalkmkgoaaGreatDoorFW07
namespace Go.Proofs.YtfjeghalkmkgoaaGreatDoor
open Go.RowKit

/-! ### A root vector as four numbers -/
def pad4 (l : List Int) : List Int := [l.getD 0 0, l.getD 1 0, l.getD 2 0, l.getD 3 0]
theorem pad4_len (l : List Int) : (pad4 l).length = 4 := rfl
theorem len4 {l : List Int} (h : l.length ≤ 4) : l = [] ∨ (∃ a, l = [a]) ∨ (∃ a b, l = [a, b]) ∨ (∃ a b c, l = [a, b, c]) ∨ ∃ a b c d, l = [a, b, c, d] := by
  match l, h with
  | [], _ => exact Or.inl rfl
  | [a], _ => exact Or.inr (Or.inl ⟨a, rfl⟩)
  | [a, b], _ => exact Or.inr (Or.inr (Or.inl ⟨a, b, rfl⟩))
  | [a, b, c], _ => exact Or.inr (Or.inr (Or.inr (Or.inl ⟨a, b, c, rfl⟩)))
  | [a, b, c, d], _ => exact Or.inr (Or.inr (Or.inr (Or.inr ⟨a, b, c, d, rfl⟩)))
  | _ :: _ :: _ :: _ :: _ :: _, h => simp at h
theorem pad4_get {l : List Int} {j : Nat} (hj : j < 4) : (pad4 l)[j]? = some (l.getD j 0) := by
  have : j = 0 ∨ j = 1 ∨ j = 2 ∨ j = 3 := by omega
  rcases this with e | e | e | e <;> subst e <;> rfl
theorem pad4_getD {l : List Int} (h : l.length ≤ 4) (j : Nat) : (pad4 l).getD j 0 = l.getD j 0 := by
  rcases Nat.lt_or_ge j 4 with hj | hj
  · rw [List.getD_eq_getElem?_getD, pad4_get hj]; rfl
  · rw [List.getD_eq_getElem?_getD, List.getD_eq_getElem?_getD, List.getElem?_eq_none (by rw [pad4_len]; exact hj), List.getElem?_eq_none (by omega)]
theorem pad4_take {l : List Int} (h : l.length ≤ 4) : (pad4 l).take l.length = l := by
  rcases len4 h with e | ⟨a, e⟩ | ⟨a, b, e⟩ | ⟨a, b, c, e⟩ | ⟨a, b, c, d, e⟩ <;> subst e <;> simp [pad4]
theorem pad4_inj {a b : List Int} (ha : a.length ≤ 4) (hab : a.length = b.length) (h : pad4 a = pad4 b) : a = b := by
  rw [← pad4_take ha, h, hab, pad4_take (by omega)]
theorem pad4_set {l : List Int} (h : l.length ≤ 4) {i : Nat} (hi : i < l.length) (x : Int) : (pad4 l).set i x = pad4 (l.set i x) := by
  rcases len4 h with e | ⟨a, e⟩ | ⟨a, b, e⟩ | ⟨a, b, c, e⟩ | ⟨a, b, c, d, e⟩ <;> subst e
  · simp at hi
  · obtain rfl : i = 0 := by simpa using hi
    simp [pad4]
  · have : i = 0 ∨ i = 1 := by simp at hi; omega
    rcases this with e | e <;> subst e <;> simp [pad4]
  · have : i = 0 ∨ i = 1 ∨ i = 2 := by simp at hi; omega
    rcases this with e | e | e <;> subst e <;> simp [pad4]
  · have : i = 0 ∨ i = 1 ∨ i = 2 ∨ i = 3 := by simp at hi; omega
    rcases this with e | e | e | e <;> subst e <;> simp [pad4]
theorem sgn_pad {l : List Int} (h : l.length ≤ 4) : sgnL (pad4 l) = sgnL l := by
  have hu : upL (pad4 l) = upL l := by
    rcases len4 h with e | ⟨a, e⟩ | ⟨a, b, e⟩ | ⟨a, b, c, e⟩ | ⟨a, b, c, d, e⟩ <;> subst e <;> simp [pad4, upL]
  have hd : downL (pad4 l) = downL l := by
    rcases len4 h with e | ⟨a, e⟩ | ⟨a, b, e⟩ | ⟨a, b, c, e⟩ | ⟨a, b, c, d, e⟩ <;> subst e <;> simp [pad4, downL]
  unfold sgnL; rw [hu, hd]
theorem addW_zero (x y : Int) : addW (addW x y) 0 = addW x y := by unfold addW wrap64; omega
theorem addW_00 : addW 0 0 = 0 := by unfold addW wrap64; omega
theorem hgt_pad {l : List Int} (h : l.length ≤ 4) : hgtL (pad4 l) = hgtL l := by
  rcases len4 h with e | ⟨a, e⟩ | ⟨a, b, e⟩ | ⟨a, b, c, e⟩ | ⟨a, b, c, d, e⟩ <;> subst e <;> simp [pad4, hgtL, addW_zero, addW_00]
/-! ### The comparison -/
def lexC : List Int → List Int → Int
  | [], [] => 0
  | [], _ :: _ => -1
  | _ :: _, [] => 1
  | x :: a, y :: b => if x = y then lexC a b else if x < y then -1 else 1
def cmpR (a b : List Int) : Int := if hgtL a < hgtL b then -1 else if hgtL b < hgtL a then 1 else lexC b a
theorem lex_neg : ∀ {a b : List Int}, a.length = b.length → (lexC a b < 0 ↔ gtL b a = true)
  | [], [], _ => by simp [lexC, gtL]
  | [], _ :: _, h => by simp at h
  | _ :: _, [], h => by simp at h
  | x :: a, y :: b, h => by
    simp only [lexC, gtL]
    by_cases e : x = y
    · rw [if_pos e, if_pos e.symm]
      exact lex_neg (by simpa using h)
    · have e3 : ¬ y = x := fun h => e h.symm
      rw [if_neg e, if_neg e3]
      by_cases e2 : x < y
      · simp [e2]
      · simp [e2]
theorem cmpR_neg {a b : List Int} (h : a.length = b.length) : (cmpR a b < 0 ↔ befB a b = true) := by
  unfold cmpR befB
  by_cases h1 : hgtL a < hgtL b
  · rw [if_pos h1, if_neg (by omega), decide_eq_true h1]; simp
  · rw [if_neg h1]
    by_cases h2 : hgtL b < hgtL a
    · rw [if_pos h2, if_neg (by omega), decide_eq_false h1]; simp
    · rw [if_neg h2, if_pos (by omega)]
      exact lex_neg h.symm
/-! ### Sets of roots -/
theorem asc_closed {m : List (List Int)} {h : Int} {S : List Int → Prop} (hs : ∀ r, S r → Asc m h r) (hb : ∀ j, j < m.length → S (unitR m.length j))
    (hc : ∀ r, S r → ∀ j, j < m.length → 0 < sgnL (rflR m j r) → hgtL (rflR m j r) ≤ h → S (rflR m j r)) (r : List Int) : S r ↔ Asc m h r := by
  refine ⟨hs r, fun hr => ?_⟩
  induction hr with
  | base i hi => exact hb i hi
  | step r i _ hi h1 h2 _ ih => exact hc r ih i hi h1 h2
/-- The rounds: what is done (P), what is to be done (L). -/
structure RndI (m : List (List Int)) (h : Int) (P L : List Int → Prop) : Prop where
  all : ∀ r, P r ∨ L r → Asc m h r
  apart : ∀ r, P r → ¬ L r
  base : ∀ j, j < m.length → P (unitR m.length j) ∨ L (unitR m.length j)
  shut : ∀ r, P r → ∀ j, j < m.length → 0 < sgnL (rflR m j r) → hgtL (rflR m j r) ≤ h → P (rflR m j r) ∨ L (rflR m j r)
theorem rndI_end {m : List (List Int)} {h : Int} {P L : List Int → Prop} (hI : RndI m h P L) (hL : ∀ r, ¬ L r) (r : List Int) : P r ↔ Asc m h r :=
  asc_closed (fun r hr => hI.all r (Or.inl hr)) (fun j hj => (hI.base j hj).resolve_right (hL _)) (fun r hr j hj h1 h2 => (hI.shut r hr j hj h1 h2).resolve_right (hL _)) r
theorem rndI_start {m : List (List Int)} {h : Int} : RndI m h (fun _ => False) (fun r => ∃ j, j < m.length ∧ r = unitR m.length j) :=
  ⟨fun r hr => by
    rcases hr with hr | ⟨j, hj, e⟩
    · exact hr.elim
    · rw [e]; exact .base j hj, fun _ h => h.elim, fun j hj => Or.inr ⟨j, hj, rfl⟩, fun _ h => h.elim⟩
/-- One round's new roots: images of those in D (done), not among S. -/
structure NewI (m : List (List Int)) (h : Int) (S D N : List Int → Prop) : Prop where
  all : ∀ r, N r → Asc m h r ∧ ¬ S r
  shut : ∀ r, D r → ∀ j, j < m.length → 0 < sgnL (rflR m j r) → hgtL (rflR m j r) ≤ h → S (rflR m j r) ∨ N (rflR m j r)
theorem rndI_next {m : List (List Int)} {h : Int} {P L N : List Int → Prop} (hI : RndI m h P L) (hN : NewI m h (fun r => P r ∨ L r) L N) : RndI m h (fun r => P r ∨ L r) N :=
  ⟨fun r hr => by
    rcases hr with hr | hr
    · exact hI.all r hr
    · exact (hN.all r hr).1, fun r h1 h2 => (hN.all r h2).2 h1, fun j hj => Or.inl (hI.base j hj), fun r hr j hj h1 h2 => by
    rcases hr with hr | hr
    · exact Or.inl (hI.shut r hr j hj h1 h2)
    · exact hN.shut r hr j hj h1 h2⟩
/-- One letter of one root. -/
structure LetI (m : List (List Int)) (h : Int) (S D N : List Int → Prop) (r : List Int) (i : Nat) : Prop where
  all : ∀ r, N r → Asc m h r ∧ ¬ S r
  shut : ∀ r, D r → ∀ j, j < m.length → 0 < sgnL (rflR m j r) → hgtL (rflR m j r) ≤ h → S (rflR m j r) ∨ N (rflR m j r)
  now : ∀ j, j < i → 0 < sgnL (rflR m j r) → hgtL (rflR m j r) ≤ h → S (rflR m j r) ∨ N (rflR m j r)
theorem letI_start {m : List (List Int)} {h : Int} {S D N : List Int → Prop} (hN : NewI m h S D N) (r : List Int) : LetI m h S D N r 0 :=
  ⟨hN.all, hN.shut, fun _ hj => absurd hj (Nat.not_lt_zero _)⟩
theorem letI_skip {m : List (List Int)} {h : Int} {S D N : List Int → Prop} {r : List Int} {i : Nat} (hL : LetI m h S D N r i) (hn : S (rflR m i r) ∨ ¬ 0 < sgnL (rflR m i r) ∨ ¬ hgtL (rflR m i r) ≤ h) : LetI m h S D N r (i + 1) :=
  ⟨hL.all, hL.shut, fun j hj h1 h2 => by
    rcases Nat.lt_or_ge j i with h' | h'
    · exact hL.now j h' h1 h2
    · obtain rfl : j = i := by omega
      rcases hn with hn | hn | hn
      · exact Or.inl hn
      · exact absurd h1 hn
      · exact absurd h2 hn⟩
theorem letI_put {m : List (List Int)} {h : Int} {S D N : List Int → Prop} {r : List Int} {i : Nat} (hL : LetI m h S D N r i) (hA : Asc m h (rflR m i r)) (hS : ¬ S (rflR m i r)) : LetI m h S D (fun x => N x ∨ x = rflR m i r) r (i + 1) :=
  ⟨fun x hx => by
    rcases hx with hx | rfl
    · exact hL.all x hx
    · exact ⟨hA, hS⟩, fun x hx j hj h1 h2 => (hL.shut x hx j hj h1 h2).imp id Or.inl, fun j hj h1 h2 => by
    rcases Nat.lt_or_ge j i with h' | h'
    · exact (hL.now j h' h1 h2).imp id Or.inl
    · obtain rfl : j = i := by omega
      exact Or.inr (Or.inr rfl)⟩
theorem letI_end {m : List (List Int)} {h : Int} {S D N : List Int → Prop} {r : List Int} (hL : LetI m h S D N r m.length) : NewI m h S (fun x => D x ∨ x = r) N :=
  ⟨hL.all, fun x hx j hj h1 h2 => by
    rcases hx with hx | rfl
    · exact hL.shut x hx j hj h1 h2
    · exact hL.now j hj h1 h2⟩
theorem newI_same {m : List (List Int)} {h : Int} {S D D' N : List Int → Prop} (hN : NewI m h S D N) (hD : ∀ r, D' r → D r) : NewI m h S D' N := ⟨hN.all, fun r hr => hN.shut r (hD r hr)⟩
end Go.Proofs.YtfjeghalkmkgoaaGreatDoor
namespace Go.Proofs.YtfjeghalkmkgoaaGreatDoor
open Go.RowKit

end Go.Proofs.YtfjeghalkmkgoaaGreatDoor
namespace Go.Proofs.YtfjeghalkmkgoaaGreatDoor
open Go.RowKit

theorem rowI_rowB {A B : Nat} {w : World} {g n cap : Nat} {l : List Int} (h : RowI A B w (.slice (some ⟨g, 0, none⟩) n cap) l) (hl : l.length = n) : RowB (g + 1) w (.slice (some ⟨g, 0, none⟩) n cap) l := by
  refine Or.inr ⟨g, 0, cap, by rw [hl], by omega, fun j hj => ?_⟩
  have h1 := h.1
  rw [hl] at h1
  have h2 := h1.cellAt j (by omega)
  rw [Nat.zero_add, h2]; simp [intsV, hj]
end Go.Proofs.YtfjeghalkmkgoaaGreatDoor
namespace Go.Proofs.YtfjeghalkmkgoaaGreatDoor
open Go.RowKit

theorem RowI.nil' (A B : Nat) (w : World) : RowI A B w (.slice none 0 0) [] := ⟨World.ownsRow_nil _ _ _ _, fun g h => by simp [Value.ownBlock] at h⟩
set_option maxHeartbeats 1000000 in
set_option maxRecDepth 100000 in
theorem cloi_any (B : Nat) (v : Value) (l : List Int) (w : World) (h : RowB B w v l) (hB : B ≤ w.heap.size) (hl : l.length ≤ 1048576) :
    Calls Tryz.prog 57 #[v] w (MakesS w l) := by
  have qe : ∀ (w : World) (a : Option Addr) (n c n' c' : Nat), (binOp .eql 25 (.slice a n c) (.slice none n' c')).run Tryz.prog w = .ok (.bool a.isNone) w := fun w a n c n' c' => Lib.run_eql_slice_nil w _ _ a n c n' c' Tryz.underlying25
  obtain ⟨a, cap, rfl⟩ := h.slice
  cases a with
  | none =>
    have hl0 : l = [] := by
      rcases h with ⟨h0, _⟩ | ⟨b, off, c, h1, _⟩
      · exact h0
      · simp at h1
    subst hl0
    go_enter Tryz.func57, Tryz.ntmps57
    go_wp2_with fail
    go_ret
    exact ⟨_, rfl, ⟨RowI.nil' _ _ _, Nat.le_refl _⟩, Below.refl _ _⟩
  | some p =>
    have hb0 : Below w.heap.size w (w.alloc (.cells #[] 3)) := (Below.refl _ _).alloc (Nat.le_refl _) _
    have HL := Lib.hid (h.below hb0 hB)
    have hs0 : w.heap.size ≤ (w.alloc (.cells #[] 3)).heap.size := by simp
    have h1 : ([] : List Int).length + l.length ≤ 4194304 := by simp; omega
    have H1 := Lib.hid h1
    clear h hb0 h1
    generalize hln : l.length = n at *
    have HLN := Lib.hid hln; clear hln
    go_enter Tryz.func57, Tryz.ntmps57
    go_wp2_with (at_builtin; go_must (refine append_intsA (row_empty w) hs0 HL.out (by rw [HLN.out]; exact H1.out) rfl rfl rfl rfl ?_))
    intro v3 w3 hr3 hb3 hz3
    have hr3 : RowI w.heap.size w3.heap.size w3 v3 l := by simpa using hr3
    have HR3 := Lib.hid hr3
    have HB3 := Lib.hid (hb3 w w.heap.size (Nat.le_refl _) ((Below.refl _ _).alloc (Nat.le_refl _) _))
    clear hb3 hz3 hr3
    go_wp2_with fail
    go_ret
    exact ⟨_, rfl, ⟨HR3.out, Nat.le_refl _⟩, HB3.out⟩
end Go.Proofs.YtfjeghalkmkgoaaGreatDoor
namespace Go.Proofs.YtfjeghalkmkgoaaGreatDoor
open Go.RowKit

set_option maxHeartbeats 4000000 in
set_option maxRecDepth 100000 in
theorem refoW_any (B B' : Nat) (v v' : Value) (m : List (List Int)) (l : List Int) (i : Int) (w : World) (h : MatB B w v m) (h' : RowB B' w v' l) (hB : B ≤ w.heap.size) (hB' : B' ≤ w.heap.size) (hf : RowsFit m) (hl : l.length ≤ 1048576) :
    Calls Tryz.prog 32 #[v, .int .i64 i, v', .func (.func 33) #[] #[]] w (MakesS w (refwL m i l)) := by
  have HCL := Lib.hid (cloi_any B' v' l w h' hB' hl)
  have HIS := Lib.hid (fun c (hc : isB m = c) (wx : World) (hb : Below w.heap.size w wx) => icm_0 B v m c hc wx (h.below hb hB) hf)
  have HRP := Lib.hid (fun (x : Value) (k : Nat) (wx : World) (hb : Below w.heap.size w wx) (hx : RowI w.heap.size wx.heap.size wx x l) (hI : IsC m) (hll : l.length = m.length) (hk : k < m.length) => rip_any w.heap.size B v x m l k wx (h.below hb hB) hx hB hI.1 hll hk (by have := hI.2.2.2; omega))
  obtain ⟨a, cap, rfl⟩ := h.slice
  obtain ⟨a', cap', rfl⟩ := h'.slice
  have hlm := hf.1
  unfold maxLen at hlm
  have HPT := Lib.hid (fun (c : Bool) (hc : ptB i m.length = c) (wx : World) => pt_c a m.length cap i c hc wx (by omega))
  clear h h' hf
  go_enter Tryz.func32, Tryz.ntmps32
  go_wp2_with fail
  refine HCL.out.mono ?_
  rintro e w1 ⟨x, rfl, ⟨hx, _⟩, hb⟩
  have HX := Lib.hid hx
  have HB := Lib.hid hb
  clear hx hb HCL
  by_cases hI : IsC m
  · have HC := Lib.hid (HIS.out true (isB_yes hI) w1 HB.out)
    by_cases hll : l.length = m.length
    · have heq : ((l.length : Int) == (m.length : Int)) = true := by rw [beq_iff_eq]; omega
      by_cases hi : 0 ≤ i ∧ i ≤ (m.length : Int) - 1
      · have HV := Lib.hid (refwL_yes (m := m) (i := i) (l := l) ⟨hI, hll, hi⟩)
        have HP := Lib.hid (HPT.out true (ptB_yes hi))
        obtain ⟨k, rfl⟩ := Int.eq_ofNat_of_zero_le hi.1
        have HRP2 := Lib.hid (fun (q : Nat) => HRP.out x k (w1.drewN q) (HB.out.trans ((below_drewN q).mono HB.out.size)) (HX.out.step (below_drewN q)) hI hll (by omega))
        simp only [Int.toNat_natCast] at HV
        clear HRP HPT HIS hI hi hll
        generalize reflL m k l = R at *
        generalize m.length = n at *
        generalize l.length = n' at *
        go_wp2_with fail
        refine HC.out.mono ?_
        rintro e w2 ⟨rfl, q, rfl⟩
        go_wp2_with fail
        refine (HP.out _).mono ?_
        rintro e w3 ⟨rfl, rfl⟩
        go_wp2_with fail
        refine (HRP2.out q).mono ?_
        rintro e w4 ⟨rfl, h1, h2, h3⟩
        have HR := Lib.hid h1
        have HB4 := Lib.hid (show Below w.heap.size w w4 from (HB.out.trans ((below_drewN q).mono HB.out.size)).grown h2 (by have := HB.out.size; simpa using this) (fun j hj => (HX.out.1.lt j hj).1))
        clear h1 h2 h3 HRP2 HX
        go_wp2_with fail
        go_ret
        exact ⟨_, rfl, ⟨by rw [HV.out]; exact HR.out, Nat.le_refl _⟩, HB4.out⟩
      · have HV := Lib.hid (refwL_no (m := m) (i := i) (l := l) (fun h => hi h.2.2))
        have HP := Lib.hid (HPT.out false (ptB_no hi))
        clear HRP HPT HIS hI hi hll
        generalize m.length = n at *
        generalize l.length = n' at *
        go_wp2_with fail
        refine HC.out.mono ?_
        rintro e w2 ⟨rfl, q, rfl⟩
        go_wp2_with fail
        refine (HP.out _).mono ?_
        rintro e w3 ⟨rfl, rfl⟩
        go_wp2_with fail
        go_ret
        exact ⟨_, rfl, ⟨by rw [HV.out]; exact HX.out.step (below_drewN q), Nat.le_refl _⟩, HB.out.trans ((below_drewN q).mono HB.out.size)⟩
    · have heq : ((l.length : Int) == (m.length : Int)) = false := by rw [beq_eq_false_iff_ne]; omega
      have HV := Lib.hid (refwL_no (m := m) (i := i) (l := l) (fun h => hll h.2.1))
      clear HRP HPT HIS hI hll
      generalize m.length = n at *
      generalize l.length = n' at *
      go_wp2_with fail
      refine HC.out.mono ?_
      rintro e w2 ⟨rfl, q, rfl⟩
      go_wp2_with fail
      go_ret
      exact ⟨_, rfl, ⟨by rw [HV.out]; exact HX.out.step (below_drewN q), Nat.le_refl _⟩, HB.out.trans ((below_drewN q).mono HB.out.size)⟩
  · have HC := Lib.hid (HIS.out false (isB_no hI) w1 HB.out)
    have HV := Lib.hid (refwL_no (m := m) (i := i) (l := l) (fun h => hI h.1))
    clear HRP HPT HIS hI
    generalize m.length = n at *
    generalize l.length = n' at *
    go_wp2_with fail
    refine HC.out.mono ?_
    rintro e w2 ⟨rfl, q, rfl⟩
    go_wp2_with fail
    go_ret
    exact ⟨_, rfl, ⟨by rw [HV.out]; exact HX.out.step (below_drewN q), Nat.le_refl _⟩, HB.out.trans ((below_drewN q).mono HB.out.size)⟩

/-! ### Lists filled from the front -/
set_option maxHeartbeats 1000000 in
set_option maxRecDepth 100000 in
theorem refi_any (B B' : Nat) (v v' : Value) (m : List (List Int)) (l : List Int) (i : Int) (w : World) (h : MatB B w v m) (h' : RowB B' w v' l) (hB : B ≤ w.heap.size) (hB' : B' ≤ w.heap.size) (hf : RowsFit m) (hl : l.length ≤ 1048576) :
    Calls Tryz.prog 6 #[v, .int .i64 i, v'] w (MakesS w (refwL m i l)) := by
  have HO := Lib.hid (refoW_any B B' v v' m l i w h h' hB hB' hf hl)
  clear h h' hf
  go_enter Tryz.func6, Tryz.ntmps6
  go_wp2_with fail
  refine HO.out.mono ?_
  rintro e w1 ⟨x, rfl, hx, hb⟩
  have HX := Lib.hid hx; have HB := Lib.hid hb
  clear hx hb
  go_wp2_with fail
  go_ret
  exact ⟨_, rfl, HX.out, HB.out⟩
/-! ### Lists filled from the front -/
end Go.Proofs.YtfjeghalkmkgoaaGreatDoor
