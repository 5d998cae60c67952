/-
  Roots: vectors padded to four numbers, the comparison of roots, sets of roots (no walk here).
  Roots: what the program's heights, signs, pairings and reflections in place return.
  Roots: what the program's reflection in place leaves of a list of the call's own.
-/
import Derived.Test.YtfjeghalkmkgoaaLc15
import Derived.Deep.QuietTactic
import Derived.Deep.RegionHeld3
import Derived.Test.YtfjeghalkmkgoaaLc09
import Derived.Test.YtfjeghalkmkgoaaLc10
namespace Go.Proofs.Ytfjeghalkmkgoaa
open Go.RowKit

/-! ### A root vector as four numbers -/
def pad4 (l : List Int) : List Int := [l.getD 0 0, l.getD 1 0, l.getD 2 0, l.getD 3 0]
theorem pad4_len (l : List Int) : (pad4 l).length = 4 := rfl
theorem len4 {l : List Int} (h : l.length ≤ 4) : l = [] ∨ (∃ a, l = [a]) ∨ (∃ a b, l = [a, b]) ∨ (∃ a b c, l = [a, b, c]) ∨ ∃ a b c d, l = [a, b, c, d] := by
  match l, h with
  | [], _ => exact Or.inl rfl
  | [a], _ => exact Or.inr (Or.inl ⟨a, rfl⟩)
  | [a, b], _ => exact Or.inr (Or.inr (Or.inl ⟨a, b, rfl⟩))
  | [a, b, c], _ => exact Or.inr (Or.inr (Or.inr (Or.inl ⟨a, b, c, rfl⟩)))
  | [a, b, c, d], _ => exact Or.inr (Or.inr (Or.inr (Or.inr ⟨a, b, c, d, rfl⟩)))
  | _ :: _ :: _ :: _ :: _ :: _, h => simp at h
theorem pad4_get {l : List Int} {j : Nat} (hj : j < 4) : (pad4 l)[j]? = some (l.getD j 0) := by
  have : j = 0 ∨ j = 1 ∨ j = 2 ∨ j = 3 := by omega
  rcases this with e | e | e | e <;> subst e <;> rfl
theorem pad4_getD {l : List Int} (h : l.length ≤ 4) (j : Nat) : (pad4 l).getD j 0 = l.getD j 0 := by
  rcases Nat.lt_or_ge j 4 with hj | hj
  · rw [List.getD_eq_getElem?_getD, pad4_get hj]; rfl
  · rw [List.getD_eq_getElem?_getD, List.getD_eq_getElem?_getD, List.getElem?_eq_none (by rw [pad4_len]; exact hj), List.getElem?_eq_none (by omega)]
theorem pad4_take {l : List Int} (h : l.length ≤ 4) : (pad4 l).take l.length = l := by
  rcases len4 h with e | ⟨a, e⟩ | ⟨a, b, e⟩ | ⟨a, b, c, e⟩ | ⟨a, b, c, d, e⟩ <;> subst e <;> simp [pad4]
theorem pad4_inj {a b : List Int} (ha : a.length ≤ 4) (hab : a.length = b.length) (h : pad4 a = pad4 b) : a = b := by
  rw [← pad4_take ha, h, hab, pad4_take (by omega)]
theorem pad4_set {l : List Int} (h : l.length ≤ 4) {i : Nat} (hi : i < l.length) (x : Int) : (pad4 l).set i x = pad4 (l.set i x) := by
  rcases len4 h with e | ⟨a, e⟩ | ⟨a, b, e⟩ | ⟨a, b, c, e⟩ | ⟨a, b, c, d, e⟩ <;> subst e
  · simp at hi
  · obtain rfl : i = 0 := by simpa using hi
    simp [pad4]
  · have : i = 0 ∨ i = 1 := by simp at hi; omega
    rcases this with e | e <;> subst e <;> simp [pad4]
  · have : i = 0 ∨ i = 1 ∨ i = 2 := by simp at hi; omega
    rcases this with e | e | e <;> subst e <;> simp [pad4]
  · have : i = 0 ∨ i = 1 ∨ i = 2 ∨ i = 3 := by simp at hi; omega
    rcases this with e | e | e | e <;> subst e <;> simp [pad4]
theorem sgn_pad {l : List Int} (h : l.length ≤ 4) : sgnL (pad4 l) = sgnL l := by
  have hu : upL (pad4 l) = upL l := by
    rcases len4 h with e | ⟨a, e⟩ | ⟨a, b, e⟩ | ⟨a, b, c, e⟩ | ⟨a, b, c, d, e⟩ <;> subst e <;> simp [pad4, upL]
  have hd : downL (pad4 l) = downL l := by
    rcases len4 h with e | ⟨a, e⟩ | ⟨a, b, e⟩ | ⟨a, b, c, e⟩ | ⟨a, b, c, d, e⟩ <;> subst e <;> simp [pad4, downL]
  unfold sgnL; rw [hu, hd]
theorem addW_zero (x y : Int) : addW (addW x y) 0 = addW x y := by unfold addW wrap64; omega
theorem addW_00 : addW 0 0 = 0 := by unfold addW wrap64; omega
theorem hgt_pad {l : List Int} (h : l.length ≤ 4) : hgtL (pad4 l) = hgtL l := by
  rcases len4 h with e | ⟨a, e⟩ | ⟨a, b, e⟩ | ⟨a, b, c, e⟩ | ⟨a, b, c, d, e⟩ <;> subst e <;> simp [pad4, hgtL, addW_zero, addW_00]
/-! ### The comparison -/
def lexC : List Int → List Int → Int
  | [], [] => 0
  | [], _ :: _ => -1
  | _ :: _, [] => 1
  | x :: a, y :: b => if x = y then lexC a b else if x < y then -1 else 1
def cmpR (a b : List Int) : Int := if hgtL a < hgtL b then -1 else if hgtL b < hgtL a then 1 else lexC b a
theorem lex_neg : ∀ {a b : List Int}, a.length = b.length → (lexC a b < 0 ↔ gtL b a = true)
  | [], [], _ => by simp [lexC, gtL]
  | [], _ :: _, h => by simp at h
  | _ :: _, [], h => by simp at h
  | x :: a, y :: b, h => by
    simp only [lexC, gtL]
    by_cases e : x = y
    · rw [if_pos e, if_pos e.symm]
      exact lex_neg (by simpa using h)
    · have e3 : ¬ y = x := fun h => e h.symm
      rw [if_neg e, if_neg e3]
      by_cases e2 : x < y
      · simp [e2]
      · simp [e2]
theorem cmpR_neg {a b : List Int} (h : a.length = b.length) : (cmpR a b < 0 ↔ befB a b = true) := by
  unfold cmpR befB
  by_cases h1 : hgtL a < hgtL b
  · rw [if_pos h1, if_neg (by omega), decide_eq_true h1]; simp
  · rw [if_neg h1]
    by_cases h2 : hgtL b < hgtL a
    · rw [if_pos h2, if_neg (by omega), decide_eq_false h1]; simp
    · rw [if_neg h2, if_pos (by omega)]
      exact lex_neg h.symm
/-! ### Sets of roots -/
theorem asc_closed {m : List (List Int)} {h : Int} {S : List Int → Prop} (hs : ∀ r, S r → Asc m h r) (hb : ∀ j, j < m.length → S (unitR m.length j))
    (hc : ∀ r, S r → ∀ j, j < m.length → 0 < sgnL (rflR m j r) → hgtL (rflR m j r) ≤ h → S (rflR m j r)) (r : List Int) : S r ↔ Asc m h r := by
  refine ⟨hs r, fun hr => ?_⟩
  induction hr with
  | base i hi => exact hb i hi
  | step r i _ hi h1 h2 _ ih => exact hc r ih i hi h1 h2
/-- The rounds: what is done (P), what is to be done (L). -/
structure RndI (m : List (List Int)) (h : Int) (P L : List Int → Prop) : Prop where
  all : ∀ r, P r ∨ L r → Asc m h r
  apart : ∀ r, P r → ¬ L r
  base : ∀ j, j < m.length → P (unitR m.length j) ∨ L (unitR m.length j)
  shut : ∀ r, P r → ∀ j, j < m.length → 0 < sgnL (rflR m j r) → hgtL (rflR m j r) ≤ h → P (rflR m j r) ∨ L (rflR m j r)
theorem rndI_end {m : List (List Int)} {h : Int} {P L : List Int → Prop} (hI : RndI m h P L) (hL : ∀ r, ¬ L r) (r : List Int) : P r ↔ Asc m h r :=
  asc_closed (fun r hr => hI.all r (Or.inl hr)) (fun j hj => (hI.base j hj).resolve_right (hL _)) (fun r hr j hj h1 h2 => (hI.shut r hr j hj h1 h2).resolve_right (hL _)) r
theorem rndI_start {m : List (List Int)} {h : Int} : RndI m h (fun _ => False) (fun r => ∃ j, j < m.length ∧ r = unitR m.length j) :=
  ⟨fun r hr => by
    rcases hr with hr | ⟨j, hj, e⟩
    · exact hr.elim
    · rw [e]; exact .base j hj, fun _ h => h.elim, fun j hj => Or.inr ⟨j, hj, rfl⟩, fun _ h => h.elim⟩
/-- One round's new roots: images of those in D (done), not among S. -/
structure NewI (m : List (List Int)) (h : Int) (S D N : List Int → Prop) : Prop where
  all : ∀ r, N r → Asc m h r ∧ ¬ S r
  shut : ∀ r, D r → ∀ j, j < m.length → 0 < sgnL (rflR m j r) → hgtL (rflR m j r) ≤ h → S (rflR m j r) ∨ N (rflR m j r)
theorem rndI_next {m : List (List Int)} {h : Int} {P L N : List Int → Prop} (hI : RndI m h P L) (hN : NewI m h (fun r => P r ∨ L r) L N) : RndI m h (fun r => P r ∨ L r) N :=
  ⟨fun r hr => by
    rcases hr with hr | hr
    · exact hI.all r hr
    · exact (hN.all r hr).1, fun r h1 h2 => (hN.all r h2).2 h1, fun j hj => Or.inl (hI.base j hj), fun r hr j hj h1 h2 => by
    rcases hr with hr | hr
    · exact Or.inl (hI.shut r hr j hj h1 h2)
    · exact hN.shut r hr j hj h1 h2⟩
/-- One letter of one root. -/
structure LetI (m : List (List Int)) (h : Int) (S D N : List Int → Prop) (r : List Int) (i : Nat) : Prop where
  all : ∀ r, N r → Asc m h r ∧ ¬ S r
  shut : ∀ r, D r → ∀ j, j < m.length → 0 < sgnL (rflR m j r) → hgtL (rflR m j r) ≤ h → S (rflR m j r) ∨ N (rflR m j r)
  now : ∀ j, j < i → 0 < sgnL (rflR m j r) → hgtL (rflR m j r) ≤ h → S (rflR m j r) ∨ N (rflR m j r)
theorem letI_start {m : List (List Int)} {h : Int} {S D N : List Int → Prop} (hN : NewI m h S D N) (r : List Int) : LetI m h S D N r 0 :=
  ⟨hN.all, hN.shut, fun _ hj => absurd hj (Nat.not_lt_zero _)⟩
theorem letI_skip {m : List (List Int)} {h : Int} {S D N : List Int → Prop} {r : List Int} {i : Nat} (hL : LetI m h S D N r i) (hn : S (rflR m i r) ∨ ¬ 0 < sgnL (rflR m i r) ∨ ¬ hgtL (rflR m i r) ≤ h) : LetI m h S D N r (i + 1) :=
  ⟨hL.all, hL.shut, fun j hj h1 h2 => by
    rcases Nat.lt_or_ge j i with h' | h'
    · exact hL.now j h' h1 h2
    · obtain rfl : j = i := by omega
      rcases hn with hn | hn | hn
      · exact Or.inl hn
      · exact absurd h1 hn
      · exact absurd h2 hn⟩
theorem letI_put {m : List (List Int)} {h : Int} {S D N : List Int → Prop} {r : List Int} {i : Nat} (hL : LetI m h S D N r i) (hA : Asc m h (rflR m i r)) (hS : ¬ S (rflR m i r)) : LetI m h S D (fun x => N x ∨ x = rflR m i r) r (i + 1) :=
  ⟨fun x hx => by
    rcases hx with hx | rfl
    · exact hL.all x hx
    · exact ⟨hA, hS⟩, fun x hx j hj h1 h2 => (hL.shut x hx j hj h1 h2).imp id Or.inl, fun j hj h1 h2 => by
    rcases Nat.lt_or_ge j i with h' | h'
    · exact (hL.now j h' h1 h2).imp id Or.inl
    · obtain rfl : j = i := by omega
      exact Or.inr (Or.inr rfl)⟩
theorem letI_end {m : List (List Int)} {h : Int} {S D N : List Int → Prop} {r : List Int} (hL : LetI m h S D N r m.length) : NewI m h S (fun x => D x ∨ x = r) N :=
  ⟨hL.all, fun x hx j hj h1 h2 => by
    rcases hx with hx | rfl
    · exact hL.shut x hx j hj h1 h2
    · exact hL.now j hj h1 h2⟩
theorem newI_same {m : List (List Int)} {h : Int} {S D D' N : List Int → Prop} (hN : NewI m h S D N) (hD : ∀ r, D' r → D r) : NewI m h S D' N := ⟨hN.all, fun r hr => hN.shut r (hD r hr)⟩
end Go.Proofs.Ytfjeghalkmkgoaa
namespace Go.Proofs.Ytfjeghalkmkgoaa
open Go.RowKit

set_option maxHeartbeats 2000000 in
set_option maxRecDepth 100000 in
theorem pair_any (B B' : Nat) (v v' : Value) (m : List (List Int)) (l : List Int) (i : Nat) (w : World) (h : MatB B w v m) (h' : RowB B' w v' l) (hr : Rows0 m m.length m.length) (hll : l.length = m.length) (hi : i < m.length) (hn : m.length ≤ 1048576) :
    Calls Try.prog 89 #[v, .int .i64 i, v'] w fun e w' => e = .returned (.int .i64 (prK m i l m.length)) ∧ w' = w := by
  obtain ⟨a, cap, rfl⟩ := h.slice
  obtain ⟨a', cap', rfl⟩ := h'.slice
  have HR := Lib.hid h; have HL := Lib.hid h'; have HRW := Lib.hid hr
  have HST := Lib.hid (fun k => show prK m i l (k + 1) = addW (prK m i l k) (mulW (entry m i k) (l.getD k 0)) from rfl)
  obtain ⟨b0, off0, rb0, roff0, rcap0, hrowp⟩ : ∃ b off rb roff rcap, a = some ⟨b, off, none⟩ ∧ w.cell? ⟨b, off + i, none⟩ = some (.slice (some ⟨rb, roff, none⟩) m.length rcap) := by
    obtain ⟨b, off, rb, roff, rcap, h1, h2, _⟩ := h.entry hr hi hi
    exact ⟨b, off, rb, roff, rcap, h1, h2⟩
  obtain ⟨rfl, hc0⟩ := hrowp
  clear h h' hr
  rw [hll] at HL ⊢
  generalize hnm : m.length = n at *
  have HN := Lib.hid hnm
  clear hnm hll
  go_enter Try.func89, Try.ntmps89
  go_wp2_with fail
  go_loop [7, 15] (fun s i' => ∃ (k : Nat), k ≤ n ∧ i' = .int .i64 k ∧ s = .int .i64 (prK m i l k)) (fun _ i' => n - (intOf i').toNat)
  case atStart => exact ⟨0, Nat.zero_le _, rfl, rfl⟩
  case round =>
    obtain ⟨k, hk, rfl, rfl⟩ := hrel
    by_cases hlt : k < n
    · obtain ⟨b, off, rb, roff, rcap, he, hc1, hx⟩ := HR.out.entry HRW.out hi hlt
      injection he with he
      injection he with e1 e2
      subst e1; subst e2
      rw [hc0] at hc1
      injection hc1 with hc1
      injection hc1 with e3 e4 e5
      injection e3 with e3
      injection e3 with e6 e7
      subst e6; subst e7
      obtain ⟨b', off', rfl, hbb, hy⟩ := HL.out.getD hlt
      have HE := Lib.hid (HST.out k)
      clear hbb
      generalize hE : prK m i l (k + 1) = E at *
      have HQ := Lib.hid hE; clear hE
      generalize prK m i l k = s at *
      generalize l.getD k 0 = x at *
      generalize entry m i k = y at *
      obtain ⟨pr, hpr⟩ : ∃ pr, pr = mulW y x := ⟨_, rfl⟩
      have h1 : IntKind.i64.wrap (y * x) = pr := by rw [hpr, wrapk]; rfl
      have h2 : wrap64 (y * x) = pr := by rw [hpr]; rfl
      have h3 : IntKind.i64.wrap (s + pr) = E := by rw [HE.out, hpr, wrapk]; rfl
      have h4 : wrap64 (s + pr) = E := by rw [HE.out, hpr]; rfl
      clear hpr HE
      go_wp2_with fail
      exact ⟨⟨k + 1, by omega, by go_num, by rw [HQ.out]⟩, by simp [intOf]; omega⟩
    · obtain rfl : k = n := by omega
      go_wp2_with fail
      go_ret
      exact ⟨rfl, rfl⟩
set_option maxHeartbeats 2000000 in
set_option maxRecDepth 100000 in
theorem rrc_any (B g off n cap : Nat) (v : Value) (m : List (List Int)) (l : List Int) (i : Nat) (w : World) (h : MatB B w v m) (h' : RowB (g + 1) w (.slice (some ⟨g, off, none⟩) n cap) l) (hln : l.length = n) (hfz : w.frozen? ⟨g, off + i, none⟩ = false) (hr : Rows0 m m.length m.length) (hll : n = m.length) (hi : i < m.length) (hn : m.length ≤ 1048576) :
    Calls Try.prog 69 #[v, .int .i64 i, .slice (some ⟨g, off, none⟩) n cap] w fun e w' => e = .returned (.tuple #[]) ∧ ∃ q, w' = (w.setCell ⟨g, off + i, none⟩ (.int .i64 (subW (l.getD i 0) (prK m i l l.length)))).drewN q := by
  have HP := Lib.hid (pair_any B (g + 1) v (.slice (some ⟨g, off, none⟩) n cap) m l i w h h' hr (by omega) hi hn)
  have HPD := Lib.hid (show Calls Try.prog 89 #[v, .int .i64 i, .slice (some ⟨g, off, none⟩) n cap] w.drew fun e w' => e = .returned (.int .i64 (prK m i l m.length)) ∧ w' = w.drew from pair_any B (g + 1) v (.slice (some ⟨g, off, none⟩) n cap) m l i w.drew h h' hr (by omega) hi hn)
  obtain ⟨b', off', hb', hbb, hx0⟩ := h'.getD (j := i) (by omega)
  injection hb' with hb'
  injection hb' with e1 e2
  subst e1; subst e2
  obtain ⟨a, cap0, rfl⟩ := h.slice
  rw [show l.length = m.length by omega]
  have HE := Lib.hid (show subW (l.getD i 0) (prK m i l m.length) = wrap64 (l.getD i 0 - prK m i l m.length) from rfl)
  have hin : i < n := by omega
  clear h h' hr
  generalize subW (l.getD i 0) (prK m i l m.length) = E at *
  generalize prK m i l m.length = s at *
  generalize l.getD i 0 = x at *
  have h3 : IntKind.i64.wrap (x - s) = E := by rw [HE.out, wrapk]
  have h4 : wrap64 (x - s) = E := by rw [HE.out]
  clear HE hbb hln hll
  generalize m.length = nm at *
  go_enter Try.func69, Try.ntmps69
  go_wp2_with fail
  have hxd : w.drew.cell? ⟨g, off + i, none⟩ = some (.int .i64 x) := hx0
  have hfd : w.drew.frozen? ⟨g, off + i, none⟩ = false := hfz
  go_region_with (go_at_call 89; refine HPD.out.mono ?_; rintro e w' ⟨rfl, rfl⟩)
  all_goals
    (try go_wp2_with fail)
    go_end0
    exact ⟨rfl, 1, rfl⟩
end Go.Proofs.Ytfjeghalkmkgoaa
namespace Go.Proofs.Ytfjeghalkmkgoaa
open Go.RowKit

theorem rowI_rowB {A B : Nat} {w : World} {g n cap : Nat} {l : List Int} (h : RowI A B w (.slice (some ⟨g, 0, none⟩) n cap) l) (hl : l.length = n) : RowB (g + 1) w (.slice (some ⟨g, 0, none⟩) n cap) l := by
  refine Or.inr ⟨g, 0, cap, by rw [hl], by omega, fun j hj => ?_⟩
  have h1 := h.1
  rw [hl] at h1
  have h2 := h1.cellAt j (by omega)
  rw [Nat.zero_add, h2]; simp [intsV, hj]
theorem rrp_any (A B : Nat) (v v' : Value) (m : List (List Int)) (l : List Int) (i : Nat) (w : World) (h : MatB B w v m) (h' : RowI A w.heap.size w v' l) (_hBA : B ≤ A) (hI : Rows0 m m.length m.length) (hll : l.length = m.length) (hi : i < m.length) (hn : m.length ≤ 1048576) :
    Calls Try.prog 69 #[v, .int .i64 i, v'] w fun e w' => e = .returned (.tuple #[]) ∧ RowI A w'.heap.size w' v' (rflR m i l) ∧ w.grownBy w' v'.ownBlock ∧ w'.heap.size = w.heap.size := by
  obtain ⟨g, cap', rfl, hAg, hg⟩ := h'.at' (by omega)
  have hown := h'.1
  have hfz := hown.frozenAt i
  refine (rrc_any B g 0 l.length cap' v m l i w h (rowI_rowB h' rfl) rfl (by rw [Nat.zero_add]; exact hfz) hI hll hi hn).mono ?_
  rintro e w' ⟨rfl, q, rfl⟩
  rw [Nat.zero_add]
  obtain ⟨hst, hgs⟩ := hown.stored i (.int .i64 (subW (l.getD i 0) (prK m i l l.length)))
  rw [intsV_set] at hst
  refine ⟨rfl, ⟨?_, fun g' hg' => ?_⟩, ⟨rfl, rfl, rfl, by show w.heap.size ≤ (w.setCell _ _).heap.size; rw [World.size_setCell]; exact Nat.le_refl _, fun b hb hne => hgs.block b hb hne⟩, by show (w.setCell _ _).heap.size = _; rw [World.size_setCell]⟩
  · rw [rflR_len]; exact hst
  · have : g = g' := by simpa [Value.ownBlock] using hg'
    show g' < (w.setCell _ _).heap.size
    rw [World.size_setCell]; omega
end Go.Proofs.Ytfjeghalkmkgoaa
