/-
  Exchange and deletion: what the functions answer, and the laws that FnExchanges asks for (no walk here).
  Exchange and deletion: the program's ways (no walk here).
  Elements: what the model's functions of chapter 9 return.
  The contract of the library function slices.Reverse at the program's type word, laid at this program by its own numbers.
-/
import Derived.Test.YtbmghddmilgngaaLc22
import Derived.Shelf.SlicesG.Reverse
import Derived.Test.YtbmghddmilgngaaProg
namespace Go.Proofs.Ytbmghddmilgngaa
open Go.RowKit

/-! ### Leaving out a letter -/
def delL (w : List Int) (k : Int) : List Int := if 0 ≤ k ∧ k < (w.length : Int) then w.eraseIdx k.toNat else w
theorem delL_nat {w : List Int} {k : Nat} (h : k < w.length) : delL w (k : Int) = w.eraseIdx k := by
  unfold delL; rw [if_pos ⟨by omega, by omega⟩]; rfl
theorem delL_out {w : List Int} {k : Int} (h : ¬ (0 ≤ k ∧ k < (w.length : Int))) : delL w k = w := if_neg h
theorem delL_len {w : List Int} {k : Nat} (h : k < w.length) : (delL w (k : Int)).length = w.length - 1 := by
  rw [delL_nat h, List.length_eraseIdx, if_pos h]
theorem delL_le (w : List Int) (k : Int) : (delL w k).length ≤ w.length := by
  unfold delL
  split
  · exact List.length_eraseIdx_le _ _
  · exact Nat.le_refl _
theorem natsW_erase : ∀ (w : List Int) (k : Nat), natsW (w.eraseIdx k) = (natsW w).eraseIdx k
  | [], _ => rfl
  | _ :: _, 0 => rfl
  | x :: r, k + 1 => by
    have := natsW_erase r k
    unfold natsW at this ⊢
    show x.toNat :: (r.eraseIdx k).map Int.toNat = x.toNat :: (r.map Int.toNat).eraseIdx k
    rw [this]
theorem letTo_iff {n : Nat} {l : List Int} : LetTo n l l.length ↔ ∀ x ∈ l, 0 ≤ x ∧ x ≤ (n : Int) - 1 := by
  constructor
  · intro h x hx
    obtain ⟨j, hj, rfl⟩ := List.mem_iff_getElem.1 hx
    have := h j hj
    simpa [List.getD, hj] using this
  · intro h j hj
    have := h l[j] (List.getElem_mem hj)
    simpa [List.getD, hj] using this
theorem letTo_del {n : Nat} {l : List Int} (h : LetTo n l l.length) (k : Int) : LetTo n (delL l k) (delL l k).length := by
  rw [letTo_iff] at h ⊢
  unfold delL
  split
  · exact fun x hx => h x (List.mem_of_mem_eraseIdx hx)
  · exact h
theorem isW_del {m : List (List Int)} {w : List Int} (h : IsW m w) (k : Int) : IsW m (delL w k) := ⟨letTo_del h.1 k, h.2.1, by have := delL_le w k; have := h.2.2; omega⟩
/-! ### The first index, the first pair -/
def fstK (p : Nat → Bool) (n : Nat) : Option Nat := (List.range n).find? p
theorem fst_at {p : Nat → Bool} {n k : Nat} (h : ∀ j, j < k → p j = false) (hk : k < n) (hp : p k = true) : fstK p n = some k := by
  unfold fstK
  rw [List.find?_range_eq_some]
  exact ⟨hp, List.mem_range.2 hk, fun j hj => by rw [h j hj]; rfl⟩
theorem fst_none {p : Nat → Bool} {n : Nat} (h : ∀ j, j < n → p j = false) : fstK p n = none := by
  unfold fstK
  rw [List.find?_eq_none]
  intro x hx; rw [h x (List.mem_range.1 hx)]; simp
theorem fst_some {p : Nat → Bool} {n k : Nat} (h : fstK p n = some k) : k < n ∧ p k = true := by
  unfold fstK at h
  rw [List.find?_range_eq_some] at h
  exact ⟨List.mem_range.1 h.2.1, h.1⟩
theorem fst_lt {p : Nat → Bool} {n : Nat} (h : ∃ k, k < n ∧ p k = true) : ∃ k, fstK p n = some k := by
  obtain ⟨k, hk, hp⟩ := h
  cases hf : fstK p n with
  | some j => exact ⟨j, rfl⟩
  | none =>
    unfold fstK at hf
    rw [List.find?_eq_none] at hf
    exact absurd hp (hf k (List.mem_range.2 hk))
def prJ (q : Nat → Nat → Bool) (n i : Nat) : Option Nat := fstK (fun j => decide (i < j) && q i j) n
def prI (q : Nat → Nat → Bool) : Nat → Nat → Option (Nat × Nat)
  | 0, _ => none
  | f + 1, i => match prJ q (i + f + 1) i with
    | some j => some (i, j)
    | none => prI q f (i + 1)
/-- The first pair a < b below n with q. -/
def prP (q : Nat → Nat → Bool) (n : Nat) : Option (Nat × Nat) := prI q n 0
theorem prI_at {q : Nat → Nat → Bool} {a b : Nat} (hab : a < b) (hq : q a b = true) (h2 : ∀ j, a < j → j < b → q a j = false) : ∀ (f i : Nat), b < i + f → i ≤ a → (∀ x, i ≤ x → x < a → ∀ y, x < y → y < i + f → q x y = false) → prI q f i = some (a, b)
  | 0, i, hb, hi, _ => by omega
  | f + 1, i, hb, hi, h1 => by
    unfold prI
    rcases Nat.lt_or_ge i a with hlt | hge
    · have e : prJ q (i + f + 1) i = none := fst_none fun j hj => by
        by_cases hij : i < j
        · rw [h1 i (Nat.le_refl _) hlt j hij (by omega)]; simp
        · rw [decide_eq_false hij]; rfl
      rw [e]
      exact prI_at hab hq h2 f (i + 1) (by omega) (by omega) (fun x hx hxa y hxy hy => h1 x (by omega) hxa y hxy (by omega))
    · obtain rfl : i = a := by omega
      have e : prJ q (i + f + 1) i = some b := fst_at (fun j hj => by
        by_cases hij : i < j
        · rw [h2 j hij hj]; simp
        · rw [decide_eq_false hij]; rfl) (by omega) (by rw [decide_eq_true hab, hq]; rfl)
      rw [e]
theorem prP_at {q : Nat → Nat → Bool} {n a b : Nat} (hab : a < b) (hb : b < n) (hq : q a b = true) (h1 : ∀ x, x < a → ∀ y, x < y → y < n → q x y = false) (h2 : ∀ j, a < j → j < b → q a j = false) : prP q n = some (a, b) :=
  prI_at hab hq h2 n 0 (by omega) (Nat.zero_le _) (fun x _ hx y hxy hy => h1 x hx y hxy (by omega))
theorem prI_none {q : Nat → Nat → Bool} : ∀ (f i : Nat), (∀ x, i ≤ x → ∀ y, x < y → y < i + f → q x y = false) → prI q f i = none
  | 0, _, _ => rfl
  | f + 1, i, h => by
    unfold prI
    have e : prJ q (i + f + 1) i = none := fst_none fun j hj => by
      by_cases hij : i < j
      · rw [h i (Nat.le_refl _) j hij (by omega)]; simp
      · rw [decide_eq_false hij]; rfl
    rw [e]
    exact prI_none f (i + 1) (fun x hx y hxy hy => h x (by omega) y hxy (by omega))
theorem prP_none {q : Nat → Nat → Bool} {n : Nat} (h : ∀ x y, x < y → y < n → q x y = false) : prP q n = none :=
  prI_none n 0 (fun x _ y hxy hy => h x y hxy (by omega))
theorem prI_some {q : Nat → Nat → Bool} {a b : Nat} : ∀ (f i : Nat), prI q f i = some (a, b) → a < b ∧ b < i + f ∧ q a b = true
  | 0, i, h => by cases h
  | f + 1, i, h => by
    unfold prI at h
    split at h
    · rename_i j hj
      injection h with h
      injection h with e1 e2
      subst e1; subst e2
      have := fst_some hj
      rw [Bool.and_eq_true] at this
      exact ⟨of_decide_eq_true this.2.1, by omega, this.2.2⟩
    · have := prI_some f (i + 1) h
      exact ⟨this.1, by omega, this.2.2⟩
theorem prP_some {q : Nat → Nat → Bool} {n a b : Nat} (h : prP q n = some (a, b)) : a < b ∧ b < n ∧ q a b = true := by
  have := prI_some n 0 h
  exact ⟨this.1, by omega, this.2.2⟩
theorem prP_has {q : Nat → Nat → Bool} {n : Nat} (h : ∃ a b, a < b ∧ b < n ∧ q a b = true) : ∃ a b, prP q n = some (a, b) := by
  cases hp : prP q n with
  | some x => exact ⟨x.1, x.2, rfl⟩
  | none =>
    obtain ⟨a, b, hab, hb, hq⟩ := h
    exfalso
    have key : ∀ (f i : Nat), prI q f i = none → i ≤ a → b < i + f → False := by
      intro f
      induction f with
      | zero => intro i _ hi hbf; omega
      | succ f ih =>
        intro i hn hi hbf
        unfold prI at hn
        split at hn
        · cases hn
        · rename_i hj
          rcases Nat.lt_or_ge i a with hlt | hge
          · exact ih (i + 1) hn (by omega) (by omega)
          · obtain rfl : i = a := by omega
            obtain ⟨k, hk⟩ := fst_lt (p := fun j => decide (i < j) && q i j) (n := i + f + 1) ⟨b, by omega, by rw [decide_eq_true hab, hq]; rfl⟩
            unfold prJ at hj
            rw [hk] at hj; cases hj
    exact key n 0 hp (Nat.zero_le _) (by omega)
/-! ### The answers -/
noncomputable def redB (m : List (List Int)) (w : List Int) : Bool := lenI m w == (w.length : Int)
noncomputable def exP (m : List (List Int)) (w : List Int) (i : Int) (k : Nat) : Bool := eqwB (imgW m (delL w (k : Int))) (imgW m (i :: w))
noncomputable def exI (m : List (List Int)) (w : List Int) (i : Int) : Int :=
  if redB m w = true ∧ i ∈ ldsL m w then (match fstK (exP m w i) w.length with | some k => (k : Int) | none => -1) else -1
noncomputable def dlQ (m : List (List Int)) (w : List Int) (a b : Nat) : Bool := eqwB (imgW m (delL (delL w (b : Int)) (a : Int))) (imgW m w)
noncomputable def dlP (m : List (List Int)) (w : List Int) : Option (Nat × Nat) := if wordB m w = true then prP (dlQ m w) w.length else none
noncomputable def dlI (m : List (List Int)) (w : List Int) : Int := match dlP m w with | some p => (p.1 : Int) | none => -1
noncomputable def dlJ (m : List (List Int)) (w : List Int) : Int := match dlP m w with | some p => (p.2 : Int) | none => -1
noncomputable def dlB (m : List (List Int)) (w : List Int) : Bool := (dlP m w).isSome
noncomputable def rdS (m : List (List Int)) : Nat → List Int → List Int → List Int × List Int
  | 0, x, o => (x, o)
  | k + 1, x, o => match dlP m x with
    | some p => rdS m k (delL (delL x (p.2 : Int)) (p.1 : Int)) (o ++ [(p.1 : Int), (p.2 : Int)])
    | none => (x, o)
/-- Pairs of indices, one after another; none where a pair is bad. -/
def rpS : List Int → List Int → Option (List Int)
  | x, a :: b :: r => if a < 0 ∨ b ≤ a ∨ (x.length : Int) ≤ b then none else rpS (delL (delL x b) a) r
  | x, _ => some x
def rpL (w l : List Int) : List Int := (rpS w l).getD w
def rpB (w l : List Int) : Bool := (rpS w l).isSome && decide (l.length % 2 = 0)
theorem rpS_len : ∀ (x l y : List Int), rpS x l = some y → y.length ≤ x.length
  | x, [], y, h => by unfold rpS at h; injection h with h; rw [h]; exact Nat.le_refl _
  | x, [a], y, h => by unfold rpS at h; injection h with h; rw [h]; exact Nat.le_refl _
  | x, a :: b :: r, y, h => by
    unfold rpS at h
    split at h
    · cases h
    · have h1 := rpS_len _ r y h
      have h2 := delL_le (delL x b) a
      have h3 := delL_le x b
      omega
theorem rpL_len (w l : List Int) : (rpL w l).length ≤ w.length := by
  unfold rpL
  cases h : rpS w l with
  | none => exact Nat.le_refl _
  | some y => exact rpS_len w l y h
/-! ### The laws -/
theorem red_is {m : List (List Int)} {w : List Int} (h : redB m w = true) : IsW m w ∧ Red m.length (entry m) (natsW w) := by
  unfold redB lenI at h
  by_cases hW : IsW m w
  · rw [if_pos (wordB_yes hW), beq_iff_eq] at h
    have hl := nrm_len hW
    rw [show (nrmL m w).length = (natsW w).length by rw [natsW_len]; omega] at hl
    exact ⟨hW, hl⟩
  · rw [wordB_no hW, if_neg (by simp), beq_iff_eq] at h
    omega
theorem red_of {m : List (List Int)} {w : List Int} (hW : IsW m w) (h : Red m.length (entry m) (natsW w)) : redB m w = true := by
  have hl := nrm_len hW
  have := len_one (gcm_of hW.2.1) hl h
  rw [natsW_len] at this
  unfold redB lenI
  rw [if_pos (wordB_yes hW), beq_iff_eq, this]
theorem img_maps {m : List (List Int)} {u v : List Int} (hu : Wd m u) (hv : Wd m v) : imgW m u = imgW m v ↔ ∀ z, mapN (entry m) (natsW u) z = mapN (entry m) (natsW v) z :=
  ⟨fun e z => map_same hu hv e z, fun e => (fit_same hu hv e).1⟩
theorem lds_letter {m : List (List Int)} {w : List Int} {i : Int} (hW : IsW m w) (h : i ∈ ldsL m w) : ∃ t : Nat, i = (t : Int) ∧ t < m.length ∧ mapN (entry m) (natsW w) onesV t < 0 := by
  rw [ldsL_yes hW] at h
  obtain ⟨t, ht, e⟩ : ∃ t : Nat, (t : Int) ∈ dnsK (imgW m w) m.length ∧ i = (t : Int) := by
    have h' := h
    unfold dnsK at h
    obtain ⟨t, _, e⟩ := List.mem_map.1 h
    exact ⟨t, by rw [e]; exact h', e.symm⟩
  have := dnsK_mem.1 ht
  exact ⟨t, e, this.1, by rw [← img_at hW this.1]; exact this.2⟩
theorem wd_front {m : List (List Int)} {w : List Int} (hW : IsW m w) {t : Nat} (ht : t < m.length) : Wd m ((t : Int) :: w) := by
  refine ⟨hW.2.1, ?_, by have := hW.2.2; simp; omega⟩
  rw [letTo_iff]
  intro x hx
  rcases List.mem_cons.1 hx with rfl | hx
  · omega
  · exact letTo_iff.1 hW.1 x hx
theorem ex_has {m : List (List Int)} {w : List Int} {i : Int} (hr : redB m w = true) (hi : i ∈ ldsL m w) : ∃ k, k < w.length ∧ exP m w i k = true := by
  obtain ⟨hW, hR⟩ := red_is hr
  obtain ⟨t, rfl, ht, hv⟩ := lds_letter hW hi
  obtain ⟨j, hj, he, _⟩ := exchange_red (gcm_of hW.2.1) (natsW_in hW.1) hR ht hv
  rw [natsW_len] at hj
  refine ⟨j, hj, ?_⟩
  unfold exP
  rw [eqwB_is, decide_eq_true_iff]
  refine (img_maps (wd_of (isW_del hW _)) (wd_front hW ht)).2 fun z => ?_
  rw [delL_nat hj, natsW_erase, ← he z]
  rfl
theorem exI_nonneg (m : List (List Int)) (w : List Int) (i : Int) : decide (0 ≤ exI m w i) = (redB m w && decide (i ∈ ldsL m w)) := by
  unfold exI
  by_cases h : redB m w = true ∧ i ∈ ldsL m w
  · rw [if_pos h, h.1, decide_eq_true h.2]
    obtain ⟨k, hk⟩ := fst_lt (ex_has h.1 h.2)
    rw [hk]
    exact decide_eq_true (by show (0 : Int) ≤ (k : Int); omega)
  · rw [if_neg h]
    have : (redB m w && decide (i ∈ ldsL m w)) = false := by
      rw [Bool.and_eq_false_iff]
      by_cases h1 : redB m w = true
      · exact Or.inr (decide_eq_false fun h2 => h ⟨h1, h2⟩)
      · exact Or.inl (by simpa using h1)
    rw [this]; rfl
theorem exI_same {m : List (List Int)} {w : List Int} {i : Int} (h : 0 ≤ exI m w i) (h15 : w.length < 15) : samB m (delL w (exI m w i)) (i :: w) = true := by
  have hh := h
  unfold exI at h
  split at h
  · rename_i hc
    obtain ⟨k, hk⟩ := fst_lt (ex_has hc.1 hc.2)
    have e : exI m w i = (k : Int) := by unfold exI; rw [if_pos hc, hk]
    have hp := (fst_some hk).2
    obtain ⟨hW, _⟩ := red_is hc.1
    obtain ⟨t, rfl, ht, _⟩ := lds_letter hW hc.2
    rw [e]
    unfold samB
    rw [wordB_yes (isW_del hW _), wordB_yes (isW_cons hW h15 ht)]
    exact hp
  · omega
theorem dl_same {m : List (List Int)} {w : List Int} {a b : Nat} (h : dlP m w = some (a, b)) : IsW m w ∧ a < b ∧ b < w.length ∧ IsW m (delL (delL w (b : Int)) (a : Int)) ∧ imgW m (delL (delL w (b : Int)) (a : Int)) = imgW m w := by
  unfold dlP at h
  split at h
  · rename_i hw
    have hW := wordB_is' hw
    have := prP_some h
    refine ⟨hW, this.1, this.2.1, isW_del (isW_del hW _) _, ?_⟩
    have h2 := this.2.2
    unfold dlQ at h2
    rw [eqwB_is, decide_eq_true_iff] at h2
    exact h2
  · cases h
theorem dl_red {m : List (List Int)} {w : List Int} (hW : IsW m w) : dlB m w = !redB m w := by
  unfold dlB
  by_cases hr : redB m w = true
  · rw [hr]
    cases h : dlP m w with
    | none => rfl
    | some p =>
      obtain ⟨_, hab, hb, hW2, he⟩ := dl_same h
      have hl := nrm_len hW
      have hR := (red_is hr).2
      have hle := len_least (gcm_of hW.2.1) (natsW_in hW2.1) hR (fun z => map_same (wd_of hW) (wd_of hW2) he.symm z)
      have h1 := delL_len (w := w) hb
      have h2 := delL_le (delL w (p.2 : Int)) (p.1 : Int)
      rw [natsW_len, natsW_len] at hle
      omega
  · have hr' : redB m w = false := by simpa using hr
    rw [hr']
    obtain ⟨a, b, hab, hb, he⟩ := deletion (gcm_of hW.2.1) (natsW w) (natsW_in hW.1) (fun hR => hr (red_of hW hR))
    rw [natsW_len] at hb
    have hq : dlQ m w a b = true := by
      unfold dlQ
      rw [eqwB_is, decide_eq_true_iff]
      refine (img_maps (wd_of (isW_del (isW_del hW _) _)) (wd_of hW)).2 fun z => ?_
      have hb1 : a < (w.eraseIdx b).length := by rw [List.length_eraseIdx, if_pos hb]; omega
      rw [delL_nat hb, delL_nat hb1, natsW_erase, natsW_erase, ← he z]
    obtain ⟨a', b', h'⟩ := prP_has ⟨a, b, hab, hb, hq⟩
    unfold dlP
    rw [if_pos (wordB_yes hW), h']; rfl
theorem dl_sam {m : List (List Int)} {w : List Int} (h : dlB m w = true) : samB m (delL (delL w (dlJ m w)) (dlI m w)) w = true := by
  unfold dlB at h
  cases hp : dlP m w with
  | none => rw [hp] at h; cases h
  | some p =>
    obtain ⟨hW, _, _, hW2, he⟩ := dl_same hp
    have e1 : dlI m w = (p.1 : Int) := by unfold dlI; rw [hp]
    have e2 : dlJ m w = (p.2 : Int) := by unfold dlJ; rw [hp]
    rw [e1, e2]
    unfold samB
    rw [wordB_yes hW2, wordB_yes hW, he, eqwB_same]; rfl
theorem rd_ok (m : List (List Int)) : ∀ (k : Nat) (x o : List Int), IsW m x → x.length ≤ 2 * k + 1 → redB m (rdS m k x o).1 = true ∧ IsW m (rdS m k x o).1 ∧ imgW m (rdS m k x o).1 = imgW m x
  | 0, x, o, hW, hl => by
    unfold rdS
    refine ⟨?_, hW, rfl⟩
    refine red_of hW ?_
    obtain ⟨L, h1, h2, h3⟩ := len_has (gcm_of hW.2.1) (natsW_in hW.1)
    rw [natsW_len] at h2 h3
    have : L = (natsW x).length := by rw [natsW_len]; omega
    rw [this] at h1
    exact h1
  | k + 1, x, o, hW, hl => by
    unfold rdS
    cases hp : dlP m x with
    | none =>
      refine ⟨?_, hW, rfl⟩
      have := dl_red hW
      unfold dlB at this
      rw [hp] at this
      simpa using this.symm
    | some p =>
      obtain ⟨_, hab, hb, hW2, he⟩ := dl_same hp
      have h1 := delL_len (w := x) hb
      have h2 := delL_len (w := delL x (p.2 : Int)) (k := p.1) (by omega)
      obtain ⟨r1, r2, r3⟩ := rd_ok m k (delL (delL x (p.2 : Int)) (p.1 : Int)) (o ++ [(p.1 : Int), (p.2 : Int)]) hW2 (by omega)
      exact ⟨r1, r2, r3.trans he⟩
theorem rd_sam {m : List (List Int)} {w : List Int} (hW : IsW m w) : redB m (rdS m 15 w []).1 = true ∧ samB m w (rdS m 15 w []).1 = true := by
  obtain ⟨h1, h2, h3⟩ := rd_ok m 15 w [] hW (by have := hW.2.2; omega)
  refine ⟨h1, ?_⟩
  unfold samB
  rw [wordB_yes hW, wordB_yes h2, h3, eqwB_same]; rfl
theorem rdS_len (m : List (List Int)) : ∀ (k : Nat) (x o : List Int), (rdS m k x o).1.length ≤ x.length ∧ (rdS m k x o).2.length ≤ o.length + 2 * k
  | 0, x, o => ⟨Nat.le_refl _, Nat.le_refl _⟩
  | k + 1, x, o => by
    unfold rdS
    cases hp : dlP m x with
    | none => exact ⟨Nat.le_refl _, by show o.length ≤ _; omega⟩
    | some p =>
      have := rdS_len m k (delL (delL x (p.2 : Int)) (p.1 : Int)) (o ++ [(p.1 : Int), (p.2 : Int)])
      rw [List.length_append] at this
      have h1 := delL_le (delL x (p.2 : Int)) (p.1 : Int)
      have h2 := delL_le x (p.2 : Int)
      exact ⟨by show (rdS m k _ _).1.length ≤ _; omega, by show (rdS m k _ _).2.length ≤ _; have h3 : [(p.1 : Int), (p.2 : Int)].length = 2 := rfl; omega⟩
end Go.Proofs.Ytbmghddmilgngaa
namespace Go.Proofs.Ytbmghddmilgngaa
open Go.RowKit

theorem fst_all {p : Nat → Bool} {n : Nat} (h : fstK p n = none) : ∀ j, j < n → p j = false := fun j hj => by
  unfold fstK at h
  rw [List.find?_eq_none] at h
  simpa using h j (List.mem_range.2 hj)
theorem fst_below {p : Nat → Bool} {n k : Nat} (h : fstK p n = some k) : ∀ j, j < k → p j = false := fun j hj => by
  unfold fstK at h
  rw [List.find?_range_eq_some] at h
  simpa using h.2.2 j hj
/-- The least index at which a letter can be left out for one in front. -/
noncomputable def xiI (m : List (List Int)) (w : List Int) (i : Int) : Int := match fstK (exP m w i) w.length with | some k => (k : Int) | none => -1
theorem xiI_at {m : List (List Int)} {ws : List Int} {i : Int} {k : Nat} (hk : k < ws.length) (h1 : ∀ j, j < k → exP m ws i j = false) (h2 : exP m ws i k = true) : xiI m ws i = (k : Int) := by
  unfold xiI; rw [fst_at h1 hk h2]
theorem xiI_none {m : List (List Int)} {ws : List Int} {i : Int} (h1 : ∀ j, j < ws.length → exP m ws i j = false) : xiI m ws i = -1 := by
  unfold xiI; rw [fst_none h1]
theorem exI_xi {m : List (List Int)} {ws : List Int} {i : Int} (h : redB m ws = true ∧ i ∈ ldsL m ws) : exI m ws i = xiI m ws i := if_pos h
theorem xiI_cases (m : List (List Int)) (ws : List Int) (i : Int) : (∃ k : Nat, k < ws.length ∧ xiI m ws i = (k : Int) ∧ exP m ws i k = true ∧ ∀ j, j < k → exP m ws i j = false) ∨ (xiI m ws i = -1 ∧ ∀ j, j < ws.length → exP m ws i j = false) := by
  cases h : fstK (exP m ws i) ws.length with
  | some k => exact .inl ⟨k, (fst_some h).1, by unfold xiI; rw [h], (fst_some h).2, fst_below h⟩
  | none => exact .inr ⟨by unfold xiI; rw [h], fst_all h⟩
theorem erase_behind (p : List Int) (x : Int) (r : List Int) (k : Nat) : (p ++ x :: r).eraseIdx (p.length + 1 + k) = p ++ x :: r.eraseIdx k := by
  rw [List.eraseIdx_append_of_length_le (by omega), show p.length + 1 + k - p.length = k + 1 by omega]; rfl
theorem erase_here (p : List Int) (x : Int) (r : List Int) : (p ++ x :: r).eraseIdx p.length = p ++ r := by
  rw [List.eraseIdx_append_of_length_le (Nat.le_refl _), Nat.sub_self]; rfl
theorem map_inj {n : Nat} {A : Nat → Nat → Int} (g : Gcm n A) {p : List Nat} (hp : InN n p) {y z : Nat → Int} (h : mapN A p y = mapN A p z) : y = z := by
  have h1 := map_rev g p hp y
  rw [h, map_rev g p hp z] at h1
  exact h1.symm
theorem dl_ex {m : List (List Int)} {p r : List Int} {x : Int} {k : Nat} (hW : IsW m (p ++ x :: r)) (hk : k < r.length) : dlQ m (p ++ x :: r) p.length (p.length + 1 + k) = exP m r x k := by
  have hlets := letTo_iff.1 hW.1
  have h15 := hW.2.2
  rw [List.length_append, List.length_cons] at h15
  have hb : p.length + 1 + k < (p ++ x :: r).length := by rw [List.length_append, List.length_cons]; omega
  have hWr : Wd m (x :: r) := ⟨hW.2.1, letTo_iff.2 fun y hy => hlets y (List.mem_append_right _ hy), by rw [List.length_cons]; omega⟩
  have hWk : Wd m (delL r (k : Int)) := ⟨hW.2.1, letTo_del (letTo_iff.2 fun y hy => hlets y (List.mem_append_right _ (List.mem_cons_of_mem _ hy))) _, by have := delL_le r (k : Int); omega⟩
  have hWp : InN m.length (natsW p) := natsW_in (letTo_iff.2 fun y hy => hlets y (List.mem_append_left _ hy))
  have e : delL (delL (p ++ x :: r) ((p.length + 1 + k : Nat) : Int)) (p.length : Int) = p ++ delL r (k : Int) := by
    rw [delL_nat hb, erase_behind, delL_nat (by rw [List.length_append, List.length_cons]; omega), erase_here, delL_nat hk]
  unfold dlQ exP
  rw [eqwB_is, eqwB_is, decide_eq_decide, img_maps (wd_of (isW_del (isW_del hW _) _)) (wd_of hW), img_maps hWk hWr, e]
  constructor
  · intro h z
    have h1 := h z
    rw [natsW_append, natsW_append, mapN_append, mapN_append] at h1
    exact map_inj (gcm_of hW.2.1) hWp h1
  · intro h z
    rw [natsW_append, natsW_append, mapN_append, mapN_append, h z]
theorem dl_at {m : List (List Int)} {w : List Int} {i k : Nat} (hW : IsW m w) (hi : i < w.length) (hk : k < (w.drop (i + 1)).length) : dlQ m w i (i + 1 + k) = exP m (w.drop (i + 1)) (w.getD i 0) k := by
  have e : w.take i ++ w.getD i 0 :: w.drop (i + 1) = w := by
    rw [show w.getD i 0 = w[i] by simp [List.getD, hi], ← List.drop_eq_getElem_cons hi, List.take_append_drop]
  have hl : (w.take i).length = i := by rw [List.length_take]; omega
  have h := dl_ex (m := m) (p := w.take i) (r := w.drop (i + 1)) (x := w.getD i 0) (by rw [e]; exact hW) hk
  rw [hl, e] at h
  exact h
theorem dp_some {m : List (List Int)} {ws : List Int} {a b : Nat} (h : dlP m ws = some (a, b)) : dlI m ws = (a : Int) ∧ dlJ m ws = (b : Int) ∧ dlB m ws = true := by
  unfold dlI dlJ dlB; rw [h]; exact ⟨rfl, rfl, rfl⟩
theorem dp_none {m : List (List Int)} {ws : List Int} (h : dlP m ws = none) : dlI m ws = -1 ∧ dlJ m ws = -1 ∧ dlB m ws = false := by
  unfold dlI dlJ dlB; rw [h]; exact ⟨rfl, rfl, rfl⟩
theorem dp_hit {m : List (List Int)} {ws : List Int} {i k : Nat} (hW : IsW m ws) (hi : i < ws.length) (hr : ∀ x, x < i → ∀ y, x < y → y < ws.length → dlQ m ws x y = false) (hk : k < (ws.drop (i + 1)).length) (h2 : exP m (ws.drop (i + 1)) (ws.getD i 0) k = true) (h1 : ∀ j, j < k → exP m (ws.drop (i + 1)) (ws.getD i 0) j = false) : dlI m ws = (i : Int) ∧ dlJ m ws = ((i + 1 + k : Nat) : Int) ∧ dlB m ws = true := by
  refine dp_some ?_
  unfold dlP
  rw [if_pos (wordB_yes hW)]
  rw [List.length_drop] at hk
  refine prP_at (by omega) (by omega) (by rw [dl_at hW hi (by rw [List.length_drop]; omega)]; exact h2) hr fun j hj hjb => ?_
  have e : j = i + 1 + (j - (i + 1)) := by omega
  rw [e, dl_at hW hi (by rw [List.length_drop]; omega)]
  exact h1 _ (by omega)
theorem dp_miss {m : List (List Int)} {ws : List Int} {i : Nat} (hW : IsW m ws) (hi : i < ws.length) (hr : ∀ x, x < i → ∀ y, x < y → y < ws.length → dlQ m ws x y = false) (h1 : ∀ j, j < (ws.drop (i + 1)).length → exP m (ws.drop (i + 1)) (ws.getD i 0) j = false) : ∀ x, x < i + 1 → ∀ y, x < y → y < ws.length → dlQ m ws x y = false := fun x hx y hxy hy => by
  rcases Nat.lt_or_ge x i with hlt | hge
  · exact hr x hlt y hxy hy
  · obtain rfl : x = i := by omega
    have hl : y - (x + 1) < (ws.drop (x + 1)).length := by rw [List.length_drop]; omega
    have e : y = x + 1 + (y - (x + 1)) := by omega
    rw [e, dl_at hW hi hl]
    exact h1 _ hl
theorem dp_end {m : List (List Int)} {ws : List Int} (hr : ∀ x, x < ws.length → ∀ y, x < y → y < ws.length → dlQ m ws x y = false) : dlI m ws = -1 ∧ dlJ m ws = -1 ∧ dlB m ws = false := by
  refine dp_none ?_
  unfold dlP
  split
  · exact prP_none fun x y hxy hy => hr x (by omega) y hxy hy
  · rfl
theorem dp_no {m : List (List Int)} {ws : List Int} (h : ¬ IsW m ws) : dlI m ws = -1 ∧ dlJ m ws = -1 ∧ dlB m ws = false := by
  refine dp_none ?_
  unfold dlP; rw [wordB_no h]; rfl
theorem wd_tail {m : List (List Int)} {ws : List Int} {i : Nat} (hW : IsW m ws) (hi : i < ws.length) : IsW m (ws.drop (i + 1)) ∧ Wd m (ws.getD i 0 :: ws.drop (i + 1)) := by
  have hlets := letTo_iff.1 hW.1
  have h15 := hW.2.2
  have hm : ws.getD i 0 ∈ ws := by
    rw [show ws.getD i 0 = ws[i] by simp [List.getD, hi]]; exact List.getElem_mem hi
  refine ⟨⟨letTo_iff.2 fun y hy => hlets y (List.mem_of_mem_drop hy), hW.2.1, by rw [List.length_drop]; omega⟩, ⟨hW.2.1, letTo_iff.2 fun y hy => ?_, by rw [List.length_cons, List.length_drop]; omega⟩⟩
  rcases List.mem_cons.1 hy with rfl | hy
  · exact hlets _ hm
  · exact hlets y (List.mem_of_mem_drop hy)
/-! ### ReduceByDeletion, a round -/
theorem rd_hit {m : List (List Int)} {X O : List Int} {T : List Int × List Int} {t : Nat} (h : dlB m X = true) (hl : t = 0 ∨ X.length + 2 * t ≤ 15) (hT : rdS m (15 - t) X O = T) : ∃ a b : Nat, dlI m X = (a : Int) ∧ dlJ m X = (b : Int) ∧ a < b ∧ b < X.length ∧ (X.eraseIdx b).length = X.length - 1 ∧ ((X.eraseIdx b).eraseIdx a).length = X.length - 2 ∧ ((X.eraseIdx b).eraseIdx a).length + 2 * (t + 1) ≤ 15 ∧ rdS m (15 - (t + 1)) ((X.eraseIdx b).eraseIdx a) (O ++ [(a : Int), (b : Int)]) = T := by
  unfold dlB at h
  cases hp : dlP m X with
  | none => rw [hp] at h; cases h
  | some p =>
    obtain ⟨hW, hab, hb, _, _⟩ := dl_same (a := p.1) (b := p.2) hp
    have h15 := hW.2.2
    have hb1 : (X.eraseIdx p.2).length = X.length - 1 := by rw [List.length_eraseIdx, if_pos hb]
    have ha1 : ((X.eraseIdx p.2).eraseIdx p.1).length = X.length - 2 := by rw [List.length_eraseIdx, if_pos (by omega)]; omega
    refine ⟨p.1, p.2, by unfold dlI; rw [hp], by unfold dlJ; rw [hp], hab, hb, hb1, ha1, by omega, ?_⟩
    rw [← hT, show 15 - t = 15 - (t + 1) + 1 by omega]
    conv => rhs; unfold rdS
    rw [hp]
    show _ = rdS m (15 - (t + 1)) (delL (delL X (p.2 : Int)) (p.1 : Int)) _
    rw [delL_nat hb, delL_nat (by omega)]
theorem rd_miss {m : List (List Int)} {X O : List Int} {T : List Int × List Int} {k : Nat} (h : dlB m X = false) (hT : rdS m k X O = T) : T = (X, O) := by
  rw [← hT]
  cases k with
  | zero => rfl
  | succ k =>
    unfold rdS
    unfold dlB at h
    cases hp : dlP m X with
    | none => rfl
    | some p => rw [hp] at h; cases h
end Go.Proofs.Ytbmghddmilgngaa
namespace Go.Proofs.Ytbmghddmilgngaa
open Go.RowKit

theorem RowB.upE {w w' : World} {v : Value} {l : List Int} (h : RowB w.heap.size w v l) (hb : Below w.heap.size w w') : RowB w'.heap.size w' v l := (h.below hb (Nat.le_refl _)).mono hb.size
theorem MatB.upE {w w' : World} {v : Value} {m : List (List Int)} (h : MatB w.heap.size w v m) (hb : Below w.heap.size w w') : MatB w'.heap.size w' v m := (h.below hb (Nat.le_refl _)).mono hb.size
theorem isws_e (v v' : Value) (m : List (List Int)) (l : List Int) (w : World) (h : MatB w.heap.size w v m) (h' : RowB w.heap.size w v' l) (hf : RowsFit m) (hl : l.length ≤ 1048576) :
    Calls Try.prog 23 #[v, v'] w fun e w' => e = .returned (.bool (wordB m l)) ∧ Below w.heap.size w w' :=
  (isws_any _ _ v v' m l w h h' hf (by unfold maxLen; omega)).mono fun e w' ⟨h1, q, h2⟩ => ⟨h1, by rw [h2]; exact below_drewN q⟩
theorem eqws_e (v v' : Value) (l l' : List Int) (w : World) (h : RowB w.heap.size w v l) (h' : RowB w.heap.size w v' l') (hl : l.length ≤ 1048576) (hl' : l'.length ≤ 1048576) :
    Calls Try.prog 47 #[v, v'] w fun e w' => e = .returned (.bool (eqwB l l')) ∧ Below w.heap.size w w' :=
  (eqws_any _ v v' l l' w h h' (by unfold maxLen; omega) (by unfold maxLen; omega)).mono fun e w' ⟨h1, q, h2⟩ => ⟨h1, by rw [h2]; exact below_drewN q⟩
end Go.Proofs.Ytbmghddmilgngaa
namespace Go.Proofs
open Go.Shelf
end Go.Proofs
