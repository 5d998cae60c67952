/-
  IsConnected and HasCycle of the model and of the program: what each call returns.
  WitnessOf, IsFinite and IsAffine of the model: what the calls return.
  Lengths: what the model's OrderOfElement returns.
  Elements: what products, inverses, powers and conjugates answer, and the laws that FnElements asks for (no walk here).
-/
import Derived.Test.YtbmghddmilgngaaLc21
import Derived.Test.YtbmghddmilgngaaLc18
import Derived.Test.YtbmghddmilgngaaLc09
namespace Go.Proofs.Ytbmghddmilgngaa
open Go.RowKit

def connB (m : Nat) : Bool := decide (m = 1)
theorem connB_int (L : Nat) : ((L : Int) == 1) = connB L := by
  unfold connB
  by_cases h : L = 1
  · subst h; rfl
  · rw [decide_eq_false h, beq_eq_false_iff_ne]; omega

/-! ### HasCycle -/
def cntK (E : Nat → Nat → Bool) (k j : Nat) : Nat := ((List.range j).filter (E k)).length
theorem cntK_le (E : Nat → Nat → Bool) (k j : Nat) : cntK E k j ≤ j := Nat.le_trans (List.length_filter_le _ _) (by rw [List.length_range]; exact Nat.le_refl _)
theorem cntK_yes {E : Nat → Nat → Bool} {k j : Nat} (h : E k j = true) : cntK E k (j + 1) = cntK E k j + 1 := by
  unfold cntK
  rw [List.range_succ, List.filter_append]
  simp [h]
theorem cntK_no {E : Nat → Nat → Bool} {k j : Nat} (h : E k j = false) : cntK E k (j + 1) = cntK E k j := by
  unfold cntK
  rw [List.range_succ, List.filter_append]
  simp [h]
theorem edgesN_succ (E : Nat → Nat → Bool) (k : Nat) : edgesN E (k + 1) = edgesN E k + cntK E k k := by
  unfold edgesN cntK
  rw [List.range_succ, List.map_append, List.sum_append]
  simp
theorem edgesN_le (E : Nat → Nat → Bool) (k : Nat) (hk : k ≤ 5) : edgesN E k ≤ 4 * k := by
  induction k with
  | zero => exact Nat.le_refl _
  | succ k ih =>
    rw [edgesN_succ]
    have h1 := ih (by omega)
    have h2 := cntK_le E k k
    omega
noncomputable def endsV (m : List (List Int)) (k : Nat) : Nat := ((List.range k).map fun i => (nbs m ((i : Nat) : Int)).length).sum
theorem endsV_succ (m : List (List Int)) (k : Nat) : endsV m (k + 1) = endsV m k + (nbs m (k : Int)).length := by
  unfold endsV
  rw [List.range_succ, List.map_append, List.sum_append]
  simp
theorem endsV_bad {m : List (List Int)} (h : ¬ IsC m) (k : Nat) : endsV m k = 0 := by
  induction k with
  | zero => rfl
  | succ k ih => rw [endsV_succ, ih, nbs_no (fun hh => h hh.1)]; rfl
theorem endsV_le {m : List (List Int)} (k : Nat) (hk : k ≤ m.length) : endsV m k ≤ 16 := by
  by_cases h : IsC m
  · have h4 := h.2.2.2
    have : endsV m k ≤ 4 * k := by
      clear hk
      induction k with
      | zero => exact Nat.le_refl _
      | succ k ih => rw [endsV_succ]; have := nbs_len m (k : Int); omega
    omega
  · rw [endsV_bad h]; omega
theorem endsV_good {m : List (List Int)} (h : IsC m) (k : Nat) (hk : k ≤ m.length) : endsV m k = endsN (nbG m m.length) k := by
  unfold endsV endsN
  congr 1
  apply List.map_congr_left
  intro i hi
  have hi := List.mem_range.1 hi
  rw [nbs_yes ⟨h, by omega⟩, nbK_eq, intL_len]
  rfl
open Classical in
noncomputable def cycB (m : List (List Int)) : Bool := decide (IsC m ∧ (m.length : Int) - ((partsV m).length : Nat) < ((edgesN (nbF m) m.length : Nat) : Int))
open Classical in
theorem cycB_good {m : List (List Int)} (h : IsC m) : cycB m = decide ((m.length : Int) - ((partsV m).length : Nat) < ((edgesN (nbF m) m.length : Nat) : Int)) := by
  unfold cycB
  rw [decide_eq_decide]
  exact ⟨fun h => h.2, fun h' => ⟨h, h'⟩⟩
open Classical in
theorem cycB_bad {m : List (List Int)} (h : ¬ IsC m) : cycB m = false := decide_eq_false (fun hh => h hh.1)

end Go.Proofs.Ytbmghddmilgngaa
namespace Go.Proofs.Ytbmghddmilgngaa
open Go.RowKit

/-! ### IsFinite -/
open Classical in
noncomputable def finB (m : List (List Int)) : Bool := decide (IsC m ∧ (witV m).length = 0)
open Classical in
theorem finB_yes {m : List (List Int)} (h : IsC m) : finB m = decide ((witV m).length = 0) := by
  unfold finB
  rw [decide_eq_decide]
  exact ⟨fun h => h.2, fun h' => ⟨h, h'⟩⟩
open Classical in
theorem finB_no {m : List (List Int)} (h : ¬ IsC m) : finB m = false := decide_eq_false (fun hh => h hh.1)
theorem len_int0 (L : Nat) : ((L : Int) == 0) = decide (L = 0) := by
  by_cases h : L = 0
  · subst h; rfl
  · rw [decide_eq_false h, beq_eq_false_iff_ne]; omega

end Go.Proofs.Ytbmghddmilgngaa
namespace Go.Proofs.Ytbmghddmilgngaa
open Go.RowKit

noncomputable def ordI (m : List (List Int)) (ws : List Int) : Int := if wordB m ws = true then (if (decide (7 < (nrmL m ws).length) && !finB m) = true then 0 else ordS m (nrmL m ws) 60 1 (imgW m ws)) else 0
theorem letTo_append {n : Nat} {a b : List Int} (ha : LetTo n a a.length) (hb : LetTo n b b.length) : LetTo n (a ++ b) (a ++ b).length := by
  intro j hj
  rw [List.length_append] at hj
  rcases Nat.lt_or_ge j a.length with h | h
  · have := ha j h
    have e : (a ++ b).getD j 0 = a.getD j 0 := by rw [List.getD_eq_getElem?_getD, List.getD_eq_getElem?_getD, List.getElem?_append_left h]
    rw [e]; exact this
  · have := hb (j - a.length) (by omega)
    have e : (a ++ b).getD j 0 = b.getD (j - a.length) 0 := by rw [List.getD_eq_getElem?_getD, List.getD_eq_getElem?_getD, List.getElem?_append_right h]
    rw [e]; exact this
end Go.Proofs.Ytbmghddmilgngaa
namespace Go.Proofs.Ytbmghddmilgngaa
open Go.RowKit

/-- A word of at most 30 letters (a product of two words). -/
structure Wd (m : List (List Int)) (ws : List Int) : Prop where
  car : IsC m
  lets : LetTo m.length ws ws.length
  short : ws.length ≤ 30
theorem wd_of {m : List (List Int)} {ws : List Int} (h : IsW m ws) : Wd m ws := ⟨h.2.1, h.1, by have := h.2.2; omega⟩
theorem wd_cat {m : List (List Int)} {a b : List Int} (ha : IsW m a) (hb : IsW m b) : Wd m (a ++ b) := ⟨ha.2.1, letTo_append ha.1 hb.1, by rw [List.length_append]; have := ha.2.2; have := hb.2.2; omega⟩
theorem wd_nil {m : List (List Int)} (h : IsC m) : Wd m [] := ⟨h, fun _j hj => absurd hj (Nat.not_lt_zero _), Nat.zero_le _⟩
/-- The normal form of a word of at most 30 letters. -/
def fitL (m : List (List Int)) (ws : List Int) : List Int := frmI m 31 (imgW m ws)
theorem nrm_fit {m : List (List Int)} {ws : List Int} (h : IsW m ws) : nrmL m ws = fitL m ws := nrmL_yes h
theorem fitL_len (m : List (List Int)) (ws : List Int) : (fitL m ws).length ≤ 31 := frmI_len m 31 _
theorem wd_vec {m : List (List Int)} {ws : List Int} (h : Wd m ws) : vecW (imgW m ws) = mapN (entry m) (natsW ws) onesV := by
  rw [imgW_nats]
  exact (imgN_vec h.car (natsW ws) (natsW_in h.lets) (by rw [natsW_len]; have := h.short; omega)).1
theorem fit_spec {m : List (List Int)} {ws : List Int} (h : Wd m ws) : imgW m (fitL m ws) = imgW m ws ∧ (fitL m ws).length ≤ ws.length ∧ (fitL m ws).length % 2 = ws.length % 2 ∧ Wd m (fitL m ws) ∧ ∀ z, mapN (entry m) (natsW (fitL m ws)) z = mapN (entry m) (natsW ws) z := by
  obtain ⟨L, h1, h2, h3⟩ := img_dn h.car h.lets h.short
  have hs := h.short
  obtain ⟨f1, f2, _, f4⟩ := frm_of h.car (imgW_len m ws) (by omega) h1
  unfold fitL
  refine ⟨f4, by omega, by omega, ⟨h.car, letTo_form (imgW_len m ws), by omega⟩, fun z => ?_⟩
  rw [frmI_nats, ← f2]
theorem fit_same {m : List (List Int)} {u v : List Int} (hu : Wd m u) (hv : Wd m v) (e : ∀ z, mapN (entry m) (natsW u) z = mapN (entry m) (natsW v) z) : imgW m u = imgW m v ∧ fitL m u = fitL m v := by
  have hi : imgW m u = imgW m v := vecW_inj (by rw [imgW_len, imgW_len]) (by rw [wd_vec hu, wd_vec hv, e])
  exact ⟨hi, by unfold fitL; rw [hi]⟩
theorem map_same {m : List (List Int)} {u v : List Int} (hu : Wd m u) (hv : Wd m v) (e : imgW m u = imgW m v) (z : Nat → Int) : mapN (entry m) (natsW u) z = mapN (entry m) (natsW v) z := by
  rw [← (fit_spec hu).2.2.2.2, ← (fit_spec hv).2.2.2.2]
  unfold fitL; rw [e]
theorem fit_word {m : List (List Int)} {ws : List Int} (h : Wd m ws) (h15 : (fitL m ws).length ≤ 15) : IsW m (fitL m ws) := ⟨(fit_spec h).2.2.2.1.lets, h.car, h15⟩
theorem fit_fit {m : List (List Int)} {ws : List Int} (h : Wd m ws) : fitL m (fitL m ws) = fitL m ws := by
  conv => lhs; unfold fitL
  rw [show frmI m 31 (imgW m ws) = fitL m ws from rfl, (fit_spec h).1]; rfl

/-! ### The answers -/
noncomputable def mulB (m : List (List Int)) (a b : List Int) : Bool := wordB m a && wordB m b && decide ((fitL m (a ++ b)).length ≤ 15)
noncomputable def mulL (m : List (List Int)) (a b : List Int) : List Int := if mulB m a b = true then fitL m (a ++ b) else []
noncomputable def elemB (m : List (List Int)) (w : List Int) : Bool := wordB m w && eqwB (nrmL m w) w
noncomputable def invB (m : List (List Int)) (w : List Int) : Bool := wordB m w.reverse
noncomputable def invL (m : List (List Int)) (w : List Int) : List Int := nrmL m w.reverse
noncomputable def comB (m : List (List Int)) (a b : List Int) : Bool := wordB m a && wordB m b && eqwB (imgW m (a ++ b)) (imgW m (b ++ a))
noncomputable def ivoB (m : List (List Int)) (w : List Int) : Bool := decide (0 < lenI m w) && comB m w w && samB m w w.reverse
/-- Powers: the k-th, with false once one power is too long. -/
noncomputable def powS (m : List (List Int)) (x : List Int) : Nat → List Int × Bool
  | 0 => ([], true)
  | k + 1 => if (powS m x k).2 = true then (mulL m (powS m x k).1 x, mulB m (powS m x k).1 x) else ([], false)
noncomputable def powB (m : List (List Int)) (w : List Int) (k : Int) : Bool := wordB m w && decide (0 ≤ k ∧ k ≤ 60) && (powS m (nrmL m w) k.toNat).2
noncomputable def powL (m : List (List Int)) (w : List Int) (k : Int) : List Int := if powB m w k = true then (powS m (nrmL m w) k.toNat).1 else []
noncomputable def cnjB (m : List (List Int)) (w by_ : List Int) : Bool := mulB m by_.reverse w && mulB m (mulL m by_.reverse w) by_
noncomputable def cnjL (m : List (List Int)) (w by_ : List Int) : List Int := if cnjB m w by_ = true then mulL m (mulL m by_.reverse w) by_ else []
theorem wordB_is' {m : List (List Int)} {w : List Int} (h : wordB m w = true) : IsW m w := Classical.byContradiction fun h' => by rw [wordB_no h'] at h; cases h
theorem mul_yes {m : List (List Int)} {a b : List Int} (h : mulB m a b = true) : IsW m a ∧ IsW m b ∧ (fitL m (a ++ b)).length ≤ 15 ∧ mulL m a b = fitL m (a ++ b) := by
  have h0 := h
  unfold mulB at h
  rw [Bool.and_eq_true, Bool.and_eq_true] at h
  exact ⟨wordB_is' h.1.1, wordB_is' h.1.2, of_decide_eq_true h.2, by unfold mulL; rw [if_pos h0]⟩
theorem mul_no {m : List (List Int)} {a b : List Int} (h : mulB m a b = false) : mulL m a b = [] := by unfold mulL; rw [h]; rfl
theorem mul_word {m : List (List Int)} {a b : List Int} (h : mulB m a b = true) : IsW m (mulL m a b) := by
  obtain ⟨ha, hb, h15, e⟩ := mul_yes h
  rw [e]; exact fit_word (wd_cat ha hb) h15
theorem eqwB_same (l : List Int) : eqwB l l = true := by unfold eqwB; rw [decide_eq_true_iff]; exact cmpW_zero.2 rfl
theorem eqwB_is (a b : List Int) : eqwB a b = decide (a = b) := by
  unfold eqwB
  by_cases h : a = b
  · rw [decide_eq_true h, decide_eq_true (cmpW_zero.2 h)]
  · rw [decide_eq_false h, decide_eq_false (fun h' => h (cmpW_zero.1 h'))]
theorem mul_map {m : List (List Int)} {a b : List Int} (h : mulB m a b = true) (z : Nat → Int) : mapN (entry m) (natsW (mulL m a b)) z = mapN (entry m) (natsW a) (mapN (entry m) (natsW b) z) := by
  obtain ⟨ha, hb, h15, e⟩ := mul_yes h
  rw [e, (fit_spec (wd_cat ha hb)).2.2.2.2, natsW_append, mapN_append]
/-! ### The laws -/
theorem mul_elem {m : List (List Int)} {a b : List Int} (h : mulB m a b = true) : elemB m (mulL m a b) = true := by
  have hw := mul_word h
  obtain ⟨ha, hb, h15, e⟩ := mul_yes h
  unfold elemB
  rw [wordB_yes hw, Bool.true_and, nrm_fit hw, e, fit_fit (wd_cat ha hb)]
  exact eqwB_same _
theorem mul_assoc {m : List (List Int)} {a b d : List Int} (h1 : mulB m a b = true) (h2 : mulB m b d = true) (h3 : mulB m (mulL m a b) d = true) (h4 : mulB m a (mulL m b d) = true) : mulL m (mulL m a b) d = mulL m a (mulL m b d) := by
  obtain ⟨_, _, _, e3⟩ := mul_yes h3
  obtain ⟨ha, _, _, e4⟩ := mul_yes h4
  obtain ⟨_, hd, _, _⟩ := mul_yes h2
  rw [e3, e4]
  refine (fit_same (wd_cat (mul_word h1) hd) (wd_cat ha (mul_word h2)) fun z => ?_).2
  rw [natsW_append, mapN_append, natsW_append, mapN_append, mul_map h1, mul_map h2]
theorem fit_nil {m : List (List Int)} (hC : IsC m) : fitL m [] = [] := by
  have := (fit_spec (wd_nil hC)).2.1
  exact List.length_eq_zero_iff.1 (by simpa using this)
theorem inv_word {m : List (List Int)} {a : List Int} (h : IsW m a) : invB m a = true := wordB_yes (isW_rev h)
theorem inv_map {m : List (List Int)} {a : List Int} (h : IsW m a) (z : Nat → Int) : mapN (entry m) (natsW a) (mapN (entry m) (natsW (invL m a)) z) = z := by
  have hr := isW_rev h
  unfold invL
  rw [nrm_fit hr, (fit_spec (wd_of hr)).2.2.2.2, natsW_rev]
  have := map_rev (gcm_of h.2.1) (natsW a).reverse (inN_rev (natsW_in h.1)) z
  rwa [List.reverse_reverse] at this
theorem inv_mul {m : List (List Int)} {a : List Int} (h : IsW m a) : mulB m a (invL m a) = true ∧ mulL m a (invL m a) = [] := by
  have hi : IsW m (invL m a) := nrm_word (isW_rev h)
  have hw := wd_cat h hi
  have e : fitL m (a ++ invL m a) = [] := by
    rw [(fit_same hw (wd_nil h.2.1) fun z => ?_).2, fit_nil h.2.1]
    rw [natsW_append, mapN_append, inv_map h]; rfl
  have hb : mulB m a (invL m a) = true := by unfold mulB; rw [wordB_yes h, wordB_yes hi, e]; rfl
  exact ⟨hb, by rw [(mul_yes hb).2.2.2, e]⟩
theorem com_sam {m : List (List Int)} {a b : List Int} (h : mulB m a b = true) (h15 : a.length + b.length ≤ 15) : comB m a b = samB m (mulL m a b) (b ++ a) := by
  obtain ⟨ha, hb, _, e⟩ := mul_yes h
  have hba : IsW m (b ++ a) := ⟨letTo_append hb.1 ha.1, ha.2.1, by rw [List.length_append]; omega⟩
  unfold comB samB
  rw [wordB_yes ha, wordB_yes hb, wordB_yes (mul_word h), wordB_yes hba, e, (fit_spec (wd_cat ha hb)).1]
theorem ivo_ord {m : List (List Int)} {w : List Int} (h : ivoB m w = true) : ordI m w = 2 ∨ ordI m w = 0 := by
  unfold ivoB at h
  rw [Bool.and_eq_true, Bool.and_eq_true] at h
  obtain ⟨⟨hl, _⟩, hs⟩ := h
  have hl := of_decide_eq_true hl
  unfold samB at hs
  rw [Bool.and_eq_true, Bool.and_eq_true, eqwB_is, decide_eq_true_iff] at hs
  have hW := wordB_is' hs.1.1
  have hR := isW_rev hW
  have he := hs.2
  have hx := nrm_word hW
  have hn : nrmL m w = fitL m w := nrm_fit hW
  have hln : (frmI m 31 (imgW m w)).length ≠ 0 := by
    unfold lenI at hl
    rw [if_pos (wordB_yes hW), hn] at hl
    unfold fitL at hl
    omega
  have h15 : (frmI m 31 (imgW m w)).length ≤ 15 := by
    have h1 := (nrm_le hW).1
    have h2 := hW.2.2
    rw [hn] at h1
    unfold fitL at h1
    omega
  unfold ordI
  rw [if_pos (wordB_yes hW)]
  split
  · exact Or.inr rfl
  · refine Or.inl ?_
    rw [ordS_more (f := 59) hln (by omega)]
    have hp := pow_next hW.2.1 hx.1 (hx.2.2) (pow_start hW) h15
    have e2 : actW m (nrmL m w) (imgW m w) = imgW m (fitL m w ++ fitL m w) := by rw [hp.1, hn]; rfl
    have hff : Wd m (fitL m w ++ fitL m w) := by rw [← hn]; exact wd_cat hx hx
    have e3 : fitL m (fitL m w ++ fitL m w) = [] := by
      rw [(fit_same hff (wd_nil hW.2.1) fun z => ?_).2, fit_nil hW.2.1]
      rw [natsW_append, mapN_append, (fit_spec (wd_of hW)).2.2.2.2, (fit_spec (wd_of hW)).2.2.2.2, map_same (wd_of hW) (wd_of hR) he, natsW_rev]
      exact map_rev (gcm_of hW.2.1) (natsW w) (natsW_in hW.1) z
    have e4 : (frmI m 31 (actW m (nrmL m w) (imgW m w))).length = 0 := by
      rw [e2]
      have : (fitL m (fitL m w ++ fitL m w)).length = 0 := by rw [e3]; rfl
      exact this
    rw [ordS_one (f := 58) e4]
    rfl
end Go.Proofs.Ytbmghddmilgngaa
