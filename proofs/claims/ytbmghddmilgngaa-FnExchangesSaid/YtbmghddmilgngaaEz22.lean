/-
  IsConnected and HasCycle of the model and of the program: what each call returns.
  WitnessOf, IsFinite and IsAffine of the model: what the calls return.
  Lengths: what the model's OrderOfElement returns.
  Elements: what products, inverses, powers and conjugates answer, and the laws that FnElements asks for (no walk here).
  Elements: what the model's functions of chapter 9 return.
  Elements: the program's ways to the same answers (no walk here).
  Weights: what the program's reflection in place returns.
-/
import Derived.Test.YtbmghddmilgngaaEz21
import Derived.Test.YtbmghddmilgngaaEz18
import Derived.Test.YtbmghddmilgngaaEz09
import Derived.Deep.RegionLaw
import Derived.Test.YtbmghddmilgngaaEz04
import Derived.Test.YtbmghddmilgngaaEz16
import Derived.Test.YtbmghddmilgngaaEz15
namespace Go.Proofs.Ytbmghddmilgngaa
open Go.RowKit

def connB (m : Nat) : Bool := decide (m = 1)
theorem connB_int (L : Nat) : ((L : Int) == 1) = connB L := by
  unfold connB
  by_cases h : L = 1
  · subst h; rfl
  · rw [decide_eq_false h, beq_eq_false_iff_ne]; omega

/-! ### HasCycle -/
def cntK (E : Nat → Nat → Bool) (k j : Nat) : Nat := ((List.range j).filter (E k)).length
theorem cntK_le (E : Nat → Nat → Bool) (k j : Nat) : cntK E k j ≤ j := Nat.le_trans (List.length_filter_le _ _) (by rw [List.length_range]; exact Nat.le_refl _)
theorem cntK_yes {E : Nat → Nat → Bool} {k j : Nat} (h : E k j = true) : cntK E k (j + 1) = cntK E k j + 1 := by
  unfold cntK
  rw [List.range_succ, List.filter_append]
  simp [h]
theorem cntK_no {E : Nat → Nat → Bool} {k j : Nat} (h : E k j = false) : cntK E k (j + 1) = cntK E k j := by
  unfold cntK
  rw [List.range_succ, List.filter_append]
  simp [h]
theorem edgesN_succ (E : Nat → Nat → Bool) (k : Nat) : edgesN E (k + 1) = edgesN E k + cntK E k k := by
  unfold edgesN cntK
  rw [List.range_succ, List.map_append, List.sum_append]
  simp
theorem edgesN_le (E : Nat → Nat → Bool) (k : Nat) (hk : k ≤ 5) : edgesN E k ≤ 4 * k := by
  induction k with
  | zero => exact Nat.le_refl _
  | succ k ih =>
    rw [edgesN_succ]
    have h1 := ih (by omega)
    have h2 := cntK_le E k k
    omega
noncomputable def endsV (m : List (List Int)) (k : Nat) : Nat := ((List.range k).map fun i => (nbs m ((i : Nat) : Int)).length).sum
theorem endsV_succ (m : List (List Int)) (k : Nat) : endsV m (k + 1) = endsV m k + (nbs m (k : Int)).length := by
  unfold endsV
  rw [List.range_succ, List.map_append, List.sum_append]
  simp
theorem endsV_bad {m : List (List Int)} (h : ¬ IsC m) (k : Nat) : endsV m k = 0 := by
  induction k with
  | zero => rfl
  | succ k ih => rw [endsV_succ, ih, nbs_no (fun hh => h hh.1)]; rfl
theorem endsV_le {m : List (List Int)} (k : Nat) (hk : k ≤ m.length) : endsV m k ≤ 16 := by
  by_cases h : IsC m
  · have h4 := h.2.2.2
    have : endsV m k ≤ 4 * k := by
      clear hk
      induction k with
      | zero => exact Nat.le_refl _
      | succ k ih => rw [endsV_succ]; have := nbs_len m (k : Int); omega
    omega
  · rw [endsV_bad h]; omega
theorem endsV_good {m : List (List Int)} (h : IsC m) (k : Nat) (hk : k ≤ m.length) : endsV m k = endsN (nbG m m.length) k := by
  unfold endsV endsN
  congr 1
  apply List.map_congr_left
  intro i hi
  have hi := List.mem_range.1 hi
  rw [nbs_yes ⟨h, by omega⟩, nbK_eq, intL_len]
  rfl
open Classical in
noncomputable def cycB (m : List (List Int)) : Bool := decide (IsC m ∧ (m.length : Int) - ((partsV m).length : Nat) < ((edgesN (nbF m) m.length : Nat) : Int))
open Classical in
theorem cycB_good {m : List (List Int)} (h : IsC m) : cycB m = decide ((m.length : Int) - ((partsV m).length : Nat) < ((edgesN (nbF m) m.length : Nat) : Int)) := by
  unfold cycB
  rw [decide_eq_decide]
  exact ⟨fun h => h.2, fun h' => ⟨h, h'⟩⟩
open Classical in
theorem cycB_bad {m : List (List Int)} (h : ¬ IsC m) : cycB m = false := decide_eq_false (fun hh => h hh.1)

end Go.Proofs.Ytbmghddmilgngaa
namespace Go.Proofs.Ytbmghddmilgngaa
open Go.RowKit

/-! ### IsFinite -/
open Classical in
noncomputable def finB (m : List (List Int)) : Bool := decide (IsC m ∧ (witV m).length = 0)
open Classical in
theorem finB_yes {m : List (List Int)} (h : IsC m) : finB m = decide ((witV m).length = 0) := by
  unfold finB
  rw [decide_eq_decide]
  exact ⟨fun h => h.2, fun h' => ⟨h, h'⟩⟩
open Classical in
theorem finB_no {m : List (List Int)} (h : ¬ IsC m) : finB m = false := decide_eq_false (fun hh => h hh.1)
theorem len_int0 (L : Nat) : ((L : Int) == 0) = decide (L = 0) := by
  by_cases h : L = 0
  · subst h; rfl
  · rw [decide_eq_false h, beq_eq_false_iff_ne]; omega

end Go.Proofs.Ytbmghddmilgngaa
namespace Go.Proofs.Ytbmghddmilgngaa
open Go.RowKit

noncomputable def ordI (m : List (List Int)) (ws : List Int) : Int := if wordB m ws = true then (if (decide (7 < (nrmL m ws).length) && !finB m) = true then 0 else ordS m (nrmL m ws) 60 1 (imgW m ws)) else 0
theorem letTo_append {n : Nat} {a b : List Int} (ha : LetTo n a a.length) (hb : LetTo n b b.length) : LetTo n (a ++ b) (a ++ b).length := by
  intro j hj
  rw [List.length_append] at hj
  rcases Nat.lt_or_ge j a.length with h | h
  · have := ha j h
    have e : (a ++ b).getD j 0 = a.getD j 0 := by rw [List.getD_eq_getElem?_getD, List.getD_eq_getElem?_getD, List.getElem?_append_left h]
    rw [e]; exact this
  · have := hb (j - a.length) (by omega)
    have e : (a ++ b).getD j 0 = b.getD (j - a.length) 0 := by rw [List.getD_eq_getElem?_getD, List.getD_eq_getElem?_getD, List.getElem?_append_right h]
    rw [e]; exact this
end Go.Proofs.Ytbmghddmilgngaa
namespace Go.Proofs.Ytbmghddmilgngaa
open Go.RowKit

/-- A word of at most 30 letters (a product of two words). -/
structure Wd (m : List (List Int)) (ws : List Int) : Prop where
  car : IsC m
  lets : LetTo m.length ws ws.length
  short : ws.length ≤ 30
theorem wd_of {m : List (List Int)} {ws : List Int} (h : IsW m ws) : Wd m ws := ⟨h.2.1, h.1, by have := h.2.2; omega⟩
theorem wd_cat {m : List (List Int)} {a b : List Int} (ha : IsW m a) (hb : IsW m b) : Wd m (a ++ b) := ⟨ha.2.1, letTo_append ha.1 hb.1, by rw [List.length_append]; have := ha.2.2; have := hb.2.2; omega⟩
theorem wd_nil {m : List (List Int)} (h : IsC m) : Wd m [] := ⟨h, fun _j hj => absurd hj (Nat.not_lt_zero _), Nat.zero_le _⟩
/-- The normal form of a word of at most 30 letters. -/
def fitL (m : List (List Int)) (ws : List Int) : List Int := frmI m 31 (imgW m ws)
theorem nrm_fit {m : List (List Int)} {ws : List Int} (h : IsW m ws) : nrmL m ws = fitL m ws := nrmL_yes h
theorem fitL_len (m : List (List Int)) (ws : List Int) : (fitL m ws).length ≤ 31 := frmI_len m 31 _
theorem wd_vec {m : List (List Int)} {ws : List Int} (h : Wd m ws) : vecW (imgW m ws) = mapN (entry m) (natsW ws) onesV := by
  rw [imgW_nats]
  exact (imgN_vec h.car (natsW ws) (natsW_in h.lets) (by rw [natsW_len]; have := h.short; omega)).1
theorem fit_spec {m : List (List Int)} {ws : List Int} (h : Wd m ws) : imgW m (fitL m ws) = imgW m ws ∧ (fitL m ws).length ≤ ws.length ∧ (fitL m ws).length % 2 = ws.length % 2 ∧ Wd m (fitL m ws) ∧ ∀ z, mapN (entry m) (natsW (fitL m ws)) z = mapN (entry m) (natsW ws) z := by
  obtain ⟨L, h1, h2, h3⟩ := img_dn h.car h.lets h.short
  have hs := h.short
  obtain ⟨f1, f2, _, f4⟩ := frm_of h.car (imgW_len m ws) (by omega) h1
  unfold fitL
  refine ⟨f4, by omega, by omega, ⟨h.car, letTo_form (imgW_len m ws), by omega⟩, fun z => ?_⟩
  rw [frmI_nats, ← f2]
theorem fit_same {m : List (List Int)} {u v : List Int} (hu : Wd m u) (hv : Wd m v) (e : ∀ z, mapN (entry m) (natsW u) z = mapN (entry m) (natsW v) z) : imgW m u = imgW m v ∧ fitL m u = fitL m v := by
  have hi : imgW m u = imgW m v := vecW_inj (by rw [imgW_len, imgW_len]) (by rw [wd_vec hu, wd_vec hv, e])
  exact ⟨hi, by unfold fitL; rw [hi]⟩
theorem map_same {m : List (List Int)} {u v : List Int} (hu : Wd m u) (hv : Wd m v) (e : imgW m u = imgW m v) (z : Nat → Int) : mapN (entry m) (natsW u) z = mapN (entry m) (natsW v) z := by
  rw [← (fit_spec hu).2.2.2.2, ← (fit_spec hv).2.2.2.2]
  unfold fitL; rw [e]
theorem fit_word {m : List (List Int)} {ws : List Int} (h : Wd m ws) (h15 : (fitL m ws).length ≤ 15) : IsW m (fitL m ws) := ⟨(fit_spec h).2.2.2.1.lets, h.car, h15⟩
theorem fit_fit {m : List (List Int)} {ws : List Int} (h : Wd m ws) : fitL m (fitL m ws) = fitL m ws := by
  conv => lhs; unfold fitL
  rw [show frmI m 31 (imgW m ws) = fitL m ws from rfl, (fit_spec h).1]; rfl

/-! ### The answers -/
noncomputable def mulB (m : List (List Int)) (a b : List Int) : Bool := wordB m a && wordB m b && decide ((fitL m (a ++ b)).length ≤ 15)
noncomputable def mulL (m : List (List Int)) (a b : List Int) : List Int := if mulB m a b = true then fitL m (a ++ b) else []
noncomputable def elemB (m : List (List Int)) (w : List Int) : Bool := wordB m w && eqwB (nrmL m w) w
noncomputable def invB (m : List (List Int)) (w : List Int) : Bool := wordB m w.reverse
noncomputable def invL (m : List (List Int)) (w : List Int) : List Int := nrmL m w.reverse
noncomputable def comB (m : List (List Int)) (a b : List Int) : Bool := wordB m a && wordB m b && eqwB (imgW m (a ++ b)) (imgW m (b ++ a))
noncomputable def ivoB (m : List (List Int)) (w : List Int) : Bool := decide (0 < lenI m w) && comB m w w && samB m w w.reverse
/-- Powers: the k-th, with false once one power is too long. -/
noncomputable def powS (m : List (List Int)) (x : List Int) : Nat → List Int × Bool
  | 0 => ([], true)
  | k + 1 => if (powS m x k).2 = true then (mulL m (powS m x k).1 x, mulB m (powS m x k).1 x) else ([], false)
noncomputable def powB (m : List (List Int)) (w : List Int) (k : Int) : Bool := wordB m w && decide (0 ≤ k ∧ k ≤ 60) && (powS m (nrmL m w) k.toNat).2
noncomputable def powL (m : List (List Int)) (w : List Int) (k : Int) : List Int := if powB m w k = true then (powS m (nrmL m w) k.toNat).1 else []
noncomputable def cnjB (m : List (List Int)) (w by_ : List Int) : Bool := mulB m by_.reverse w && mulB m (mulL m by_.reverse w) by_
noncomputable def cnjL (m : List (List Int)) (w by_ : List Int) : List Int := if cnjB m w by_ = true then mulL m (mulL m by_.reverse w) by_ else []
theorem wordB_is' {m : List (List Int)} {w : List Int} (h : wordB m w = true) : IsW m w := Classical.byContradiction fun h' => by rw [wordB_no h'] at h; cases h
theorem mul_yes {m : List (List Int)} {a b : List Int} (h : mulB m a b = true) : IsW m a ∧ IsW m b ∧ (fitL m (a ++ b)).length ≤ 15 ∧ mulL m a b = fitL m (a ++ b) := by
  have h0 := h
  unfold mulB at h
  rw [Bool.and_eq_true, Bool.and_eq_true] at h
  exact ⟨wordB_is' h.1.1, wordB_is' h.1.2, of_decide_eq_true h.2, by unfold mulL; rw [if_pos h0]⟩
theorem mul_no {m : List (List Int)} {a b : List Int} (h : mulB m a b = false) : mulL m a b = [] := by unfold mulL; rw [h]; rfl
theorem mul_word {m : List (List Int)} {a b : List Int} (h : mulB m a b = true) : IsW m (mulL m a b) := by
  obtain ⟨ha, hb, h15, e⟩ := mul_yes h
  rw [e]; exact fit_word (wd_cat ha hb) h15
theorem eqwB_same (l : List Int) : eqwB l l = true := by unfold eqwB; rw [decide_eq_true_iff]; exact cmpW_zero.2 rfl
theorem eqwB_is (a b : List Int) : eqwB a b = decide (a = b) := by
  unfold eqwB
  by_cases h : a = b
  · rw [decide_eq_true h, decide_eq_true (cmpW_zero.2 h)]
  · rw [decide_eq_false h, decide_eq_false (fun h' => h (cmpW_zero.1 h'))]
theorem mul_map {m : List (List Int)} {a b : List Int} (h : mulB m a b = true) (z : Nat → Int) : mapN (entry m) (natsW (mulL m a b)) z = mapN (entry m) (natsW a) (mapN (entry m) (natsW b) z) := by
  obtain ⟨ha, hb, h15, e⟩ := mul_yes h
  rw [e, (fit_spec (wd_cat ha hb)).2.2.2.2, natsW_append, mapN_append]
/-! ### The laws -/
theorem mul_elem {m : List (List Int)} {a b : List Int} (h : mulB m a b = true) : elemB m (mulL m a b) = true := by
  have hw := mul_word h
  obtain ⟨ha, hb, h15, e⟩ := mul_yes h
  unfold elemB
  rw [wordB_yes hw, Bool.true_and, nrm_fit hw, e, fit_fit (wd_cat ha hb)]
  exact eqwB_same _
theorem mul_assoc {m : List (List Int)} {a b d : List Int} (h1 : mulB m a b = true) (h2 : mulB m b d = true) (h3 : mulB m (mulL m a b) d = true) (h4 : mulB m a (mulL m b d) = true) : mulL m (mulL m a b) d = mulL m a (mulL m b d) := by
  obtain ⟨_, _, _, e3⟩ := mul_yes h3
  obtain ⟨ha, _, _, e4⟩ := mul_yes h4
  obtain ⟨_, hd, _, _⟩ := mul_yes h2
  rw [e3, e4]
  refine (fit_same (wd_cat (mul_word h1) hd) (wd_cat ha (mul_word h2)) fun z => ?_).2
  rw [natsW_append, mapN_append, natsW_append, mapN_append, mul_map h1, mul_map h2]
theorem fit_nil {m : List (List Int)} (hC : IsC m) : fitL m [] = [] := by
  have := (fit_spec (wd_nil hC)).2.1
  exact List.length_eq_zero_iff.1 (by simpa using this)
theorem inv_word {m : List (List Int)} {a : List Int} (h : IsW m a) : invB m a = true := wordB_yes (isW_rev h)
theorem inv_map {m : List (List Int)} {a : List Int} (h : IsW m a) (z : Nat → Int) : mapN (entry m) (natsW a) (mapN (entry m) (natsW (invL m a)) z) = z := by
  have hr := isW_rev h
  unfold invL
  rw [nrm_fit hr, (fit_spec (wd_of hr)).2.2.2.2, natsW_rev]
  have := map_rev (gcm_of h.2.1) (natsW a).reverse (inN_rev (natsW_in h.1)) z
  rwa [List.reverse_reverse] at this
theorem inv_mul {m : List (List Int)} {a : List Int} (h : IsW m a) : mulB m a (invL m a) = true ∧ mulL m a (invL m a) = [] := by
  have hi : IsW m (invL m a) := nrm_word (isW_rev h)
  have hw := wd_cat h hi
  have e : fitL m (a ++ invL m a) = [] := by
    rw [(fit_same hw (wd_nil h.2.1) fun z => ?_).2, fit_nil h.2.1]
    rw [natsW_append, mapN_append, inv_map h]; rfl
  have hb : mulB m a (invL m a) = true := by unfold mulB; rw [wordB_yes h, wordB_yes hi, e]; rfl
  exact ⟨hb, by rw [(mul_yes hb).2.2.2, e]⟩
theorem com_sam {m : List (List Int)} {a b : List Int} (h : mulB m a b = true) (h15 : a.length + b.length ≤ 15) : comB m a b = samB m (mulL m a b) (b ++ a) := by
  obtain ⟨ha, hb, _, e⟩ := mul_yes h
  have hba : IsW m (b ++ a) := ⟨letTo_append hb.1 ha.1, ha.2.1, by rw [List.length_append]; omega⟩
  unfold comB samB
  rw [wordB_yes ha, wordB_yes hb, wordB_yes (mul_word h), wordB_yes hba, e, (fit_spec (wd_cat ha hb)).1]
theorem ivo_ord {m : List (List Int)} {w : List Int} (h : ivoB m w = true) : ordI m w = 2 ∨ ordI m w = 0 := by
  unfold ivoB at h
  rw [Bool.and_eq_true, Bool.and_eq_true] at h
  obtain ⟨⟨hl, _⟩, hs⟩ := h
  have hl := of_decide_eq_true hl
  unfold samB at hs
  rw [Bool.and_eq_true, Bool.and_eq_true, eqwB_is, decide_eq_true_iff] at hs
  have hW := wordB_is' hs.1.1
  have hR := isW_rev hW
  have he := hs.2
  have hx := nrm_word hW
  have hn : nrmL m w = fitL m w := nrm_fit hW
  have hln : (frmI m 31 (imgW m w)).length ≠ 0 := by
    unfold lenI at hl
    rw [if_pos (wordB_yes hW), hn] at hl
    unfold fitL at hl
    omega
  have h15 : (frmI m 31 (imgW m w)).length ≤ 15 := by
    have h1 := (nrm_le hW).1
    have h2 := hW.2.2
    rw [hn] at h1
    unfold fitL at h1
    omega
  unfold ordI
  rw [if_pos (wordB_yes hW)]
  split
  · exact Or.inr rfl
  · refine Or.inl ?_
    rw [ordS_more (f := 59) hln (by omega)]
    have hp := pow_next hW.2.1 hx.1 (hx.2.2) (pow_start hW) h15
    have e2 : actW m (nrmL m w) (imgW m w) = imgW m (fitL m w ++ fitL m w) := by rw [hp.1, hn]; rfl
    have hff : Wd m (fitL m w ++ fitL m w) := by rw [← hn]; exact wd_cat hx hx
    have e3 : fitL m (fitL m w ++ fitL m w) = [] := by
      rw [(fit_same hff (wd_nil hW.2.1) fun z => ?_).2, fit_nil hW.2.1]
      rw [natsW_append, mapN_append, (fit_spec (wd_of hW)).2.2.2.2, (fit_spec (wd_of hW)).2.2.2.2, map_same (wd_of hW) (wd_of hR) he, natsW_rev]
      exact map_rev (gcm_of hW.2.1) (natsW w) (natsW_in hW.1) z
    have e4 : (frmI m 31 (actW m (nrmL m w) (imgW m w))).length = 0 := by
      rw [e2]
      have : (fitL m (fitL m w ++ fitL m w)).length = 0 := by rw [e3]; rfl
      exact this
    rw [ordS_one (f := 58) e4]
    rfl
end Go.Proofs.Ytbmghddmilgngaa
namespace Go.Proofs.Ytbmghddmilgngaa
open Go.RowKit

theorem RowB.upE {w w' : World} {v : Value} {l : List Int} (h : RowB w.heap.size w v l) (hb : Below w.heap.size w w') : RowB w'.heap.size w' v l := (h.below hb (Nat.le_refl _)).mono hb.size
theorem MatB.upE {w w' : World} {v : Value} {m : List (List Int)} (h : MatB w.heap.size w v m) (hb : Below w.heap.size w w') : MatB w'.heap.size w' v m := (h.below hb (Nat.le_refl _)).mono hb.size
theorem isws_e (v v' : Value) (m : List (List Int)) (l : List Int) (w : World) (h : MatB w.heap.size w v m) (h' : RowB w.heap.size w v' l) (hf : RowsFit m) (hl : l.length ≤ 1048576) :
    Calls Try.prog 23 #[v, v'] w fun e w' => e = .returned (.bool (wordB m l)) ∧ Below w.heap.size w w' :=
  (isws_any _ _ v v' m l w h h' hf (by unfold maxLen; omega)).mono fun e w' ⟨h1, q, h2⟩ => ⟨h1, by rw [h2]; exact below_drewN q⟩
theorem eqws_e (v v' : Value) (l l' : List Int) (w : World) (h : RowB w.heap.size w v l) (h' : RowB w.heap.size w v' l') (hl : l.length ≤ 1048576) (hl' : l'.length ≤ 1048576) :
    Calls Try.prog 47 #[v, v'] w fun e w' => e = .returned (.bool (eqwB l l')) ∧ Below w.heap.size w w' :=
  (eqws_any _ v v' l l' w h h' (by unfold maxLen; omega) (by unfold maxLen; omega)).mono fun e w' ⟨h1, q, h2⟩ => ⟨h1, by rw [h2]; exact below_drewN q⟩
end Go.Proofs.Ytbmghddmilgngaa
namespace Go.Proofs.Ytbmghddmilgngaa
open Go.RowKit

theorem isW_nil {m : List (List Int)} (h : IsC m) : IsW m [] := ⟨fun _j hj => absurd hj (Nat.not_lt_zero _), h, Nat.zero_le _⟩
theorem wordB_rev (m : List (List Int)) (w : List Int) : wordB m w.reverse = wordB m w := by
  by_cases h : IsW m w
  · rw [wordB_yes h, wordB_yes (isW_rev h)]
  · rw [wordB_no h, wordB_no (fun h' => h (by have := isW_rev h'; rwa [List.reverse_reverse] at this))]
/-- What the program answers by one operation on two words. -/
noncomputable def elbB (m : List (List Int)) (a b ws : List Int) : Bool := wordB m a && wordB m b && decide ((fitL m ws).length ≤ 15)
noncomputable def elbL (m : List (List Int)) (a b ws : List Int) : List Int := if elbB m a b ws = true then fitL m ws else []
theorem elb_mul (m : List (List Int)) (a b : List Int) : elbB m a b (a ++ b) = mulB m a b ∧ elbL m a b (a ++ b) = mulL m a b := ⟨rfl, rfl⟩
theorem elb_inv (m : List (List Int)) (a : List Int) : elbB m a [] (a.reverse ++ []) = invB m a ∧ elbL m a [] (a.reverse ++ []) = invL m a := by
  rw [List.append_nil]
  have e : elbB m a [] a.reverse = invB m a := by
    unfold elbB invB
    rw [wordB_rev]
    by_cases h : IsW m a
    · have h2 := (fit_spec (wd_of (isW_rev h))).2.1
      have h3 := h.2.2
      rw [List.length_reverse] at h2
      rw [wordB_yes h, wordB_yes (isW_nil h.2.1), decide_eq_true (by omega)]; rfl
    · rw [wordB_no h]; rfl
  refine ⟨e, ?_⟩
  unfold elbL invL
  rw [e]
  unfold invB
  by_cases h : IsW m a
  · rw [wordB_yes (isW_rev h), if_pos rfl, nrm_fit (isW_rev h)]
  · rw [if_neg (by rw [wordB_rev, wordB_no h]; simp), nrmL_no (fun h' => h (by have := isW_rev h'; rwa [List.reverse_reverse] at this))]
theorem elb_front (m : List (List Int)) (a b : List Int) : elbB m b a (b.reverse ++ a) = mulB m b.reverse a ∧ elbL m b a (b.reverse ++ a) = mulL m b.reverse a := by
  have e : elbB m b a (b.reverse ++ a) = mulB m b.reverse a := by unfold elbB mulB; rw [wordB_rev]
  exact ⟨e, by unfold elbL mulL; rw [e]⟩
theorem mul_nrm {m : List (List Int)} {w : List Int} (h : IsW m w) (p : List Int) : mulB m p w = mulB m p (nrmL m w) ∧ mulL m p w = mulL m p (nrmL m w) := by
  have hn := nrm_word h
  by_cases hp : IsW m p
  · have e : fitL m (p ++ w) = fitL m (p ++ nrmL m w) := (fit_same (wd_cat hp h) (wd_cat hp hn) fun z => by
      rw [natsW_append, mapN_append, natsW_append, mapN_append, nrm_fit h, (fit_spec (wd_of h)).2.2.2.2]).2
    have e2 : mulB m p w = mulB m p (nrmL m w) := by unfold mulB; rw [e, wordB_yes h, wordB_yes hn]
    exact ⟨e2, by unfold mulL; rw [e2, e]⟩
  · have e1 : mulB m p w = false := by unfold mulB; rw [wordB_no hp]; rfl
    have e2 : mulB m p (nrmL m w) = false := by unfold mulB; rw [wordB_no hp]; rfl
    exact ⟨by rw [e1, e2], by rw [mul_no e1, mul_no e2]⟩
theorem pow_nrm {m : List (List Int)} {w : List Int} (h : IsW m w) : ∀ k, powS m w k = powS m (nrmL m w) k
  | 0 => rfl
  | k + 1 => by unfold powS; rw [pow_nrm h k, (mul_nrm h _).1, (mul_nrm h _).2]
theorem ivo_is (m : List (List Int)) (w : List Int) : ivoB m w = (samB m w w.reverse && !samB m w []) := by
  unfold ivoB
  by_cases h : IsW m w
  · have hc : comB m w w = true := by unfold comB; rw [wordB_yes h, eqwB_same]; rfl
    have hl : decide (0 < lenI m w) = !samB m w [] := by
      unfold lenI samB
      rw [wordB_yes h, wordB_yes (isW_nil h.2.1), if_pos rfl, eqwB_is, nrm_fit h, Bool.true_and, Bool.true_and]
      by_cases he : imgW m w = imgW m []
      · have h0 : fitL m w = [] := by
          have := fit_nil h.2.1
          unfold fitL at this ⊢; rw [he]; exact this
        rw [decide_eq_true he, h0]; rfl
      · have h0 : fitL m w ≠ [] := fun h0 => he (by have := (fit_spec (wd_of h)).1; rw [h0] at this; exact this.symm)
        have : 0 < (fitL m w).length := List.length_pos_iff.2 h0
        rw [decide_eq_false he, decide_eq_true (by omega)]; rfl
    rw [hc, hl, Bool.and_true, Bool.and_comm]
  · have h1 : lenI m w = -1 := by unfold lenI; rw [wordB_no h]; rfl
    rw [h1, show samB m w w.reverse = false by unfold samB; rw [wordB_no h]; rfl]; simp
theorem mulL_len (m : List (List Int)) (a b : List Int) : (mulL m a b).length ≤ 31 := by
  unfold mulL
  split
  · exact fitL_len m _
  · exact Nat.zero_le _
theorem cnjL_len (m : List (List Int)) (a b : List Int) : (cnjL m a b).length ≤ 31 := by
  unfold cnjL
  split
  · exact mulL_len m _ _
  · exact Nat.zero_le _
theorem powS_len' (m : List (List Int)) (x : List Int) : ∀ t, (powS m x t).1.length ≤ 31
  | 0 => Nat.zero_le _
  | t + 1 => by
    unfold powS
    split
    · exact mulL_len m _ _
    · exact Nat.zero_le _
theorem powL_len (m : List (List Int)) (w : List Int) (k : Int) : (powL m w k).length ≤ 31 := by
  unfold powL
  split
  · exact powS_len' m _ _
  · exact Nat.zero_le _
end Go.Proofs.Ytbmghddmilgngaa
namespace Go.Proofs.Ytbmghddmilgngaa
open Go.RowKit

theorem RowI.at' {A B : Nat} {w : World} {v : Value} {l : List Int} (h : RowI A B w v l) (h0 : 0 < l.length) : ∃ g cap, v = .slice (some ⟨g, 0, none⟩) l.length cap ∧ A ≤ g ∧ g < B := by
  rcases h.1.2 with ⟨_, h'⟩ | ⟨g, cap, _, h', hA, _⟩
  · omega
  · exact ⟨g, cap, h', hA, h.2 g (by rw [h']; rfl)⟩

set_option maxHeartbeats 4000000 in
set_option maxRecDepth 100000 in
theorem rip_any (A B : Nat) (v v' : Value) (m : List (List Int)) (l : List Int) (i : Nat) (w : World) (h : MatB B w v m) (h' : RowI A w.heap.size w v' l) (hBA : B ≤ A) (hI : Rows0 m m.length m.length) (hll : l.length = m.length) (hi : i < m.length) (hn : m.length ≤ 1048576) :
    Calls Try.prog 89 #[v, .int .i64 i, v'] w fun e w' => e = .returned (.tuple #[]) ∧ RowI A w'.heap.size w' v' (reflL m i l) ∧ w.grownBy w' v'.ownBlock ∧ w'.heap.size = w.heap.size := by
  obtain ⟨a, cap, rfl⟩ := h.slice
  obtain ⟨g, cap', rfl, hAg, hg⟩ := h'.at' (by omega)
  have HR := Lib.hid h
  have HRW := Lib.hid hI
  have hx0 : w.cell? ⟨g, i, none⟩ = some (.int .i64 (l.getD i 0)) := by
    have := h'.1.cellAt i (by omega)
    rw [this]; simp [intsV, List.getD, show i < l.length by omega]
  have h1 : w.ownsRow A 3 1 (.slice (some ⟨g, 0, none⟩) l.length cap') l.length (intsV (rflS m i l 0)) := by rw [rflS_zero]; exact h'.1
  have H1 := Lib.hid h1
  have HSTP := Lib.hid (fun k (hk : k < m.length) => rflS_step m i l k (by omega))
  have HLN := Lib.hid (fun k (hk : k ≤ m.length) => rflS_len m i l k (by omega))
  have HGT := Lib.hid (fun k (hk : k < m.length) => rflS_get m i l k (by omega))
  have HEND := Lib.hid (show rflS m i l m.length = reflL m i l from by rw [← hll]; exact rflS_end m i l)
  have HRL := Lib.hid (show (reflL m i l).length = m.length from by rw [reflL_len]; exact hll)
  have HEQ := Lib.hid (fun k => show reflE m i l k = subW (l.getD k 0) (mulW (l.getD i 0) (entry m k i)) from rfl)
  clear h h' hI h1
  rw [hll] at H1 ⊢
  rw [hll] at HLN
  generalize l.getD i 0 = z at *
  generalize m.length = n at *
  clear hll
  go_enter Try.func89, Try.ntmps89
  go_wp2_with fail
  clear hx0
  go_loopw [14] (fun i' wr => ∃ (k : Nat) (wq : World), wq = wr ∧ k ≤ n ∧ i' = .int .i64 k ∧ wq.ownsRow A 3 1 (.slice (some ⟨g, 0, none⟩) n cap') n (intsV (rflS m i l k)) ∧ w.grownBy wq (some g) ∧ wq.heap.size = w.heap.size) (fun i' _ => n - (RowKit.intOf i').toNat)
  case atStart => exact ⟨0, _, rfl, Nat.zero_le _, rfl, H1.out, World.grownBy.refl _ _, rfl⟩
  case round =>
    obtain ⟨k, wq, rfl, hk, rfl, hown, hgr, hsz⟩ := hrel
    have HO := Lib.hid hown; have HG := Lib.hid hgr; have HSZ := Lib.hid hsz
    by_cases hlt : k < n
    · have hcell : wq.cell? ⟨g, k, none⟩ = some (.int .i64 (l.getD k 0)) := by
        rw [hown.cellAt k (by omega)]
        have := HGT.out k hlt
        simp [intsV, this]
      have hfz : wq.frozen? ⟨g, k, none⟩ = false := hown.frozenAt k
      have hbl : ∀ b, b < A → wq.heap[b]? = w.heap[b]? := fun b hb => hgr.block b (by omega) (fun e => by have := Option.some.inj e; omega)
      have hbw : Below A w wq := (Below.refl A w).grown hgr (by omega) (fun j hj => by have := Option.some.inj hj; omega)
      obtain ⟨b, off, rb, roff, rcap, rfl, hc1, hx⟩ := (HR.out.below hbw hBA).entry HRW.out hlt hi
      obtain ⟨hst, hgs⟩ := hown.stored k (.int .i64 (reflE m i l k))
      rw [intsV_set, HSTP.out k hlt] at hst
      have HST := Lib.hid hst
      have HGS := Lib.hid (grown_trans hgr hgs)
      have HE := Lib.hid (HEQ.out k)
      clear hst hgs hown hgr hsz hbl hbw
      generalize reflE m i l k = E at *
      generalize l.getD k 0 = x at *
      generalize entry m k i = y at *
      obtain ⟨pr, hpr⟩ : ∃ pr, pr = mulW z y := ⟨_, rfl⟩
      have h1 : IntKind.i64.wrap (z * y) = pr := by rw [hpr, wrapk]; rfl
      have h2 : wrap64 (z * y) = pr := by rw [hpr]; rfl
      have h3 : IntKind.i64.wrap (x - pr) = E := by rw [HE.out, hpr, wrapk]; rfl
      have h4 : wrap64 (x - pr) = E := by rw [HE.out, hpr]; rfl
      clear hpr HE
      go_wp2_with fail
      go_region
      go_wp2_with fail
      exact ⟨⟨k + 1, _, rfl, by omega, by go_num, HST.out.drew, grown_trans HGS.out ⟨rfl, rfl, rfl, Nat.le_refl _, fun _ _ _ => rfl⟩, by show (World.setCell _ _ _).heap.size = _; rw [World.size_setCell]; exact HSZ.out⟩, by simp [RowKit.intOf]; omega⟩
    · obtain rfl : k = n := by omega
      have hd : decide (k < k) = false := by simp
      go_wp2_with fail
      go_end0
      have hfin : RowI A wq.heap.size wq (.slice (some ⟨g, 0, none⟩) k cap') (reflL m i l) := by
        refine ⟨?_, fun g' hg' => ?_⟩
        · rw [HRL.out, ← HEND.out]; exact HO.out
        · have : g = g' := by simpa [Value.ownBlock] using hg'
          have := HSZ.out; omega
      exact ⟨rfl, hfin, HG.out, HSZ.out⟩

end Go.Proofs.Ytbmghddmilgngaa
