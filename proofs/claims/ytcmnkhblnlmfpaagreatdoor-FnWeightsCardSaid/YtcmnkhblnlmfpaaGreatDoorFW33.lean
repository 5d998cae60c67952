/-
  What the law on matrices asks: texts of matrices are read back, bonds do not depend on the order of points nor on the transposition, types bear their names, and the parts of a join are those of both (no walk here).
  Weights: a reflection undoes itself; two reflections satisfy the braid relation of their bond (no walk here).
  Words: what the model's functions of chapter 5 return.
  Weights: what the model's IsWeight returns.
-/
import Derived.Test.YtcmnkhblnlmfpaaGreatDoorFW20
import Derived.Test.YtcmnkhblnlmfpaaGreatDoorFW32
import Derived.Test.YtcmnkhblnlmfpaaGreatDoorFW09
import Derived.Test.YtcmnkhblnlmfpaaGreatDoorFW11
import Derived.Test.YtcmnkhblnlmfpaaGreatDoorFW15
import Derived.Test.YtcmnkhblnlmfpaaGreatDoorFW12
import Derived.Test.YtcmnkhblnlmfpaaGreatDoorFW14
import Derived.Test.YtcmnkhblnlmfpaaGreatDoorFW03
import Derived.Test.YtcmnkhblnlmfpaaGreatDoorFW04
import Derived.Test.YtcmnkhblnlmfpaaGreatDoorFW05
import Derived.Test.YtcmnkhblnlmfpaaGreatDoorFW13
namespace Go.Proofs.YtcmnkhblnlmfpaaGreatDoor
open Go.RowKit

/-! ### Texts are read back -/
theorem joinTail_cons (sep y : List UInt8) (r : List (List UInt8)) : Lib.joinTail sep (y :: r) = sep ++ (y ++ Lib.joinTail sep r) := by simp [Lib.joinTail]
theorem cut_tail (c : UInt8) (r : List (List UInt8)) : ∀ x, c ∉ x → (∀ y ∈ r, c ∉ y) → cutLD c (x ++ Lib.joinTail [c] r) = x :: r := by
  induction r with
  | nil => intro x hx _; simp only [Lib.joinTail, List.map_nil, List.flatten_nil, List.append_nil]; exact cutL_freeD c x hx
  | cons y r ih =>
    intro x hx hr
    rw [joinTail_cons, List.singleton_append, cutL_atD c x _ hx, ih y (hr y (by simp)) (fun z hz => hr z (by simp [hz]))]
theorem cut_join {c : UInt8} {xs : List (List UInt8)} (hne : xs ≠ []) (h : ∀ x ∈ xs, c ∉ x) : cutLD c (Lib.join xs [c]) = xs := by
  cases xs with
  | nil => exact absurd rfl hne
  | cons x r => rw [Lib.join_cons]; exact cut_tail c r x (h x (by simp)) (fun y hy => h y (by simp [hy]))
theorem free_join {c : UInt8} {sep : List UInt8} {xs : List (List UInt8)} (hs : c ∉ sep) (h : ∀ x ∈ xs, c ∉ x) : c ∉ Lib.join xs sep := by
  cases xs with
  | nil => rw [Lib.join_nil]; simp
  | cons x r =>
    rw [Lib.join_cons, List.mem_append]
    rintro (hc | hc)
    · exact h x (by simp) hc
    · unfold Lib.joinTail at hc
      rw [List.mem_flatten] at hc
      obtain ⟨l, hl, hcl⟩ := hc
      obtain ⟨y, hy, rfl⟩ := List.mem_map.1 hl
      rcases List.mem_append.1 hcl with hc | hc
      · exact hs hc
      · exact h y (by simp [hy]) hc
theorem itoa_m3 : Lib.itoa (-3) = [45, 51] := by have h := itoa_neg 3 (by omega); rw [dec_small (by omega)] at h; exact h
theorem itoa_m2 : Lib.itoa (-2) = [45, 50] := by have h := itoa_neg 2 (by omega); rw [dec_small (by omega)] at h; exact h
theorem itoa_m1 : Lib.itoa (-1) = [45, 49] := by have h := itoa_neg 1 (by omega); rw [dec_small (by omega)] at h; exact h
theorem itoa_0 : Lib.itoa 0 = [48] := by have h := itoa_pos 0; rw [dec_small (by omega)] at h; exact h
theorem itoa_1 : Lib.itoa 1 = [49] := by have h := itoa_pos 1; rw [dec_small (by omega)] at h; exact h
theorem itoa_2 : Lib.itoa 2 = [50] := by have h := itoa_pos 2; rw [dec_small (by omega)] at h; exact h
theorem num_back {l : List UInt8} {x : Int} (h1 : cnt (l.take 11) ≤ 9) (h2 : l.length ≤ 10) (h3 : PV l = x) (h4 : Lib.itoa x = l) : numL l = x := by
  rw [numL_yes ⟨h1, h2, by rw [h3]; exact h4⟩]; exact h3
theorem itoa_back {x : Int} (h : -3 ≤ x ∧ x ≤ 2) : numL (Lib.itoa x) = x ∧ (44 : UInt8) ∉ Lib.itoa x ∧ (59 : UInt8) ∉ Lib.itoa x := by
  obtain ⟨h1, h2⟩ := h
  rcases (show x = -3 ∨ x = -2 ∨ x = -1 ∨ x = 0 ∨ x = 1 ∨ x = 2 by omega) with rfl | rfl | rfl | rfl | rfl | rfl
  · rw [itoa_m3]; exact ⟨num_back (by decide) (by decide) (by decide) itoa_m3, by decide, by decide⟩
  · rw [itoa_m2]; exact ⟨num_back (by decide) (by decide) (by decide) itoa_m2, by decide, by decide⟩
  · rw [itoa_m1]; exact ⟨num_back (by decide) (by decide) (by decide) itoa_m1, by decide, by decide⟩
  · rw [itoa_0]; exact ⟨num_back (by decide) (by decide) (by decide) itoa_0, by decide, by decide⟩
  · rw [itoa_1]; exact ⟨num_back (by decide) (by decide) (by decide) itoa_1, by decide, by decide⟩
  · rw [itoa_2]; exact ⟨num_back (by decide) (by decide) (by decide) itoa_2, by decide, by decide⟩
theorem row_read {r : List Int} (hne : r ≠ []) (h : ∀ x ∈ r, -3 ≤ x ∧ x ≤ 2) : rowN (rowT r) = r ∧ (59 : UInt8) ∉ rowT r := by
  constructor
  · unfold rowN rowT
    rw [cut_join (by simpa using hne) (fun y hy => by obtain ⟨x, hx, rfl⟩ := List.mem_map.1 hy; exact (itoa_back (h x hx)).2.1), List.map_map]
    conv => rhs; rw [← List.map_id r]
    exact List.map_congr_left fun x hx => (itoa_back (h x hx)).1
  · unfold rowT
    exact free_join (by decide) (fun y hy => by obtain ⟨x, hx, rfl⟩ := List.mem_map.1 hy; exact (itoa_back (h x hx)).2.2)
theorem fmt_read {m : List (List Int)} (hI : IsC m) : parM (fmtT m) = m := by
  have hrow : ∀ r ∈ m, r ≠ [] ∧ ∀ x ∈ r, -3 ≤ x ∧ x ≤ 2 := fun r hr => by
    obtain ⟨k, hk, rfl⟩ := List.getElem_of_mem hr
    have h1 := hI.1 k hk
    have h2 := isC_mem hI hk
    rw [getD_row m k hk] at h1 h2
    exact ⟨fun e => by rw [e] at h1; have := hI.2.2.1; simp at h1; omega, h2⟩
  have hm : m ≠ [] := fun e => by have := hI.2.2.1; rw [e] at this; simp at this
  unfold parM fmtT
  rw [cut_join (by simpa using hm) (fun y hy => by obtain ⟨r, hr, rfl⟩ := List.mem_map.1 hy; exact (row_read (hrow r hr).1 (hrow r hr).2).2), List.map_map]
  conv => rhs; rw [← List.map_id m]
  exact List.map_congr_left fun r hr => (row_read (hrow r hr).1 (hrow r hr).2).1
theorem pc_fmt (m : List (List Int)) : pcB (fmtM m) = isB m ∧ (IsC m → pcM (fmtM m) = m) := by
  by_cases hI : IsC m
  · have h1 := fmt_read hI
    have hok : PcOk (fmtM m) := by
      rw [fmtM_yes hI]
      refine ⟨fun e => ?_, by rw [h1, fmtM_yes hI]⟩
      rw [e] at h1
      have h2 : parM [] = [[numL []]] := by simp [parM, rowN, cutLD, cutFD]
      rw [h2, numL_no pok_nil] at h1
      have h3 := isC_mem hI (k := 0) (by rw [← h1]; simp) 9 (by rw [← h1]; simp)
      omega
    exact ⟨by rw [pcB_yes hok, isB_yes hI], fun _ => by rw [pcM_yes hok, fmtM_yes hI]; exact h1⟩
  · exact ⟨by rw [fmtM_no hI, pcB_no (fun h => h.1 rfl), isB_no hI], fun h => absurd h hI⟩

/-! ### Bonds -/
theorem bond_sym (m : List (List Int)) (i j : Int) : bond m j i = bond m i j := by
  by_cases h : IsC m ∧ (0 ≤ i ∧ i ≤ (m.length : Int) - 1) ∧ (0 ≤ j ∧ j ≤ (m.length : Int) - 1)
  · unfold bond
    rw [if_pos h, if_pos ⟨h.1, h.2.2, h.2.1⟩]
    by_cases he : i = j
    · rw [if_pos he, if_pos he.symm]
    · rw [if_neg he, if_neg (fun e => he e.symm), Int.mul_comm]
  · rw [bond_no h, bond_no (fun h' => h ⟨h'.1, h'.2.2, h'.2.1⟩)]
theorem bond_yes {m : List (List Int)} {i j : Int} (h : IsC m ∧ (0 ≤ i ∧ i ≤ (m.length : Int) - 1) ∧ (0 ≤ j ∧ j ≤ (m.length : Int) - 1)) : bond m i j = if i = j then 1 else bondP (entry m i.toNat j.toNat * entry m j.toNat i.toNat) := if_pos h
theorem bond_tr (m : List (List Int)) (i j : Int) : bond (trM m) i j = bond m i j := by
  by_cases hI : IsC m
  · obtain ⟨hJ, hl⟩ := tr_isC hI
    by_cases h : (0 ≤ i ∧ i ≤ (m.length : Int) - 1) ∧ (0 ≤ j ∧ j ≤ (m.length : Int) - 1)
    · rw [bond_yes ⟨hJ, by rw [hl]; exact h⟩, bond_yes ⟨hI, h⟩]
      by_cases he : i = j
      · rw [if_pos he, if_pos he]
      · rw [if_neg he, if_neg he, trM_full hI, fullM_entry _ _ _ _ (by omega) (by omega), fullM_entry _ _ _ _ (by omega) (by omega), Int.mul_comm]
    · rw [bond_no (fun h' => h (by rw [hl] at h'; exact h'.2)), bond_no (fun h' => h h'.2)]
  · rw [trM_no hI, bond_no (fun h' => by have := h'.1.2.2.1; simp at this), bond_no (fun h' => hI h'.1)]

/-! ### Types bear their names -/
def isoC (a b : List (List Int)) : Bool := (ords a.length).any (selP a b)
theorem isoB_C {a b : List (List Int)} (h : IsC a) : isoB a b = isoC a b := by
  unfold isoB isoC
  rw [obV_yes h, tabL_len, Bool.eq_iff_iff, decide_eq_true_eq, List.any_eq_true]
  unfold selT
  rw [List.take_length]
  constructor
  · intro h1
    obtain ⟨q, hq⟩ := List.exists_mem_of_length_pos (Nat.pos_of_ne_zero h1)
    exact ⟨q, (List.mem_filter.1 hq).1, (List.mem_filter.1 hq).2⟩
  · rintro ⟨q, h1, h2⟩ h0
    have := List.mem_filter.2 ⟨h1, h2⟩
    rw [List.length_eq_zero_iff.1 h0] at this
    simp at this
theorem types_ok : ∀ t, t < 17 → IsD (typeM (namesL.getD t [])) := by decide +kernel
theorem types_one : ∀ t, t < 17 → (partsL (typeM (namesL.getD t []))).length = 1 := by decide +kernel
theorem types_named : ∀ t, t < 17 → ((List.range 17).find? fun u => isoC (typeM (namesL.getD t [])) (typeM (namesL.getD u []))) = some t := by decide +kernel
theorem keys_named : ∀ p ∈ shTab, p.1 ∈ namesL := by decide +kernel
theorem type_name {l : List UInt8} (h : typeB l = true) : nameO (typeM l) = l := by
  have h1 : l ∈ namesL := by
    unfold typeB typeAt at h
    rw [Option.isSome_map] at h
    obtain ⟨p, hp⟩ := Option.isSome_iff_exists.1 h
    have h2 := List.find?_some hp
    have h3 := keys_named p (List.mem_of_find?_eq_some hp)
    rw [beq_iff_eq] at h2
    rw [h2] at h3; exact h3
  obtain ⟨t, ht, he⟩ := List.getElem_of_mem h1
  have ht' : t < 17 := ht
  have e : namesL.getD t [] = l := by rw [List.getD_eq_getElem?_getD, List.getElem?_eq_getElem ht]; exact he
  clear he h1 h
  subst e
  have hI := isD_isC (types_ok t ht')
  have h2 := types_one t ht'
  have hc : connB (partsV (typeM (namesL.getD t []))).length = true := by
    rw [partsV_yes hI, List.length_map, h2]; rfl
  obtain ⟨h3, h4⟩ := one_part hc
  have hT : nameT (typeM (namesL.getD t [])) 17 = some t := by
    unfold nameT
    rw [← types_named t ht']
    congr 1
    funext u
    exact isoB_C hI
  unfold nameO
  rw [h3, nameS_succ, h4, if_pos rfl, List.nil_append]
  exact nameP_hit hT

/-! ### The parts of a join -/
def jG (na : Nat) (ga gb : Nat → Nat → Bool) (i j : Nat) : Bool := if j < na then ga i j else if i < na then false else gb (i - na) (j - na)
def JoinsOk (na nb : Nat) : Prop := ∀ a b c d e f : Bool,
  (partsM (grN (grE (jG na (grE a b false c false false) (grE d e false f false false) 0 1) (jG na (grE a b false c false false) (grE d e false f false false) 0 2) (jG na (grE a b false c false false) (grE d e false f false false) 0 3)
    (jG na (grE a b false c false false) (grE d e false f false false) 1 2) (jG na (grE a b false c false false) (grE d e false f false false) 1 3) (jG na (grE a b false c false false) (grE d e false f false false) 2 3)) (na + nb)) (na + nb) (na + nb)).length
  = (partsM (grN (grE a b false c false false) na) na na).length + (partsM (grN (grE d e false f false false) nb) nb nb).length
instance (na nb : Nat) : Decidable (JoinsOk na nb) := by unfold JoinsOk; infer_instance
theorem joins_ok : ∀ na, na < 4 → ∀ nb, nb < 4 → 1 ≤ na → 1 ≤ nb → na + nb ≤ 4 → JoinsOk na nb := by decide +kernel
theorem join_entry {a b : List (List Int)} (h : JoinOk a b) {i j : Nat} (hi : i < a.length + b.length) (hj : j < a.length + b.length) :
    entry (joinL a b) i j = if i < a.length then (if j < a.length then entry a i j else 0) else (if j < a.length then 0 else entry b (i - a.length) (j - a.length)) := by
  obtain ⟨ha, hb, _⟩ := h
  unfold entry joinL
  by_cases h1 : i < a.length
  · have hr := ha.1 i h1
    rw [getD_row a i h1] at hr ⊢
    rw [if_pos h1, List.getD_eq_getElem?_getD (l := _ ++ _), List.getElem?_append_left (by simpa using h1)]
    simp only [List.getElem?_map, List.getElem?_eq_getElem h1, Option.map_some, Option.getD_some]
    by_cases h2 : j < a.length
    · rw [if_pos h2, List.getD_eq_getElem?_getD, List.getElem?_append_left (by rw [hr]; exact h2), List.getD_eq_getElem?_getD]
    · rw [if_neg h2, List.getD_eq_getElem?_getD, List.getElem?_append_right (by omega)]
      simp [List.getElem?_replicate]
      split <;> rfl
  · have h3 : i - a.length < b.length := by omega
    have hr := hb.1 _ h3
    rw [getD_row b _ h3] at hr ⊢
    rw [if_neg h1, List.getD_eq_getElem?_getD (l := _ ++ _), List.getElem?_append_right (by simp; omega)]
    simp only [List.length_map, List.getElem?_map, List.getElem?_eq_getElem h3, Option.map_some, Option.getD_some]
    by_cases h2 : j < a.length
    · rw [if_pos h2, List.getD_eq_getElem?_getD, List.getElem?_append_left (by simpa using h2)]
      simp [List.getElem?_replicate, h2]
    · rw [if_neg h2, List.getD_eq_getElem?_getD, List.getElem?_append_right (by simp; omega), List.getD_eq_getElem?_getD]
      simp
theorem join_isC {a b : List (List Int)} (h : JoinOk a b) : IsC (joinM a b) := by
  have hs := (sq_join h).1
  have hl := joinL_len a b
  rw [joinM_yes h] at hs ⊢
  have hok := h
  obtain ⟨ha, hb, h4⟩ := h
  have h1 := ha.2.2
  have h2 := hb.2.2
  refine ⟨hs, fun i j hi hj => ?_, by omega, by omega⟩
  rw [hl] at hi hj
  unfold okC
  rw [join_entry hok hi hj, join_entry hok hj hi]
  by_cases hia : i < a.length
  · by_cases hja : j < a.length
    · simp only [hia, hja, if_true]
      exact ha.2.1 i j hia hja
    · simp only [hia, hja, if_true, if_false]
      exact Or.inr ⟨by omega, by omega, by simp⟩
  · by_cases hja : j < a.length
    · simp only [hia, hja, if_true, if_false]
      exact Or.inr ⟨by omega, by omega, by simp⟩
    · simp only [hia, hja, if_false]
      rcases hb.2.1 (i - a.length) (j - a.length) (by omega) (by omega) with h | h
      · exact Or.inl ⟨by omega, h.2⟩
      · exact Or.inr ⟨by omega, h.2.1, h.2.2⟩
theorem nbF_out {m : List (List Int)} (hI : IsC m) {i j : Nat} (h : m.length ≤ j) : nbF m i j = false := by
  unfold nbF
  rw [entry_out hI (Or.inr h)]
  simp
theorem join_nbF {a b : List (List Int)} (h : JoinOk a b) (i j : Nat) (hij : i < j) : nbF (joinM a b) i j = jG a.length (nbF a) (nbF b) i j := by
  have hI := join_isC h
  have hl : (joinM a b).length = a.length + b.length := by rw [joinM_yes h, joinL_len]
  have hne : j ≠ i := by omega
  unfold jG
  by_cases hj : j < a.length + b.length
  · by_cases hja : j < a.length
    · have hia : i < a.length := by omega
      rw [if_pos hja]
      unfold nbF
      rw [joinM_yes h, join_entry h (by omega) hj, if_pos hia, if_pos hja]
    · rw [if_neg hja]
      by_cases hia : i < a.length
      · rw [if_pos hia]
        unfold nbF
        rw [joinM_yes h, join_entry h (by omega) hj, if_pos hia, if_neg hja]
        simp
      · rw [if_neg hia]
        unfold nbF
        rw [joinM_yes h, join_entry h (by omega) hj, if_neg hia, if_neg hja]
        have e : (j ≠ i) ↔ (j - a.length ≠ i - a.length) := by omega
        exact decide_eq_decide.2 (and_congr e Iff.rfl)
  · rw [nbF_out hI (by omega), if_neg (by omega)]
    by_cases hia : i < a.length
    · rw [if_pos hia]
    · rw [if_neg hia, nbF_out h.2.1 (by omega)]
theorem g3 (b : List (List Int)) (x y : Nat) (hxy : x < y) (hy : y ≤ 2) : grE (nbF b 0 1) (nbF b 0 2) false (nbF b 1 2) false false x y = nbF b x y := by
  rcases (show y = 1 ∨ y = 2 by omega) with rfl | rfl
  · obtain rfl : x = 0 := by omega
    rfl
  · rcases (show x = 0 ∨ x = 1 by omega) with rfl | rfl <;> rfl
theorem join_parts {a b : List (List Int)} (h : JoinOk a b) : (partsV (joinM a b)).length = (partsV a).length + (partsV b).length := by
  have hI := join_isC h
  have hl : (joinM a b).length = a.length + b.length := by rw [joinM_yes h, joinL_len]
  have h' := h
  obtain ⟨ha, hb, h4⟩ := h
  have h1 := ha.2.2
  have h2 := hb.2.2
  have hk := joins_ok a.length (by omega) b.length (by omega) (by omega) (by omega) h4 (nbF a 0 1) (nbF a 0 2) (nbF a 1 2) (nbF b 0 1) (nbF b 0 2) (nbF b 1 2)
  have g : ∀ {m : List (List Int)}, IsC m → m.length < 4 → grE (nbF m 0 1) (nbF m 0 2) (nbF m 0 3) (nbF m 1 2) (nbF m 1 3) (nbF m 2 3) = grE (nbF m 0 1) (nbF m 0 2) false (nbF m 1 2) false false := fun hm hlt => by
    rw [nbF_out hm (j := 3) (by omega), nbF_out hm (j := 3) (by omega), nbF_out hm (j := 3) (by omega)]
  have hj : ∀ i j, i < j → j ≤ 3 → nbF (joinM a b) i j = jG a.length (grE (nbF a 0 1) (nbF a 0 2) false (nbF a 1 2) false false) (grE (nbF b 0 1) (nbF b 0 2) false (nbF b 1 2) false false) i j := fun i j hij hj3 => by
    rw [join_nbF h' i j hij]
    unfold jG
    by_cases hja : j < a.length
    · rw [if_pos hja, if_pos hja, nbF_gr ha i j hja, g ha (by omega)]
    · rw [if_neg hja, if_neg hja]
      by_cases hia : i < a.length
      · rw [if_pos hia, if_pos hia]
      · rw [if_neg hia, if_neg hia]
        exact (g3 b _ _ (by omega) (by omega)).symm
  rw [partsV_yes hI, partsV_yes ha, partsV_yes hb, List.length_map, List.length_map, List.length_map, partsL_gr hI, partsL_gr ha, partsL_gr hb, hl]
  unfold gE
  rw [g ha (by omega), g hb (by omega), hj 0 1 (by decide) (by decide), hj 0 2 (by decide) (by decide), hj 0 3 (by decide) (by decide), hj 1 2 (by decide) (by decide), hj 1 3 (by decide) (by decide), hj 2 3 (by decide) (by decide)]
  exact hk
end Go.Proofs.YtcmnkhblnlmfpaaGreatDoor
namespace Go.Proofs.YtcmnkhblnlmfpaaGreatDoor
open Go.RowKit

theorem wrap_ex (x : Int) : ∃ q, wrap64 x = x + 18446744073709551616 * q := by
  unfold wrap64
  exact ⟨-((x + 9223372036854775808) / 18446744073709551616), by omega⟩
theorem wrap_shift (x q : Int) : wrap64 (x + 18446744073709551616 * q) = wrap64 x := by
  unfold wrap64; omega
theorem wrap_fit {x : Int} (h : -9223372036854775808 ≤ x ∧ x ≤ 9223372036854775807) : wrap64 x = x := by
  unfold wrap64; omega
theorem reflE_eq (m : List (List Int)) (i : Nat) (l : List Int) (k : Nat) : reflE m i l k = wrap64 (l.getD k 0 - l.getD i 0 * entry m k i) := by
  unfold reflE subW mulW
  obtain ⟨q, hq⟩ := wrap_ex (l.getD i 0 * entry m k i)
  rw [hq, show l.getD k 0 - (l.getD i 0 * entry m k i + 18446744073709551616 * q) = (l.getD k 0 - l.getD i 0 * entry m k i) + 18446744073709551616 * (-q) by omega, wrap_shift]
/-- The unbounded reflection. -/
def zR (m : List (List Int)) (i : Nat) (V : Nat → Int) (t : Nat) : Int := V t - V i * entry m t i
def Rep (l : List Int) (V : Nat → Int) : Prop := ∀ t, t < l.length → l.getD t 0 = wrap64 (V t)
theorem reflL_get (m : List (List Int)) (i : Nat) (l : List Int) (t : Nat) (h : t < l.length) : (reflL m i l).getD t 0 = reflE m i l t := by
  unfold reflL reflK; simp [List.getD, h]
theorem rep_step {m : List (List Int)} {i : Nat} {l : List Int} {V : Nat → Int} (h : Rep l V) (hi : i < l.length) : Rep (reflL m i l) (zR m i V) := by
  intro t ht
  rw [reflL_len] at ht
  rw [reflL_get m i l t ht, reflE_eq, h t ht, h i hi]
  obtain ⟨q1, h1⟩ := wrap_ex (V t)
  obtain ⟨q2, h2⟩ := wrap_ex (V i)
  rw [h1, h2]
  unfold zR
  rw [Int.add_mul, show V t + 18446744073709551616 * q1 - (V i * entry m t i + 18446744073709551616 * q2 * entry m t i) = (V t - V i * entry m t i) + 18446744073709551616 * (q1 - q2 * entry m t i) by rw [Int.mul_sub, Int.mul_assoc]; omega, wrap_shift]
theorem rep_base {l : List Int} (h : ∀ t, t < l.length → -9223372036854775808 ≤ l.getD t 0 ∧ l.getD t 0 ≤ 9223372036854775807) : Rep l (fun t => l.getD t 0) := fun t ht => (wrap_fit (h t ht)).symm
theorem rep_eq {l l' : List Int} {V V' : Nat → Int} (h : Rep l V) (h' : Rep l' V') (hl : l.length = l'.length) (hv : ∀ t, t < l.length → V t = V' t) : l = l' := by
  apply List.ext_getElem hl
  intro t h1 h2
  have e1 := h t h1
  have e2 := h' t h2
  simp only [List.getD, List.getElem?_eq_getElem h1, List.getElem?_eq_getElem h2, Option.getD_some] at e1 e2
  rw [e1, e2, hv t h1]
def zA (m : List (List Int)) (ws : List Int) (V : Nat → Int) : Nat → Int := ws.foldr (fun i V => zR m i.toNat V) V
theorem rep_act {m : List (List Int)} {ws l : List Int} {V : Nat → Int} (h : Rep l V) (hw : ∀ i ∈ ws, i.toNat < l.length) : Rep (actW m ws l) (zA m ws V) := by
  induction ws with
  | nil => exact h
  | cons i ws ih =>
    have h1 := ih (fun j hj => hw j (by simp [hj]))
    exact rep_step h1 (by have h2 := actW_len m ws l; have h3 := hw i (by simp); unfold actW at h2; omega)
theorem isC_diag {m : List (List Int)} (h : IsC m) {i : Nat} (hi : i < m.length) : entry m i i = 2 := by
  rcases h.2.1 i i hi hi with h | h
  · exact h.2
  · exact absurd rfl h.1
/-! ### A reflection undoes itself -/
theorem refl_twice {m : List (List Int)} {i : Int} {l : List Int} (hf : ∀ t, t < l.length → -9223372036854775808 ≤ l.getD t 0 ∧ l.getD t 0 ≤ 9223372036854775807) : refwL m i (refwL m i l) = l := by
  by_cases hok : RefOk m i l
  · have hok2 : RefOk m i (refwL m i l) := ⟨hok.1, by rw [refwL_len]; exact hok.2.1, hok.2.2⟩
    rw [refwL_yes hok2, refwL_yes hok]
    have hi : i.toNat < l.length := by have := hok.2.2; have := hok.2.1; omega
    have hb := rep_base hf
    have h2 := rep_step (m := m) (rep_step (m := m) hb hi) (i := i.toNat) (by rw [reflL_len]; exact hi)
    refine rep_eq h2 hb (by rw [reflL_len, reflL_len]) (fun t _ => ?_)
    have hd : entry m i.toNat i.toNat = 2 := isC_diag hok.1 (by have := hok.2.1; omega)
    unfold zR
    rw [hd]
    grind
  · rw [refwL_no hok, refwL_no hok]
/-! ### Braid relations -/
def St (m : List (List Int)) (j k : Nat) (V W : Nat → Int) (a b x y : Int) : Prop := (∀ t, W t = V t - x * entry m t j - y * entry m t k) ∧ W j = a ∧ W k = b
theorem st_zero (m : List (List Int)) (j k : Nat) (V : Nat → Int) : St m j k V V (V j) (V k) 0 0 := ⟨fun t => by omega, rfl, rfl⟩
theorem st_j {m : List (List Int)} {j k : Nat} {V W : Nat → Int} {a b x y q : Int} (h : St m j k V W a b x y) (hd : entry m j j = 2) (hq : entry m k j = q) : St m j k V (zR m j W) (a - a * 2) (b - a * q) (x + a) y := by
  obtain ⟨h1, h2, h3⟩ := h
  refine ⟨fun t => ?_, by unfold zR; rw [hd, h2], by unfold zR; rw [hq, h2, h3]⟩
  unfold zR
  rw [h2, h1 t, Int.add_mul]; omega
theorem st_k {m : List (List Int)} {j k : Nat} {V W : Nat → Int} {a b x y q : Int} (h : St m j k V W a b x y) (hd : entry m k k = 2) (hq : entry m j k = q) : St m j k V (zR m k W) (a - b * q) (b - b * 2) x (y + b) := by
  obtain ⟨h1, h2, h3⟩ := h
  refine ⟨fun t => ?_, by unfold zR; rw [hq, h2, h3], by unfold zR; rw [hd, h3]⟩
  unfold zR
  rw [h3, h1 t, Int.add_mul]; omega
theorem st_eq {m : List (List Int)} {j k : Nat} {V W W' : Nat → Int} {a b x y a' b' x' y' : Int} (h : St m j k V W a b x y) (h' : St m j k V W' a' b' x' y') (hx : x = x') (hy : y = y') (t : Nat) : W t = W' t := by
  rw [h.1 t, h'.1 t, hx, hy]
theorem zA_cons (m : List (List Int)) (i : Int) (ws : List Int) (V : Nat → Int) : zA m (i :: ws) V = zR m i.toNat (zA m ws V) := rfl
theorem zA_nil (m : List (List Int)) (V : Nat → Int) : zA m [] V = V := rfl
theorem braid2 {m : List (List Int)} {j k : Nat} (hj : entry m j j = 2) (hk : entry m k k = 2) {p q : Int} (hp : entry m j k = p) (hq : entry m k j = q) (V : Nat → Int) (h : p = 0 ∧ q = 0) (t : Nat) :
    zA m [(j : Int), k] V t = zA m [(k : Int), j] V t := by
  obtain ⟨rfl, rfl⟩ := h
  simp only [zA_cons, zA_nil, Int.toNat_natCast]
  exact st_eq (st_j (st_k (st_zero m j k V) hk hp) hj hq) (st_k (st_j (st_zero m j k V) hj hq) hk hp) (by omega) (by omega) t
theorem braid3 {m : List (List Int)} {j k : Nat} (hj : entry m j j = 2) (hk : entry m k k = 2) {p q : Int} (hp : entry m j k = p) (hq : entry m k j = q) (V : Nat → Int) (h : p = -1 ∧ q = -1) (t : Nat) :
    zA m [(j : Int), k, j] V t = zA m [(k : Int), j, k] V t := by
  obtain ⟨rfl, rfl⟩ := h
  simp only [zA_cons, zA_nil, Int.toNat_natCast]
  exact st_eq (st_j (st_k (st_j (st_zero m j k V) hj hq) hk hp) hj hq) (st_k (st_j (st_k (st_zero m j k V) hk hp) hj hq) hk hp) (by omega) (by omega) t
theorem braid4 {m : List (List Int)} {j k : Nat} (hj : entry m j j = 2) (hk : entry m k k = 2) {p q : Int} (hp : entry m j k = p) (hq : entry m k j = q) (V : Nat → Int) (h : (p = -1 ∧ q = -2) ∨ (p = -2 ∧ q = -1)) (t : Nat) :
    zA m [(j : Int), k, j, k] V t = zA m [(k : Int), j, k, j] V t := by
  simp only [zA_cons, zA_nil, Int.toNat_natCast]
  rcases h with ⟨rfl, rfl⟩ | ⟨rfl, rfl⟩
  all_goals exact st_eq (st_j (st_k (st_j (st_k (st_zero m j k V) hk hp) hj hq) hk hp) hj hq) (st_k (st_j (st_k (st_j (st_zero m j k V) hj hq) hk hp) hj hq) hk hp) (by omega) (by omega) t
theorem braid6 {m : List (List Int)} {j k : Nat} (hj : entry m j j = 2) (hk : entry m k k = 2) {p q : Int} (hp : entry m j k = p) (hq : entry m k j = q) (V : Nat → Int) (h : (p = -1 ∧ q = -3) ∨ (p = -3 ∧ q = -1)) (t : Nat) :
    zA m [(j : Int), k, j, k, j, k] V t = zA m [(k : Int), j, k, j, k, j] V t := by
  simp only [zA_cons, zA_nil, Int.toNat_natCast]
  rcases h with ⟨rfl, rfl⟩ | ⟨rfl, rfl⟩
  all_goals exact st_eq (st_j (st_k (st_j (st_k (st_j (st_k (st_zero m j k V) hk hp) hj hq) hk hp) hj hq) hk hp) hj hq) (st_k (st_j (st_k (st_j (st_k (st_j (st_zero m j k V) hj hq) hk hp) hj hq) hk hp) hj hq) hk hp) (by omega) (by omega) t
theorem act_eq {m : List (List Int)} {ws ws' l : List Int} (hf : ∀ t, t < l.length → -9223372036854775808 ≤ l.getD t 0 ∧ l.getD t 0 ≤ 9223372036854775807) (hw : ∀ i ∈ ws, i.toNat < l.length) (hw' : ∀ i ∈ ws', i.toNat < l.length)
    (h : ∀ V t, zA m ws V t = zA m ws' V t) : actW m ws l = actW m ws' l :=
  rep_eq (rep_act (rep_base hf) hw) (rep_act (rep_base hf) hw') (by rw [actW_len, actW_len]) (fun t _ => h _ t)
end Go.Proofs.YtcmnkhblnlmfpaaGreatDoor
namespace Go.Proofs.YtcmnkhblnlmfpaaGreatDoor
open Go.RowKit

theorem RowB.drawn1 {B : Nat} {w : World} {v : Value} {l : List Int} (h : RowB B w v l) (q : Nat) : RowB B (w.drewN q) v l := h.drewN q
set_option maxHeartbeats 2000000 in
set_option maxRecDepth 100000 in
theorem isws_any (B B' : Nat) (v v' : Value) (m : List (List Int)) (l : List Int) (w : World) (h : MatB B w v m) (h' : RowB B' w v' l) (hf : RowsFit m) (hl : l.length ≤ maxLen) :
    Calls Tryz.prog 75 #[v, v'] w fun e w' => e = .returned (.bool (wordB m l)) ∧ ∃ q, w' = w.drewN q := by
  obtain ⟨a, cap, rfl⟩ := h.slice
  obtain ⟨a', cap', rfl⟩ := h'.slice
  have HISC := Lib.hid (fun c (hc : isB m = c) q => isc_q B _ m c hc w h hf q)
  have HL := Lib.hid h'
  have hml := hf.1
  unfold maxLen at hl hml
  clear h h' hf
  have HNO := Lib.hid (fun (k : Nat) (hk : k < l.length) (h : ¬ (0 ≤ l.getD k 0 ∧ l.getD k 0 ≤ (m.length : Int) - 1)) => wordB_no (isW_bad (c := m) hk h))
  have HEND := Lib.hid (fun (h : LetTo m.length l l.length) => show wordB m l = (isB m && decide (l.length ≤ 15)) from by
    by_cases hI : IsC m
    · by_cases h15 : l.length ≤ 15
      · rw [wordB_yes ⟨h, hI, h15⟩, isB_yes hI, decide_eq_true h15]; rfl
      · rw [wordB_no (fun h' => h15 h'.2.2), decide_eq_false h15, Bool.and_false]
    · rw [wordB_no (fun h' => hI h'.2.1), isB_no hI, Bool.false_and])
  generalize wordB m l = R at *
  generalize isB m = ib at *
  generalize m.length = n at *
  generalize hln : l.length = L at *
  have HLN := Lib.hid hln; clear hln
  go_enter Tryz.func75, Tryz.ntmps75
  go_wp2_with fail
  go_loopw [5] (fun i wr => ∃ (k q : Nat), k ≤ L ∧ i = .int .i64 k ∧ wr = w.drewN q ∧ Hid (LetTo n l k)) (fun i _ => L - (intOf i).toNat)
  case atStart => exact ⟨0, 0, Nat.zero_le _, rfl, rfl, Lib.hid (letTo_zero _ _)⟩
  case round =>
    obtain ⟨k, q, hk, rfl, rfl, hs⟩ := hrel
    by_cases hlt : k < L
    · obtain ⟨b, off, rfl, hb, hc⟩ := HL.out.getD hlt
      by_cases hin : 0 ≤ l.getD k 0 ∧ l.getD k 0 ≤ (n : Int) - 1
      · have HST := Lib.hid (letTo_step hs.out hin)
        have HIN := Lib.hid (inB_yes hin)
        clear hin hs
        generalize l.getD k 0 = x at *
        go_wp2_with fail
        refine (l1in_q _ _ _ true HIN.out _ _).mono ?_
        rintro e w' ⟨rfl, nq, rfl⟩
        go_wp2_with fail
        exact ⟨⟨k + 1, q + nq, by omega, by go_num, rfl, HST⟩, by simp [intOf]; omega⟩
      · have HBAD := Lib.hid (HNO.out k hlt hin)
        have HIN := Lib.hid (inB_no hin)
        clear hin hs
        generalize l.getD k 0 = x at *
        go_wp2_with fail
        refine (l1in_q _ _ _ false HIN.out _ _).mono ?_
        rintro e w' ⟨rfl, nq, rfl⟩
        go_wp2_with fail
        go_ret
        exact ⟨ret_boolean HBAD.out.symm, q + nq, rfl⟩
    · obtain rfl : k = L := by omega
      have HE := Lib.hid (HEND.out hs.out)
      have HLK : decide ((k : Int) ≤ 15) = decide (k ≤ 15) := decide_eq_decide.2 (by omega)
      clear HEND HNO hs
      go_wp2_with fail
      refine (HISC.out _ rfl q).mono ?_
      rintro e w' ⟨rfl, nq, rfl⟩
      cases ib
      all_goals
        go_wp2_with fail
        go_ret
        exact ⟨ret_boolean (by rw [HE.out]; first | rfl | (rw [HLK, Bool.true_and])), q + nq, rfl⟩

theorem rev_take {l : List Int} {k : Nat} (h : k < l.length) : (l.drop (k + 1)).reverse ++ [l.getD k 0] = (l.drop k).reverse := by
  rw [List.drop_eq_getElem_cons h, List.reverse_cons]; simp [List.getD, h]
end Go.Proofs.YtcmnkhblnlmfpaaGreatDoor
namespace Go.Proofs.YtcmnkhblnlmfpaaGreatDoor
open Go.RowKit

set_option maxHeartbeats 2000000 in
set_option maxRecDepth 100000 in
theorem iswts_any (B B' : Nat) (v v' : Value) (m : List (List Int)) (l : List Int) (w : World) (h : MatB B w v m) (h' : RowB B' w v' l) (hf : RowsFit m) (hl : l.length ≤ maxLen) :
    Calls Tryz.prog 11 #[v, v'] w fun e w' => e = .returned (.bool (wtB m l)) ∧ ∃ q, w' = w.drewN q := by
  obtain ⟨a, cap, rfl⟩ := h.slice
  obtain ⟨a', cap', rfl⟩ := h'.slice
  have HISC := Lib.hid (fun c (hc : isB m = c) q => isc_q B _ m c hc w h hf q)
  have HL := Lib.hid h'
  have hml := hf.1
  unfold maxLen at hl hml
  clear h h' hf
  have HNO := Lib.hid (fun (k : Nat) (hk : k < l.length) (h : ¬ (-1000 ≤ l.getD k 0 ∧ l.getD k 0 ≤ 1000)) => wtB_no (isWt_bad (c := m) hk h))
  have HEND := Lib.hid (fun (h : WtTo l l.length) => show wtB m l = (isB m && decide (l.length = m.length)) from by
    rw [wtB_is, wtlB_yes h, Bool.and_true])
  generalize wtB m l = R at *
  generalize isB m = ib at *
  generalize m.length = n at *
  generalize hln : l.length = L at *
  have HLN := Lib.hid hln; clear hln
  go_enter Tryz.func11, Tryz.ntmps11
  go_wp2_with fail
  go_loopw [5] (fun i wr => ∃ (k q : Nat), k ≤ L ∧ i = .int .i64 k ∧ wr = w.drewN q ∧ Hid (WtTo l k)) (fun i _ => L - (intOf i).toNat)
  case atStart => exact ⟨0, 0, Nat.zero_le _, rfl, rfl, Lib.hid (wtTo_zero _)⟩
  case round =>
    obtain ⟨k, q, hk, rfl, rfl, hs⟩ := hrel
    by_cases hlt : k < L
    · obtain ⟨b, off, rfl, hb, hc⟩ := HL.out.getD hlt
      by_cases hin : -1000 ≤ l.getD k 0 ∧ l.getD k 0 ≤ 1000
      · have HST := Lib.hid (wtTo_step hs.out hin)
        have HIN := Lib.hid (inB_yes hin)
        clear hin hs
        generalize l.getD k 0 = x at *
        go_wp2_with fail
        refine (l1in_q _ _ _ true HIN.out _ _).mono ?_
        rintro e w' ⟨rfl, nq, rfl⟩
        go_wp2_with fail
        exact ⟨⟨k + 1, q + nq, by omega, by go_num, rfl, HST⟩, by simp [intOf]; omega⟩
      · have HBAD := Lib.hid (HNO.out k hlt hin)
        have HIN := Lib.hid (inB_no hin)
        clear hin hs
        generalize l.getD k 0 = x at *
        go_wp2_with fail
        refine (l1in_q _ _ _ false HIN.out _ _).mono ?_
        rintro e w' ⟨rfl, nq, rfl⟩
        go_wp2_with fail
        go_ret
        exact ⟨ret_boolean HBAD.out.symm, q + nq, rfl⟩
    · obtain rfl : k = L := by omega
      have HE := Lib.hid (HEND.out hs.out)
      have hdl : decide (k < k) = false := by simp
      have HLK : ((k : Int) == (n : Int)) = decide (k = n) := by
        by_cases h : k = n
        · subst h; simp
        · rw [decide_eq_false h, beq_eq_false_iff_ne]; omega
      have HLK := Lib.hid HLK
      clear HEND HNO hs
      go_wp2_with fail
      refine (HISC.out _ rfl q).mono ?_
      rintro e w' ⟨rfl, nq, rfl⟩
      cases ib
      all_goals
        go_wp2_with fail
        go_ret
        exact ⟨ret_boolean (by rw [HE.out]; first | rfl | (rw [HLK.out, Bool.true_and])), q + nq, rfl⟩
end Go.Proofs.YtcmnkhblnlmfpaaGreatDoor
