/-
  What the law on matrices asks: texts of matrices are read back, bonds do not depend on the order of points nor on the transposition, types bear their names, and the parts of a join are those of both (no walk here).
  A text that is spoiled: what the call returns.
  Rows of ints appended to a row of the call's own, empty or not.
-/
import Derived.Test.YtcmnkhblnlmfpaaGreatDoorFC36
import Derived.Test.YtcmnkhblnlmfpaaGreatDoorFC37
import Derived.Test.YtcmnkhblnlmfpaaGreatDoorFC18
import Derived.Test.YtcmnkhblnlmfpaaGreatDoorFC20
import Derived.Test.YtcmnkhblnlmfpaaGreatDoorFC06
import Derived.Test.YtcmnkhblnlmfpaaGreatDoorFC30
import Derived.Laws.Slices
import Derived.IntWalk
import Derived.Laws.Strings2
import Derived.Laws.Strings3
import Derived.Deep.RegionWith
import Derived.Deep.QuietTactic
import Derived.BigQuiet
import Derived.Test.YtcmnkhblnlmfpaaGreatDoorFC28
import Derived.Laws.AppendOwn
import Derived.Test.YtcmnkhblnlmfpaaGreatDoorFC08
namespace Go.Proofs.YtcmnkhblnlmfpaaGreatDoor
open Go.RowKit

/-! ### Texts are read back -/
theorem joinTail_cons (sep y : List UInt8) (r : List (List UInt8)) : Lib.joinTail sep (y :: r) = sep ++ (y ++ Lib.joinTail sep r) := by simp [Lib.joinTail]
theorem cut_tail (c : UInt8) (r : List (List UInt8)) : ∀ x, c ∉ x → (∀ y ∈ r, c ∉ y) → cutLD c (x ++ Lib.joinTail [c] r) = x :: r := by
  induction r with
  | nil => intro x hx _; simp only [Lib.joinTail, List.map_nil, List.flatten_nil, List.append_nil]; exact cutL_freeD c x hx
  | cons y r ih =>
    intro x hx hr
    rw [joinTail_cons, List.singleton_append, cutL_atD c x _ hx, ih y (hr y (by simp)) (fun z hz => hr z (by simp [hz]))]
theorem cut_join {c : UInt8} {xs : List (List UInt8)} (hne : xs ≠ []) (h : ∀ x ∈ xs, c ∉ x) : cutLD c (Lib.join xs [c]) = xs := by
  cases xs with
  | nil => exact absurd rfl hne
  | cons x r => rw [Lib.join_cons]; exact cut_tail c r x (h x (by simp)) (fun y hy => h y (by simp [hy]))
theorem free_join {c : UInt8} {sep : List UInt8} {xs : List (List UInt8)} (hs : c ∉ sep) (h : ∀ x ∈ xs, c ∉ x) : c ∉ Lib.join xs sep := by
  cases xs with
  | nil => rw [Lib.join_nil]; simp
  | cons x r =>
    rw [Lib.join_cons, List.mem_append]
    rintro (hc | hc)
    · exact h x (by simp) hc
    · unfold Lib.joinTail at hc
      rw [List.mem_flatten] at hc
      obtain ⟨l, hl, hcl⟩ := hc
      obtain ⟨y, hy, rfl⟩ := List.mem_map.1 hl
      rcases List.mem_append.1 hcl with hc | hc
      · exact hs hc
      · exact h y (by simp [hy]) hc
theorem itoa_m3 : Lib.itoa (-3) = [45, 51] := by have h := itoa_neg 3 (by omega); rw [dec_small (by omega)] at h; exact h
theorem itoa_m2 : Lib.itoa (-2) = [45, 50] := by have h := itoa_neg 2 (by omega); rw [dec_small (by omega)] at h; exact h
theorem itoa_m1 : Lib.itoa (-1) = [45, 49] := by have h := itoa_neg 1 (by omega); rw [dec_small (by omega)] at h; exact h
theorem itoa_0 : Lib.itoa 0 = [48] := by have h := itoa_pos 0; rw [dec_small (by omega)] at h; exact h
theorem itoa_1 : Lib.itoa 1 = [49] := by have h := itoa_pos 1; rw [dec_small (by omega)] at h; exact h
theorem itoa_2 : Lib.itoa 2 = [50] := by have h := itoa_pos 2; rw [dec_small (by omega)] at h; exact h
theorem num_back {l : List UInt8} {x : Int} (h1 : cnt (l.take 11) ≤ 9) (h2 : l.length ≤ 10) (h3 : PV l = x) (h4 : Lib.itoa x = l) : numL l = x := by
  rw [numL_yes ⟨h1, h2, by rw [h3]; exact h4⟩]; exact h3
theorem itoa_back {x : Int} (h : -3 ≤ x ∧ x ≤ 2) : numL (Lib.itoa x) = x ∧ (44 : UInt8) ∉ Lib.itoa x ∧ (59 : UInt8) ∉ Lib.itoa x := by
  obtain ⟨h1, h2⟩ := h
  rcases (show x = -3 ∨ x = -2 ∨ x = -1 ∨ x = 0 ∨ x = 1 ∨ x = 2 by omega) with rfl | rfl | rfl | rfl | rfl | rfl
  · rw [itoa_m3]; exact ⟨num_back (by decide) (by decide) (by decide) itoa_m3, by decide, by decide⟩
  · rw [itoa_m2]; exact ⟨num_back (by decide) (by decide) (by decide) itoa_m2, by decide, by decide⟩
  · rw [itoa_m1]; exact ⟨num_back (by decide) (by decide) (by decide) itoa_m1, by decide, by decide⟩
  · rw [itoa_0]; exact ⟨num_back (by decide) (by decide) (by decide) itoa_0, by decide, by decide⟩
  · rw [itoa_1]; exact ⟨num_back (by decide) (by decide) (by decide) itoa_1, by decide, by decide⟩
  · rw [itoa_2]; exact ⟨num_back (by decide) (by decide) (by decide) itoa_2, by decide, by decide⟩
theorem row_read {r : List Int} (hne : r ≠ []) (h : ∀ x ∈ r, -3 ≤ x ∧ x ≤ 2) : rowN (rowT r) = r ∧ (59 : UInt8) ∉ rowT r := by
  constructor
  · unfold rowN rowT
    rw [cut_join (by simpa using hne) (fun y hy => by obtain ⟨x, hx, rfl⟩ := List.mem_map.1 hy; exact (itoa_back (h x hx)).2.1), List.map_map]
    conv => rhs; rw [← List.map_id r]
    exact List.map_congr_left fun x hx => (itoa_back (h x hx)).1
  · unfold rowT
    exact free_join (by decide) (fun y hy => by obtain ⟨x, hx, rfl⟩ := List.mem_map.1 hy; exact (itoa_back (h x hx)).2.2)
theorem fmt_read {m : List (List Int)} (hI : IsC m) : parM (fmtT m) = m := by
  have hrow : ∀ r ∈ m, r ≠ [] ∧ ∀ x ∈ r, -3 ≤ x ∧ x ≤ 2 := fun r hr => by
    obtain ⟨k, hk, rfl⟩ := List.getElem_of_mem hr
    have h1 := hI.1 k hk
    have h2 := isC_mem hI hk
    rw [getD_row m k hk] at h1 h2
    exact ⟨fun e => by rw [e] at h1; have := hI.2.2.1; simp at h1; omega, h2⟩
  have hm : m ≠ [] := fun e => by have := hI.2.2.1; rw [e] at this; simp at this
  unfold parM fmtT
  rw [cut_join (by simpa using hm) (fun y hy => by obtain ⟨r, hr, rfl⟩ := List.mem_map.1 hy; exact (row_read (hrow r hr).1 (hrow r hr).2).2), List.map_map]
  conv => rhs; rw [← List.map_id m]
  exact List.map_congr_left fun r hr => (row_read (hrow r hr).1 (hrow r hr).2).1
theorem pc_fmt (m : List (List Int)) : pcB (fmtM m) = isB m ∧ (IsC m → pcM (fmtM m) = m) := by
  by_cases hI : IsC m
  · have h1 := fmt_read hI
    have hok : PcOk (fmtM m) := by
      rw [fmtM_yes hI]
      refine ⟨fun e => ?_, by rw [h1, fmtM_yes hI]⟩
      rw [e] at h1
      have h2 : parM [] = [[numL []]] := by simp [parM, rowN, cutLD, cutFD]
      rw [h2, numL_no pok_nil] at h1
      have h3 := isC_mem hI (k := 0) (by rw [← h1]; simp) 9 (by rw [← h1]; simp)
      omega
    exact ⟨by rw [pcB_yes hok, isB_yes hI], fun _ => by rw [pcM_yes hok, fmtM_yes hI]; exact h1⟩
  · exact ⟨by rw [fmtM_no hI, pcB_no (fun h => h.1 rfl), isB_no hI], fun h => absurd h hI⟩

/-! ### Bonds -/
theorem bond_sym (m : List (List Int)) (i j : Int) : bond m j i = bond m i j := by
  by_cases h : IsC m ∧ (0 ≤ i ∧ i ≤ (m.length : Int) - 1) ∧ (0 ≤ j ∧ j ≤ (m.length : Int) - 1)
  · unfold bond
    rw [if_pos h, if_pos ⟨h.1, h.2.2, h.2.1⟩]
    by_cases he : i = j
    · rw [if_pos he, if_pos he.symm]
    · rw [if_neg he, if_neg (fun e => he e.symm), Int.mul_comm]
  · rw [bond_no h, bond_no (fun h' => h ⟨h'.1, h'.2.2, h'.2.1⟩)]
theorem bond_yes {m : List (List Int)} {i j : Int} (h : IsC m ∧ (0 ≤ i ∧ i ≤ (m.length : Int) - 1) ∧ (0 ≤ j ∧ j ≤ (m.length : Int) - 1)) : bond m i j = if i = j then 1 else bondP (entry m i.toNat j.toNat * entry m j.toNat i.toNat) := if_pos h
theorem bond_tr (m : List (List Int)) (i j : Int) : bond (trM m) i j = bond m i j := by
  by_cases hI : IsC m
  · obtain ⟨hJ, hl⟩ := tr_isC hI
    by_cases h : (0 ≤ i ∧ i ≤ (m.length : Int) - 1) ∧ (0 ≤ j ∧ j ≤ (m.length : Int) - 1)
    · rw [bond_yes ⟨hJ, by rw [hl]; exact h⟩, bond_yes ⟨hI, h⟩]
      by_cases he : i = j
      · rw [if_pos he, if_pos he]
      · rw [if_neg he, if_neg he, trM_full hI, fullM_entry _ _ _ _ (by omega) (by omega), fullM_entry _ _ _ _ (by omega) (by omega), Int.mul_comm]
    · rw [bond_no (fun h' => h (by rw [hl] at h'; exact h'.2)), bond_no (fun h' => h h'.2)]
  · rw [trM_no hI, bond_no (fun h' => by have := h'.1.2.2.1; simp at this), bond_no (fun h' => hI h'.1)]

/-! ### Types bear their names -/
def isoC (a b : List (List Int)) : Bool := (ords a.length).any (selP a b)
theorem isoB_C {a b : List (List Int)} (h : IsC a) : isoB a b = isoC a b := by
  unfold isoB isoC
  rw [obV_yes h, tabL_len, Bool.eq_iff_iff, decide_eq_true_eq, List.any_eq_true]
  unfold selT
  rw [List.take_length]
  constructor
  · intro h1
    obtain ⟨q, hq⟩ := List.exists_mem_of_length_pos (Nat.pos_of_ne_zero h1)
    exact ⟨q, (List.mem_filter.1 hq).1, (List.mem_filter.1 hq).2⟩
  · rintro ⟨q, h1, h2⟩ h0
    have := List.mem_filter.2 ⟨h1, h2⟩
    rw [List.length_eq_zero_iff.1 h0] at this
    simp at this
theorem types_ok : ∀ t, t < 17 → IsD (typeM (namesL.getD t [])) := by decide +kernel
theorem types_one : ∀ t, t < 17 → (partsL (typeM (namesL.getD t []))).length = 1 := by decide +kernel
theorem types_named : ∀ t, t < 17 → ((List.range 17).find? fun u => isoC (typeM (namesL.getD t [])) (typeM (namesL.getD u []))) = some t := by decide +kernel
theorem keys_named : ∀ p ∈ shTab, p.1 ∈ namesL := by decide +kernel
theorem type_name {l : List UInt8} (h : typeB l = true) : nameO (typeM l) = l := by
  have h1 : l ∈ namesL := by
    unfold typeB typeAt at h
    rw [Option.isSome_map] at h
    obtain ⟨p, hp⟩ := Option.isSome_iff_exists.1 h
    have h2 := List.find?_some hp
    have h3 := keys_named p (List.mem_of_find?_eq_some hp)
    rw [beq_iff_eq] at h2
    rw [h2] at h3; exact h3
  obtain ⟨t, ht, he⟩ := List.getElem_of_mem h1
  have ht' : t < 17 := ht
  have e : namesL.getD t [] = l := by rw [List.getD_eq_getElem?_getD, List.getElem?_eq_getElem ht]; exact he
  clear he h1 h
  subst e
  have hI := isD_isC (types_ok t ht')
  have h2 := types_one t ht'
  have hc : connB (partsV (typeM (namesL.getD t []))).length = true := by
    rw [partsV_yes hI, List.length_map, h2]; rfl
  obtain ⟨h3, h4⟩ := one_part hc
  have hT : nameT (typeM (namesL.getD t [])) 17 = some t := by
    unfold nameT
    rw [← types_named t ht']
    congr 1
    funext u
    exact isoB_C hI
  unfold nameO
  rw [h3, nameS_succ, h4, if_pos rfl, List.nil_append]
  exact nameP_hit hT

/-! ### The parts of a join -/
def jG (na : Nat) (ga gb : Nat → Nat → Bool) (i j : Nat) : Bool := if j < na then ga i j else if i < na then false else gb (i - na) (j - na)
def JoinsOk (na nb : Nat) : Prop := ∀ a b c d e f : Bool,
  (partsM (grN (grE (jG na (grE a b false c false false) (grE d e false f false false) 0 1) (jG na (grE a b false c false false) (grE d e false f false false) 0 2) (jG na (grE a b false c false false) (grE d e false f false false) 0 3)
    (jG na (grE a b false c false false) (grE d e false f false false) 1 2) (jG na (grE a b false c false false) (grE d e false f false false) 1 3) (jG na (grE a b false c false false) (grE d e false f false false) 2 3)) (na + nb)) (na + nb) (na + nb)).length
  = (partsM (grN (grE a b false c false false) na) na na).length + (partsM (grN (grE d e false f false false) nb) nb nb).length
instance (na nb : Nat) : Decidable (JoinsOk na nb) := by unfold JoinsOk; infer_instance
theorem joins_ok : ∀ na, na < 4 → ∀ nb, nb < 4 → 1 ≤ na → 1 ≤ nb → na + nb ≤ 4 → JoinsOk na nb := by decide +kernel
theorem join_entry {a b : List (List Int)} (h : JoinOk a b) {i j : Nat} (hi : i < a.length + b.length) (hj : j < a.length + b.length) :
    entry (joinL a b) i j = if i < a.length then (if j < a.length then entry a i j else 0) else (if j < a.length then 0 else entry b (i - a.length) (j - a.length)) := by
  obtain ⟨ha, hb, _⟩ := h
  unfold entry joinL
  by_cases h1 : i < a.length
  · have hr := ha.1 i h1
    rw [getD_row a i h1] at hr ⊢
    rw [if_pos h1, List.getD_eq_getElem?_getD (l := _ ++ _), List.getElem?_append_left (by simpa using h1)]
    simp only [List.getElem?_map, List.getElem?_eq_getElem h1, Option.map_some, Option.getD_some]
    by_cases h2 : j < a.length
    · rw [if_pos h2, List.getD_eq_getElem?_getD, List.getElem?_append_left (by rw [hr]; exact h2), List.getD_eq_getElem?_getD]
    · rw [if_neg h2, List.getD_eq_getElem?_getD, List.getElem?_append_right (by omega)]
      simp [List.getElem?_replicate]
      split <;> rfl
  · have h3 : i - a.length < b.length := by omega
    have hr := hb.1 _ h3
    rw [getD_row b _ h3] at hr ⊢
    rw [if_neg h1, List.getD_eq_getElem?_getD (l := _ ++ _), List.getElem?_append_right (by simp; omega)]
    simp only [List.length_map, List.getElem?_map, List.getElem?_eq_getElem h3, Option.map_some, Option.getD_some]
    by_cases h2 : j < a.length
    · rw [if_pos h2, List.getD_eq_getElem?_getD, List.getElem?_append_left (by simpa using h2)]
      simp [List.getElem?_replicate, h2]
    · rw [if_neg h2, List.getD_eq_getElem?_getD, List.getElem?_append_right (by simp; omega), List.getD_eq_getElem?_getD]
      simp
theorem join_isC {a b : List (List Int)} (h : JoinOk a b) : IsC (joinM a b) := by
  have hs := (sq_join h).1
  have hl := joinL_len a b
  rw [joinM_yes h] at hs ⊢
  have hok := h
  obtain ⟨ha, hb, h4⟩ := h
  have h1 := ha.2.2
  have h2 := hb.2.2
  refine ⟨hs, fun i j hi hj => ?_, by omega, by omega⟩
  rw [hl] at hi hj
  unfold okC
  rw [join_entry hok hi hj, join_entry hok hj hi]
  by_cases hia : i < a.length
  · by_cases hja : j < a.length
    · simp only [hia, hja, if_true]
      exact ha.2.1 i j hia hja
    · simp only [hia, hja, if_true, if_false]
      exact Or.inr ⟨by omega, by omega, by simp⟩
  · by_cases hja : j < a.length
    · simp only [hia, hja, if_true, if_false]
      exact Or.inr ⟨by omega, by omega, by simp⟩
    · simp only [hia, hja, if_false]
      rcases hb.2.1 (i - a.length) (j - a.length) (by omega) (by omega) with h | h
      · exact Or.inl ⟨by omega, h.2⟩
      · exact Or.inr ⟨by omega, h.2.1, h.2.2⟩
theorem nbF_out {m : List (List Int)} (hI : IsC m) {i j : Nat} (h : m.length ≤ j) : nbF m i j = false := by
  unfold nbF
  rw [entry_out hI (Or.inr h)]
  simp
theorem join_nbF {a b : List (List Int)} (h : JoinOk a b) (i j : Nat) (hij : i < j) : nbF (joinM a b) i j = jG a.length (nbF a) (nbF b) i j := by
  have hI := join_isC h
  have hl : (joinM a b).length = a.length + b.length := by rw [joinM_yes h, joinL_len]
  have hne : j ≠ i := by omega
  unfold jG
  by_cases hj : j < a.length + b.length
  · by_cases hja : j < a.length
    · have hia : i < a.length := by omega
      rw [if_pos hja]
      unfold nbF
      rw [joinM_yes h, join_entry h (by omega) hj, if_pos hia, if_pos hja]
    · rw [if_neg hja]
      by_cases hia : i < a.length
      · rw [if_pos hia]
        unfold nbF
        rw [joinM_yes h, join_entry h (by omega) hj, if_pos hia, if_neg hja]
        simp
      · rw [if_neg hia]
        unfold nbF
        rw [joinM_yes h, join_entry h (by omega) hj, if_neg hia, if_neg hja]
        have e : (j ≠ i) ↔ (j - a.length ≠ i - a.length) := by omega
        exact decide_eq_decide.2 (and_congr e Iff.rfl)
  · rw [nbF_out hI (by omega), if_neg (by omega)]
    by_cases hia : i < a.length
    · rw [if_pos hia]
    · rw [if_neg hia, nbF_out h.2.1 (by omega)]
theorem g3 (b : List (List Int)) (x y : Nat) (hxy : x < y) (hy : y ≤ 2) : grE (nbF b 0 1) (nbF b 0 2) false (nbF b 1 2) false false x y = nbF b x y := by
  rcases (show y = 1 ∨ y = 2 by omega) with rfl | rfl
  · obtain rfl : x = 0 := by omega
    rfl
  · rcases (show x = 0 ∨ x = 1 by omega) with rfl | rfl <;> rfl
theorem join_parts {a b : List (List Int)} (h : JoinOk a b) : (partsV (joinM a b)).length = (partsV a).length + (partsV b).length := by
  have hI := join_isC h
  have hl : (joinM a b).length = a.length + b.length := by rw [joinM_yes h, joinL_len]
  have h' := h
  obtain ⟨ha, hb, h4⟩ := h
  have h1 := ha.2.2
  have h2 := hb.2.2
  have hk := joins_ok a.length (by omega) b.length (by omega) (by omega) (by omega) h4 (nbF a 0 1) (nbF a 0 2) (nbF a 1 2) (nbF b 0 1) (nbF b 0 2) (nbF b 1 2)
  have g : ∀ {m : List (List Int)}, IsC m → m.length < 4 → grE (nbF m 0 1) (nbF m 0 2) (nbF m 0 3) (nbF m 1 2) (nbF m 1 3) (nbF m 2 3) = grE (nbF m 0 1) (nbF m 0 2) false (nbF m 1 2) false false := fun hm hlt => by
    rw [nbF_out hm (j := 3) (by omega), nbF_out hm (j := 3) (by omega), nbF_out hm (j := 3) (by omega)]
  have hj : ∀ i j, i < j → j ≤ 3 → nbF (joinM a b) i j = jG a.length (grE (nbF a 0 1) (nbF a 0 2) false (nbF a 1 2) false false) (grE (nbF b 0 1) (nbF b 0 2) false (nbF b 1 2) false false) i j := fun i j hij hj3 => by
    rw [join_nbF h' i j hij]
    unfold jG
    by_cases hja : j < a.length
    · rw [if_pos hja, if_pos hja, nbF_gr ha i j hja, g ha (by omega)]
    · rw [if_neg hja, if_neg hja]
      by_cases hia : i < a.length
      · rw [if_pos hia, if_pos hia]
      · rw [if_neg hia, if_neg hia]
        exact (g3 b _ _ (by omega) (by omega)).symm
  rw [partsV_yes hI, partsV_yes ha, partsV_yes hb, List.length_map, List.length_map, List.length_map, partsL_gr hI, partsL_gr ha, partsL_gr hb, hl]
  unfold gE
  rw [g ha (by omega), g hb (by omega), hj 0 1 (by decide) (by decide), hj 0 2 (by decide) (by decide), hj 0 3 (by decide) (by decide), hj 1 2 (by decide) (by decide), hj 1 3 (by decide) (by decide), hj 2 3 (by decide) (by decide)]
  exact hk
end Go.Proofs.YtcmnkhblnlmfpaaGreatDoor
namespace Go.Proofs.YtcmnkhblnlmfpaaGreatDoor
open Go.RowKit

theorem some_byte (z : Int) : ∃ b : UInt8, (b.toNat : Int) = IntKind.u8.wrap z := by
  have h : 0 ≤ IntKind.u8.wrap z ∧ IntKind.u8.wrap z ≤ 255 := by
    unfold IntKind.wrap
    simp [IntKind.signed, IntKind.bits]
    omega
  refine ⟨UInt8.ofNat (IntKind.u8.wrap z).toNat, ?_⟩
  rw [UInt8.toNat_ofNat_of_lt' (by have := h.2; show _ < 256; omega)]
  omega
def byteOf (z : Int) : UInt8 := UInt8.ofNat (IntKind.u8.wrap z).toNat
theorem byteOf_eq (z : Int) : ((byteOf z).toNat : Int) = IntKind.u8.wrap z := by
  have h : 0 ≤ IntKind.u8.wrap z ∧ IntKind.u8.wrap z ≤ 255 := by
    unfold IntKind.wrap
    simp [IntKind.signed, IntKind.bits]
    omega
  unfold byteOf
  rw [UInt8.toNat_ofNat_of_lt' (by have := h.2; show _ < 256; omega)]
  omega
theorem byteOf_mod (z : Int) : ((byteOf z).toNat : Int) = z % 256 := by rw [byteOf_eq, IntKind.wrap_u8]
/-- What a call that draws a text leaves. -/
def DrT (B C : Nat) (cv : Value) (len : Nat) (most : Nat) (w : World) (e : Ending) (w' : World) : Prop := ∃ t : ByteArray, t.size ≤ most ∧ e = .returned (.string t) ∧ DrTo B C cv len w w'
set_option maxHeartbeats 2000000 in
set_option maxRecDepth 100000 in
theorem spoil_any (B C : Nat) (w : World) (cv : Value) (len : Nat) (s : ByteArray) (n : Nat) (hn : s.size = n) (hs : n ≤ 100000) (hd : Dr B C cv len w) :
    Calls Tryz.prog 70 #[.pointer (some ⟨C, 0, none⟩), .string s] w (DrT B C cv len (n + 3) w) := by
  have hC := hd.lt
  by_cases h0 : n = 0
  · have hs0 : s = ⟨#[]⟩ := by
      cases s with
      | mk d => simp [ByteArray.size] at hn; have : d = #[] := by apply Array.eq_empty_of_size_eq_zero; omega
                rw [this]
    have HT := Lib.hid (text_any B C w cv len 3 (by omega) hd)
    subst hs0
    clear hd hn
    subst h0
    go_enter Tryz.func70, Tryz.ntmps70
    go_wp2_with fail
    refine HT.out.mono ?_
    rintro e w1 ⟨t, ht, rfl, h1⟩
    have H1 := Lib.hid h1; clear h1
    go_wp2_with fail
    go_ret
    exact ⟨t, by omega, rfl, H1.out⟩
  · have hsn : ((s.size : Int) == 0) = false := by rw [beq_eq_false_iff_ne]; omega
    have HBE := Lib.hid (below_any B C w cv len n (by omega) (by omega) hd)
    clear hd
    go_enter Tryz.func70, Tryz.ntmps70
    go_wp2_with fail
    try rw [hn]
    refine HBE.out.mono ?_
    rintro e w1 ⟨k, hk, rfl, hd1⟩
    have HD1 := Lib.hid hd1
    have hs1 := hd1.2.size
    have HB4 := Lib.hid (below_any B C w1 cv len 4 (by omega) (by omega) hd1.1)
    clear hd1 HBE
    go_wp2_with fail
    refine HB4.out.mono ?_
    rintro e w2 ⟨r, hr, rfl, hd2⟩
    have HD2 := Lib.hid (HD1.out.trans hd2)
    have hs2 := hd2.2.size
    clear hd2 HB4 HD1
    have hks : k < s.size := by omega
    obtain ⟨x1, hx1, hx1s⟩ : ∃ x : ByteArray, s.extract 0 k = x ∧ x.size ≤ n := ⟨_, rfl, by rw [ByteArray.size_extract]; omega⟩
    obtain ⟨x2, hx2, hx2s⟩ : ∃ x : ByteArray, s.extract k n = x ∧ x.size ≤ n := ⟨_, rfl, by rw [ByteArray.size_extract]; omega⟩
    obtain ⟨x3, hx3, hx3s⟩ : ∃ x : ByteArray, s.extract (k + 1) n = x ∧ x.size ≤ n := ⟨_, rfl, by rw [ByteArray.size_extract]; omega⟩
    have hx12 : x1.size + x2.size ≤ n := by rw [← hx1, ← hx2, ByteArray.size_extract, ByteArray.size_extract]; omega
    have hx13 : x1.size + x3.size ≤ n := by rw [← hx1, ← hx3, ByteArray.size_extract, ByteArray.size_extract]; omega
    rcases (show r = 0 ∨ r = 1 ∨ r = 2 ∨ r = 3 by omega) with rfl | rfl | rfl | rfl
    · go_wp2_with fail
      go_quiet (fail)
      go_wp2_with fail
      go_ret
      exact ⟨_, by rw [ByteArray.size_append]; omega, rfl, HD2.out.trans (DrTo.of_below HD2.out.1 (below_drewN _))⟩
    · have HDD := Lib.hid (show Dr B C cv len w2.drew from (DrTo.of_below HD2.out.1 ((Below.refl _ _).drew)).1)
      have HBY := Lib.hid (byte_any B C w2.drew cv len HDD.out)
      go_wp2_with fail
      go_region_with (go_at_call 104; refine HBY.out.mono ?_; rintro e w3 ⟨y, hy, rfl, hd3⟩; have HD3 := Lib.hid hd3; obtain ⟨b, hb⟩ := some_byte (y : Int); have hcv := conv_byte w3 b hb; have hcv2 := conv_byte w3 b (u := (y : Int)) (by rw [hb]; exact IntWalk.u8_in _ (by omega)); clear hb; have hbs : (⟨#[b]⟩ : ByteArray).size ≤ 1 := Nat.le_refl _; have hxb : (x1 ++ ⟨#[b]⟩).size ≤ x1.size + 1 := by rw [ByteArray.size_append]; exact Nat.le_refl _)
      all_goals
        go_wp2_with fail
        go_ret
        exact ⟨_, by rw [ByteArray.size_append]; omega, rfl, (HD2.out.trans ((DrTo.of_below HD2.out.1 (Below.refl _ _).drew).trans HD3.out)).trans (DrTo.of_below HD3.out.1 ((Below.refl _ _).alloc (Nat.le_refl _) _))⟩
    · go_wp2_with fail
      go_ret
      exact ⟨x1, by omega, rfl, HD2.out⟩
    · have HDD := Lib.hid (show Dr B C cv len w2.drew from (DrTo.of_below HD2.out.1 ((Below.refl _ _).drew)).1)
      have HBY := Lib.hid (below_any B C w2.drew cv len 255 (by omega) (by omega) HDD.out)
      go_wp2_with fail
      have hw1 : IntKind.i64.wrap ((k : Int) + 1) = (k : Int) + 1 := IntWalk.i64_in _ (by omega)
      have hw2 : 0 ≤ (k : Int) + 1 := by omega
      have hw3 : ((k : Int) + 1).toNat = k + 1 := by omega
      have hw4 : (k : Int) + 1 ≤ n := by omega
      go_region_with (go_at_call 84; refine HBY.out.mono ?_; rintro e w3 ⟨y, hy, rfl, hd3⟩; have HD3 := Lib.hid hd3; have hcv := fun z : Int => conv_byte w3 (byteOf z) (byteOf_mod z); have hcv3 := fun z : Int => conv_byte w3 (byteOf z) (byteOf_eq z); have hbs : ∀ z, (⟨#[byteOf z]⟩ : ByteArray).size = 1 := fun _ => rfl; have hxb : ∀ z, (x1 ++ ⟨#[byteOf z]⟩).size = x1.size + 1 := fun z => by rw [ByteArray.size_append]; rfl)
      all_goals
        clear hcv hcv3 hbs
        go_wp2_with fail
        go_ret
        exact ⟨_, by rw [ByteArray.size_append, hxb]; omega, rfl, (HD2.out.trans ((DrTo.of_below HD2.out.1 (Below.refl _ _).drew).trans HD3.out)).trans (DrTo.of_below HD3.out.1 ((Below.refl _ _).alloc (Nat.le_refl _) _))⟩
end Go.Proofs.YtcmnkhblnlmfpaaGreatDoor
namespace Go.Proofs.YtcmnkhblnlmfpaaGreatDoor
open Go.RowKit

/-- Nothing is appended to a row of the call's own, from a slice without address. -/
theorem append_nothing {P : Program} {w : World} (base : Nat) (t ty e : TypeId) (i : TypeInfo) (size : Nat) (ht : P.underlying t = some (.slice e)) (hi : P.info? e = some i)
    (v : Value) (n c : Nat) (xs : List Value) (hown : w.ownsRow base e size v n xs) : (Builtin.append_ #[t, t] ty #[v, .slice none 0 c]).run P w = .ok v w := by
  obtain ⟨_, h | h⟩ := hown
  · obtain ⟨rfl, _⟩ := h
    simp [Builtin.append_, run_underlying ht, sizeOf, typeInfo, hi, Builtin.lenOf, Builtin.firstCells]
  · obtain ⟨g, cap, cur, rfl, _, _, hcap, _⟩ := h
    have hroom : ¬ cap < n := by omega
    simp [Builtin.append_, run_underlying ht, sizeOf, typeInfo, hi, Builtin.lenOf, Builtin.firstCells, hroom, storeCells]
theorem wp_intsA {o : Oper} {a : Act} {K : Act → World → Prop} {Q : Exit → Act → World → Prop} {s x : Operand} {A B : Nat} {v xv : Value} {l l2 : List Int} {wr : World}
    (hM : RowI A wr.heap.size wr v l) (hA : A ≤ wr.heap.size) (hr : RowB B wr xv l2)
    (ho : o.op = .call { callee := .builtin .append, args := #[s, x], argTypes := #[25, 25] }) (hs : a.eval s = v) (hx : a.eval x = xv) (hlen : l.length + l2.length ≤ 4194304)
    (h : AfterRow A wr (l ++ l2) fun v' w' => K (a.put o.dst v') w') : o.wp Tryz.prog a wr K Q := by
  by_cases h0 : l2 = []
  · subst h0
    obtain ⟨h1, h2⟩ := hM
    obtain ⟨i0, hi, hz0, hz1, hz2⟩ := info_parts Tryz.infoInt
    have hsl : ∃ p c, xv = .slice p 0 c := by
      rcases hr with ⟨_, p, c, h⟩ | ⟨b, off, c, h, _⟩
      · exact ⟨p, c, h⟩
      · exact ⟨_, c, h⟩
    obtain ⟨p, c, rfl⟩ := hsl
    cases p with
    | none =>
      have hrun := append_nothing (P := Tryz.prog) A 25 o.type 3 i0 1 Tryz.underlying25 hi v l.length c (intsV l) h1
      unfold Oper.wp
      simp [execOp, ho, resolve, invoke, builtin, hs, hx, hrun, Result.andThen]
      exact h v wr (by rw [List.append_nil]; exact ⟨h1, h2⟩) (fun W C _ hb => hb) (Nat.le_refl _)
    | some p =>
      refine wp_append_own wr s x 25 ho A 3 i0 (.int .i64 0) 1 8 Tryz.underlying25 hi hz0 hz1 hz2 rfl (by omega) v l.length (intsV l) hs h1 p 0 c [] hx rfl (fun j u hu => by simp at hu) (fun u hu => by simp at hu) (by simp at hlen; unfold maxLen; omega) (by simp at hlen; omega) hA ?_
      intro v' w' ho' hg _
      refine h v' w' ⟨?_, fun g hgg => (ho'.lt g hgg).2⟩ (fun W C hC hb => ?_) hg.size
      · simpa using ho'
      · exact hb.grown hg (by omega) (fun k hk => by have := (h1.lt k hk).1; omega)
  · exact wp_ints hM hA hr h0 ho hs hx hlen h
/-- 'append(row, xs...)', xs empty or not. -/
theorem append_intsA {ops : Array Oper} {rest : List Oper} {o : Oper} {a : Act} {Q : Exit → Act → World → Prop} {s x : Operand} {A B : Nat} {v xv : Value} {l l2 : List Int} {wr : World}
    (hM : RowI A wr.heap.size wr v l) (hA : A ≤ wr.heap.size) (hr : RowB B wr xv l2) (hlen : l.length + l2.length ≤ 4194304) (hgd : o.guard = none)
    (ho : o.op = .call { callee := .builtin .append, args := #[s, x], argTypes := #[25, 25] }) (hs : a.eval s = v) (hx : a.eval x = xv)
    (h : AfterRow A wr (l ++ l2) fun v' w' => wpList Tryz.prog ops Q rest (a.put o.dst v') w') : wpList Tryz.prog ops Q (o :: rest) a wr :=
  wpList_plain hgd fun _ hK => wp_intsA hM hA hr ho hs hx hlen fun v' w' h2 h3 h4 => hK _ _ (h v' w' h2 h3 h4)
end Go.Proofs.YtcmnkhblnlmfpaaGreatDoor
