/-
  A matrix of up to four points is of finite type exactly if each of its parts has a name of finite type, and exactly if its transpose is (no walk here).
-/
import Derived.Test.YtcmnkhblnlmfpaaGreatDoorFW31
import Derived.Test.YtcmnkhblnlmfpaaGreatDoorFW28
import Derived.Test.YtcmnkhblnlmfpaaGreatDoorFW05
namespace Go.Proofs.YtcmnkhblnlmfpaaGreatDoor
open Go.RowKit

/-! ### Positive minors -/
theorem PF_congr {k : Nat} (hk : k ≤ 4) {f g : Nat → Nat → Int} (h : ∀ i j, i < k → j < k → f i j = g i j) : PF k f = PF k g := by
  rw [← det_full k hk, ← det_full k hk, fullF_congr h]
theorem posS_iff {F : Nat → Nat → Int} {S : List Nat} : posS F S = true ↔ ∀ t, t < 2 ^ S.length - 1 → 0 < PF (setK (t + 1) S.length).length (eS F (mapK S (setK (t + 1) S.length))) := by
  unfold posS
  rw [List.all_eq_true]
  constructor
  · intro h t ht
    exact of_decide_eq_true (h t (List.mem_range.2 ht))
  · intro h t ht
    exact decide_eq_true (h t (List.mem_range.1 ht))
theorem eS_map (F : Nat → Nat → Int) (S : List Nat) {K : List Nat} {i j : Nat} (hi : i < K.length) (hj : j < K.length) : eS F (mapK S K) i j = F (S.getD (K.getD i 0) 0) (S.getD (K.getD j 0) 0) := by
  unfold eS
  rw [mapK_get _ _ _ hi, mapK_get _ _ _ hj]
theorem posS_congr {F G : Nat → Nat → Int} {S T : List Nat} (h4 : S.length ≤ 4) (hl : T.length = S.length) (h : ∀ x y, x < S.length → y < S.length → F (S.getD x 0) (S.getD y 0) = G (T.getD x 0) (T.getD y 0)) : posS F S = posS G T := by
  rw [Bool.eq_iff_iff, posS_iff, posS_iff, hl]
  have e : ∀ t, t < 2 ^ S.length - 1 → PF (setK (t + 1) S.length).length (eS F (mapK S (setK (t + 1) S.length))) = PF (setK (t + 1) S.length).length (eS G (mapK T (setK (t + 1) S.length))) := fun t ht =>
    PF_congr (Nat.le_trans (setK_len _ _) h4) fun i j hi hj => by
      rw [eS_map F S hi hj, eS_map G T hi hj]
      exact h _ _ ((sets_ok S.length h4 t ht).2 i hi).1 ((sets_ok S.length h4 t ht).2 j hj).1
  exact ⟨fun k t ht => e t ht ▸ k t ht, fun k t ht => (e t ht).symm ▸ k t ht⟩
theorem pick_length (m : List (List Int)) (p : List Nat) : (pick m (intL p)).length = p.length := by rw [pick_eF, fullF_len]
theorem fin_pos {m : List (List Int)} {p : List Nat} (h4 : p.length ≤ 4) (hI : IsC (pick m (intL p))) : finB (pick m (intL p)) = posS (entry m) p := by
  rw [Bool.eq_iff_iff, fin_iff hI, posS_iff, pick_length]
  have e : ∀ t, t < 2 ^ p.length - 1 → minP (pick m (intL p)) t = PF (setK (t + 1) p.length).length (eS (entry m) (mapK p (setK (t + 1) p.length))) := fun t ht => by
    unfold minP
    rw [pick_length, pick_pick m p _ (fun i hi => ((sets_ok p.length h4 t ht).2 i hi).1), pick_eF, mapK_len, det_full _ (Nat.le_trans (setK_len _ _) h4)]
    rfl
  exact ⟨fun k t ht => e t ht ▸ k t ht, fun k t ht => (e t ht).symm ▸ k t ht⟩
theorem fin_whole {m : List (List Int)} (hI : IsC m) : finB m = posS (entry m) (List.range m.length) := by
  have h := fin_pos (m := m) (p := List.range m.length) (by rw [List.length_range]; exact hI.2.2.2) (by rw [pick_all hI]; exact hI)
  rw [pick_all hI] at h
  exact h
theorem pair_set : ∀ n, n ≤ 4 → ∀ y, y < n → ∀ x, x < y → setK (2 ^ x + 2 ^ y - 1 + 1) n = [x, y] ∧ 2 ^ x + 2 ^ y - 1 < 2 ^ n - 1 := by decide +kernel
theorem pos_pair {F : Nat → Nat → Int} {p : List Nat} (h4 : p.length ≤ 4) (h : posS F p = true) {x y : Nat} (hxy : x < y) (hy : y < p.length) :
    0 < P2 (F (p.getD x 0) (p.getD x 0)) (F (p.getD x 0) (p.getD y 0)) (F (p.getD y 0) (p.getD x 0)) (F (p.getD y 0) (p.getD y 0)) := by
  obtain ⟨h1, h2⟩ := pair_set p.length h4 y hy x hxy
  have := posS_iff.1 h _ h2
  rw [h1] at this
  exact this

/-! ### Codes of a matrix -/
def codeP (x y : Int) : Nat := if x = 0 then 0 else if y = -1 then (if x = -1 then 1 else if x = -2 then 3 else 5) else if y = -2 then 2 else 4
theorem code_ok {x y : Int} (hx : -3 ≤ x ∧ x ≤ 0) (hy : -3 ≤ y ∧ y ≤ 0) (hz : x = 0 ↔ y = 0) (hg : x * y ≤ 3) : cA (codeP x y) = x ∧ cB (codeP x y) = y ∧ codeP x y < 6 ∧ nz (codeP x y) = decide (x ≠ 0) := by
  obtain ⟨hx1, hx2⟩ := hx
  obtain ⟨hy1, hy2⟩ := hy
  rcases (show x = 0 ∨ x = -1 ∨ x = -2 ∨ x = -3 by omega) with rfl | rfl | rfl | rfl <;> rcases (show y = 0 ∨ y = -1 ∨ y = -2 ∨ y = -3 by omega) with rfl | rfl | rfl | rfl <;> first | decide | (exfalso; revert hz hg; decide)
theorem entry_out {m : List (List Int)} (hI : IsC m) {i j : Nat} (h : m.length ≤ i ∨ m.length ≤ j) : entry m i j = 0 := by
  by_cases hi : m.length ≤ i
  · unfold entry; simp [List.getD, List.getElem?_eq_none hi]
  · have h1 := hI.1 i (by omega)
    have hj : m.length ≤ j := by omega
    unfold entry
    rw [List.getD_eq_getElem?_getD, List.getElem?_eq_none (by rw [h1]; exact hj)]; rfl
theorem entry_two {m : List (List Int)} (hI : IsC m) {i : Nat} (hi : i < m.length) : entry m i i = 2 := by
  rcases hI.2.1 i i hi hi with h | h
  · exact h.2
  · exact absurd rfl h.1
def GoodC (m : List (List Int)) : Prop := ∀ i j, i < j → j < m.length → entry m i j * entry m j i ≤ 3
def cd (m : List (List Int)) (i j : Nat) : Nat := codeP (entry m i j) (entry m j i)
theorem cd_ok {m : List (List Int)} (hI : IsC m) (hg : GoodC m) (i j : Nat) (hij : i < j) : cA (cd m i j) = entry m i j ∧ cB (cd m i j) = entry m j i ∧ cd m i j < 6 ∧ nz (cd m i j) = nbF m i j := by
  have hne : j ≠ i := by omega
  have e : nbF m i j = decide (entry m i j ≠ 0) := by unfold nbF; simp [hne]
  rw [e]
  by_cases hj : j < m.length
  · rcases hI.2.1 i j (by omega) hj with h | h
    · exact absurd h.1 (by omega)
    · rcases hI.2.1 j i hj (by omega) with h' | h'
      · exact absurd h'.1 (by omega)
      · exact code_ok h.2.1 h'.2.1 h.2.2 (hg i j hij hj)
  · have h1 := entry_out hI (i := i) (j := j) (Or.inr (by omega))
    have h2 := entry_out hI (i := j) (j := i) (Or.inl (by omega))
    unfold cd
    rw [h1, h2]
    decide
abbrev cmM (m : List (List Int)) : Nat → Nat → Int := cmF (cd m 0 1) (cd m 0 2) (cd m 0 3) (cd m 1 2) (cd m 1 3) (cd m 2 3)
theorem cm_entry {m : List (List Int)} (hI : IsC m) (hg : GoodC m) (i j : Nat) (hi : i < m.length) (hj : j < m.length) : entry m i j = cmM m i j := by
  have h4 := hI.2.2.2
  rcases (show i = 0 ∨ i = 1 ∨ i = 2 ∨ i = 3 by omega) with rfl | rfl | rfl | rfl <;> rcases (show j = 0 ∨ j = 1 ∨ j = 2 ∨ j = 3 by omega) with rfl | rfl | rfl | rfl
  · exact entry_two hI hi
  · exact (cd_ok hI hg 0 1 (by decide)).1.symm
  · exact (cd_ok hI hg 0 2 (by decide)).1.symm
  · exact (cd_ok hI hg 0 3 (by decide)).1.symm
  · exact (cd_ok hI hg 0 1 (by decide)).2.1.symm
  · exact entry_two hI hi
  · exact (cd_ok hI hg 1 2 (by decide)).1.symm
  · exact (cd_ok hI hg 1 3 (by decide)).1.symm
  · exact (cd_ok hI hg 0 2 (by decide)).2.1.symm
  · exact (cd_ok hI hg 1 2 (by decide)).2.1.symm
  · exact entry_two hI hi
  · exact (cd_ok hI hg 2 3 (by decide)).1.symm
  · exact (cd_ok hI hg 0 3 (by decide)).2.1.symm
  · exact (cd_ok hI hg 1 3 (by decide)).2.1.symm
  · exact (cd_ok hI hg 2 3 (by decide)).2.1.symm
  · exact entry_two hI hi
theorem mul_le {x y : Int} (h : 0 < P2 2 x y 2) : x * y ≤ 3 := by unfold P2 at h; omega
theorem range_get {n i : Nat} (h : i < n) : (List.range n).getD i 0 = i := by simp [List.getD, h]
theorem good_of_fin {m : List (List Int)} (hI : IsC m) (h : finB m = true) : GoodC m := fun i j hij hj => by
  rw [fin_whole hI] at h
  have hp := pos_pair (by rw [List.length_range]; exact hI.2.2.2) h hij (by rw [List.length_range]; exact hj)
  rw [range_get (by omega : i < m.length), range_get hj, entry_two hI hj, entry_two hI (by omega : i < m.length)] at hp
  exact mul_le hp

/-! ### Parts -/
theorem part_all (n : Nat) (h1 : 1 ≤ n) (h4 : n ≤ 4) : PartOk n := by
  rcases (show n = 1 ∨ n = 2 ∨ n = 3 ∨ n = 4 by omega) with rfl | rfl | rfl | rfl
  · exact part_ok1
  · exact part_ok2
  · exact part_ok3
  · exact part_ok4
theorem split_all (n : Nat) (h1 : 1 ≤ n) (h4 : n ≤ 4) : SplitOk n := by
  rcases (show n = 1 ∨ n = 2 ∨ n = 3 ∨ n = 4 by omega) with rfl | rfl | rfl | rfl
  · exact split_ok1
  · exact split_ok2
  · exact split_ok3
  · exact split_ok4
abbrev gE (m : List (List Int)) : Nat → Nat → Bool := grE (nbF m 0 1) (nbF m 0 2) (nbF m 0 3) (nbF m 1 2) (nbF m 1 3) (nbF m 2 3)
theorem partsL_gr {m : List (List Int)} (hI : IsC m) : partsL m = partsM (grN (gE m) m.length) m.length m.length := by unfold partsL; rw [nbG_gr hI]
theorem sub_isC {m : List (List Int)} (hI : IsC m) {p : List Nat} (h1 : 1 ≤ p.length) (h4 : p.length ≤ 4) (hp : ∀ k, k < p.length → p.getD k 0 < m.length ∧ ∀ j, j < k → p.getD j 0 < p.getD k 0) : IsC (pick m (intL p)) := by
  have hl := pick_length m p
  have he : ∀ a b, a < p.length → b < p.length → entry (pick m (intL p)) a b = entry m (p.getD a 0) (p.getD b 0) := fun a b ha hb => by
    rw [pick_eF, fullM_entry _ _ _ _ ha hb]; rfl
  refine ⟨fun i hi => ?_, fun i j hi hj => ?_, by omega, by omega⟩
  · rw [hl] at hi ⊢
    rw [pick_eF, fullM_get _ _ _ hi]
    simp [rowF]
  · rw [hl] at hi hj
    unfold okC
    rw [he i j hi hj, he j i hj hi]
    by_cases hij : i = j
    · subst hij
      exact Or.inl ⟨rfl, entry_two hI (hp i hi).1⟩
    · have hne : p.getD i 0 ≠ p.getD j 0 := by
        rcases Nat.lt_or_gt_of_ne hij with h | h
        · have := (hp j hj).2 i h; omega
        · have := (hp i hi).2 j h; omega
      rcases hI.2.1 _ _ (hp i hi).1 (hp j hj).1 with h | h
      · exact absurd h.1 hne
      · exact Or.inr ⟨hij, h.2.1, h.2.2⟩
theorem part_isC {m : List (List Int)} (hI : IsC m) {p : List Nat} (hp : p ∈ partsL m) : IsC (pick m (intL p)) ∧ p.length ≤ 4 ∧ (∀ k, k < p.length → p.getD k 0 < m.length ∧ ∀ j, j < k → p.getD j 0 < p.getD k 0) ∧ (restN p.length (gE m) p).length = 1 := by
  rw [partsL_gr hI] at hp
  obtain ⟨h1, h2, h3, h5⟩ := (part_all m.length hI.2.2.1 hI.2.2.2 _ _ _ _ _ _).2.1 p hp
  have h4 := hI.2.2.2
  exact ⟨sub_isC hI h1 (by omega) h3, by omega, h3, h5⟩
theorem parts_some {m : List (List Int)} (hI : IsC m) : 1 ≤ (partsL m).length ∧ (partsL m).length ≤ 4 := by
  rw [partsL_gr hI]
  exact (part_all m.length hI.2.2.1 hI.2.2.2 _ _ _ _ _ _).1
theorem mem_opts : ∀ c, c < 6 → c ∈ opts (nz c) := by decide
/-- All minors are positive exactly if those of each part are. -/
theorem fin_parts {m : List (List Int)} (hI : IsC m) : finB m = true ↔ ∀ p ∈ partsL m, posS (entry m) p = true := by
  have h4 := hI.2.2.2
  by_cases hc : (partsL m).length = 1
  · have h3 : partsL m = [List.range m.length] := by
      rw [partsL_gr hI] at hc ⊢
      exact one_ok m.length h4 hI.2.2.1 _ _ _ _ _ _ hc
    rw [h3, fin_whole hI]
    simp
  · have key : GoodC m → ((partsL m).all (posS (cmM m)) = posS (cmM m) (List.range m.length)) := fun hg => by
      have e : ∀ i j, i < j → cd m i j ∈ opts (nbF m i j) := fun i j hij => by
        obtain ⟨_, _, h6, h7⟩ := cd_ok hI hg i j hij
        rw [← h7]; exact mem_opts _ h6
      rcases split_all m.length hI.2.2.1 h4 (nbF m 0 1) (nbF m 0 2) (nbF m 0 3) (nbF m 1 2) (nbF m 1 3) (nbF m 2 3) with h | h
      · rw [partsL_gr hI] at hc; exact absurd h hc
      · rw [partsL_gr hI]
        exact h _ (e 0 1 (by decide)) _ (e 0 2 (by decide)) _ (e 0 3 (by decide)) _ (e 1 2 (by decide)) _ (e 1 3 (by decide)) _ (e 2 3 (by decide))
    have hw : GoodC m → posS (cmM m) (List.range m.length) = posS (entry m) (List.range m.length) := fun hg =>
      posS_congr (by rw [List.length_range]; exact h4) rfl fun x y hx hy => by
        rw [List.length_range] at hx hy
        rw [range_get hx, range_get hy]; exact (cm_entry hI hg x y hx hy).symm
    have hp : GoodC m → ∀ p ∈ partsL m, posS (cmM m) p = posS (entry m) p := fun hg p hp => by
      obtain ⟨_, h1, h2, _⟩ := part_isC hI hp
      exact posS_congr h1 rfl fun x y hx hy => (cm_entry hI hg _ _ (h2 x hx).1 (h2 y hy).1).symm
    constructor
    · intro h p hpp
      have hg := good_of_fin hI h
      rw [fin_whole hI] at h
      rw [← hp hg p hpp]
      have h2 := key hg
      rw [hw hg, h] at h2
      exact List.all_eq_true.1 h2 p hpp
    · intro h
      have hg : GoodC m := fun i j hij hj => by
        by_cases he : entry m i j = 0
        · rw [he]; omega
        · have hn : nbF m i j = true := decide_eq_true ⟨by omega, he⟩
          rw [nbF_gr hI i j hj] at hn
          have := (part_all m.length hI.2.2.1 h4 _ _ _ _ _ _).2.2 i (by omega) j hj hn
          rw [← partsL_gr hI] at this
          obtain ⟨p, hpp, hpc⟩ := List.any_eq_true.1 this
          rw [Bool.and_eq_true] at hpc
          obtain ⟨x, hx, hxe⟩ := List.getElem_of_mem (List.contains_iff_mem.1 hpc.1)
          obtain ⟨y, hy, hye⟩ := List.getElem_of_mem (List.contains_iff_mem.1 hpc.2)
          have hxe' : p.getD x 0 = i := by simp [List.getD, hx, hxe]
          have hye' : p.getD y 0 = j := by simp [List.getD, hy, hye]
          have h1 := (part_isC hI hpp).2.1
          have hxy : x ≠ y := by rintro rfl; omega
          rcases Nat.lt_or_gt_of_ne hxy with hlt | hlt
          · have := pos_pair h1 (h p hpp) hlt hy
            rw [hxe', hye', entry_two hI hj, entry_two hI (by omega : i < m.length)] at this
            exact mul_le this
          · have := pos_pair h1 (h p hpp) hlt hx
            rw [hxe', hye', entry_two hI hj, entry_two hI (by omega : i < m.length)] at this
            rw [Int.mul_comm]
            exact mul_le this
      rw [fin_whole hI, ← hw hg, ← key hg, List.all_eq_true]
      intro p hpp
      rw [hp hg p hpp]
      exact h p hpp

/-! ### What is connected and of finite type has a name of finite type -/
theorem neg3_no {F : Nat → Nat → Int} {x y z : Nat} {f : Nat → Nat → Int} (h : 0 < PF 3 f) (e : PF 3 f = P3 2 (cA x) (cA y) (cB x) 2 (cA z) (cB y) (cB z) 2) : ¬ neg3 x y z = true := by
  unfold neg3
  rw [decide_eq_true_eq]
  rw [e] at h
  omega
theorem mem6 {x : Nat} (h : x < 6) : x ∈ List.range 6 := List.mem_range.2 h
theorem conn_named {m : List (List Int)} (hI : IsC m) (hc : (partsL m).length = 1) (h : finB m = true) : named m.length (cmM m) = true := by
  have h4 := hI.2.2.2
  have h1 := hI.2.2.1
  have hg := good_of_fin hI h
  have hp : posS (cmM m) (List.range m.length) = true := by
    rw [fin_whole hI] at h
    rw [← h]
    exact posS_congr (by rw [List.length_range]; exact h4) rfl fun x y hx hy => by
      rw [List.length_range] at hx hy
      rw [range_get hx, range_get hy]; exact (cm_entry hI hg x y hx hy).symm
  have hcd : ∀ i j, i < j → cd m i j < 6 ∧ nz (cd m i j) = nbF m i j := fun i j hij => (cd_ok hI hg i j hij).2.2
  have hz : ∀ i j, i < j → m.length ≤ j → cd m i j = 0 := fun i j hij hj => by
    unfold cd
    rw [entry_out hI (i := i) (j := j) (Or.inr hj)]; rfl
  have hpar : parC m.length (cd m 0 1) (cd m 0 2) (cd m 0 3) (cd m 1 2) (cd m 1 3) (cd m 2 3) = partsL m := by
    rw [partsL_gr hI]
    unfold parC
    rw [(hcd 0 1 (by decide)).2, (hcd 0 2 (by decide)).2, (hcd 0 3 (by decide)).2, (hcd 1 2 (by decide)).2, (hcd 1 3 (by decide)).2, (hcd 2 3 (by decide)).2]
  have hc' : (parC m.length (cd m 0 1) (cd m 0 2) (cd m 0 3) (cd m 1 2) (cd m 1 3) (cd m 2 3)).length = 1 := by rw [hpar]; exact hc
  have k01 := (hcd 0 1 (by decide)).1
  have k02 := (hcd 0 2 (by decide)).1
  have k03 := (hcd 0 3 (by decide)).1
  have k12 := (hcd 1 2 (by decide)).1
  have k13 := (hcd 1 3 (by decide)).1
  have k23 := (hcd 2 3 (by decide)).1
  have z01 := hz 0 1 (by decide)
  have z02 := hz 0 2 (by decide)
  have z03 := hz 0 3 (by decide)
  have z12 := hz 1 2 (by decide)
  have z13 := hz 1 3 (by decide)
  have z23 := hz 2 3 (by decide)
  clear hcd hz hpar hc h hg
  unfold cmM at hp ⊢
  generalize cd m 0 1 = a at *
  generalize cd m 0 2 = b at *
  generalize cd m 0 3 = c at *
  generalize cd m 1 2 = d at *
  generalize cd m 1 3 = e at *
  generalize cd m 2 3 = f at *
  generalize m.length = n at *
  clear hI
  rcases (show n = 1 ∨ n = 2 ∨ n = 3 ∨ n = 4 by omega) with rfl | rfl | rfl | rfl
  · obtain rfl := z01 (by decide)
    obtain rfl := z02 (by decide)
    obtain rfl := z03 (by decide)
    obtain rfl := z12 (by decide)
    obtain rfl := z13 (by decide)
    obtain rfl := z23 (by decide)
    exact name_1
  · obtain rfl := z02 (by decide)
    obtain rfl := z03 (by decide)
    obtain rfl := z12 (by decide)
    obtain rfl := z13 (by decide)
    obtain rfl := z23 (by decide)
    rcases name_2 a k01 with h | h
    · exact absurd hc' h
    · exact h
  · obtain rfl := z03 (by decide)
    obtain rfl := z13 (by decide)
    obtain rfl := z23 (by decide)
    have p1 := posS_iff.1 hp 6 (by decide)
    rw [show setK (6 + 1) (List.range 3).length = [0, 1, 2] by decide +kernel] at p1
    rcases name_3 a k01 b k02 d k12 with h | h | h
    · exact absurd h (neg3_no (F := cmF a b 0 d 0 0) p1 rfl)
    · exact absurd hc' h
    · exact h
  · have p1 := posS_iff.1 hp 6 (by decide)
    rw [show setK (6 + 1) (List.range 4).length = [0, 1, 2] by decide +kernel] at p1
    have p2 := posS_iff.1 hp 10 (by decide)
    rw [show setK (10 + 1) (List.range 4).length = [0, 1, 3] by decide +kernel] at p2
    have p3 := posS_iff.1 hp 12 (by decide)
    rw [show setK (12 + 1) (List.range 4).length = [0, 2, 3] by decide +kernel] at p3
    have p4 := posS_iff.1 hp 13 (by decide)
    rw [show setK (13 + 1) (List.range 4).length = [1, 2, 3] by decide +kernel] at p4
    have p5 := posS_iff.1 hp 14 (by decide)
    rw [show setK (14 + 1) (List.range 4).length = [0, 1, 2, 3] by decide +kernel] at p5
    have p5' : 0 < P4 (cmF a b c d e f) := p5
    rcases name_4 a (mem6 k01) b (mem6 k02) d (mem6 k12) with h | h
    · exact absurd h (neg3_no (F := cmF a b c d e f) p1 rfl)
    · rcases h c (mem6 k03) e (mem6 k13) f (mem6 k23) with h | h | h | h | h | h
      · exact absurd h (neg3_no (F := cmF a b c d e f) p2 rfl)
      · exact absurd h (neg3_no (F := cmF a b c d e f) p3 rfl)
      · exact absurd h (neg3_no (F := cmF a b c d e f) p4 rfl)
      · omega
      · exact absurd hc' h
      · exact h
theorem sizes12 : ∀ t, t < 17 → (0 < sizeN (namesL.getD t []) ↔ t < 12) := by decide +kernel
/-- A connected matrix has the name of a finite type exactly if it is of finite type. -/
theorem nm_fin {m : List (List Int)} (hI : IsC m) (hc : (partsL m).length = 1) : 0 < sizeN (nameP m) ↔ finB m = true := by
  have h4 := hI.2.2.2
  constructor
  · intro h
    cases hT : nameT m 17 with
    | none =>
      rw [nameP_no hT] at h
      exact absurd h (by split <;> decide +kernel)
    | some t =>
      rw [nameP_hit hT] at h
      have ht : t < 17 := List.mem_range.1 (List.mem_of_find?_eq_some hT)
      have h12 := (sizes12 t ht).1 h
      have his := List.find?_some hT
      obtain ⟨_, hJ, q, hq, _, hp, hl⟩ := iso_found his
      have hf := fin_inv hI hq (by rw [hp]; exact hJ) (by rw [hp]; exact hl)
      rw [← hf, hp, fin_whole hJ]
      exact types_pos t h12
  · intro h
    have hg := good_of_fin hI h
    have hn := conn_named hI hc h
    unfold named at hn
    obtain ⟨t, ht, hq⟩ := List.any_eq_true.1 hn
    obtain ⟨q, hqo, he⟩ := List.any_eq_true.1 hq
    have he := of_decide_eq_true he
    obtain ⟨hql, hqn⟩ := ords_lt m.length h4 q hqo
    have hpk : pick m (intL q) = typeM (namesL.getD t []) := by
      rw [← he, pick_eF, hql]
      exact fullF_congr fun i j hi hj => cm_entry hI hg _ _ (hqn i hi) (hqn j hj)
    have his : isoB m (typeM (namesL.getD t [])) = true := by
      unfold isoB
      rw [decide_eq_true_eq, obV_yes hI, tabL_len]
      intro h0
      have hm : q ∈ selT m (typeM (namesL.getD t [])) (ords m.length).length := by
        unfold selT
        rw [List.take_length, List.mem_filter]
        exact ⟨hqo, eqM_yes hpk⟩
      rw [List.length_eq_zero_iff.1 h0] at hm
      simp at hm
    have h12 : ∃ t', nameT m 12 = some t' := by
      cases hT : nameT m 12 with
      | some t' => exact ⟨t', rfl⟩
      | none =>
        have := List.find?_eq_none.1 hT t ht
        exact absurd his this
    obtain ⟨t', ht'⟩ := h12
    have hlt : t' < 12 := List.mem_range.1 (List.mem_of_find?_eq_some ht')
    have h17 : nameT m 17 = some t' := by
      unfold nameT at ht' ⊢
      rw [show List.range 17 = List.range 12 ++ [12, 13, 14, 15, 16] by decide, List.find?_append, ht']; rfl
    rw [nameP_hit h17]
    exact (sizes12 t' (by omega)).2 hlt

/-! ### The name of all parts and its size -/
theorem part_conn {m : List (List Int)} (hI : IsC m) {p : List Nat} (hp : p ∈ partsL m) : (partsL (pick m (intL p))).length = 1 := by
  obtain ⟨hJ, h4, h2, h3⟩ := part_isC hI hp
  have e : ∀ i j, i < j → nbF (pick m (intL p)) i j = perG p.length (gE m) p i j := fun i j hij => by
    unfold perG
    by_cases hj : j < p.length
    · rw [if_pos hj, show gE m (p.getD i 0) (p.getD j 0) = nbF m (p.getD i 0) (p.getD j 0) from (nbF_gr hI _ _ (h2 j hj).1).symm]
      have h5 := (h2 j hj).2 i hij
      unfold nbF
      rw [pick_eF, fullM_entry _ _ _ _ (by omega) hj]
      have h6 : (p.getD j 0 ≠ p.getD i 0) ↔ (j ≠ i) := by omega
      exact decide_eq_decide.2 (and_congr h6.symm Iff.rfl)
    · rw [if_neg hj]
      unfold nbF
      rw [entry_out hJ (Or.inr (by rw [pick_length]; omega))]
      simp
  rw [partsL_gr hJ, pick_length]
  unfold gE
  rw [e 0 1 (by decide), e 0 2 (by decide), e 0 3 (by decide), e 1 2 (by decide), e 1 3 (by decide), e 2 3 (by decide)]
  exact h3
theorem partK_pick {m : List (List Int)} (hI : IsC m) {k : Nat} (hk : k < (partsL m).length) : partK m k = pick m (intL (partsL m)[k]) := by
  have hk' : k < (partsV m).length := by rw [partsV_yes hI, List.length_map]; exact hk
  unfold partK
  rw [subM_yes (part_sub hk'), partsV_yes hI]
  congr 1
  simp [List.getD, hk]
theorem cut_free {c : UInt8} {r : List UInt8} (h : ∀ b ∈ r, b ≠ c) (st : List (List UInt8) × List UInt8) : r.foldl (cutStep c) st = (st.1, st.2 ++ r) := by
  induction r generalizing st with
  | nil => simp
  | cons b r ih =>
    have hb : ¬ b = c := h b (by simp)
    rw [List.foldl_cons, show cutStep c st b = (st.1, st.2 ++ [b]) from if_neg hb, ih (fun x hx => h x (by simp [hx]))]
    simp
theorem names_free : ∀ t, t < 17 → ∀ b ∈ namesL.getD t [], b ≠ 120 := by decide +kernel
theorem nameP_free (m : List (List Int)) : ∀ b ∈ nameP m, b ≠ 120 := by
  cases hT : nameT m 17 with
  | none =>
    rw [nameP_no hT]
    split
    · decide
    · simp
  | some t =>
    rw [nameP_hit hT]
    exact names_free t (List.mem_range.1 (List.mem_of_find?_eq_some hT))
theorem nameS_cut (m : List (List Int)) : ∀ k, cutF 120 (nameS m (k + 1)) = ((List.range k).map (fun i => nameP (partK m i)), nameP (partK m k))
  | 0 => by
    rw [nameS_succ, if_pos rfl, List.nil_append]
    unfold cutF
    rw [cut_free (nameP_free _)]; rfl
  | k + 1 => by
    rw [nameS_succ, if_neg (by omega)]
    have ih := nameS_cut m k
    unfold cutF at ih ⊢
    rw [List.foldl_append, List.foldl_append, ih, cut_free (nameP_free _)]
    simp [cutStep, List.range_succ]
theorem cut_names (m : List (List Int)) (k : Nat) : cutL 120 (nameS m (k + 1)) = (List.range (k + 1)).map fun i => nameP (partK m i) := by
  unfold cutL
  rw [nameS_cut, List.range_succ, List.map_append]; rfl
theorem prod_pos (l : List Nat) : ∀ a, 0 < l.foldl (· * ·) a ↔ 0 < a ∧ ∀ x ∈ l, 0 < x := by
  induction l with
  | nil => intro a; simp
  | cons y l ih =>
    intro a
    rw [List.foldl_cons, ih (a * y)]
    simp only [Nat.pos_iff_ne_zero, Nat.mul_ne_zero_iff, List.forall_mem_cons]
    exact and_assoc
/-- All parts have names of finite types exactly if the matrix is of finite type. -/
theorem size_fin {m : List (List Int)} (hI : IsC m) : 0 < sizeO (nameO m) ↔ finB m = true := by
  obtain ⟨h1, h4⟩ := parts_some hI
  have hL : (partsV m).length = (partsL m).length := by rw [partsV_yes hI, List.length_map]
  have hcut : cutL 120 (nameO m) = (List.range (partsL m).length).map fun i => nameP (partK m i) := by
    unfold nameO
    rw [hL]
    obtain ⟨k, hk⟩ : ∃ k, (partsL m).length = k + 1 := ⟨(partsL m).length - 1, by omega⟩
    rw [hk]
    exact cut_names m k
  unfold sizeO
  rw [hcut]
  rw [if_neg (by simp; omega)]
  unfold prodN
  rw [List.take_length, prod_pos, fin_parts hI]
  constructor
  · rintro ⟨_, h⟩ p hp
    obtain ⟨k, hk, rfl⟩ := List.getElem_of_mem hp
    have := h (sizeN (nameP (partK m k))) (by
      rw [List.map_map, List.mem_map]
      exact ⟨k, List.mem_range.2 hk, rfl⟩)
    rw [partK_pick hI hk] at this
    obtain ⟨hJ, h4', _, _⟩ := part_isC hI hp
    rw [← fin_pos h4' hJ]
    exact (nm_fin hJ (part_conn hI hp)).1 this
  · intro h
    refine ⟨by decide, fun x hx => ?_⟩
    rw [List.map_map, List.mem_map] at hx
    obtain ⟨k, hk, rfl⟩ := hx
    have hk := List.mem_range.1 hk
    have hp : (partsL m)[k] ∈ partsL m := List.getElem_mem hk
    obtain ⟨hJ, h4', _, _⟩ := part_isC hI hp
    show 0 < sizeN (nameP (partK m k))
    rw [partK_pick hI hk]
    refine (nm_fin hJ (part_conn hI hp)).2 ?_
    rw [fin_pos h4' hJ]
    exact h _ hp

/-! ### The transpose -/
theorem PF_tr {k : Nat} (hk : k ≤ 4) (f : Nat → Nat → Int) : PF k (fun i j => f j i) = PF k f := by
  rcases (show k = 0 ∨ k = 1 ∨ k = 2 ∨ k = 3 ∨ k = 4 by omega) with rfl | rfl | rfl | rfl | rfl
  · rfl
  · rfl
  · simp [PF, P2]; grind
  · simp [PF, P3]; grind
  · simp [PF, P4, P3]; grind
theorem trM_full {m : List (List Int)} (hI : IsC m) : trM m = fullF (fun i j => entry m j i) m.length := by rw [trM_yes hI]; rfl
theorem tr_isC {m : List (List Int)} (hI : IsC m) : IsC (trM m) ∧ (trM m).length = m.length := by
  have hl : (trM m).length = m.length := by rw [trM_full hI, fullF_len]
  have he : ∀ a b, a < m.length → b < m.length → entry (trM m) a b = entry m b a := fun a b ha hb => by rw [trM_full hI, fullM_entry _ _ _ _ ha hb]
  refine ⟨⟨fun i hi => ?_, fun i j hi hj => ?_, by rw [hl]; exact hI.2.2.1, by rw [hl]; exact hI.2.2.2⟩, hl⟩
  · rw [hl] at hi ⊢
    rw [trM_full hI, fullM_get _ _ _ hi]
    simp [rowF]
  · rw [hl] at hi hj
    unfold okC
    rw [he i j hi hj, he j i hj hi]
    rcases hI.2.1 j i hj hi with h | h
    · exact Or.inl ⟨h.1.symm, h.2⟩
    · exact Or.inr ⟨fun e => h.1 e.symm, h.2.1, h.2.2⟩
theorem fin_tr {m : List (List Int)} (hI : IsC m) : finB (trM m) = finB m := by
  obtain ⟨hJ, hl⟩ := tr_isC hI
  have h4 := hI.2.2.2
  rw [fin_whole hJ, fin_whole hI, hl]
  have h1 : posS (entry (trM m)) (List.range m.length) = posS (fun i j => entry m j i) (List.range m.length) := posS_congr (by rw [List.length_range]; exact h4) rfl fun x y hx hy => by
    rw [List.length_range] at hx hy
    rw [range_get hx, range_get hy, trM_full hI, fullM_entry _ _ _ _ hx hy]
  rw [h1, Bool.eq_iff_iff, posS_iff, posS_iff, List.length_range]
  have e : ∀ t, PF (setK (t + 1) m.length).length (eS (fun i j => entry m j i) (mapK (List.range m.length) (setK (t + 1) m.length))) = PF (setK (t + 1) m.length).length (eS (entry m) (mapK (List.range m.length) (setK (t + 1) m.length))) := fun t =>
    PF_tr (Nat.le_trans (setK_len _ _) h4) (eS (entry m) (mapK (List.range m.length) (setK (t + 1) m.length)))
  exact ⟨fun k t ht => e t ▸ k t ht, fun k t ht => (e t).symm ▸ k t ht⟩
/-! ### The law's questions -/
theorem minV_all {m : List (List Int)} (hI : IsC m) : finB m = (minV m).all fun x => decide (0 < x) := by
  rw [Bool.eq_iff_iff, fin_iff hI, minV_yes hI, List.all_eq_true]
  unfold minK
  constructor
  · intro h x hx
    obtain ⟨t, ht, rfl⟩ := List.mem_map.1 hx
    exact decide_eq_true (h t (List.mem_range.1 ht))
  · intro h t ht
    exact of_decide_eq_true (h _ (List.mem_map.2 ⟨t, List.mem_range.2 ht, rfl⟩))
theorem wit_fin {m : List (List Int)} (hI : IsC m) : finB m = decide ((witV m).length = 0) := finB_yes hI
end Go.Proofs.YtcmnkhblnlmfpaaGreatDoor
