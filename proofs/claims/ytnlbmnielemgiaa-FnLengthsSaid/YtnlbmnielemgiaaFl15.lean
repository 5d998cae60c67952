/-
  Lengths: the program's way back to the ones, and the powers of an element (no walk here).
  Roots: the loops of the order, of the insertion and of the start, as functions on lists (no walk here).
  Roots: vectors padded to four numbers, the comparison of roots, sets of roots (no walk here).
  The library's Clone at a list of ints.
-/
import Derived.Test.YtnlbmnielemgiaaFl14
import Derived.Test.YtnlbmnielemgiaaFl12
import Derived.Lib.SliceRun
import Derived.Test.YtnlbmnielemgiaaFl09
import Derived.Test.YtnlbmnielemgiaaFl06
namespace Go.Proofs.Ytnlbmnielemgiaa
open Go.RowKit

/-- The row goes down to the ones in L steps. -/
def Ret (m : List (List Int)) (l : List Int) (L : Nat) : Prop := l.length = m.length ∧ L ≤ 30 ∧ ∃ f, Dn m.length (entry m) (vecW l) L f
theorem ret_ne {m : List (List Int)} {l : List Int} {L i : Nat} (hC : IsC m) (h : Ret m l L) (hi : i < m.length) : l.getD i 0 ≠ 0 := by
  obtain ⟨hl, _, f, hD⟩ := h
  have := dn_ne (gcm_of hC) hD hi
  rw [vecW_in (by omega)] at this; exact this
theorem dnsK_nil {l : List Int} : ∀ k, k ≤ firstDown l → dnsK l k = []
  | 0, _ => rfl
  | k + 1, h => by
    rw [← dnsK_no (by have := firstDown_up l k (by omega); omega)]
    exact dnsK_nil k (by omega)
theorem dnsK_more {l : List Int} {t : Nat} (h0 : dnsK l (t + 1) = [(t : Int)]) : ∀ k, t + 1 ≤ k → ∃ r, dnsK l k = (t : Int) :: r
  | 0, h => by omega
  | k + 1, h => by
    rcases Nat.lt_or_ge t k with h1 | h1
    · obtain ⟨r, hr⟩ := dnsK_more h0 k h1
      by_cases hn : l.getD k 0 < 0
      · rw [← dnsK_yes hn, hr]; exact ⟨r ++ [(k : Int)], rfl⟩
      · rw [← dnsK_no hn]; exact ⟨r, hr⟩
    · obtain rfl : k = t := by omega
      exact ⟨[], h0⟩
/-- No descent: the search for one comes to the end. -/
theorem ret_end {m : List (List Int)} {l : List Int} {L : Nat} (hC : IsC m) (h : Ret m l L) (hd : dnsK l m.length = []) : firstDown l = l.length := by
  refine Classical.byContradiction fun hn => ?_
  have hle := firstDown_le l
  have hlt : firstDown l < l.length := by omega
  have h0 := firstDown_at l hlt
  have h1 := ret_ne hC h (i := firstDown l) (by rw [← h.1]; exact hlt)
  have h2 : dnsK l (firstDown l + 1) = [(firstDown l : Int)] := by
    rw [← dnsK_yes (by omega), dnsK_nil _ (Nat.le_refl _)]; rfl
  obtain ⟨r, hr⟩ := dnsK_more h2 m.length (by rw [← h.1]; exact hlt)
  rw [hr] at hd; exact absurd hd (by simp)
/-- A descent: the first one is where the search stops, and one step down is left less. -/
theorem ret_step {m : List (List Int)} {l : List Int} {L : Nat} (hC : IsC m) (h : Ret m l L) (hd : dnsK l m.length ≠ []) : ∃ (t L' : Nat) (r : List Int), dnsK l m.length = (t : Int) :: r ∧ firstDown l = t ∧ t < m.length ∧ L = L' + 1 ∧ Ret m (reflL m t l) L' := by
  have hle := firstDown_le l
  have hlt : firstDown l < l.length := by
    rcases Nat.lt_or_ge (firstDown l) l.length with h1 | h1
    · exact h1
    · exact absurd (dnsK_nil _ (by rw [← h.1]; exact h1)) hd
  have h0 := firstDown_at l hlt
  have hi : firstDown l < m.length := by rw [← h.1]; exact hlt
  have h1 := ret_ne hC h hi
  have h2 : dnsK l (firstDown l + 1) = [(firstDown l : Int)] := by
    rw [← dnsK_yes (by omega), dnsK_nil _ (Nat.le_refl _)]; rfl
  obtain ⟨r, hr⟩ := dnsK_more h2 m.length hi
  obtain ⟨hl, h30, f, hD⟩ := h
  have hb := dn_Big hC hl hD
  have hv := vecW_in (l := l) (t := firstDown l) hlt
  obtain ⟨L', rfl, h'⟩ := dn_down (gcm_of hC) hD hi (by omega)
  have hre := reflL_big hC hi hl hb h30
  rw [← hre.1] at h'
  exact ⟨firstDown l, L', r, hr, rfl, hi, rfl, by rw [reflL_len]; exact hl, by omega, _, h'⟩
/-! ### Letters as numbers -/
def natsW (ws : List Int) : List Nat := ws.map Int.toNat
theorem natsW_in {n : Nat} {ws : List Int} (h : LetTo n ws ws.length) : InN n (natsW ws) := by
  intro i hi
  obtain ⟨x, hx, rfl⟩ := List.mem_map.1 hi
  obtain ⟨k, hk, rfl⟩ := List.getElem_of_mem hx
  have := h k hk
  have e : ws.getD k 0 = ws[k] := by simp [List.getD, hk]
  rw [e] at this
  omega
theorem natsW_len (ws : List Int) : (natsW ws).length = ws.length := by simp [natsW]
theorem actW_nats (m : List (List Int)) (ws l : List Int) : actW m ws l = (natsW ws).foldr (fun i l => reflL m i l) l := by
  unfold actW natsW; rw [List.foldr_map]
theorem imgW_nats (m : List (List Int)) (ws : List Int) : imgW m ws = imgN m (natsW ws) := actW_nats m ws _
theorem natsW_cast (a : List Nat) : natsW (a.map fun (i : Nat) => (i : Int)) = a := by
  unfold natsW; rw [List.map_map]; exact (List.map_congr_left (fun x _ => rfl)).trans (List.map_id a)
theorem frmI_nats (m : List (List Int)) (k : Nat) (l : List Int) : natsW (frmI m k l) = formN m k l := natsW_cast _
theorem natsW_append (a b : List Int) : natsW (a ++ b) = natsW a ++ natsW b := by simp [natsW]
theorem letTo_form {m : List (List Int)} {k : Nat} {l : List Int} (hl : l.length = m.length) : LetTo m.length (frmI m k l) (frmI m k l).length := by
  intro j hj
  have e : (frmI m k l).getD j 0 = (frmI m k l)[j] := by simp [List.getD, hj]
  have hm : (frmI m k l)[j] ∈ frmI m k l := List.getElem_mem hj
  rw [e]
  generalize (frmI m k l)[j] = x at *
  unfold frmI at hm
  obtain ⟨i, hi, h2⟩ := List.mem_map.1 hm
  have := formN_in m k l i hi
  omega
/-- A word acts on a row of small numbers as it does without wraps. -/
theorem act_vec {m : List (List Int)} (hC : IsC m) {l : List Int} (hl : l.length = m.length) {b : Nat} (hb : Big l b) : ∀ ws : List Nat, InN m.length ws → b + ws.length ≤ 31 → vecW (ws.foldr (fun i l => reflL m i l) l) = mapN (entry m) ws (vecW l) ∧ Big (ws.foldr (fun i l => reflL m i l) l) (b + ws.length) ∧ (ws.foldr (fun i l => reflL m i l) l).length = m.length
  | [], _, _ => ⟨rfl, hb, hl⟩
  | i :: ws, h, h31 => by
    have ih := act_vec hC hl hb ws (fun k hk => h k (List.mem_cons_of_mem _ hk)) (by simp at h31; omega)
    have hr := reflL_big hC (h i (List.mem_cons_self ..)) ih.2.2 ih.2.1 (by simp at h31; omega)
    refine ⟨?_, ?_, by simp only [List.foldr_cons]; rw [reflL_len]; exact ih.2.2⟩
    · simp only [List.foldr_cons]
      rw [hr.1, ih.1]; rfl
    · simp only [List.foldr_cons, List.length_cons]
      rw [← Nat.add_assoc]; exact hr.2
/-- What a word's image is: the way down, its map, the word's own. -/
theorem img_dn {m : List (List Int)} (hC : IsC m) {ws : List Int} (hW : LetTo m.length ws ws.length) (h30 : ws.length ≤ 30) : ∃ L, Dn m.length (entry m) (vecW (imgW m ws)) L (mapN (entry m) (natsW ws)) ∧ L ≤ ws.length ∧ L % 2 = ws.length % 2 := by
  obtain ⟨L, h1, h2, h3⟩ := dn_word (gcm_of hC) (natsW ws) (natsW_in hW)
  rw [natsW_len] at h2 h3
  have hv := (imgN_vec hC (natsW ws) (natsW_in hW) (by rw [natsW_len]; omega)).1
  rw [← imgW_nats] at hv
  exact ⟨L, by rw [hv]; exact h1, h2, h3⟩
theorem ret_word {m : List (List Int)} (hC : IsC m) {ws : List Int} (hW : LetTo m.length ws ws.length) (h30 : ws.length ≤ 30) : ∃ L, Ret m (imgW m ws) L := by
  obtain ⟨L, h1, h2, _⟩ := img_dn hC hW h30
  exact ⟨L, imgW_len m ws, by omega, _, h1⟩
/-- The greedy word of a row: its length, its map, and the row is its image. -/
theorem frm_of {m : List (List Int)} (hC : IsC m) {l : List Int} {L : Nat} {f : (Nat → Int) → Nat → Int} (hl : l.length = m.length) (h30 : L ≤ 30) (h : Dn m.length (entry m) (vecW l) L f) : (frmI m 31 l).length = L ∧ f = mapN (entry m) (formN m 31 l) ∧ vecW l = mapN (entry m) (formN m 31 l) onesV ∧ imgW m (frmI m 31 l) = l := by
  have hf := form_dn hC 31 L l f hl h30 (by omega) h
  have hin : InN m.length (formN m 31 l) := fun i hi => by have := formN_in m 31 l i hi; omega
  obtain ⟨x, x1, x2, x3, x4⟩ := dn_path (gcm_of hC) h
  have hv : vecW l = mapN (entry m) (formN m 31 l) onesV := by
    rw [x4, ← x3, hf.2]; rfl
  refine ⟨by unfold frmI; rw [List.length_map]; exact hf.1, hf.2, hv, ?_⟩
  rw [imgW_nats, frmI_nats]
  refine vecW_inj (by rw [imgN_len]; exact hl.symm) ?_
  rw [(imgN_vec hC _ hin (by rw [hf.1]; omega)).1, hv]; rfl
theorem nrm_img {m : List (List Int)} {ws : List Int} (hW : IsW m ws) : imgW m (nrmL m ws) = imgW m ws := by
  rw [nrmL_yes hW]
  obtain ⟨L, h1, h2, _⟩ := img_dn hW.2.1 hW.1 (by have := hW.2.2; omega)
  exact (frm_of hW.2.1 (imgW_len m ws) (by have := hW.2.2; omega) h1).2.2.2
theorem nrm_le {m : List (List Int)} {ws : List Int} (hW : IsW m ws) : (nrmL m ws).length ≤ ws.length ∧ (nrmL m ws).length % 2 = ws.length % 2 := by
  rw [nrmL_yes hW]
  obtain ⟨L, h1, h2, h3⟩ := img_dn hW.2.1 hW.1 (by have := hW.2.2; omega)
  rw [(frm_of hW.2.1 (imgW_len m ws) (by have := hW.2.2; omega) h1).1]
  exact ⟨h2, h3⟩
theorem nrm_word {m : List (List Int)} {ws : List Int} (hW : IsW m ws) : IsW m (nrmL m ws) := by
  have h1 := (nrm_le hW).1
  refine ⟨?_, hW.2.1, by have := hW.2.2; omega⟩
  rw [nrmL_yes hW]
  exact letTo_form (imgW_len m ws)
/-! ### Powers -/
/-- The row is that of a power of x, whose greedy word commutes with x. -/
structure PowI (m : List (List Int)) (x : List Int) (p : List Int) : Prop where
  len : p.length = m.length
  has : ∃ L, L ≤ 30 ∧ Dn m.length (entry m) (vecW p) L (mapN (entry m) (formN m 31 p))
  comm : ∀ z, mapN (entry m) (formN m 31 p) (mapN (entry m) (natsW x) z) = mapN (entry m) (natsW x) (mapN (entry m) (formN m 31 p) z)
theorem PowI.ret {m : List (List Int)} {x p : List Int} (h : PowI m x p) : ∃ L, Ret m p L := by
  obtain ⟨L, h1, h2⟩ := h.has
  exact ⟨L, h.len, h1, _, h2⟩
theorem pow_start {m : List (List Int)} {ws : List Int} (hW : IsW m ws) : PowI m (nrmL m ws) (imgW m ws) := by
  obtain ⟨L, h1, h2, _⟩ := img_dn hW.2.1 hW.1 (by have := hW.2.2; omega)
  have h30 : L ≤ 30 := by have := hW.2.2; omega
  have hf := frm_of hW.2.1 (imgW_len m ws) h30 h1
  refine ⟨imgW_len m ws, ⟨L, h30, by rw [← hf.2.1]; exact h1⟩, fun z => ?_⟩
  rw [nrmL_yes hW, frmI_nats]
theorem pow_next {m : List (List Int)} {x p : List Int} (hC : IsC m) (hx : LetTo m.length x x.length) (h15 : x.length ≤ 15) (h : PowI m x p) (hp : (frmI m 31 p).length ≤ 15) : actW m x p = imgW m (frmI m 31 p ++ x) ∧ PowI m x (actW m x p) := by
  obtain ⟨hl, ⟨L, hL, hD⟩, hc⟩ := h
  have hf := frm_of hC hl hL hD
  have hL15 : L ≤ 15 := by rw [← hf.1]; exact hp
  have hin := natsW_in hx
  have hpin : InN m.length (formN m 31 p) := fun i hi => by have := formN_in m 31 p i hi; omega
  have hb := dn_Big hC hl hD
  have ha := act_vec hC hl hb (natsW x) hin (by rw [natsW_len]; omega)
  rw [← actW_nats] at ha
  have hfl : (formN m 31 p).length = L := by have := hf.1; unfold frmI at this; rwa [List.length_map] at this
  have hyx : InN m.length (formN m 31 p ++ natsW x) := fun i hi => by
    rcases List.mem_append.1 hi with h | h
    · exact hpin i h
    · exact hin i h
  have hyl : (formN m 31 p ++ natsW x).length ≤ 30 := by rw [List.length_append, natsW_len, hfl]; omega
  have hi := imgN_vec hC (formN m 31 p ++ natsW x) hyx (by omega)
  have hn : imgW m (frmI m 31 p ++ x) = imgN m (formN m 31 p ++ natsW x) := by rw [imgW_nats, natsW_append, frmI_nats]
  have e : actW m x p = imgW m (frmI m 31 p ++ x) := by
    rw [hn]
    refine vecW_inj (by rw [imgN_len]; exact ha.2.2) ?_
    rw [ha.1, hi.1, hf.2.2.1, ← hc onesV]
    exact (mapN_append _ _ _ _).symm
  refine ⟨e, ?_⟩
  obtain ⟨K, k1, k2, _⟩ := dn_word (gcm_of hC) (formN m 31 p ++ natsW x) hyx
  have hv : vecW (actW m x p) = mapN (entry m) (formN m 31 p ++ natsW x) onesV := by rw [e, hn]; exact hi.1
  have k3 : Dn m.length (entry m) (vecW (actW m x p)) K (mapN (entry m) (formN m 31 p ++ natsW x)) := by rw [hv]; exact k1
  have hg := frm_of hC ha.2.2 (by omega) k3
  refine ⟨ha.2.2, ⟨K, by omega, by rw [← hg.2.1]; exact k3⟩, fun z => ?_⟩
  rw [← hg.2.1, mapN_append, mapN_append, hc]
/-- The order, from the k-th power on: at most f powers more. -/
def ordS (m : List (List Int)) (x : List Int) : Nat → Nat → List Int → Int
  | 0, _, _ => 0
  | f + 1, k, p => if (frmI m 31 p).length = 0 then (k : Int) else if 15 < (frmI m 31 p).length then 0 else ordS m x f (k + 1) (actW m x p)
theorem ordS_zero (m : List (List Int)) (x : List Int) (k : Nat) (p : List Int) : ordS m x 0 k p = 0 := rfl
theorem ordS_one {m : List (List Int)} {x : List Int} {f k : Nat} {p : List Int} (h : (frmI m 31 p).length = 0) : ordS m x (f + 1) k p = (k : Int) := if_pos h
theorem ordS_far {m : List (List Int)} {x : List Int} {f k : Nat} {p : List Int} (h : 15 < (frmI m 31 p).length) : ordS m x f k p = 0 := by
  cases f with
  | zero => rfl
  | succ f => unfold ordS; rw [if_neg (by omega), if_pos h]
theorem ordS_more {m : List (List Int)} {x : List Int} {f k : Nat} {p : List Int} (h0 : (frmI m 31 p).length ≠ 0) (h : ¬ 15 < (frmI m 31 p).length) : ordS m x (f + 1) k p = ordS m x f (k + 1) (actW m x p) := by
  conv => lhs; unfold ordS
  rw [if_neg h0, if_neg h]
end Go.Proofs.Ytnlbmnielemgiaa
namespace Go.Proofs.Ytnlbmnielemgiaa
open Go.RowKit

/-! ### The first difference -/
def SameTo (a b : List Int) (k : Nat) : Prop := ∀ j, j < k → a.getD j 0 = b.getD j 0
theorem sameTo_zero (a b : List Int) : SameTo a b 0 := fun _ h => absurd h (Nat.not_lt_zero _)
theorem sameTo_step {a b : List Int} {k : Nat} (h : SameTo a b k) (hk : a.getD k 0 = b.getD k 0) : SameTo a b (k + 1) := fun j hj => by
  rcases Nat.lt_or_ge j k with h' | h'
  · exact h j h'
  · obtain rfl : j = k := by omega
    exact hk
theorem gt_drop : ∀ {a b : List Int} {k : Nat}, SameTo a b k → k ≤ a.length → k ≤ b.length → gtL a b = gtL (a.drop k) (b.drop k)
  | _, _, 0, _, _, _ => rfl
  | [], _, k + 1, _, h, _ => absurd h (by simp)
  | _ :: _, [], k + 1, _, _, h => absurd h (by simp)
  | x :: a, y :: b, k + 1, hs, ha, hb => by
    have h0 : x = y := by simpa using hs 0 (by omega)
    simp only [gtL, if_pos h0, List.drop_succ_cons]
    exact gt_drop (fun j hj => by simpa using hs (j + 1) (by omega)) (by simpa using ha) (by simpa using hb)
theorem gt_diff {a b : List Int} {k : Nat} (h : SameTo a b k) (ha : k < a.length) (hb : k < b.length) (hn : a.getD k 0 ≠ b.getD k 0) : gtL a b = decide (b.getD k 0 < a.getD k 0) := by
  rw [gt_drop h (by omega) (by omega), List.drop_eq_getElem_cons ha, List.drop_eq_getElem_cons hb]
  have e1 : a.getD k 0 = a[k] := by simp [List.getD, ha]
  have e2 : b.getD k 0 = b[k] := by simp [List.getD, hb]
  rw [e1, e2] at hn ⊢
  simp only [gtL]
  rw [if_neg hn]
theorem gt_end {a b : List Int} {k : Nat} (h : SameTo a b k) (ha : k ≤ a.length) (hb : k ≤ b.length) (he : k = a.length ∨ k = b.length) : gtL a b = false := by
  rw [gt_drop h ha hb]
  rcases he with e | e
  · rw [e, List.drop_length]; rfl
  · rw [e, List.drop_length]
    cases a.drop b.length <;> rfl
theorem bef_lt {a b : List Int} (h : hgtL a ≠ hgtL b) : befB a b = decide (hgtL a < hgtL b) := by unfold befB; rw [if_neg h]
theorem bef_eq {a b : List Int} (h : hgtL a = hgtL b) : befB a b = gtL a b := by unfold befB; rw [if_pos h]
/-! ### The insertion's loop -/
def putF (r : List Int) (s : List (List Int) × Bool) (x : List Int) : List (List Int) × Bool := if s.2 = false ∧ befB r x = true then (s.1 ++ [r] ++ [x], true) else (s.1 ++ [x], s.2)
def putK (L : List (List Int)) (r : List Int) (k : Nat) : List (List Int) × Bool := (L.take k).foldl (putF r) ([], false)
theorem putK_zero (L : List (List Int)) (r : List Int) : putK L r 0 = ([], false) := rfl
theorem putK_step {L : List (List Int)} {r : List Int} {k : Nat} (h : k < L.length) : putK L r (k + 1) = putF r (putK L r k) (L.getD k []) := by
  have e : L.getD k [] = L[k] := by simp [List.getD, h]
  unfold putK
  rw [List.take_succ_eq_append_getElem h, List.foldl_append, e]; rfl
theorem putF_done (r : List Int) : ∀ (L o : List (List Int)), L.foldl (putF r) (o, true) = (o ++ L, true)
  | [], o => by simp
  | x :: L, o => by
    have e : putF r (o, true) x = (o ++ [x], true) := by simp [putF]
    rw [List.foldl_cons, e, putF_done r L]; simp
theorem putF_end (r : List Int) : ∀ (L o : List (List Int)), (if (L.foldl (putF r) (o, false)).2 = true then (L.foldl (putF r) (o, false)).1 else (L.foldl (putF r) (o, false)).1 ++ [r]) = o ++ putR L r
  | [], o => by simp [putR]
  | x :: L, o => by
    cases hb : befB r x with
    | true =>
      have e : putF r (o, false) x = (o ++ [r] ++ [x], true) := by simp [putF, hb]
      have e2 : putR (x :: L) r = r :: x :: L := by simp [putR, hb]
      rw [List.foldl_cons, e, putF_done, e2]; simp
    | false =>
      have e : putF r (o, false) x = (o ++ [x], false) := by simp [putF, hb]
      have e2 : putR (x :: L) r = x :: putR L r := by simp [putR, hb]
      rw [List.foldl_cons, e, putF_end r L, e2]; simp
theorem putK_end (L : List (List Int)) (r : List Int) : (if (putK L r L.length).2 = true then (putK L r L.length).1 else (putK L r L.length).1 ++ [r]) = putR L r := by
  unfold putK; rw [List.take_length]; simpa using putF_end r L []
theorem putF_len (r : List Int) (s : List (List Int) × Bool) (x : List Int) : (putF r s x).1.length + (if (putF r s x).2 = true then 0 else 1) = s.1.length + 1 + (if s.2 = true then 0 else 1) := by
  obtain ⟨o, p⟩ := s
  cases p <;> cases hb : befB r x <;> simp [putF, hb]
theorem putK_len (L : List (List Int)) (r : List Int) : ∀ k, k ≤ L.length → (putK L r k).1.length ≤ k + 1 := by
  have h : ∀ k, k ≤ L.length → (putK L r k).1.length + (if (putK L r k).2 = true then 0 else 1) = k + 1 := by
    intro k
    induction k with
    | zero => intro _; simp [putK]
    | succ k ih =>
      intro hk
      rw [putK_step (by omega), putF_len, Nat.add_right_comm, ih (by omega)]
  intro k hk
  have := h k hk
  omega
/-! ### The start: the simple roots one by one -/
def RtB (m : List (List Int)) (L : List (List Int)) (i : Nat) : Prop := Ordd L ∧ ∀ r, r ∈ L ↔ ∃ j, j < i ∧ r = unitR m.length j
theorem rtB_zero (m : List (List Int)) : RtB m [] 0 := ⟨List.Pairwise.nil, fun r => ⟨fun h => absurd h (by simp), fun ⟨_, h, _⟩ => absurd h (Nat.not_lt_zero _)⟩⟩
theorem unitR_inj {n i j : Nat} (hi : i < n) (hj : j < n) (h : unitR n i = unitR n j) : i = j := by
  have h1 := congrArg vecL h
  rw [vecL_unit hi, vecL_unit hj] at h1
  have h2 := congrFun h1 i
  simp only [oneV] at h2
  refine Classical.byContradiction fun hn => ?_
  rw [if_pos True.intro, if_neg hn] at h2
  omega
theorem rtB_step {m L : List (List Int)} {i : Nat} (h : RtB m L i) (hi : i < m.length) : RtB m (putR L (unitR m.length i)) (i + 1) := by
  refine ⟨putR_ordd h.1 (fun hm => ?_) (fun x hx => ?_), fun r => ?_⟩
  · obtain ⟨j, hj, e⟩ := (h.2 _).1 hm
    have := unitR_inj hi (by omega) e; omega
  · obtain ⟨j, _, e⟩ := (h.2 _).1 hx
    rw [e, unitR_len, unitR_len]
  · rw [putR_mem, h.2]
    constructor
    · rintro (e | ⟨j, hj, e⟩)
      · exact ⟨i, by omega, e⟩
      · exact ⟨j, by omega, e⟩
    · rintro ⟨j, hj, e⟩
      rcases Nat.lt_or_ge j i with h' | h'
      · exact Or.inr ⟨j, h', e⟩
      · obtain rfl : j = i := by omega
        exact Or.inl e
theorem rtB_len {m L : List (List Int)} {i : Nat} (h : RtB m L i) (_hi : i ≤ m.length) (hm : m.length ≤ 4) : L.length ≤ 28561 :=
  low_count hm (ordd_nodup h.1) fun r hr => by
    obtain ⟨j, _, e⟩ := (h.2 r).1 hr
    refine ⟨by rw [e, unitR_len], fun x hx => ?_⟩
    rw [e] at hx
    rcases unitR_mem hx with e | e <;> omega
theorem rtB_end {m L : List (List Int)} {h : Int} (hB : RtB m L m.length) : RtI m h L 0 0 :=
  ⟨hB.1, fun r hr => by
    obtain ⟨j, hj, e⟩ := (hB.2 r).1 hr
    rw [e]; exact .base j hj, fun j hj => (hB.2 _).2 ⟨j, hj, rfl⟩, fun _ _ h => absurd h (Nat.not_lt_zero _), fun _ _ h => absurd h (Nat.not_lt_zero _)⟩
/-- A program's list: in order, of roots, with the simple ones, closed under reflections that stay positive and low. -/
theorem isRoots_of {m L : List (List Int)} {h : Int} (hO : Ordd L) (hs : ∀ r ∈ L, Asc m h r) (hb : ∀ j, j < m.length → unitR m.length j ∈ L) (hc : ∀ r ∈ L, ∀ j, j < m.length → 0 < sgnL (rflR m j r) → hgtL (rflR m j r) ≤ h → hgtL r < hgtL (rflR m j r) → rflR m j r ∈ L) : IsRoots m h L := by
  refine ⟨hO, fun r => ⟨hs r, fun hr => ?_⟩⟩
  induction hr with
  | base i hi => exact hb i hi
  | step r i _ hi h1 h2 h3 ih => exact hc r ih i hi h1 h2 h3
end Go.Proofs.Ytnlbmnielemgiaa
namespace Go.Proofs.Ytnlbmnielemgiaa
open Go.RowKit

/-! ### A root vector as four numbers -/
def pad4 (l : List Int) : List Int := [l.getD 0 0, l.getD 1 0, l.getD 2 0, l.getD 3 0]
theorem pad4_len (l : List Int) : (pad4 l).length = 4 := rfl
theorem len4 {l : List Int} (h : l.length ≤ 4) : l = [] ∨ (∃ a, l = [a]) ∨ (∃ a b, l = [a, b]) ∨ (∃ a b c, l = [a, b, c]) ∨ ∃ a b c d, l = [a, b, c, d] := by
  match l, h with
  | [], _ => exact Or.inl rfl
  | [a], _ => exact Or.inr (Or.inl ⟨a, rfl⟩)
  | [a, b], _ => exact Or.inr (Or.inr (Or.inl ⟨a, b, rfl⟩))
  | [a, b, c], _ => exact Or.inr (Or.inr (Or.inr (Or.inl ⟨a, b, c, rfl⟩)))
  | [a, b, c, d], _ => exact Or.inr (Or.inr (Or.inr (Or.inr ⟨a, b, c, d, rfl⟩)))
  | _ :: _ :: _ :: _ :: _ :: _, h => simp at h
theorem pad4_get {l : List Int} {j : Nat} (hj : j < 4) : (pad4 l)[j]? = some (l.getD j 0) := by
  have : j = 0 ∨ j = 1 ∨ j = 2 ∨ j = 3 := by omega
  rcases this with e | e | e | e <;> subst e <;> rfl
theorem pad4_getD {l : List Int} (h : l.length ≤ 4) (j : Nat) : (pad4 l).getD j 0 = l.getD j 0 := by
  rcases Nat.lt_or_ge j 4 with hj | hj
  · rw [List.getD_eq_getElem?_getD, pad4_get hj]; rfl
  · rw [List.getD_eq_getElem?_getD, List.getD_eq_getElem?_getD, List.getElem?_eq_none (by rw [pad4_len]; exact hj), List.getElem?_eq_none (by omega)]
theorem pad4_take {l : List Int} (h : l.length ≤ 4) : (pad4 l).take l.length = l := by
  rcases len4 h with e | ⟨a, e⟩ | ⟨a, b, e⟩ | ⟨a, b, c, e⟩ | ⟨a, b, c, d, e⟩ <;> subst e <;> simp [pad4]
theorem pad4_inj {a b : List Int} (ha : a.length ≤ 4) (hab : a.length = b.length) (h : pad4 a = pad4 b) : a = b := by
  rw [← pad4_take ha, h, hab, pad4_take (by omega)]
theorem pad4_set {l : List Int} (h : l.length ≤ 4) {i : Nat} (hi : i < l.length) (x : Int) : (pad4 l).set i x = pad4 (l.set i x) := by
  rcases len4 h with e | ⟨a, e⟩ | ⟨a, b, e⟩ | ⟨a, b, c, e⟩ | ⟨a, b, c, d, e⟩ <;> subst e
  · simp at hi
  · obtain rfl : i = 0 := by simpa using hi
    simp [pad4]
  · have : i = 0 ∨ i = 1 := by simp at hi; omega
    rcases this with e | e <;> subst e <;> simp [pad4]
  · have : i = 0 ∨ i = 1 ∨ i = 2 := by simp at hi; omega
    rcases this with e | e | e <;> subst e <;> simp [pad4]
  · have : i = 0 ∨ i = 1 ∨ i = 2 ∨ i = 3 := by simp at hi; omega
    rcases this with e | e | e | e <;> subst e <;> simp [pad4]
theorem sgn_pad {l : List Int} (h : l.length ≤ 4) : sgnL (pad4 l) = sgnL l := by
  have hu : upL (pad4 l) = upL l := by
    rcases len4 h with e | ⟨a, e⟩ | ⟨a, b, e⟩ | ⟨a, b, c, e⟩ | ⟨a, b, c, d, e⟩ <;> subst e <;> simp [pad4, upL]
  have hd : downL (pad4 l) = downL l := by
    rcases len4 h with e | ⟨a, e⟩ | ⟨a, b, e⟩ | ⟨a, b, c, e⟩ | ⟨a, b, c, d, e⟩ <;> subst e <;> simp [pad4, downL]
  unfold sgnL; rw [hu, hd]
theorem addW_zero (x y : Int) : addW (addW x y) 0 = addW x y := by unfold addW wrap64; omega
theorem addW_00 : addW 0 0 = 0 := by unfold addW wrap64; omega
theorem hgt_pad {l : List Int} (h : l.length ≤ 4) : hgtL (pad4 l) = hgtL l := by
  rcases len4 h with e | ⟨a, e⟩ | ⟨a, b, e⟩ | ⟨a, b, c, e⟩ | ⟨a, b, c, d, e⟩ <;> subst e <;> simp [pad4, hgtL, addW_zero, addW_00]
/-! ### The comparison -/
def lexC : List Int → List Int → Int
  | [], [] => 0
  | [], _ :: _ => -1
  | _ :: _, [] => 1
  | x :: a, y :: b => if x = y then lexC a b else if x < y then -1 else 1
def cmpR (a b : List Int) : Int := if hgtL a < hgtL b then -1 else if hgtL b < hgtL a then 1 else lexC b a
theorem lex_neg : ∀ {a b : List Int}, a.length = b.length → (lexC a b < 0 ↔ gtL b a = true)
  | [], [], _ => by simp [lexC, gtL]
  | [], _ :: _, h => by simp at h
  | _ :: _, [], h => by simp at h
  | x :: a, y :: b, h => by
    simp only [lexC, gtL]
    by_cases e : x = y
    · rw [if_pos e, if_pos e.symm]
      exact lex_neg (by simpa using h)
    · have e3 : ¬ y = x := fun h => e h.symm
      rw [if_neg e, if_neg e3]
      by_cases e2 : x < y
      · simp [e2]
      · simp [e2]
theorem cmpR_neg {a b : List Int} (h : a.length = b.length) : (cmpR a b < 0 ↔ befB a b = true) := by
  unfold cmpR befB
  by_cases h1 : hgtL a < hgtL b
  · rw [if_pos h1, if_neg (by omega), decide_eq_true h1]; simp
  · rw [if_neg h1]
    by_cases h2 : hgtL b < hgtL a
    · rw [if_pos h2, if_neg (by omega), decide_eq_false h1]; simp
    · rw [if_neg h2, if_pos (by omega)]
      exact lex_neg h.symm
/-! ### Sets of roots -/
theorem asc_closed {m : List (List Int)} {h : Int} {S : List Int → Prop} (hs : ∀ r, S r → Asc m h r) (hb : ∀ j, j < m.length → S (unitR m.length j))
    (hc : ∀ r, S r → ∀ j, j < m.length → 0 < sgnL (rflR m j r) → hgtL (rflR m j r) ≤ h → S (rflR m j r)) (r : List Int) : S r ↔ Asc m h r := by
  refine ⟨hs r, fun hr => ?_⟩
  induction hr with
  | base i hi => exact hb i hi
  | step r i _ hi h1 h2 _ ih => exact hc r ih i hi h1 h2
/-- The rounds: what is done (P), what is to be done (L). -/
structure RndI (m : List (List Int)) (h : Int) (P L : List Int → Prop) : Prop where
  all : ∀ r, P r ∨ L r → Asc m h r
  apart : ∀ r, P r → ¬ L r
  base : ∀ j, j < m.length → P (unitR m.length j) ∨ L (unitR m.length j)
  shut : ∀ r, P r → ∀ j, j < m.length → 0 < sgnL (rflR m j r) → hgtL (rflR m j r) ≤ h → P (rflR m j r) ∨ L (rflR m j r)
theorem rndI_end {m : List (List Int)} {h : Int} {P L : List Int → Prop} (hI : RndI m h P L) (hL : ∀ r, ¬ L r) (r : List Int) : P r ↔ Asc m h r :=
  asc_closed (fun r hr => hI.all r (Or.inl hr)) (fun j hj => (hI.base j hj).resolve_right (hL _)) (fun r hr j hj h1 h2 => (hI.shut r hr j hj h1 h2).resolve_right (hL _)) r
theorem rndI_start {m : List (List Int)} {h : Int} : RndI m h (fun _ => False) (fun r => ∃ j, j < m.length ∧ r = unitR m.length j) :=
  ⟨fun r hr => by
    rcases hr with hr | ⟨j, hj, e⟩
    · exact hr.elim
    · rw [e]; exact .base j hj, fun _ h => h.elim, fun j hj => Or.inr ⟨j, hj, rfl⟩, fun _ h => h.elim⟩
/-- One round's new roots: images of those in D (done), not among S. -/
structure NewI (m : List (List Int)) (h : Int) (S D N : List Int → Prop) : Prop where
  all : ∀ r, N r → Asc m h r ∧ ¬ S r
  shut : ∀ r, D r → ∀ j, j < m.length → 0 < sgnL (rflR m j r) → hgtL (rflR m j r) ≤ h → S (rflR m j r) ∨ N (rflR m j r)
theorem rndI_next {m : List (List Int)} {h : Int} {P L N : List Int → Prop} (hI : RndI m h P L) (hN : NewI m h (fun r => P r ∨ L r) L N) : RndI m h (fun r => P r ∨ L r) N :=
  ⟨fun r hr => by
    rcases hr with hr | hr
    · exact hI.all r hr
    · exact (hN.all r hr).1, fun r h1 h2 => (hN.all r h2).2 h1, fun j hj => Or.inl (hI.base j hj), fun r hr j hj h1 h2 => by
    rcases hr with hr | hr
    · exact Or.inl (hI.shut r hr j hj h1 h2)
    · exact hN.shut r hr j hj h1 h2⟩
/-- One letter of one root. -/
structure LetI (m : List (List Int)) (h : Int) (S D N : List Int → Prop) (r : List Int) (i : Nat) : Prop where
  all : ∀ r, N r → Asc m h r ∧ ¬ S r
  shut : ∀ r, D r → ∀ j, j < m.length → 0 < sgnL (rflR m j r) → hgtL (rflR m j r) ≤ h → S (rflR m j r) ∨ N (rflR m j r)
  now : ∀ j, j < i → 0 < sgnL (rflR m j r) → hgtL (rflR m j r) ≤ h → S (rflR m j r) ∨ N (rflR m j r)
theorem letI_start {m : List (List Int)} {h : Int} {S D N : List Int → Prop} (hN : NewI m h S D N) (r : List Int) : LetI m h S D N r 0 :=
  ⟨hN.all, hN.shut, fun _ hj => absurd hj (Nat.not_lt_zero _)⟩
theorem letI_skip {m : List (List Int)} {h : Int} {S D N : List Int → Prop} {r : List Int} {i : Nat} (hL : LetI m h S D N r i) (hn : S (rflR m i r) ∨ ¬ 0 < sgnL (rflR m i r) ∨ ¬ hgtL (rflR m i r) ≤ h) : LetI m h S D N r (i + 1) :=
  ⟨hL.all, hL.shut, fun j hj h1 h2 => by
    rcases Nat.lt_or_ge j i with h' | h'
    · exact hL.now j h' h1 h2
    · obtain rfl : j = i := by omega
      rcases hn with hn | hn | hn
      · exact Or.inl hn
      · exact absurd h1 hn
      · exact absurd h2 hn⟩
theorem letI_put {m : List (List Int)} {h : Int} {S D N : List Int → Prop} {r : List Int} {i : Nat} (hL : LetI m h S D N r i) (hA : Asc m h (rflR m i r)) (hS : ¬ S (rflR m i r)) : LetI m h S D (fun x => N x ∨ x = rflR m i r) r (i + 1) :=
  ⟨fun x hx => by
    rcases hx with hx | rfl
    · exact hL.all x hx
    · exact ⟨hA, hS⟩, fun x hx j hj h1 h2 => (hL.shut x hx j hj h1 h2).imp id Or.inl, fun j hj h1 h2 => by
    rcases Nat.lt_or_ge j i with h' | h'
    · exact (hL.now j h' h1 h2).imp id Or.inl
    · obtain rfl : j = i := by omega
      exact Or.inr (Or.inr rfl)⟩
theorem letI_end {m : List (List Int)} {h : Int} {S D N : List Int → Prop} {r : List Int} (hL : LetI m h S D N r m.length) : NewI m h S (fun x => D x ∨ x = r) N :=
  ⟨hL.all, fun x hx j hj h1 h2 => by
    rcases hx with hx | rfl
    · exact hL.shut x hx j hj h1 h2
    · exact hL.now j hj h1 h2⟩
theorem newI_same {m : List (List Int)} {h : Int} {S D D' N : List Int → Prop} (hN : NewI m h S D N) (hD : ∀ r, D' r → D r) : NewI m h S D' N := ⟨hN.all, fun r hr => hN.shut r (hD r hr)⟩
end Go.Proofs.Ytnlbmnielemgiaa
namespace Go.Proofs.Ytnlbmnielemgiaa
open Go.RowKit

theorem RowI.nil' (A B : Nat) (w : World) : RowI A B w (.slice none 0 0) [] := ⟨World.ownsRow_nil _ _ _ _, fun g h => by simp [Value.ownBlock] at h⟩
end Go.Proofs.Ytnlbmnielemgiaa
