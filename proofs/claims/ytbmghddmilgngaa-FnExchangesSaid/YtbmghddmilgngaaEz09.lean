/-
  Lengths: the program's way back to the ones, and the powers of an element (no walk here).
-/
import Derived.Test.YtbmghddmilgngaaEz08
namespace Go.Proofs.Ytbmghddmilgngaa
open Go.RowKit

/-- The row goes down to the ones in L steps. -/
def Ret (m : List (List Int)) (l : List Int) (L : Nat) : Prop := l.length = m.length ∧ L ≤ 30 ∧ ∃ f, Dn m.length (entry m) (vecW l) L f
theorem ret_ne {m : List (List Int)} {l : List Int} {L i : Nat} (hC : IsC m) (h : Ret m l L) (hi : i < m.length) : l.getD i 0 ≠ 0 := by
  obtain ⟨hl, _, f, hD⟩ := h
  have := dn_ne (gcm_of hC) hD hi
  rw [vecW_in (by omega)] at this; exact this
theorem dnsK_nil {l : List Int} : ∀ k, k ≤ firstDown l → dnsK l k = []
  | 0, _ => rfl
  | k + 1, h => by
    rw [← dnsK_no (by have := firstDown_up l k (by omega); omega)]
    exact dnsK_nil k (by omega)
theorem dnsK_more {l : List Int} {t : Nat} (h0 : dnsK l (t + 1) = [(t : Int)]) : ∀ k, t + 1 ≤ k → ∃ r, dnsK l k = (t : Int) :: r
  | 0, h => by omega
  | k + 1, h => by
    rcases Nat.lt_or_ge t k with h1 | h1
    · obtain ⟨r, hr⟩ := dnsK_more h0 k h1
      by_cases hn : l.getD k 0 < 0
      · rw [← dnsK_yes hn, hr]; exact ⟨r ++ [(k : Int)], rfl⟩
      · rw [← dnsK_no hn]; exact ⟨r, hr⟩
    · obtain rfl : k = t := by omega
      exact ⟨[], h0⟩
/-- No descent: the search for one comes to the end. -/
theorem ret_end {m : List (List Int)} {l : List Int} {L : Nat} (hC : IsC m) (h : Ret m l L) (hd : dnsK l m.length = []) : firstDown l = l.length := by
  refine Classical.byContradiction fun hn => ?_
  have hle := firstDown_le l
  have hlt : firstDown l < l.length := by omega
  have h0 := firstDown_at l hlt
  have h1 := ret_ne hC h (i := firstDown l) (by rw [← h.1]; exact hlt)
  have h2 : dnsK l (firstDown l + 1) = [(firstDown l : Int)] := by
    rw [← dnsK_yes (by omega), dnsK_nil _ (Nat.le_refl _)]; rfl
  obtain ⟨r, hr⟩ := dnsK_more h2 m.length (by rw [← h.1]; exact hlt)
  rw [hr] at hd; exact absurd hd (by simp)
/-- A descent: the first one is where the search stops, and one step down is left less. -/
theorem ret_step {m : List (List Int)} {l : List Int} {L : Nat} (hC : IsC m) (h : Ret m l L) (hd : dnsK l m.length ≠ []) : ∃ (t L' : Nat) (r : List Int), dnsK l m.length = (t : Int) :: r ∧ firstDown l = t ∧ t < m.length ∧ L = L' + 1 ∧ Ret m (reflL m t l) L' := by
  have hle := firstDown_le l
  have hlt : firstDown l < l.length := by
    rcases Nat.lt_or_ge (firstDown l) l.length with h1 | h1
    · exact h1
    · exact absurd (dnsK_nil _ (by rw [← h.1]; exact h1)) hd
  have h0 := firstDown_at l hlt
  have hi : firstDown l < m.length := by rw [← h.1]; exact hlt
  have h1 := ret_ne hC h hi
  have h2 : dnsK l (firstDown l + 1) = [(firstDown l : Int)] := by
    rw [← dnsK_yes (by omega), dnsK_nil _ (Nat.le_refl _)]; rfl
  obtain ⟨r, hr⟩ := dnsK_more h2 m.length hi
  obtain ⟨hl, h30, f, hD⟩ := h
  have hb := dn_Big hC hl hD
  have hv := vecW_in (l := l) (t := firstDown l) hlt
  obtain ⟨L', rfl, h'⟩ := dn_down (gcm_of hC) hD hi (by omega)
  have hre := reflL_big hC hi hl hb h30
  rw [← hre.1] at h'
  exact ⟨firstDown l, L', r, hr, rfl, hi, rfl, by rw [reflL_len]; exact hl, by omega, _, h'⟩
/-! ### Letters as numbers -/
def natsW (ws : List Int) : List Nat := ws.map Int.toNat
theorem natsW_in {n : Nat} {ws : List Int} (h : LetTo n ws ws.length) : InN n (natsW ws) := by
  intro i hi
  obtain ⟨x, hx, rfl⟩ := List.mem_map.1 hi
  obtain ⟨k, hk, rfl⟩ := List.getElem_of_mem hx
  have := h k hk
  have e : ws.getD k 0 = ws[k] := by simp [List.getD, hk]
  rw [e] at this
  omega
theorem natsW_len (ws : List Int) : (natsW ws).length = ws.length := by simp [natsW]
theorem actW_nats (m : List (List Int)) (ws l : List Int) : actW m ws l = (natsW ws).foldr (fun i l => reflL m i l) l := by
  unfold actW natsW; rw [List.foldr_map]
theorem imgW_nats (m : List (List Int)) (ws : List Int) : imgW m ws = imgN m (natsW ws) := actW_nats m ws _
theorem natsW_cast (a : List Nat) : natsW (a.map fun (i : Nat) => (i : Int)) = a := by
  unfold natsW; rw [List.map_map]; exact (List.map_congr_left (fun x _ => rfl)).trans (List.map_id a)
theorem frmI_nats (m : List (List Int)) (k : Nat) (l : List Int) : natsW (frmI m k l) = formN m k l := natsW_cast _
theorem natsW_append (a b : List Int) : natsW (a ++ b) = natsW a ++ natsW b := by simp [natsW]
theorem letTo_form {m : List (List Int)} {k : Nat} {l : List Int} (hl : l.length = m.length) : LetTo m.length (frmI m k l) (frmI m k l).length := by
  intro j hj
  have e : (frmI m k l).getD j 0 = (frmI m k l)[j] := by simp [List.getD, hj]
  have hm : (frmI m k l)[j] ∈ frmI m k l := List.getElem_mem hj
  rw [e]
  generalize (frmI m k l)[j] = x at *
  unfold frmI at hm
  obtain ⟨i, hi, h2⟩ := List.mem_map.1 hm
  have := formN_in m k l i hi
  omega
/-- A word acts on a row of small numbers as it does without wraps. -/
theorem act_vec {m : List (List Int)} (hC : IsC m) {l : List Int} (hl : l.length = m.length) {b : Nat} (hb : Big l b) : ∀ ws : List Nat, InN m.length ws → b + ws.length ≤ 31 → vecW (ws.foldr (fun i l => reflL m i l) l) = mapN (entry m) ws (vecW l) ∧ Big (ws.foldr (fun i l => reflL m i l) l) (b + ws.length) ∧ (ws.foldr (fun i l => reflL m i l) l).length = m.length
  | [], _, _ => ⟨rfl, hb, hl⟩
  | i :: ws, h, h31 => by
    have ih := act_vec hC hl hb ws (fun k hk => h k (List.mem_cons_of_mem _ hk)) (by simp at h31; omega)
    have hr := reflL_big hC (h i (List.mem_cons_self ..)) ih.2.2 ih.2.1 (by simp at h31; omega)
    refine ⟨?_, ?_, by simp only [List.foldr_cons]; rw [reflL_len]; exact ih.2.2⟩
    · simp only [List.foldr_cons]
      rw [hr.1, ih.1]; rfl
    · simp only [List.foldr_cons, List.length_cons]
      rw [← Nat.add_assoc]; exact hr.2
/-- What a word's image is: the way down, its map, the word's own. -/
theorem img_dn {m : List (List Int)} (hC : IsC m) {ws : List Int} (hW : LetTo m.length ws ws.length) (h30 : ws.length ≤ 30) : ∃ L, Dn m.length (entry m) (vecW (imgW m ws)) L (mapN (entry m) (natsW ws)) ∧ L ≤ ws.length ∧ L % 2 = ws.length % 2 := by
  obtain ⟨L, h1, h2, h3⟩ := dn_word (gcm_of hC) (natsW ws) (natsW_in hW)
  rw [natsW_len] at h2 h3
  have hv := (imgN_vec hC (natsW ws) (natsW_in hW) (by rw [natsW_len]; omega)).1
  rw [← imgW_nats] at hv
  exact ⟨L, by rw [hv]; exact h1, h2, h3⟩
theorem ret_word {m : List (List Int)} (hC : IsC m) {ws : List Int} (hW : LetTo m.length ws ws.length) (h30 : ws.length ≤ 30) : ∃ L, Ret m (imgW m ws) L := by
  obtain ⟨L, h1, h2, _⟩ := img_dn hC hW h30
  exact ⟨L, imgW_len m ws, by omega, _, h1⟩
/-- The greedy word of a row: its length, its map, and the row is its image. -/
theorem frm_of {m : List (List Int)} (hC : IsC m) {l : List Int} {L : Nat} {f : (Nat → Int) → Nat → Int} (hl : l.length = m.length) (h30 : L ≤ 30) (h : Dn m.length (entry m) (vecW l) L f) : (frmI m 31 l).length = L ∧ f = mapN (entry m) (formN m 31 l) ∧ vecW l = mapN (entry m) (formN m 31 l) onesV ∧ imgW m (frmI m 31 l) = l := by
  have hf := form_dn hC 31 L l f hl h30 (by omega) h
  have hin : InN m.length (formN m 31 l) := fun i hi => by have := formN_in m 31 l i hi; omega
  obtain ⟨x, x1, x2, x3, x4⟩ := dn_path (gcm_of hC) h
  have hv : vecW l = mapN (entry m) (formN m 31 l) onesV := by
    rw [x4, ← x3, hf.2]; rfl
  refine ⟨by unfold frmI; rw [List.length_map]; exact hf.1, hf.2, hv, ?_⟩
  rw [imgW_nats, frmI_nats]
  refine vecW_inj (by rw [imgN_len]; exact hl.symm) ?_
  rw [(imgN_vec hC _ hin (by rw [hf.1]; omega)).1, hv]; rfl
theorem nrm_img {m : List (List Int)} {ws : List Int} (hW : IsW m ws) : imgW m (nrmL m ws) = imgW m ws := by
  rw [nrmL_yes hW]
  obtain ⟨L, h1, h2, _⟩ := img_dn hW.2.1 hW.1 (by have := hW.2.2; omega)
  exact (frm_of hW.2.1 (imgW_len m ws) (by have := hW.2.2; omega) h1).2.2.2
theorem nrm_le {m : List (List Int)} {ws : List Int} (hW : IsW m ws) : (nrmL m ws).length ≤ ws.length ∧ (nrmL m ws).length % 2 = ws.length % 2 := by
  rw [nrmL_yes hW]
  obtain ⟨L, h1, h2, h3⟩ := img_dn hW.2.1 hW.1 (by have := hW.2.2; omega)
  rw [(frm_of hW.2.1 (imgW_len m ws) (by have := hW.2.2; omega) h1).1]
  exact ⟨h2, h3⟩
theorem nrm_word {m : List (List Int)} {ws : List Int} (hW : IsW m ws) : IsW m (nrmL m ws) := by
  have h1 := (nrm_le hW).1
  refine ⟨?_, hW.2.1, by have := hW.2.2; omega⟩
  rw [nrmL_yes hW]
  exact letTo_form (imgW_len m ws)
/-! ### Powers -/
/-- The row is that of a power of x, whose greedy word commutes with x. -/
structure PowI (m : List (List Int)) (x : List Int) (p : List Int) : Prop where
  len : p.length = m.length
  has : ∃ L, L ≤ 30 ∧ Dn m.length (entry m) (vecW p) L (mapN (entry m) (formN m 31 p))
  comm : ∀ z, mapN (entry m) (formN m 31 p) (mapN (entry m) (natsW x) z) = mapN (entry m) (natsW x) (mapN (entry m) (formN m 31 p) z)
theorem PowI.ret {m : List (List Int)} {x p : List Int} (h : PowI m x p) : ∃ L, Ret m p L := by
  obtain ⟨L, h1, h2⟩ := h.has
  exact ⟨L, h.len, h1, _, h2⟩
theorem pow_start {m : List (List Int)} {ws : List Int} (hW : IsW m ws) : PowI m (nrmL m ws) (imgW m ws) := by
  obtain ⟨L, h1, h2, _⟩ := img_dn hW.2.1 hW.1 (by have := hW.2.2; omega)
  have h30 : L ≤ 30 := by have := hW.2.2; omega
  have hf := frm_of hW.2.1 (imgW_len m ws) h30 h1
  refine ⟨imgW_len m ws, ⟨L, h30, by rw [← hf.2.1]; exact h1⟩, fun z => ?_⟩
  rw [nrmL_yes hW, frmI_nats]
theorem pow_next {m : List (List Int)} {x p : List Int} (hC : IsC m) (hx : LetTo m.length x x.length) (h15 : x.length ≤ 15) (h : PowI m x p) (hp : (frmI m 31 p).length ≤ 15) : actW m x p = imgW m (frmI m 31 p ++ x) ∧ PowI m x (actW m x p) := by
  obtain ⟨hl, ⟨L, hL, hD⟩, hc⟩ := h
  have hf := frm_of hC hl hL hD
  have hL15 : L ≤ 15 := by rw [← hf.1]; exact hp
  have hin := natsW_in hx
  have hpin : InN m.length (formN m 31 p) := fun i hi => by have := formN_in m 31 p i hi; omega
  have hb := dn_Big hC hl hD
  have ha := act_vec hC hl hb (natsW x) hin (by rw [natsW_len]; omega)
  rw [← actW_nats] at ha
  have hfl : (formN m 31 p).length = L := by have := hf.1; unfold frmI at this; rwa [List.length_map] at this
  have hyx : InN m.length (formN m 31 p ++ natsW x) := fun i hi => by
    rcases List.mem_append.1 hi with h | h
    · exact hpin i h
    · exact hin i h
  have hyl : (formN m 31 p ++ natsW x).length ≤ 30 := by rw [List.length_append, natsW_len, hfl]; omega
  have hi := imgN_vec hC (formN m 31 p ++ natsW x) hyx (by omega)
  have hn : imgW m (frmI m 31 p ++ x) = imgN m (formN m 31 p ++ natsW x) := by rw [imgW_nats, natsW_append, frmI_nats]
  have e : actW m x p = imgW m (frmI m 31 p ++ x) := by
    rw [hn]
    refine vecW_inj (by rw [imgN_len]; exact ha.2.2) ?_
    rw [ha.1, hi.1, hf.2.2.1, ← hc onesV]
    exact (mapN_append _ _ _ _).symm
  refine ⟨e, ?_⟩
  obtain ⟨K, k1, k2, _⟩ := dn_word (gcm_of hC) (formN m 31 p ++ natsW x) hyx
  have hv : vecW (actW m x p) = mapN (entry m) (formN m 31 p ++ natsW x) onesV := by rw [e, hn]; exact hi.1
  have k3 : Dn m.length (entry m) (vecW (actW m x p)) K (mapN (entry m) (formN m 31 p ++ natsW x)) := by rw [hv]; exact k1
  have hg := frm_of hC ha.2.2 (by omega) k3
  refine ⟨ha.2.2, ⟨K, by omega, by rw [← hg.2.1]; exact k3⟩, fun z => ?_⟩
  rw [← hg.2.1, mapN_append, mapN_append, hc]
/-- The order, from the k-th power on: at most f powers more. -/
def ordS (m : List (List Int)) (x : List Int) : Nat → Nat → List Int → Int
  | 0, _, _ => 0
  | f + 1, k, p => if (frmI m 31 p).length = 0 then (k : Int) else if 15 < (frmI m 31 p).length then 0 else ordS m x f (k + 1) (actW m x p)
theorem ordS_zero (m : List (List Int)) (x : List Int) (k : Nat) (p : List Int) : ordS m x 0 k p = 0 := rfl
theorem ordS_one {m : List (List Int)} {x : List Int} {f k : Nat} {p : List Int} (h : (frmI m 31 p).length = 0) : ordS m x (f + 1) k p = (k : Int) := if_pos h
theorem ordS_far {m : List (List Int)} {x : List Int} {f k : Nat} {p : List Int} (h : 15 < (frmI m 31 p).length) : ordS m x f k p = 0 := by
  cases f with
  | zero => rfl
  | succ f => unfold ordS; rw [if_neg (by omega), if_pos h]
theorem ordS_more {m : List (List Int)} {x : List Int} {f k : Nat} {p : List Int} (h0 : (frmI m 31 p).length ≠ 0) (h : ¬ 15 < (frmI m 31 p).length) : ordS m x (f + 1) k p = ordS m x f (k + 1) (actW m x p) := by
  conv => lhs; unfold ordS
  rw [if_neg h0, if_neg h]
end Go.Proofs.Ytbmghddmilgngaa
