/-
  Lengths: the program's way back to the ones, and the powers of an element (no walk here).
  Lengths: the program's image of the ones as an array of its own: what its methods act and descents do.
-/
import Derived.Test.YtfjeghalkmkgoaaLc19
import Derived.Test.YtfjeghalkmkgoaaLc11
import Derived.Test.YtfjeghalkmkgoaaLc17
import Derived.Test.YtfjeghalkmkgoaaLc16
namespace Go.Proofs.Ytfjeghalkmkgoaa
open Go.RowKit

/-- The row goes down to the ones in L steps. -/
def Ret (m : List (List Int)) (l : List Int) (L : Nat) : Prop := l.length = m.length ∧ L ≤ 30 ∧ ∃ f, Dn m.length (entry m) (vecW l) L f
theorem ret_ne {m : List (List Int)} {l : List Int} {L i : Nat} (hC : IsC m) (h : Ret m l L) (hi : i < m.length) : l.getD i 0 ≠ 0 := by
  obtain ⟨hl, _, f, hD⟩ := h
  have := dn_ne (gcm_of hC) hD hi
  rw [vecW_in (by omega)] at this; exact this
theorem dnsK_nil {l : List Int} : ∀ k, k ≤ firstDown l → dnsK l k = []
  | 0, _ => rfl
  | k + 1, h => by
    rw [← dnsK_no (by have := firstDown_up l k (by omega); omega)]
    exact dnsK_nil k (by omega)
theorem dnsK_more {l : List Int} {t : Nat} (h0 : dnsK l (t + 1) = [(t : Int)]) : ∀ k, t + 1 ≤ k → ∃ r, dnsK l k = (t : Int) :: r
  | 0, h => by omega
  | k + 1, h => by
    rcases Nat.lt_or_ge t k with h1 | h1
    · obtain ⟨r, hr⟩ := dnsK_more h0 k h1
      by_cases hn : l.getD k 0 < 0
      · rw [← dnsK_yes hn, hr]; exact ⟨r ++ [(k : Int)], rfl⟩
      · rw [← dnsK_no hn]; exact ⟨r, hr⟩
    · obtain rfl : k = t := by omega
      exact ⟨[], h0⟩
/-- No descent: the search for one comes to the end. -/
theorem ret_end {m : List (List Int)} {l : List Int} {L : Nat} (hC : IsC m) (h : Ret m l L) (hd : dnsK l m.length = []) : firstDown l = l.length := by
  refine Classical.byContradiction fun hn => ?_
  have hle := firstDown_le l
  have hlt : firstDown l < l.length := by omega
  have h0 := firstDown_at l hlt
  have h1 := ret_ne hC h (i := firstDown l) (by rw [← h.1]; exact hlt)
  have h2 : dnsK l (firstDown l + 1) = [(firstDown l : Int)] := by
    rw [← dnsK_yes (by omega), dnsK_nil _ (Nat.le_refl _)]; rfl
  obtain ⟨r, hr⟩ := dnsK_more h2 m.length (by rw [← h.1]; exact hlt)
  rw [hr] at hd; exact absurd hd (by simp)
/-- A descent: the first one is where the search stops, and one step down is left less. -/
theorem ret_step {m : List (List Int)} {l : List Int} {L : Nat} (hC : IsC m) (h : Ret m l L) (hd : dnsK l m.length ≠ []) : ∃ (t L' : Nat) (r : List Int), dnsK l m.length = (t : Int) :: r ∧ firstDown l = t ∧ t < m.length ∧ L = L' + 1 ∧ Ret m (reflL m t l) L' := by
  have hle := firstDown_le l
  have hlt : firstDown l < l.length := by
    rcases Nat.lt_or_ge (firstDown l) l.length with h1 | h1
    · exact h1
    · exact absurd (dnsK_nil _ (by rw [← h.1]; exact h1)) hd
  have h0 := firstDown_at l hlt
  have hi : firstDown l < m.length := by rw [← h.1]; exact hlt
  have h1 := ret_ne hC h hi
  have h2 : dnsK l (firstDown l + 1) = [(firstDown l : Int)] := by
    rw [← dnsK_yes (by omega), dnsK_nil _ (Nat.le_refl _)]; rfl
  obtain ⟨r, hr⟩ := dnsK_more h2 m.length hi
  obtain ⟨hl, h30, f, hD⟩ := h
  have hb := dn_Big hC hl hD
  have hv := vecW_in (l := l) (t := firstDown l) hlt
  obtain ⟨L', rfl, h'⟩ := dn_down (gcm_of hC) hD hi (by omega)
  have hre := reflL_big hC hi hl hb h30
  rw [← hre.1] at h'
  exact ⟨firstDown l, L', r, hr, rfl, hi, rfl, by rw [reflL_len]; exact hl, by omega, _, h'⟩
/-! ### Letters as numbers -/
def natsW (ws : List Int) : List Nat := ws.map Int.toNat
theorem natsW_in {n : Nat} {ws : List Int} (h : LetTo n ws ws.length) : InN n (natsW ws) := by
  intro i hi
  obtain ⟨x, hx, rfl⟩ := List.mem_map.1 hi
  obtain ⟨k, hk, rfl⟩ := List.getElem_of_mem hx
  have := h k hk
  have e : ws.getD k 0 = ws[k] := by simp [List.getD, hk]
  rw [e] at this
  omega
theorem natsW_len (ws : List Int) : (natsW ws).length = ws.length := by simp [natsW]
theorem actW_nats (m : List (List Int)) (ws l : List Int) : actW m ws l = (natsW ws).foldr (fun i l => reflL m i l) l := by
  unfold actW natsW; rw [List.foldr_map]
theorem imgW_nats (m : List (List Int)) (ws : List Int) : imgW m ws = imgN m (natsW ws) := actW_nats m ws _
theorem natsW_cast (a : List Nat) : natsW (a.map fun (i : Nat) => (i : Int)) = a := by
  unfold natsW; rw [List.map_map]; exact (List.map_congr_left (fun x _ => rfl)).trans (List.map_id a)
theorem frmI_nats (m : List (List Int)) (k : Nat) (l : List Int) : natsW (frmI m k l) = formN m k l := natsW_cast _
theorem natsW_append (a b : List Int) : natsW (a ++ b) = natsW a ++ natsW b := by simp [natsW]
theorem letTo_form {m : List (List Int)} {k : Nat} {l : List Int} (hl : l.length = m.length) : LetTo m.length (frmI m k l) (frmI m k l).length := by
  intro j hj
  have e : (frmI m k l).getD j 0 = (frmI m k l)[j] := by simp [List.getD, hj]
  have hm : (frmI m k l)[j] ∈ frmI m k l := List.getElem_mem hj
  rw [e]
  generalize (frmI m k l)[j] = x at *
  unfold frmI at hm
  obtain ⟨i, hi, h2⟩ := List.mem_map.1 hm
  have := formN_in m k l i hi
  omega
/-- A word acts on a row of small numbers as it does without wraps. -/
theorem act_vec {m : List (List Int)} (hC : IsC m) {l : List Int} (hl : l.length = m.length) {b : Nat} (hb : Big l b) : ∀ ws : List Nat, InN m.length ws → b + ws.length ≤ 31 → vecW (ws.foldr (fun i l => reflL m i l) l) = mapN (entry m) ws (vecW l) ∧ Big (ws.foldr (fun i l => reflL m i l) l) (b + ws.length) ∧ (ws.foldr (fun i l => reflL m i l) l).length = m.length
  | [], _, _ => ⟨rfl, hb, hl⟩
  | i :: ws, h, h31 => by
    have ih := act_vec hC hl hb ws (fun k hk => h k (List.mem_cons_of_mem _ hk)) (by simp at h31; omega)
    have hr := reflL_big hC (h i (List.mem_cons_self ..)) ih.2.2 ih.2.1 (by simp at h31; omega)
    refine ⟨?_, ?_, by simp only [List.foldr_cons]; rw [reflL_len]; exact ih.2.2⟩
    · simp only [List.foldr_cons]
      rw [hr.1, ih.1]; rfl
    · simp only [List.foldr_cons, List.length_cons]
      rw [← Nat.add_assoc]; exact hr.2
/-- What a word's image is: the way down, its map, the word's own. -/
theorem img_dn {m : List (List Int)} (hC : IsC m) {ws : List Int} (hW : LetTo m.length ws ws.length) (h30 : ws.length ≤ 30) : ∃ L, Dn m.length (entry m) (vecW (imgW m ws)) L (mapN (entry m) (natsW ws)) ∧ L ≤ ws.length ∧ L % 2 = ws.length % 2 := by
  obtain ⟨L, h1, h2, h3⟩ := dn_word (gcm_of hC) (natsW ws) (natsW_in hW)
  rw [natsW_len] at h2 h3
  have hv := (imgN_vec hC (natsW ws) (natsW_in hW) (by rw [natsW_len]; omega)).1
  rw [← imgW_nats] at hv
  exact ⟨L, by rw [hv]; exact h1, h2, h3⟩
theorem ret_word {m : List (List Int)} (hC : IsC m) {ws : List Int} (hW : LetTo m.length ws ws.length) (h30 : ws.length ≤ 30) : ∃ L, Ret m (imgW m ws) L := by
  obtain ⟨L, h1, h2, _⟩ := img_dn hC hW h30
  exact ⟨L, imgW_len m ws, by omega, _, h1⟩
/-- The greedy word of a row: its length, its map, and the row is its image. -/
theorem frm_of {m : List (List Int)} (hC : IsC m) {l : List Int} {L : Nat} {f : (Nat → Int) → Nat → Int} (hl : l.length = m.length) (h30 : L ≤ 30) (h : Dn m.length (entry m) (vecW l) L f) : (frmI m 31 l).length = L ∧ f = mapN (entry m) (formN m 31 l) ∧ vecW l = mapN (entry m) (formN m 31 l) onesV ∧ imgW m (frmI m 31 l) = l := by
  have hf := form_dn hC 31 L l f hl h30 (by omega) h
  have hin : InN m.length (formN m 31 l) := fun i hi => by have := formN_in m 31 l i hi; omega
  obtain ⟨x, x1, x2, x3, x4⟩ := dn_path (gcm_of hC) h
  have hv : vecW l = mapN (entry m) (formN m 31 l) onesV := by
    rw [x4, ← x3, hf.2]; rfl
  refine ⟨by unfold frmI; rw [List.length_map]; exact hf.1, hf.2, hv, ?_⟩
  rw [imgW_nats, frmI_nats]
  refine vecW_inj (by rw [imgN_len]; exact hl.symm) ?_
  rw [(imgN_vec hC _ hin (by rw [hf.1]; omega)).1, hv]; rfl
theorem nrm_img {m : List (List Int)} {ws : List Int} (hW : IsW m ws) : imgW m (nrmL m ws) = imgW m ws := by
  rw [nrmL_yes hW]
  obtain ⟨L, h1, h2, _⟩ := img_dn hW.2.1 hW.1 (by have := hW.2.2; omega)
  exact (frm_of hW.2.1 (imgW_len m ws) (by have := hW.2.2; omega) h1).2.2.2
theorem nrm_le {m : List (List Int)} {ws : List Int} (hW : IsW m ws) : (nrmL m ws).length ≤ ws.length ∧ (nrmL m ws).length % 2 = ws.length % 2 := by
  rw [nrmL_yes hW]
  obtain ⟨L, h1, h2, h3⟩ := img_dn hW.2.1 hW.1 (by have := hW.2.2; omega)
  rw [(frm_of hW.2.1 (imgW_len m ws) (by have := hW.2.2; omega) h1).1]
  exact ⟨h2, h3⟩
theorem nrm_word {m : List (List Int)} {ws : List Int} (hW : IsW m ws) : IsW m (nrmL m ws) := by
  have h1 := (nrm_le hW).1
  refine ⟨?_, hW.2.1, by have := hW.2.2; omega⟩
  rw [nrmL_yes hW]
  exact letTo_form (imgW_len m ws)
/-! ### Powers -/
/-- The row is that of a power of x, whose greedy word commutes with x. -/
structure PowI (m : List (List Int)) (x : List Int) (p : List Int) : Prop where
  len : p.length = m.length
  has : ∃ L, L ≤ 30 ∧ Dn m.length (entry m) (vecW p) L (mapN (entry m) (formN m 31 p))
  comm : ∀ z, mapN (entry m) (formN m 31 p) (mapN (entry m) (natsW x) z) = mapN (entry m) (natsW x) (mapN (entry m) (formN m 31 p) z)
theorem PowI.ret {m : List (List Int)} {x p : List Int} (h : PowI m x p) : ∃ L, Ret m p L := by
  obtain ⟨L, h1, h2⟩ := h.has
  exact ⟨L, h.len, h1, _, h2⟩
theorem pow_start {m : List (List Int)} {ws : List Int} (hW : IsW m ws) : PowI m (nrmL m ws) (imgW m ws) := by
  obtain ⟨L, h1, h2, _⟩ := img_dn hW.2.1 hW.1 (by have := hW.2.2; omega)
  have h30 : L ≤ 30 := by have := hW.2.2; omega
  have hf := frm_of hW.2.1 (imgW_len m ws) h30 h1
  refine ⟨imgW_len m ws, ⟨L, h30, by rw [← hf.2.1]; exact h1⟩, fun z => ?_⟩
  rw [nrmL_yes hW, frmI_nats]
theorem pow_next {m : List (List Int)} {x p : List Int} (hC : IsC m) (hx : LetTo m.length x x.length) (h15 : x.length ≤ 15) (h : PowI m x p) (hp : (frmI m 31 p).length ≤ 15) : actW m x p = imgW m (frmI m 31 p ++ x) ∧ PowI m x (actW m x p) := by
  obtain ⟨hl, ⟨L, hL, hD⟩, hc⟩ := h
  have hf := frm_of hC hl hL hD
  have hL15 : L ≤ 15 := by rw [← hf.1]; exact hp
  have hin := natsW_in hx
  have hpin : InN m.length (formN m 31 p) := fun i hi => by have := formN_in m 31 p i hi; omega
  have hb := dn_Big hC hl hD
  have ha := act_vec hC hl hb (natsW x) hin (by rw [natsW_len]; omega)
  rw [← actW_nats] at ha
  have hfl : (formN m 31 p).length = L := by have := hf.1; unfold frmI at this; rwa [List.length_map] at this
  have hyx : InN m.length (formN m 31 p ++ natsW x) := fun i hi => by
    rcases List.mem_append.1 hi with h | h
    · exact hpin i h
    · exact hin i h
  have hyl : (formN m 31 p ++ natsW x).length ≤ 30 := by rw [List.length_append, natsW_len, hfl]; omega
  have hi := imgN_vec hC (formN m 31 p ++ natsW x) hyx (by omega)
  have hn : imgW m (frmI m 31 p ++ x) = imgN m (formN m 31 p ++ natsW x) := by rw [imgW_nats, natsW_append, frmI_nats]
  have e : actW m x p = imgW m (frmI m 31 p ++ x) := by
    rw [hn]
    refine vecW_inj (by rw [imgN_len]; exact ha.2.2) ?_
    rw [ha.1, hi.1, hf.2.2.1, ← hc onesV]
    exact (mapN_append _ _ _ _).symm
  refine ⟨e, ?_⟩
  obtain ⟨K, k1, k2, _⟩ := dn_word (gcm_of hC) (formN m 31 p ++ natsW x) hyx
  have hv : vecW (actW m x p) = mapN (entry m) (formN m 31 p ++ natsW x) onesV := by rw [e, hn]; exact hi.1
  have k3 : Dn m.length (entry m) (vecW (actW m x p)) K (mapN (entry m) (formN m 31 p ++ natsW x)) := by rw [hv]; exact k1
  have hg := frm_of hC ha.2.2 (by omega) k3
  refine ⟨ha.2.2, ⟨K, by omega, by rw [← hg.2.1]; exact k3⟩, fun z => ?_⟩
  rw [← hg.2.1, mapN_append, mapN_append, hc]
/-- The order, from the k-th power on: at most f powers more. -/
def ordS (m : List (List Int)) (x : List Int) : Nat → Nat → List Int → Int
  | 0, _, _ => 0
  | f + 1, k, p => if (frmI m 31 p).length = 0 then (k : Int) else if 15 < (frmI m 31 p).length then 0 else ordS m x f (k + 1) (actW m x p)
theorem ordS_zero (m : List (List Int)) (x : List Int) (k : Nat) (p : List Int) : ordS m x 0 k p = 0 := rfl
theorem ordS_one {m : List (List Int)} {x : List Int} {f k : Nat} {p : List Int} (h : (frmI m 31 p).length = 0) : ordS m x (f + 1) k p = (k : Int) := if_pos h
theorem ordS_far {m : List (List Int)} {x : List Int} {f k : Nat} {p : List Int} (h : 15 < (frmI m 31 p).length) : ordS m x f k p = 0 := by
  cases f with
  | zero => rfl
  | succ f => unfold ordS; rw [if_neg (by omega), if_pos h]
theorem ordS_more {m : List (List Int)} {x : List Int} {f k : Nat} {p : List Int} (h0 : (frmI m 31 p).length ≠ 0) (h : ¬ 15 < (frmI m 31 p).length) : ordS m x (f + 1) k p = ordS m x f (k + 1) (actW m x p) := by
  conv => lhs; unfold ordS
  rw [if_neg h0, if_neg h]
end Go.Proofs.Ytfjeghalkmkgoaa
namespace Go.Proofs.Ytfjeghalkmkgoaa
open Go.RowKit

def zer4 (l : List Int) : List Int := List.replicate (4 - l.length) 0
theorem pad4_zer {l : List Int} (h : l.length ≤ 4) : pad4 l = l ++ zer4 l := by
  unfold zer4
  rcases len4 h with e | ⟨a, e⟩ | ⟨a, b, e⟩ | ⟨a, b, c, e⟩ | ⟨a, b, c, d, e⟩ <;> subst e <;> rfl
/-- The block g is an array of four that holds the row, padded. -/
def Im4 (w : World) (g : Nat) (l : List Int) : Prop := w.heap[g]? = some (.cells (intsV (pad4 l)).toArray 50 (0, 0))
theorem Im4.lt {w : World} {g : Nat} {l : List Int} (h : Im4 w g l) : g < w.heap.size := (Array.getElem?_eq_some_iff.1 h).1
theorem Im4.cell {w : World} {b : Nat} {l : List Int} (h : Im4 w b l) {a0 a1 a2 a3 : Int} (hp : pad4 l = [a0, a1, a2, a3]) :
    w.cell? ⟨b, 0, none⟩ = some (.int .i64 a0) ∧ w.cell? ⟨b, 1, none⟩ = some (.int .i64 a1) ∧ w.cell? ⟨b, 2, none⟩ = some (.int .i64 a2) ∧ w.cell? ⟨b, 3, none⟩ = some (.int .i64 a3) := by
  unfold Im4 at h
  rw [hp] at h
  exact ⟨by rw [cell_of_row _ b 0 _ _ _ h]; rfl, by rw [cell_of_row _ b 1 _ _ _ h]; rfl, by rw [cell_of_row _ b 2 _ _ _ h]; rfl, by rw [cell_of_row _ b 3 _ _ _ h]; rfl⟩
theorem Im4.at {w : World} {b : Nat} {l : List Int} (h : Im4 w b l) {k : Nat} (hk : k < 4) : w.cell? ⟨b, k, none⟩ = some (.int .i64 (l.getD k 0)) := by
  rw [cell_of_row _ b k _ _ _ h]
  have := pad4_get (l := l) hk
  simp [intsV, this]
theorem Im4.frozen {w : World} {b : Nat} {l : List Int} (h : Im4 w b l) (j : Nat) : w.frozen? ⟨b, j, none⟩ = false := frozen_of_row w b j _ _ h
theorem Im4.kept {w w' : World} {b : Nat} {l : List Int} {S : Option Nat} (h : Im4 w b l) (hg : w.grownBy w' S) (hne : some b ≠ S) : Im4 w' b l :=
  (hg.block b (Array.getElem?_eq_some_iff.1 h).1 hne).trans h
theorem Im4.below {w w' : World} {b B : Nat} {l : List Int} (h : Im4 w b l) (hb : Below B w w') (hB : b < B) : Im4 w' b l := (hb.block b hB).trans h
theorem Im4.new {w : World} {l : List Int} {a0 a1 a2 a3 : Int} (hp : pad4 l = [a0, a1, a2, a3]) : Im4 (w.alloc (.cells #[.int .i64 a0, .int .i64 a1, .int .i64 a2, .int .i64 a3] 50)) w.heap.size l := by
  unfold Im4
  rw [hp]
  exact (MapKept.heap_alloc w _).1
theorem Im4.rowF {w : World} {A g : Nat} {l : List Int} (h : Im4 w g l) (hl : l.length ≤ 4) (hA : A ≤ g) : RowF 50 A w g 4 l (zer4 l) := by
  have hz : l.length + (zer4 l).length = 4 := by unfold zer4; rw [List.length_replicate]; omega
  unfold Im4 at h
  rw [pad4_zer hl] at h
  refine ⟨by rw [intsV_len, List.length_append]; omega, .inr ⟨g, 4, _, rfl, hA, h, by omega, by unfold maxLen; omega, by simp [intsV_len, hz], ?_⟩⟩
  rw [hz]
  have e : (intsV (l ++ zer4 l)).length = 4 := by rw [intsV_len, List.length_append]; exact hz
  exact List.take_of_length_le (by show (intsV (l ++ zer4 l)).length ≤ _; omega)
theorem RowF.im4 {w : World} {A g : Nat} {l z : List Int} (h : RowF 50 A w g 4 l z) (hz : l.length + z.length = 4) (hp : pad4 l = l ++ z) : Im4 w g l := by
  unfold RowF at h
  rw [hz] at h
  rcases h.2 with ⟨h', _⟩ | ⟨g', cap', cur, h1, h2, h3, h4, h5, h6, h7⟩
  · simp at h'
  · simp only [Value.slice.injEq, Option.some.injEq, Addr.mk.injEq, and_true, true_and] at h1
    obtain ⟨rfl, rfl⟩ := h1
    unfold Im4
    rw [h3, hp]
    have e : cur.toList = intsV (l ++ z) := by
      rw [← h7]
      exact (List.take_of_length_le (by simp; omega)).symm
    rw [← e]
set_option maxRecDepth 100000 in
theorem slice_im (b L : Nat) (h : L ≤ 4) (w : World) : (Instr.sliceAt 50 (.pointer (some ⟨b, 0, none⟩)) none (some (.int .i64 L)) none).run Try.prog w = .ok (.slice (some ⟨b, 0, none⟩) L 4) w := by
  have hA : Try.prog.underlying 50 = some (.array (Try.prog.arrayLen 50) (Try.prog.elem 50)) := by kernel_rfl
  have h4 : Try.prog.arrayLen 50 = 4 := by kernel_rfl
  have he : Try.prog.elem 50 = 3 := by kernel_rfl
  rw [run_sliceAt_array_h w 50 ⟨b, 0, none⟩ hA .i64 L (by omega) (by rw [h4]; omega), he, h4]
  have hs : (sizeOf 3).run Try.prog w = .ok 1 w := by rfl
  rw [hs]
  simp [slicedAt, Addr.add]
set_option maxRecDepth 100000 in
theorem slice_im_all (b : Nat) (w : World) : (Instr.sliceAt 50 (.pointer (some ⟨b, 0, none⟩)) none none none).run Try.prog w = .ok (.slice (some ⟨b, 0, none⟩) 4 4) w := by
  have hA : Try.prog.underlying 50 = some (.array (Try.prog.arrayLen 50) (Try.prog.elem 50)) := by kernel_rfl
  have h4 : Try.prog.arrayLen 50 = 4 := by kernel_rfl
  have he : Try.prog.elem 50 = 3 := by kernel_rfl
  rw [run_sliceAt_array_all w 50 ⟨b, 0, none⟩ hA, he, h4]
  have hs : (sizeOf 3).run Try.prog w = .ok 1 w := by rfl
  rw [hs]
  simp [slicedAt, Addr.add]
set_option maxHeartbeats 1000000 in
set_option maxRecDepth 100000 in
theorem acim_any (B g : Nat) (v v1 : Value) (m : List (List Int)) (ws l : List Int) (w : World) (h : MatB B w v m) (h1 : RowN g w.heap.size w v1 ws) (h2 : Im4 w g l) (hBg : B ≤ g) (hI : IsC m) (hW : LetTo m.length ws ws.length) (hws : ws.length ≤ 1048576) (hll : l.length = m.length) :
    Calls Try.prog 64 #[.pointer (some ⟨g, 0, none⟩), v, v1] w fun e' w' => e' = .returned (.tuple #[]) ∧ Im4 w' g (actW m ws l) ∧ w.grownBy w' (some g) := by
  have hn4 := hI.2.2.2
  have HAP := Lib.hid ((aplw_any 50 B B g 4 4 v v1 m ws l (zer4 l) w h h1 (h2.rowF (by omega) hBg) (Nat.le_refl _) hI hW hws hll).mono (R' := fun e' w' => e' = .returned (.tuple #[]) ∧ Im4 w' g (actW m ws l) ∧ w.grownBy w' (some g)) fun e w' ⟨q1, q2, q3⟩ => by
    have e1 : (actW m ws l).length = l.length := actW_len m ws l
    have e2 : zer4 l = zer4 (actW m ws l) := by unfold zer4; rw [e1]
    refine ⟨q1, q2.im4 (by unfold zer4; rw [List.length_replicate, e1]; omega) ?_, q3⟩
    rw [e2]; exact pad4_zer (by omega))
  have hsl := fun wx => slice_im g m.length hn4 wx
  obtain ⟨a, cap, rfl⟩ := h.slice
  clear h h1 h2 hI hW hll
  generalize m.length = n at *
  generalize actW m ws l = R at *
  go_enter Try.func64, Try.ntmps64
  go_wp2_with fail
  refine HAP.out.mono ?_
  rintro e w1 ⟨rfl, q1, q2⟩
  have H1 := Lib.hid q1; have H2 := Lib.hid q2
  clear q1 q2
  go_wp2_with fail
  go_end0
  exact ⟨rfl, H1.out, H2.out⟩
theorem dnsK_pad {l : List Int} : ∀ k, l.length ≤ k → dnsK l k = dnsK l l.length
  | 0, h => by rw [show l.length = 0 by omega]
  | k + 1, h => by
    rcases Nat.lt_or_ge k l.length with h1 | h1
    · rw [show k + 1 = l.length by omega]
    · rw [← dnsK_no (by have : l.getD k 0 = 0 := by { simp [List.getD, h1] }; omega)]
      exact dnsK_pad k h1
set_option maxHeartbeats 2000000 in
set_option maxRecDepth 100000 in
theorem desc_any (g : Nat) (l : List Int) (w : World) (h : Im4 w g l) (hl : l.length ≤ 4) :
    Calls Try.prog 57 #[.pointer (some ⟨g, 0, none⟩)] w (MakesS w (dnsK l l.length)) := by
  rw [← dnsK_pad 4 hl]
  have HG := Lib.hid h
  have hgw := h.lt
  have HDY := Lib.hid (fun k h => dnsK_yes (l := l) (k := k) h)
  have HDN := Lib.hid (fun k h => dnsK_no (l := l) (k := k) h)
  have HDL := Lib.hid (fun k => dnsK_len l k)
  have H0 := Lib.hid (show RowI w.heap.size w.heap.size w (.slice none 0 0) (dnsK l 0) from RowI.nil' _ _ _)
  have HRF := Lib.hid (Below.refl w.heap.size w)
  clear h
  go_enter Try.func57, Try.ntmps57
  go_wp2_with fail
  go_loopw [3, 7] (fun o i wr => ∃ (k : Nat) (wq : World), wq = wr ∧ k ≤ 4 ∧ i = .int .i64 k ∧ RowI w.heap.size wq.heap.size wq o (dnsK l k) ∧ Below w.heap.size w wq) (fun _ i _ => 4 - (intOf i).toNat)
  case atStart => exact ⟨0, _, rfl, Nat.zero_le _, rfl, H0.out, HRF.out⟩
  case round =>
    obtain ⟨k, wq, rfl, hk, rfl, hM, hb⟩ := hrel
    have HM := Lib.hid hM; have HB := Lib.hid hb
    have hsq := hb.size
    have hx4 := fun (hlt : k < 4) => (HG.out.below hb hgw).at hlt
    clear hM hb
    by_cases hlt : k < 4
    · have hd : decide ((k : Int) < 4) = true := decide_eq_true (by omega)
      have hx := hx4 hlt
      clear hx4
      by_cases hp : l.getD k 0 < 0
      · have hd2 : decide (l.getD k 0 < 0) = true := decide_eq_true hp
        have HS := Lib.hid (HDY.out k hp)
        have HRL := Lib.hid (show (dnsK l k).length ≤ 4194304 from by have := HDL.out k; omega)
        generalize l.getD k 0 = y at *
        have HMD := Lib.hid (show RowI w.heap.size wq.drew.heap.size wq.drew _ (dnsK l k) from HM.out)
        have HBD := Lib.hid (HB.out.trans ((below_drewN (w := wq) 1).mono hsq))
        have hsqd : w.heap.size ≤ wq.drew.heap.size := hsq
        go_wp2_with fail
        go_region
        go_wp2_with (at_builtin; go_must (refine append_intP HMD.out hsqd rfl (k : Int) rfl rfl rfl rfl HRL.out ?_; intro v6 w6 hr6 hg6 hl6))
        rw [HS.out] at hr6
        have HM6 := Lib.hid hr6
        have HB6 := Lib.hid (HBD.out.grown hg6 hsqd (fun j hj => (HMD.out.1.lt j hj).1))
        clear hr6 hg6 hl6
        go_wp2_with fail
        exact ⟨⟨k + 1, _, rfl, by omega, by go_num, HM6.out, HB6.out⟩, by simp [intOf]; omega⟩
      · have hd2 : decide (l.getD k 0 < 0) = false := decide_eq_false hp
        have hs := HDN.out k (by omega)
        have HMS := Lib.hid (show RowI w.heap.size wq.heap.size wq _ (dnsK l (k + 1)) from hs ▸ HM.out)
        clear hs
        generalize l.getD k 0 = y at *
        have HMD := Lib.hid (show RowI w.heap.size wq.drew.heap.size wq.drew _ (dnsK l (k + 1)) from HMS.out)
        have HBD := Lib.hid (HB.out.trans ((below_drewN (w := wq) 1).mono hsq))
        go_wp2_with fail
        go_region
        go_wp2_with fail
        exact ⟨⟨k + 1, _, rfl, by omega, by go_num, HMD.out, HBD.out⟩, by simp [intOf]; omega⟩
    · obtain rfl : k = 4 := by omega
      clear hx4
      go_wp2_with fail
      go_ret
      exact ⟨_, rfl, ⟨HM.out, Nat.le_refl _⟩, HB.out⟩
end Go.Proofs.Ytfjeghalkmkgoaa
