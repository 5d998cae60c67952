/-
  Lengths, as lists: images of the ones don't wrap; the greedy way down gives a word of the right length that leads back (no walk here).
  Lengths: what the model's functions of chapter 8 answer, by reflections with wraps (no walk here).
  Lengths: a word and its reverse have the same length; the greedy word is the least of its element (no walk here).
-/
import Derived.Test.YtbmghddmilgngaaEz07
import Derived.Test.YtbmghddmilgngaaEz04
import Derived.Test.YtbmghddmilgngaaEz03
namespace Go.Proofs.Ytbmghddmilgngaa
open Go.RowKit

/-! ### Lists as vectors: ones beyond the end -/
def vecW (l : List Int) : Nat → Int := fun t => l.getD t 1
theorem vecW_in {l : List Int} {t : Nat} (h : t < l.length) : vecW l t = l.getD t 0 := by
  simp [vecW, List.getD, h]
theorem vecW_out {l : List Int} {t : Nat} (h : l.length ≤ t) : vecW l t = 1 := by
  simp [vecW, List.getD, h]
theorem vecW_inj {a b : List Int} (h : a.length = b.length) (e : vecW a = vecW b) : a = b := by
  refine List.ext_getElem h fun i h1 h2 => ?_
  have := congrFun e i
  simpa [vecW, List.getD, h1, h2] using this
theorem vecW_ones (n : Nat) : vecW (onesR n) = onesV := by
  funext t
  unfold vecW onesR onesV
  rcases Nat.lt_or_ge t n with h | h <;> simp [List.getD, h]
theorem entry_out {m : List (List Int)} {t i : Nat} (h : m.length ≤ t) : entry m t i = 0 := by
  unfold entry; simp [List.getD, h]
def Big (l : List Int) (k : Nat) : Prop := ∀ t, t < l.length → -(4 ^ k : Int) ≤ l.getD t 0 ∧ l.getD t 0 ≤ 4 ^ k
theorem pow4_le {k : Nat} (h : k ≤ 30) : (4 : Int) ^ k ≤ 1152921504606846976 := by
  have h1 : (4 : Nat) ^ k ≤ 4 ^ 30 := Nat.pow_le_pow_right (by omega) h
  have h2 : ((4 : Nat) ^ k : Nat) ≤ 1152921504606846976 := Nat.le_trans h1 (by decide)
  have e : ((4 ^ k : Nat) : Int) = (4 : Int) ^ k := Int.natCast_pow 4 k
  rw [← e]
  generalize (4 : Nat) ^ k = q at *
  omega
theorem wrap_mid {x : Int} (h : -9223372036854775808 ≤ x ∧ x ≤ 9223372036854775807) : wrap64 x = x := by unfold wrap64; omega
theorem reflE_mid {m : List (List Int)} (hC : IsC m) {i k t : Nat} {l : List Int} (hi : i < m.length) (hl : l.length = m.length) (hb : Big l k) (hk : k ≤ 30) (ht : t < m.length) : reflE m i l t = l.getD t 0 - l.getD i 0 * entry m t i ∧ -(4 ^ (k + 1) : Int) ≤ reflE m i l t ∧ reflE m i l t ≤ 4 ^ (k + 1) := by
  have h1 := hb t (by omega)
  have h2 := hb i (by omega)
  have h3 := pow4_le hk
  have h4 := ent_in hC ht hi
  have hp : (4 : Int) ^ (k + 1) = 4 * 4 ^ k := by rw [Int.pow_succ, Int.mul_comm]
  rw [hp]
  unfold reflE
  by_cases hti : t = i
  · subst hti
    have hd := (gcm_of hC).diag t hi
    rw [hd]
    generalize l.getD t 0 = x at *
    generalize (4 : Int) ^ k = P at *
    have e1 : mulW x 2 = x * 2 := wrap_mid (by omega)
    rw [e1]
    have e2 : subW x (x * 2) = x - x * 2 := wrap_mid (by omega)
    rw [e2]; omega
  · have ho := (gcm_of hC).off t i ht hi hti
    generalize l.getD t 0 = x at *
    generalize l.getD i 0 = y at *
    generalize (4 : Int) ^ k = P at *
    generalize entry m t i = a at *
    have hc : a = -3 ∨ a = -2 ∨ a = -1 ∨ a = 0 := by omega
    rcases hc with rfl | rfl | rfl | rfl
    all_goals
      unfold mulW
      rw [wrap_mid (by omega)]
      unfold subW
      rw [wrap_mid (by omega)]
      omega
theorem reflL_big {m : List (List Int)} (hC : IsC m) {i k : Nat} {l : List Int} (hi : i < m.length) (hl : l.length = m.length) (hb : Big l k) (hk : k ≤ 30) : vecW (reflL m i l) = rfC (entry m) i (vecW l) ∧ Big (reflL m i l) (k + 1) := by
  have hget : ∀ t, t < m.length → (reflL m i l).getD t 0 = reflE m i l t := fun t ht => by
    unfold reflL reflK; simp [List.getD, hl, ht]
  refine ⟨?_, fun t ht => ?_⟩
  · funext t
    simp only [rfC, addC]
    rw [vecW_in (l := l) (t := i) (by omega)]
    rcases Nat.lt_or_ge t m.length with ht | ht
    · rw [vecW_in (by rw [reflL_len]; omega), vecW_in (by omega), hget t ht, (reflE_mid hC hi hl hb hk ht).1, Int.neg_mul]; omega
    · rw [vecW_out (by rw [reflL_len]; omega), vecW_out (by omega), entry_out ht]; omega
  · rw [reflL_len] at ht
    rw [hget t (by omega)]
    exact (reflE_mid hC hi hl hb hk (by omega)).2
theorem big_ones (n : Nat) : Big (onesR n) 0 := fun t ht => by
  unfold onesR at ht ⊢
  simp at ht
  simp [List.getD, ht]
/-! ### The image of a word -/
def imgN (m : List (List Int)) (ws : List Nat) : List Int := ws.foldr (fun i l => reflL m i l) (onesR m.length)
theorem imgN_len (m : List (List Int)) (ws : List Nat) : (imgN m ws).length = m.length := by
  induction ws with
  | nil => simp [imgN, onesR]
  | cons i ws ih => simp only [imgN, List.foldr_cons] at ih ⊢; rw [reflL_len]; exact ih
theorem imgN_vec {m : List (List Int)} (hC : IsC m) : ∀ ws : List Nat, (∀ i ∈ ws, i < m.length) → ws.length ≤ 31 → vecW (imgN m ws) = ws.foldr (rfC (entry m)) onesV ∧ Big (imgN m ws) ws.length
  | [], _, _ => ⟨vecW_ones _, big_ones _⟩
  | i :: ws, h, hl => by
    have ih := imgN_vec hC ws (fun k hk => h k (List.mem_cons_of_mem _ hk)) (by simp at hl; omega)
    have hr := reflL_big hC (h i (List.mem_cons_self ..)) (imgN_len m ws) ih.2 (by simp at hl; omega)
    rw [ih.1] at hr
    exact hr
/-! ### The way down -/
def firstDown : List Int → Nat
  | [] => 0
  | x :: l => if 0 < x then firstDown l + 1 else 0
theorem firstDown_le : ∀ l : List Int, firstDown l ≤ l.length
  | [] => Nat.le_refl _
  | x :: l => by
    have := firstDown_le l
    simp only [firstDown, List.length_cons]
    by_cases h : 0 < x
    · rw [if_pos h]; omega
    · rw [if_neg h]; omega
theorem firstDown_up : ∀ (l : List Int) (t : Nat), t < firstDown l → 0 < l.getD t 0
  | [], _, h => absurd h (Nat.not_lt_zero _)
  | x :: l, t, h => by
    simp only [firstDown] at h
    by_cases hx : 0 < x
    · rw [if_pos hx] at h
      cases t with
      | zero => simpa using hx
      | succ t => simpa using firstDown_up l t (by omega)
    · rw [if_neg hx] at h; exact absurd h (Nat.not_lt_zero _)
theorem firstDown_at : ∀ l : List Int, firstDown l < l.length → l.getD (firstDown l) 0 ≤ 0
  | [], h => absurd h (Nat.not_lt_zero _)
  | x :: l, h => by
    simp only [firstDown] at h ⊢
    by_cases hx : 0 < x
    · rw [if_pos hx] at h ⊢
      simpa using firstDown_at l (by simpa using h)
    · rw [if_neg hx]; simp; omega
/-- The least reduced word, in at most k rounds. -/
def formN (m : List (List Int)) : Nat → List Int → List Nat
  | 0, _ => []
  | k + 1, l => if firstDown l = l.length then [] else firstDown l :: formN m k (reflL m (firstDown l) l)
theorem formN_in (m : List (List Int)) : ∀ (k : Nat) (l : List Int), ∀ i ∈ formN m k l, i < l.length
  | 0, _, _, h => absurd h (by simp [formN])
  | k + 1, l, i, h => by
    simp only [formN] at h
    by_cases hf : firstDown l = l.length
    · rw [if_pos hf] at h; exact absurd h (by simp)
    · rw [if_neg hf] at h
      have := firstDown_le l
      rcases List.mem_cons.1 h with e | hm
      · omega
      · have := formN_in m k _ i hm
        rw [reflL_len] at this; exact this
/-- The ones alone have nothing below. -/
theorem dn_top {n : Nat} {A : Nat → Nat → Int} {v : Nat → Int} {L : Nat} {f : (Nat → Int) → Nat → Int} (h : Dn n A v L f) (hp : ∀ t, t < n → 0 < v t) : v = onesV ∧ L = 0 ∧ f = id := by
  cases h with
  | zero => exact ⟨rfl, rfl, rfl⟩
  | step _ i L f hi hv hU => have := hp i hi; omega
/-- A vector that goes down in L steps has numbers of at most four to the L. -/
theorem dn_big {n : Nat} {A : Nat → Nat → Int} (g : Gcm n A) {v : Nat → Int} {L : Nat} {f : (Nat → Int) → Nat → Int} (h : Dn n A v L f) : ∀ t, t < n → -(4 ^ L : Int) ≤ v t ∧ v t ≤ 4 ^ L := by
  induction h with
  | zero => intro t _; simp [onesV]
  | step v i L f hi hv hU ih =>
    intro t ht
    have h1 := ih t ht
    have h2 := ih i hi
    have hp : (4 : Int) ^ (L + 1) = 4 * 4 ^ L := by rw [Int.pow_succ, Int.mul_comm]
    rw [hp]
    rw [rfC_at (g.diag i hi)] at h2
    simp only [rfC, addC] at h1
    by_cases hti : t = i
    · subst hti
      generalize (4 : Int) ^ L = P at *
      omega
    · have ho := g.off t i ht hi hti
      generalize v t = x at *
      generalize v i = y at *
      generalize (4 : Int) ^ L = P at *
      generalize A t i = a at *
      have hc : a = -3 ∨ a = -2 ∨ a = -1 ∨ a = 0 := by omega
      rcases hc with rfl | rfl | rfl | rfl <;> omega
theorem dn_Big {m : List (List Int)} (hC : IsC m) {l : List Int} {L : Nat} {f : (Nat → Int) → Nat → Int} (hl : l.length = m.length) (h : Dn m.length (entry m) (vecW l) L f) : Big l L := fun t ht => by
  have := dn_big (gcm_of hC) h t (by omega)
  rw [vecW_in ht] at this; exact this
theorem form_dn {m : List (List Int)} (hC : IsC m) : ∀ (k L : Nat) (l : List Int) (f : (Nat → Int) → Nat → Int), l.length = m.length → L ≤ 30 → L < k → Dn m.length (entry m) (vecW l) L f → (formN m k l).length = L ∧ f = fun z => (formN m k l).foldr (rfC (entry m)) z
  | 0, _, _, _, _, _, h, _ => absurd h (Nat.not_lt_zero _)
  | k + 1, L, l, f, hl, hB, hk, hD => by
    have hb := dn_Big hC hl hD
    simp only [formN]
    have hle := firstDown_le l
    by_cases hf : firstDown l = l.length
    · rw [if_pos hf]
      have h := dn_top hD (fun t ht => by
        rw [vecW_in (by omega)]
        exact firstDown_up l t (by omega))
      exact ⟨h.2.1.symm, h.2.2⟩
    · rw [if_neg hf]
      have hi : firstDown l < m.length := by omega
      have h0 := firstDown_at l (by omega)
      have hv := vecW_in (l := l) (t := firstDown l) (by omega)
      have hne := dn_ne (gcm_of hC) hD hi
      generalize firstDown l = i at *
      obtain ⟨L', rfl, h'⟩ := dn_down (gcm_of hC) hD hi (by omega)
      have hr := reflL_big hC hi hl hb hB
      rw [← hr.1] at h'
      have ih := form_dn hC k L' _ _ (by rw [reflL_len]; exact hl) (by omega) (by omega) h'
      refine ⟨by simp [ih.1], ?_⟩
      funext z
      have h2 := congrFun ih.2 z
      simp only [List.foldr_cons]
      rw [← h2, rfC_twice ((gcm_of hC).diag i hi)]
end Go.Proofs.Ytbmghddmilgngaa
namespace Go.Proofs.Ytbmghddmilgngaa
open Go.RowKit

def imgW (m : List (List Int)) (ws : List Int) : List Int := actW m ws (onesR m.length)
theorem imgW_len (m : List (List Int)) (ws : List Int) : (imgW m ws).length = m.length := by unfold imgW; rw [actW_len]; simp [onesR]
def frmI (m : List (List Int)) (k : Nat) (l : List Int) : List Int := (formN m k l).map fun (i : Nat) => (i : Int)
theorem frmI_zero (m : List (List Int)) (l : List Int) : frmI m 0 l = [] := rfl
theorem frmI_end {m : List (List Int)} {k : Nat} {l : List Int} (h : firstDown l = l.length) : frmI m k l = [] := by
  cases k with
  | zero => rfl
  | succ k => unfold frmI formN; rw [if_pos h]; rfl
theorem frmI_step {m : List (List Int)} {k : Nat} {l : List Int} (h : firstDown l ≠ l.length) : frmI m (k + 1) l = (firstDown l : Int) :: frmI m k (reflL m (firstDown l) l) := by
  unfold frmI
  simp only [formN]
  rw [if_neg h]; rfl
theorem frmI_len (m : List (List Int)) : ∀ (k : Nat) (l : List Int), (frmI m k l).length ≤ k
  | 0, _ => Nat.le_refl _
  | k + 1, l => by
    by_cases h : firstDown l = l.length
    · rw [frmI_end h]; simp
    · rw [frmI_step h]; have := frmI_len m k (reflL m (firstDown l) l); simp; omega
/-- How far the search for a descent is: the k-th number is positive, and all before. -/
def UpTo (l : List Int) (k : Nat) : Prop := k ≤ firstDown l
theorem upTo_step {l : List Int} {k : Nat} (h : UpTo l k) (hk : k < l.length) (hp : 0 < l.getD k 0) : UpTo l (k + 1) := by
  unfold UpTo at h ⊢
  rcases Nat.lt_or_ge k (firstDown l) with h' | h'
  · exact h'
  · have e : firstDown l = k := by omega
    have := firstDown_at l (by omega)
    rw [e] at this
    omega
theorem upTo_stop {l : List Int} {k : Nat} (h : UpTo l k) (_hk : k < l.length) (hp : l.getD k 0 ≤ 0) : firstDown l = k := by
  unfold UpTo at h
  rcases Nat.lt_or_ge k (firstDown l) with h' | h'
  · have := firstDown_up l k h'; omega
  · omega
theorem upTo_end {l : List Int} {k : Nat} (h : UpTo l k) (hk : k = l.length) : firstDown l = l.length := by
  unfold UpTo at h
  have := firstDown_le l
  omega
noncomputable def nrmL (m : List (List Int)) (ws : List Int) : List Int := if wordB m ws = true then frmI m 31 (imgW m ws) else []
theorem nrmL_yes {m : List (List Int)} {ws : List Int} (h : IsW m ws) : nrmL m ws = frmI m 31 (imgW m ws) := if_pos (wordB_yes h)
theorem nrmL_no {m : List (List Int)} {ws : List Int} (h : ¬ IsW m ws) : nrmL m ws = [] := by unfold nrmL; rw [wordB_no h]; rfl
theorem nrmL_len (m : List (List Int)) (ws : List Int) : (nrmL m ws).length ≤ 31 := by
  by_cases h : IsW m ws
  · rw [nrmL_yes h]; exact frmI_len _ _ _
  · rw [nrmL_no h]; simp
/-- The descents: the letters at whose places the image is negative. -/
def dnsK (l : List Int) (k : Nat) : List Int := ((List.range k).filter fun (i : Nat) => decide (l.getD i 0 < 0)).map fun (i : Nat) => (i : Int)
theorem dnsK_yes {l : List Int} {k : Nat} (h : l.getD k 0 < 0) : dnsK l k ++ [(k : Int)] = dnsK l (k + 1) := by
  unfold dnsK
  rw [List.range_succ, List.filter_append, List.map_append]
  rw [show (List.filter (fun (i : Nat) => decide (l.getD i 0 < 0)) [k]) = [k] from by rw [List.filter_cons, if_pos (decide_eq_true h)]; rfl]
  rfl
theorem dnsK_no {l : List Int} {k : Nat} (h : ¬ l.getD k 0 < 0) : dnsK l k = dnsK l (k + 1) := by
  unfold dnsK
  rw [List.range_succ, List.filter_append, List.map_append]
  rw [show (List.filter (fun (i : Nat) => decide (l.getD i 0 < 0)) [k]) = [] from by rw [List.filter_cons, if_neg (by simpa using h)]; rfl]
  simp
theorem dnsK_len (l : List Int) (k : Nat) : (dnsK l k).length ≤ k := by
  unfold dnsK
  rw [List.length_map]
  have := List.length_filter_le (fun (i : Nat) => decide (l.getD i 0 < 0)) (List.range k)
  rw [List.length_range] at this
  exact this
end Go.Proofs.Ytbmghddmilgngaa
namespace Go.Proofs.Ytbmghddmilgngaa
open Go.RowKit

/-- Letters of 0 to n - 1. -/
def InN (n : Nat) (ws : List Nat) : Prop := ∀ i ∈ ws, i < n
def mapN (A : Nat → Nat → Int) (ws : List Nat) (z : Nat → Int) : Nat → Int := ws.foldr (rfC A) z
theorem mapN_append (A : Nat → Nat → Int) (a b : List Nat) (z : Nat → Int) : mapN A (a ++ b) z = mapN A a (mapN A b z) := by
  unfold mapN; rw [List.foldr_append]
theorem dn_path {n : Nat} {A : Nat → Nat → Int} (g : Gcm n A) {v : Nat → Int} {L : Nat} {f : (Nat → Int) → Nat → Int} (h : Dn n A v L f) : ∃ x : List Nat, x.length = L ∧ InN n x ∧ f = mapN A x ∧ v = mapN A x onesV := by
  induction h with
  | zero => exact ⟨[], rfl, fun _ h => absurd h (by simp), rfl, rfl⟩
  | step v i L f hi hv hU ih =>
    obtain ⟨x, h1, h2, h3, h4⟩ := ih
    refine ⟨i :: x, by simp [h1], fun k hk => ?_, ?_, ?_⟩
    · rcases List.mem_cons.1 hk with e | hm
      · rw [e]; exact hi
      · exact h2 k hm
    · rw [h3]; rfl
    · rw [← rfC_twice (g.diag i hi) v, h4]; rfl
theorem map_rev {n : Nat} {A : Nat → Nat → Int} (g : Gcm n A) : ∀ (ws : List Nat), InN n ws → ∀ z, mapN A ws.reverse (mapN A ws z) = z
  | [], _, _ => rfl
  | i :: ws, h, z => by
    rw [List.reverse_cons, mapN_append]
    have e : mapN A [i] (mapN A (i :: ws) z) = mapN A ws z := rfC_twice (g.diag i (h i (List.mem_cons_self ..))) _
    rw [e]; exact map_rev g ws (fun k hk => h k (List.mem_cons_of_mem _ hk)) z
theorem inN_rev {n : Nat} {ws : List Nat} (h : InN n ws) : InN n ws.reverse := fun i hi => h i (List.mem_reverse.1 hi)
theorem rev_same {n : Nat} {A : Nat → Nat → Int} (g : Gcm n A) {a b : List Nat} (ha : InN n a) (hb : InN n b) (h : ∀ z, mapN A a z = mapN A b z) (z : Nat → Int) : mapN A a.reverse z = mapN A b.reverse z := by
  have h1 := map_rev g b.reverse (inN_rev hb) z
  rw [List.reverse_reverse] at h1
  conv => lhs; rw [← h1]
  rw [← h, map_rev g a ha]
/-- The number of steps of a word. -/
def Len (n : Nat) (A : Nat → Nat → Int) (ws : List Nat) (L : Nat) : Prop := Dn n A (mapN A ws onesV) L (mapN A ws)
theorem len_has {n : Nat} {A : Nat → Nat → Int} (g : Gcm n A) {ws : List Nat} (h : InN n ws) : ∃ L, Len n A ws L ∧ L ≤ ws.length ∧ L % 2 = ws.length % 2 := dn_word g ws h
theorem len_one {n : Nat} {A : Nat → Nat → Int} (g : Gcm n A) {ws : List Nat} {L L' : Nat} (h : Len n A ws L) (h' : Len n A ws L') : L = L' := (dn_one g h h').1
theorem len_same {n : Nat} {A : Nat → Nat → Int} {a b : List Nat} {L : Nat} (h : Len n A a L) (e : ∀ z, mapN A a z = mapN A b z) : Len n A b L := by
  have e' : mapN A a = mapN A b := funext e
  unfold Len at h ⊢
  rw [e'] at h; exact h
/-- No word of the same element is shorter. -/
theorem len_least {n : Nat} {A : Nat → Nat → Int} (g : Gcm n A) {a b : List Nat} {L : Nat} (hb : InN n b) (h : Len n A a L) (e : ∀ z, mapN A a z = mapN A b z) : L ≤ b.length := by
  obtain ⟨L', h1, h2, _⟩ := len_has g hb
  have := len_one g (len_same h e) h1
  omega
theorem len_rev {n : Nat} {A : Nat → Nat → Int} (g : Gcm n A) {ws : List Nat} (hw : InN n ws) {L L' : Nat} (h : Len n A ws L) (h' : Len n A ws.reverse L') : L = L' := by
  have half : ∀ (a : List Nat), InN n a → ∀ M M', Len n A a M → Len n A a.reverse M' → M' ≤ M := fun a ha M M' h1 h2 => by
    obtain ⟨x, x1, x2, x3, _⟩ := dn_path g h1
    have := len_least g (inN_rev x2) h2 (rev_same g ha x2 (fun z => congrFun x3 z))
    simp at this; omega
  have h1 := half ws hw L L' h h'
  have h2 := half ws.reverse (inN_rev hw) L' L h' (by rw [List.reverse_reverse]; exact h)
  omega
/-- One more letter in front: up where the image is positive there, else down. -/
theorem len_front {n : Nat} {A : Nat → Nat → Int} (g : Gcm n A) {ws : List Nat} {i L K : Nat} (hi : i < n) (h : Len n A ws L) (h' : Len n A (i :: ws) K) : mapN A ws onesV i ≠ 0 ∧ (0 < mapN A ws onesV i → K = L + 1) ∧ (mapN A ws onesV i < 0 → L = K + 1) := by
  refine ⟨dn_ne g h hi, fun hp => ?_, fun hp => ?_⟩
  · exact (dn_one g h' (dn_up (g.diag i hi) h hi hp)).1
  · obtain ⟨L', rfl, h2⟩ := dn_down g h hi hp
    have := (dn_one g h' h2).1; omega
/-- One more letter behind: the same by the reverse's image. -/
theorem len_back {n : Nat} {A : Nat → Nat → Int} (g : Gcm n A) {ws : List Nat} (hw : InN n ws) {i L K : Nat} (hi : i < n) (h : Len n A ws L) (h' : Len n A (ws ++ [i]) K) : mapN A ws.reverse onesV i ≠ 0 ∧ (0 < mapN A ws.reverse onesV i → K = L + 1) ∧ (mapN A ws.reverse onesV i < 0 → L = K + 1) := by
  obtain ⟨L2, h2, _⟩ := len_has g (inN_rev hw)
  have hwi : InN n (ws ++ [i]) := fun k hk => by
    rcases List.mem_append.1 hk with hm | hm
    · exact hw k hm
    · rw [List.mem_singleton.1 hm]; exact hi
  obtain ⟨K2, k2, _⟩ := len_has g (inN_rev hwi)
  have e1 := len_rev g hw h h2
  have e2 := len_rev g hwi h' k2
  rw [List.reverse_append] at k2
  have := len_front g hi h2 k2
  subst e1 e2
  exact this
/-! ### The greedy word is the least -/
def lexLe : List Nat → List Nat → Prop
  | x :: a, y :: b => x < y ∨ (x = y ∧ lexLe a b)
  | [], _ => True
  | _ :: _, [] => False
theorem form_least {m : List (List Int)} (hC : IsC m) : ∀ (b : List Nat) (k : Nat) (l : List Int), InN m.length b → b.length < k → b.length ≤ 30 → l.length = m.length → vecW l = mapN (entry m) b onesV → Len m.length (entry m) b b.length → lexLe (formN m k l) b
  | b, 0, _, _, h, _, _, _, _ => absurd h (Nat.not_lt_zero _)
  | [], k + 1, l, _, _, _, hl, hv, _ => by
    have e : formN m (k + 1) l = [] := by
      simp only [formN]
      refine if_pos ?_
      have h0 := firstDown_le l
      refine Classical.byContradiction fun hn => ?_
      have h1 := firstDown_at l (by omega)
      have h2 := vecW_in (l := l) (t := firstDown l) (by omega)
      rw [hv] at h2
      have h3 : mapN (entry m) [] onesV (firstDown l) = 1 := rfl
      omega
    rw [e]; exact True.intro
  | i :: b, k + 1, l, hb, hk, h30, hl, hv, hL => by
    have hi := hb i (List.mem_cons_self ..)
    have hb' : InN m.length b := fun j hj => hb j (List.mem_cons_of_mem _ hj)
    have g := gcm_of hC
    have h0 := firstDown_le l
    obtain ⟨M, h1, h2, _⟩ := len_has g hb'
    have hf := len_front g hi h1 hL
    simp only [List.length_cons] at hf h30 hk
    have hup : 0 < mapN (entry m) b onesV i := by
      rcases Int.lt_or_gt_of_ne hf.1 with h | h
      · have := hf.2.2 h; omega
      · exact h
    have hM : M = b.length := by have := hf.2.1 hup; omega
    subst hM
    have hvi : vecW l i = -(mapN (entry m) b onesV i) := by
      rw [hv]; exact rfC_at (g.diag i hi) _
    have hdown : ¬ i < firstDown l := fun h => by
      have h3 := firstDown_up l i h
      rw [← vecW_in (by omega)] at h3; omega
    simp only [formN]
    rw [if_neg (by omega)]
    rcases Nat.lt_or_ge (firstDown l) i with h | h
    · exact Or.inl h
    · have e : firstDown l = i := by omega
      rw [e]
      refine Or.inr ⟨rfl, ?_⟩
      have hB : Big l (b.length + 1) := dn_Big hC hl (by rw [hv]; exact hL)
      have hr := reflL_big hC hi hl hB (by omega)
      refine form_least hC b k _ hb' (by omega) (by omega) (by rw [reflL_len]; exact hl) ?_ h1
      rw [hr.1, hv]; exact rfC_twice (g.diag i hi) _
end Go.Proofs.Ytbmghddmilgngaa
