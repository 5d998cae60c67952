/-
  TypeCartan of the program: what the call returns.
-/
import Derived.RegionTactic
import Derived.ChangeAlike
import Derived.Test.YtppimgkampkfjaaGreatDoorFdg22
namespace Go.Proofs.YtppimgkampkfjaaGreatDoor
open Go.RowKit

def appC (m : List (List Int)) (ch : Chg) : List (List Int) := ch.foldl (fun m c => set2 m c.1 c.2.1 c.2.2) m
theorem appC_step (m : List (List Int)) (ch : Chg) (k : Nat) (h : k < ch.length) : set2 (appC m (ch.take k)) ch[k].1 ch[k].2.1 ch[k].2.2 = appC m (ch.take (k + 1)) := by
  unfold appC
  rw [List.take_succ_eq_append_getElem h, List.foldl_append]
  rfl
theorem appC_len (m : List (List Int)) (ch : Chg) : (appC m ch).length = m.length := by
  induction ch generalizing m with
  | nil => rfl
  | cons c ch ih => exact (ih _).trans (set2_len _ _ _ _)
theorem appC_row (m : List (List Int)) (ch : Chg) (i : Nat) : ((appC m ch).getD i []).length = (m.getD i []).length := by
  induction ch generalizing m with
  | nil => rfl
  | cons c ch ih => exact (ih _).trans (set2_getLen _ _ _ _ _)
theorem chainL_row (n i : Nat) (h : i < n) : ((chainL n).getD i []).length = n := by simp [chainL, chainR, List.getD, h]
theorem flatC_get (ch : Chg) : ∀ (k : Nat) (h : k < ch.length), (flatC ch)[k * 3]? = some (.int .i64 (ch[k].1 : Int)) ∧ (flatC ch)[k * 3 + 1]? = some (.int .i64 (ch[k].2.1 : Int)) ∧ (flatC ch)[k * 3 + 2]? = some (.int .i64 ch[k].2.2) := by
  induction ch with
  | nil => intro k h; simp at h
  | cons c ch ih =>
    intro k h
    cases k with
    | zero => simp [flatC]
    | succ k =>
      obtain ⟨h1, h2, h3⟩ := ih k (by simpa using h)
      have e : flatC (c :: ch) = [.int .i64 (c.1 : Int), .int .i64 (c.2.1 : Int), .int .i64 c.2.2] ++ flatC ch := by simp [flatC]
      rw [e]
      refine ⟨?_, ?_, ?_⟩
      · rw [List.getElem?_append_right (by simp; omega)]; simpa [show (k + 1) * 3 - 3 = k * 3 by omega] using h1
      · rw [List.getElem?_append_right (by simp; omega)]; simpa [show (k + 1) * 3 + 1 - 3 = k * 3 + 1 by omega] using h2
      · rw [List.getElem?_append_right (by simp; omega)]; simpa [show (k + 1) * 3 + 2 - 3 = k * 3 + 2 by omega] using h3
theorem ChAt.slice {w : World} {r : Nat} {v : Value} {ch : Chg} (h : ChAt w r v ch) : ∃ a, v = .slice a ch.length ch.length := by
  rcases h with ⟨rfl, rfl⟩ | ⟨b, _, rfl, _⟩
  · exact ⟨none, rfl⟩
  · exact ⟨_, rfl⟩
theorem ChAt.get {w : World} {r : Nat} {a : Option Addr} {n c : Nat} {ch : Chg} (h : ChAt w r (.slice a n c) ch) {k : Nat} (hk : k < ch.length) :
    ∃ b, a = some ⟨b, 0, none⟩ ∧ b < w.heap.size ∧ w.cell? ⟨b, k * 3, none⟩ = some (.int .i64 (ch[k].1 : Int)) ∧ w.cell? ⟨b, k * 3 + 1, none⟩ = some (.int .i64 (ch[k].2.1 : Int)) ∧ w.cell? ⟨b, k * 3 + 2, none⟩ = some (.int .i64 ch[k].2.2) := by
  rcases h with ⟨rfl, _⟩ | ⟨b, _, h1, h2⟩
  · simp at hk
  · injection h1 with h1
    obtain ⟨h3, h4, h5⟩ := flatC_get ch k hk
    refine ⟨b, h1, (Array.getElem?_eq_some_iff.1 h2).1, ?_, ?_, ?_⟩ <;> rw [cell_of_row w b _ _ _ _ h2] <;> simpa using ‹_›

set_option maxHeartbeats 4000000 in
set_option maxRecDepth 100000 in
theorem tyi_hit (s : ByteArray) (w : World) (i : Nat) (hi : i < shTab.length) (hs : s = ⟨shTab[i].1.toArray⟩) (hd : ∀ k (h : k < i), shTab[k].1 ≠ shTab[i].1) (hn : shTab[i].2.1 < 5) (hch : ∀ c ∈ shTab[i].2.2, c.1 < shTab[i].2.1 ∧ c.2.1 < shTab[i].2.1) (hcl : shTab[i].2.2.length ≤ 4) :
    Calls Tryz.prog 22 #[.string s] w (MakesM2 w (appC (chainL shTab[i].2.1) shTab[i].2.2) (.bool true)) := by
  have hlk : ∀ w r, ShapesAt w r shTab → _ := fun w r hS => look_hit (w := w) (r := r) hS i hi hd
  rw [← hs] at hlk
  generalize shTab[i].2.1 = n at *
  generalize shTab[i].2.2 = ch at *
  have HLK := Lib.hid hlk
  clear hlk hs hd
  generalize hL : ch.length = L at *
  have HL := Lib.hid hL; clear hL
  have HCH := Lib.hid hch; clear hch
  go_enter Tryz.func22, Tryz.ntmps22
  go_wp2_with fail
  refine (shapes_any w).mono ?_
  rintro e w1 ⟨rfl, hS, hb1⟩
  obtain ⟨chv, hat, hlook⟩ := HLK.out w1 w.heap.size hS
  obtain ⟨ca, rfl⟩ := hat.slice
  rw [HL.out] at hat hlook
  have HAT := Lib.hid hat
  have HB1 := Lib.hid hb1
  clear hat hb1 hS
  go_wp2_with fail
  clear hlook
  have hci := chi_any n (w1.alloc (.cells #[.int .i64 n, .slice ca L L] 75)) hn
  refine hci.mono ?_
  clear hci
  rintro e w2 ⟨x1, rfl, ⟨hm2, _⟩, hb2⟩
  have hs1 := HB1.out.size
  have hal : Below w1.heap.size w1 (w1.alloc (.cells #[.int .i64 n, .slice ca L L] 75)) := (Below.refl _ _).alloc (Nat.le_refl _) _
  have hb3 : Below w1.heap.size w1 w2 := hal.trans (hb2.mono hal.size)
  have hfld : w2.cell? ⟨w1.heap.size, 1, none⟩ = some (.slice ca L L) := by
    have h1 : (w1.alloc (.cells #[.int .i64 n, .slice ca L L] 75)).cell? ⟨w1.heap.size, 1, none⟩ = some (.slice ca L L) := by
      rw [World.cell?_alloc_at _ _ _ _ rfl]; rfl
    rw [← h1]
    exact hb2.cell (p := ⟨w1.heap.size, 1, none⟩) (by show w1.heap.size < _; simp)
  have hcl2 := chainL_len n
  obtain ⟨ra, rcap0, rfl⟩ := hm2.slice
  rw [hcl2] at hm2 ⊢
  have hm3 : MatI w1.heap.size w2.heap.size w2 (.slice ra n rcap0) (appC (chainL n) (ch.take 0)) := hm2.mono hal.size (Nat.le_refl _)
  have HM3 := Lib.hid hm3
  have HB3 := Lib.hid hb3
  clear hm2 hm3 hb2 hb3 hal hcl2
  go_wp2_with fail
  clear hfld
  go_loopw [23] (fun i wr => ∃ (k : Nat) (wq : World), wq = wr ∧ k ≤ L ∧ i = .int .i64 k ∧ MatI w1.heap.size wq.heap.size wq (.slice ra n rcap0) (appC (chainL n) (ch.take k)) ∧ Below w1.heap.size w1 wq) (fun i _ => L - (intOf i).toNat)
  case atStart => exact ⟨0, _, rfl, Nat.zero_le _, rfl, HM3.out, HB3.out⟩
  case round =>
    clear HM3 HB3
    obtain ⟨k, wq, rfl, hk, rfl, hM, hb⟩ := hrel
    have HB := Lib.hid hb
    by_cases hlt : k < L
    · have hkl : k < ch.length := by rw [HL.out]; exact hlt
      obtain ⟨b, rfl, hbl, d1, d2, d3⟩ := HAT.out.get hkl
      obtain ⟨hp, hq⟩ := HCH.out ch[k] (List.getElem_mem hkl)
      have hstep := appC_step (chainL n) ch k hkl
      generalize hcp : ch[k].1 = p at *
      generalize hcq : ch[k].2.1 = q at *
      generalize hcx : ch[k].2.2 = x at *
      clear hcp hcq hcx
      have d1' := (hb.cell (p := ⟨b, k * 3, none⟩) hbl).trans d1
      have d2' := (hb.cell (p := ⟨b, k * 3 + 1, none⟩) hbl).trans d2
      have d3' := (hb.cell (p := ⟨b, k * 3 + 2, none⟩) hbl).trans d3
      have hlen : (appC (chainL n) (ch.take k)).length = n := by rw [appC_len, chainL_len]
      have hrow : ((appC (chainL n) (ch.take k)).getD p []).length = n := by rw [appC_row, chainL_row n p hp]
      have hsq := hb.size
      have hbq : Below w1.heap.size w1 (wq.alloc (.cells #[.int .i64 p, .int .i64 q, .int .i64 x] 80)) := hb.alloc hsq _
      have hMq : MatI w1.heap.size (wq.alloc (.cells #[.int .i64 p, .int .i64 q, .int .i64 x] 80)).heap.size (wq.alloc (.cells #[.int .i64 p, .int .i64 q, .int .i64 x] 80)) (.slice ra n rcap0) (appC (chainL n) (ch.take k)) :=
        hM.step ((Below.refl _ _).alloc (Nat.le_refl _) _)
      obtain ⟨g, rfl⟩ : ∃ g, ra = some ⟨g, 0, none⟩ := by
        obtain ⟨g, _, _, h, _⟩ := hMq.put (j := p) (c := q) (by rw [hlen]; exact hp) (by rw [hrow]; exact hq)
        exact ⟨g, h⟩
      obtain ⟨r1, rc1, W1, c1, ⟨y1, c2⟩, f1, e1, hm1, hb1', hz1⟩ := hMq.put2 (j := p) (c := q) (by rw [hlen]; exact hp) (by rw [hrow]; exact hq) x
      rw [hrow] at c1
      rw [hstep] at hm1
      have hM5 : MatI w1.heap.size W1.heap.size W1 (.slice (some ⟨g, 0, none⟩) n rcap0) (appC (chainL n) (ch.take (k + 1))) := by rw [hz1]; exact hm1
      have HM5 := Lib.hid hM5
      have HB5 := Lib.hid (hb1' w1 w1.heap.size (Nat.le_refl _) hbq)
      clear hM5 hm1 hb1' hz1 hbq hM hMq hb d1 d2 d3 hlen hrow hstep
      go_wp2_with fail
      go_region
      all_goals
        go_wp2_with fail
        exact ⟨⟨k + 1, _, rfl, by omega, by go_num, HM5.out, HB5.out.drew⟩, by simp [intOf]; omega⟩
    · obtain rfl : k = L := by omega
      have hM2 := hM
      rw [List.take_of_length_le (by rw [HL.out]; exact Nat.le_refl _)] at hM2
      have HM := Lib.hid hM2
      clear hM hM2 hb
      go_wp2_with fail
      go_ret2
      exact ⟨_, rfl, ⟨HM.out.mono hs1 (Nat.le_refl _), Nat.le_refl _⟩, HB1.out.trans (HB.out.mono hs1)⟩

set_option maxHeartbeats 2000000 in
set_option maxRecDepth 100000 in
theorem tyi_miss (s : ByteArray) (w : World) (hs : Fresh shTab s.data.toList) :
    Calls Tryz.prog 22 #[.string s] w (MakesM2 w [] (.bool false)) := by
  go_enter Tryz.func22, Tryz.ntmps22
  go_wp2_with fail
  refine (shapes_any w).mono ?_
  rintro e w1 ⟨rfl, hS, hb1⟩
  have hlook := look_miss hS s hs
  have HB1 := Lib.hid hb1
  have hs1 := hb1.size
  clear hb1 hS hs
  go_wp2_with fail
  go_ret2
  exact ⟨_, rfl, ⟨MatI.nil _ _ _, Nat.le_refl _⟩, HB1.out.alloc hs1 _⟩

/-- The matrix of a name, and whether there is one. -/
def typeAt (l : List UInt8) : Option (Nat × Chg) := (shTab.find? fun p => p.1 == l).map (·.2)
def typeM (l : List UInt8) : List (List Int) := match typeAt l with | some (n, ch) => appC (chainL n) ch | none => []
def typeB (l : List UInt8) : Bool := (typeAt l).isSome
theorem sh_facts : ∀ i (h : i < shTab.length), (∀ k (hk : k < i), shTab[k].1 ≠ shTab[i].1) ∧ shTab[i].2.1 < 5 ∧ (∀ c ∈ shTab[i].2.2, c.1 < shTab[i].2.1 ∧ c.2.1 < shTab[i].2.1) ∧ shTab[i].2.2.length ≤ 4 ∧ typeAt shTab[i].1 = some shTab[i].2 := by decide
theorem typeAt_fresh {l : List UInt8} (h : Fresh shTab l) : typeAt l = none := by
  unfold typeAt
  rw [List.find?_eq_none.2 (fun p hp => by simpa using h p hp)]
  rfl
theorem ba_of {s : ByteArray} {l : List UInt8} (h : s.data.toList = l) : s = ⟨l.toArray⟩ := by
  subst h; rfl
theorem tyi_any (s : ByteArray) (w : World) :
    Calls Tryz.prog 22 #[.string s] w (MakesM2 w (typeM s.data.toList) (.bool (typeB s.data.toList))) := by
  by_cases h : Fresh shTab s.data.toList
  · unfold typeM typeB
    rw [typeAt_fresh h]
    exact tyi_miss s w h
  · have : ∃ p ∈ shTab, p.1 = s.data.toList := by
      refine Classical.byContradiction fun hn => h fun p hp e => hn ⟨p, hp, e⟩
    obtain ⟨p, hp, he⟩ := this
    obtain ⟨i, hi, rfl⟩ := List.getElem_of_mem hp
    obtain ⟨h1, h2, h3, h4, h5⟩ := sh_facts i hi
    have hh := tyi_hit s w i hi (ba_of he.symm) h1 h2 h3 h4
    unfold typeM typeB
    rw [← he, h5]
    exact hh
end Go.Proofs.YtppimgkampkfjaaGreatDoor
