/-
  slices.Backward's iterator at a list of ints: what it owes: the places and the numbers, from the last on.
  Words: what the program's IsWord returns.
  Weights: what the program's ActOnWeight returns.
-/
import Derived.Test.YtcmnkhblnlmfpaaGreatDoorFW19
import Derived.Test.YtcmnkhblnlmfpaaGreatDoorFW15
import Derived.Test.YtcmnkhblnlmfpaaGreatDoorFW01
import Derived.Deep.QuietTactic
import Derived.BigQuiet
import Derived.Test.YtcmnkhblnlmfpaaGreatDoorFW33
import Derived.Test.YtcmnkhblnlmfpaaGreatDoorFW05
import Derived.Test.YtcmnkhblnlmfpaaGreatDoorFW16
import Derived.Test.YtcmnkhblnlmfpaaGreatDoorFW36
import Derived.Test.YtcmnkhblnlmfpaaGreatDoorFW34
namespace Go.Proofs.YtcmnkhblnlmfpaaGreatDoor
open Go.RowKit Go.Shelf
attribute [local go_sem] Oper.semAt_some

/-- What is handed over: place and number, the last first. -/
def backX (ws : List Int) : List (Array Value) := (List.range ws.length).map fun k => #[.int .i64 (((ws.length - k : Nat) : Int) - 1), .int .i64 (ws.getD (ws.length - k - 1) 0)]
theorem backX_len (ws : List Int) : (backX ws).length = ws.length := by simp [backX]
theorem backX_get (ws : List Int) (k : Nat) (h : k < (backX ws).length) : (backX ws)[k] = #[.int .i64 (((ws.length - k : Nat) : Int) - 1), .int .i64 (ws.getD (ws.length - k - 1) 0)] := by simp [backX]
/-- The iterator's own cell, and the list itself. -/
def BackR (B C : Nat) (v : Value) (ws : List Int) (_k : Nat) (W : World) : Prop := Boxed W C 25 v ∧ RowB B W v ws
set_option maxRecDepth 100000 in
set_option maxHeartbeats 1000000 in
theorem back_gives (n : Nat) (hn : 1 ≤ n) (B C : Nat) (v : Value) (ws : List Int) (hl : ws.length ≤ 1048576) :
    GivesB Fence.wide n Tryz.prog 100 #[.pointer (some ⟨C, 0, none⟩)] (backX ws) (BackR B C v ws) (fun A A' => A' = A) := by
  intro lp J Jx W hJ hY h0 hR0
  refine callsIn_of_wp Tryz.func100 rfl trivial ?_ rfl
  simp only [Tryz.ntmps100, List.size_toArray, List.length_cons, List.length_nil, Nat.reduceAdd, Nat.reduceSub, Array.replicate_succ, Array.replicate_zero, List.push_toArray, List.append_toArray, List.nil_append, List.cons_append]
  have hR1 := hR0
  obtain ⟨b1, hr⟩ := hR0
  obtain ⟨a, cap, rfl⟩ := hr.slice
  have c1 := b1.cell
  have HLE := Lib.hid (backX_len ws)
  have HGE := Lib.hid (backX_get ws)
  generalize hL : ws.length = L at *
  have HL := Lib.hid hL
  clear hL
  clear b1 hr
  gi_wp2
  gi_loopw [3] (fun i W' => ∃ (j : Nat), j ≤ L ∧ i = .int .i64 ((j : Int) - 1) ∧ BackR B C (.slice a L cap) ws 0 W' ∧ J (L - j) W') (fun i _ => (intOf i + 1).toNat)
  case atStart => exact ⟨L, Nat.le_refl _, rfl, hR1, by rw [Nat.sub_self]; exact h0⟩
  case round =>
    obtain ⟨j, hj, rfl, ⟨b1, hr⟩, hJ1⟩ := hrel
    have c1 := b1.cell
    by_cases hj0 : 0 < j
    · have hd : decide ((1 : Int) ≤ (j : Int)) = true := decide_eq_true (by omega)
      obtain ⟨bb, off, rfl, hbb, hx⟩ := hr.getD (show j - 1 < L by omega)
      have hkl : L - j < (backX ws).length := by rw [HLE.out]; omega
      have hy1 := hY (L - j) hkl wr hJ1 ⟨b1, hr⟩
      rw [HGE.out (L - j) hkl, show L - (L - j) = j by omega] at hy1
      obtain ⟨fn, tmps, assign, body, hy, hR⟩ := hy1
      have HSUB := Lib.hid (show L - j + 1 = L - (j - 1) by omega)
      clear hY hJ
      generalize ws.getD (j - 1) 0 = y at *
      gi_wp2
      refine hR.mono ?_
      rintro e W3 (⟨rfl, hJ3, hR3⟩ | ⟨rfl, hJx3⟩)
      · gi_wp2
        go_roundw
        case rel => exact ⟨j - 1, by omega, by rw [Int.ofNat_sub (by omega)]; rfl, hR3, by rw [← HSUB.out]; exact hJ3⟩
        case measure => simp [intOf]; omega
      · gi_wp2
        refine bodyPost_ret (results_none rfl _ _ _) rfl ?_
        exact ⟨⟨_, rfl⟩, .inr hJx3⟩
    · obtain rfl : j = 0 := by omega
      gi_wp2
      go_end0
      exact ⟨⟨_, rfl⟩, .inl (by rw [HLE.out]; exact hJ1)⟩
end Go.Proofs.YtcmnkhblnlmfpaaGreatDoor
namespace Go.Proofs.YtcmnkhblnlmfpaaGreatDoor
open Go.RowKit

open Classical in
noncomputable def letB (n : Nat) (l : List Int) : Bool := decide (LetTo n l l.length)
open Classical in
theorem letB_yes {n : Nat} {l : List Int} (h : LetTo n l l.length) : letB n l = true := decide_eq_true h
open Classical in
theorem letB_no {n : Nat} {l : List Int} (h : ¬ LetTo n l l.length) : letB n l = false := decide_eq_false h
open Classical in
theorem wordB_is (m : List (List Int)) (l : List Int) : wordB m l = (isB m && decide (l.length ≤ 15) && letB m.length l) := by
  by_cases hI : IsC m
  · by_cases h15 : l.length ≤ 15
    · by_cases hl : LetTo m.length l l.length
      · rw [wordB_yes ⟨hl, hI, h15⟩, isB_yes hI, decide_eq_true h15, letB_yes hl]; rfl
      · rw [wordB_no (fun h => hl h.1), letB_no hl, Bool.and_false]
    · rw [wordB_no (fun h => h15 h.2.2), decide_eq_false h15, Bool.and_false, Bool.false_and]
  · rw [wordB_no (fun h => hI h.2.1), isB_no hI, Bool.false_and, Bool.false_and]

set_option maxHeartbeats 2000000 in
set_option maxRecDepth 100000 in
theorem hop_any (B : Nat) (v : Value) (l : List Int) (ma : Option Addr) (n mcap : Nat) (w : World) (h : RowB B w v l) (hl : l.length ≤ maxLen) (hn : n ≤ 2 ^ 63 - 1) :
    Calls Tryz.prog 99 #[v, .slice ma n mcap] w fun e w' => e = .returned (.bool (letB n l)) ∧ w = w' := by
  obtain ⟨a, cap, rfl⟩ := h.slice
  have HL := Lib.hid h
  have HPT := Lib.hid (fun (i : Int) (c : Bool) (hc : ptB i n = c) => pt_c ma n mcap i c hc w hn)
  clear h hn
  unfold maxLen at hl
  have HNO := Lib.hid (fun (k : Nat) (hk : k < l.length) (h : ¬ (0 ≤ l.getD k 0 ∧ l.getD k 0 ≤ (n : Int) - 1)) => letB_no (n := n) (l := l) (fun h' => h (h' k hk)))
  have HYES := Lib.hid (fun (h : LetTo n l l.length) => letB_yes h)
  generalize letB n l = R at *
  generalize hln : l.length = L at *
  have HLN := Lib.hid hln; clear hln
  go_enter Tryz.func99, Tryz.ntmps99
  go_wp2_with fail
  go_loop [9] (fun i => ∃ (k : Nat), k ≤ L ∧ i = .int .i64 k ∧ Hid (LetTo n l k)) (fun i => L - (intOf i).toNat)
  case atStart => exact ⟨0, Nat.zero_le _, rfl, Lib.hid (letTo_zero _ _)⟩
  case round =>
    obtain ⟨k, hk, rfl, hs⟩ := hrel
    by_cases hlt : k < L
    · obtain ⟨b, off, rfl, hb, hc⟩ := HL.out.getD hlt
      by_cases hin : 0 ≤ l.getD k 0 ∧ l.getD k 0 ≤ (n : Int) - 1
      · have HST := Lib.hid (letTo_step hs.out hin)
        have HC := Lib.hid (HPT.out _ true (ptB_yes hin))
        clear hin hs
        generalize l.getD k 0 = x at *
        go_wp2_with fail
        refine HC.out.mono ?_
        rintro e w' ⟨rfl, rfl⟩
        go_wp2_with fail
        exact ⟨⟨k + 1, by omega, by go_num, HST⟩, by simp [intOf]; omega⟩
      · have HBAD := Lib.hid (HNO.out k hlt hin)
        have HC := Lib.hid (HPT.out _ false (ptB_no hin))
        clear hin hs
        generalize l.getD k 0 = x at *
        go_wp2_with fail
        refine HC.out.mono ?_
        rintro e w' ⟨rfl, rfl⟩
        go_wp2_with fail
        go_ret
        exact ⟨ret_boolean HBAD.out.symm, rfl⟩
    · obtain rfl : k = L := by omega
      have HE := Lib.hid (HYES.out hs.out)
      clear HNO HYES hs
      go_wp2_with fail
      go_ret
      exact ⟨ret_boolean HE.out.symm, rfl⟩

set_option maxHeartbeats 2000000 in
set_option maxRecDepth 100000 in
theorem iswi_any (B B' : Nat) (v v' : Value) (m : List (List Int)) (l : List Int) (w : World) (h : MatB B w v m) (h' : RowB B' w v' l) (hf : RowsFit m) (hl : l.length ≤ maxLen) :
    Calls Tryz.prog 63 #[v, v'] w fun e w' => e = .returned (.bool (wordB m l)) ∧ ∃ q, w' = w.drewN q := by
  obtain ⟨a, cap, rfl⟩ := h.slice
  have HISC := Lib.hid (fun c (hc : isB m = c) => icm_0 B _ m c hc w h hf)
  have hml := hf.1
  unfold maxLen at hml
  have HOP := Lib.hid (fun q => hop_any B' v' l a m.length cap (w.drewN q) (h'.drewN q) hl (by omega))
  obtain ⟨a', cap', rfl⟩ := h'.slice
  rw [wordB_is]
  unfold maxLen at hl
  clear h h' hf
  generalize m.length = n at *
  generalize hln : l.length = L at *
  generalize letB n l = R at *
  have HLN := Lib.hid hln; clear hln
  generalize isB m = ib at *
  cases ib with
  | false =>
    go_enter Tryz.func63, Tryz.ntmps63
    go_wp2_with fail
    refine (HISC.out _ rfl).mono ?_
    rintro e w' ⟨rfl, q, rfl⟩
    go_wp2_with fail
    go_ret
    exact ⟨ret_boolean (by simp), q, rfl⟩
  | true =>
    by_cases h15 : L ≤ 15
    · have hd : decide ((L : Int) ≤ 15) = true := decide_eq_true (by omega)
      have hd2 : decide (L ≤ 15) = true := decide_eq_true h15
      have HD := Lib.hid hd2; clear hd2
      go_enter Tryz.func63, Tryz.ntmps63
      go_wp2_with fail
      refine (HISC.out _ rfl).mono ?_
      rintro e w' ⟨rfl, q, rfl⟩
      go_wp2_with fail
      refine (HOP.out q).mono ?_
      rintro e w' ⟨rfl, rfl⟩
      go_wp2_with fail
      go_ret
      exact ⟨ret_boolean (by rw [HD.out]; simp), q, rfl⟩
    · have hd : decide ((L : Int) ≤ 15) = false := decide_eq_false (by omega)
      have hd2 : decide (L ≤ 15) = false := decide_eq_false h15
      have HD := Lib.hid hd2; clear hd2
      go_enter Tryz.func63, Tryz.ntmps63
      go_wp2_with fail
      refine (HISC.out _ rfl).mono ?_
      rintro e w' ⟨rfl, q, rfl⟩
      go_wp2_with fail
      go_ret
      exact ⟨ret_boolean (by rw [HD.out]; simp), q, rfl⟩
end Go.Proofs.YtcmnkhblnlmfpaaGreatDoor
namespace Go.Proofs.YtcmnkhblnlmfpaaGreatDoor
open Go.RowKit Go.Shelf
attribute [local go_sem] Oper.semAt_some

def backFn (S : Nat) : Value := .func (.func 100) #[] #[.pointer (some ⟨S, 0, none⟩)]
set_option maxRecDepth 100000 in
theorem backw_any (v : Value) (a : Option Addr) (n cap : Nat) (hv : v = .slice a n cap) (w : World) :
    Calls Tryz.prog 64 #[v] w fun e w' => e = .returned (backFn w.heap.size) ∧ w' = w.alloc (.cells #[v] 25) := by
  subst hv
  go_enter Tryz.func64, Tryz.ntmps64
  go_wp2_with fail
  go_ret
  exact ⟨rfl, rfl⟩
/-- Between two letters: the first k from behind have acted. -/
def ActI (m : List (List Int)) (ws l : List Int) (w : World) (C0 O0 g n xc : Nat) (vC : Value) (k : Nat) (W : World) : Prop :=
  Boxed W C0 24 vC ∧ Boxed W O0 25 (.slice (some ⟨g, 0, none⟩) n xc) ∧ RowI (C0 + 1) O0 W (.slice (some ⟨g, 0, none⟩) n xc) (actW m (ws.drop (ws.length - k)) l) ∧ W.heap[O0 + 2]? = some (.deferred (some [])) ∧ Below C0 w W ∧ O0 + 4 ≤ W.heap.size
theorem ActI.grown {m : List (List Int)} {ws l : List Int} {w W W' : World} {C0 O0 g n xc k x : Nat} {vC : Value} (h : ActI m ws l w C0 O0 g n xc vC k W) (hg : W.grownBy W' (some x)) (hx : O0 + 2 < x) (hgO : g < O0) (hC : C0 < O0) : ActI m ws l w C0 O0 g n xc vC k W' := by
  obtain ⟨h1, h2, h3, h4, h5, h6⟩ := h
  have hne : ∀ b, b ≤ O0 + 2 → some b ≠ some x := fun b hb e => by have := Option.some.inj e; omega
  exact ⟨h1.kept hg (hne _ (by omega)), h2.kept hg (hne _ (by omega)), h3.grown hg (.inr fun e => by have e2 : some g = some x := e; have := Option.some.inj e2; omega), heap_grown h4 hg (by omega), h5.grown hg (by have := h5.size; omega) (fun k hk => by have := Option.some.inj hk; omega), by have := hg.size; omega⟩
theorem BackR.grown {B C k x : Nat} {v : Value} {ws : List Int} {W W' : World} (h : BackR B C v ws k W) (hg : W.grownBy W' (some x)) (hB : B ≤ W.heap.size) (hxB : B ≤ x) (hxC : C ≠ x) : BackR B C v ws k W' :=
  ⟨h.1.kept hg (fun e => hxC (Option.some.inj e)), h.2.below ((Below.refl B W).grown hg hB (fun k hk => by have := Option.some.inj hk; omega)) (Nat.le_refl _)⟩
/-- One letter more. -/
theorem ActI.next {m : List (List Int)} {ws l : List Int} {w W W' : World} {C0 O0 g n xc k L B1 : Nat} {vC v1 : Value} {r : Loop} (hL : ws.length = L) (hk : k < L) (h : ActI m ws l w C0 O0 g n xc vC k W) (hgO : g < O0) (hC : C0 < g) (hr : W.heap[O0 + 3]? = some (.loop r)) (hR : BackR B1 (O0 + 1) v1 ws k W) (hB1 : B1 ≤ C0)
    (hst : reflL m (ws.getD (L - k - 1) 0).toNat (actW m (ws.drop (L - k - 1 + 1)) l) = actW m (ws.drop (L - k - 1)) l)
    (h1 : RowI (C0 + 1) W'.heap.size W' (.slice (some ⟨g, 0, none⟩) n xc) (reflL m (ws.getD (L - k - 1) 0).toNat (actW m (ws.drop (L - k)) l))) (h2 : W.grownBy W' (Value.slice (some ⟨g, 0, none⟩) n xc).ownBlock) :
    W'.heap[O0 + 3]? = some (.loop r) ∧ ActI m ws l w C0 O0 g n xc vC (k + 1) W' ∧ BackR B1 (O0 + 1) v1 ws k W' := by
  have h2' : W.grownBy W' (some g) := h2
  obtain ⟨i1, i2, i3, i4, i5, i6⟩ := h
  have hne : ∀ b, b ≠ g → some b ≠ some g := fun b hb e => hb (Option.some.inj e)
  have hsz := h2'.size
  refine ⟨heap_grown hr h2' (by omega), ⟨i1.kept h2' (hne _ (by omega)), i2.kept h2' (hne _ (by omega)), ⟨?_, i3.2⟩, heap_grown i4 h2' (by omega), i5.grown h2' (by have := i5.size; omega) (fun k hk => by have := Option.some.inj hk; omega), by omega⟩, hR.grown h2' (by omega) (by omega) (by omega)⟩
  have h3 := h1.1
  rw [show List.drop (L - k) ws = List.drop (L - k - 1 + 1) ws from by congr 1; omega, hst] at h3
  rw [hL, show L - (k + 1) = L - k - 1 by omega]
  exact h3
theorem act_end {m : List (List Int)} {ws l : List Int} {w W : World} {C0 O0 g n xc : Nat} {vC : Value} (h : ActI m ws l w C0 O0 g n xc vC ws.length W) (hgO : g < O0) (hC : C0 = w.heap.size) :
    OwnS w.heap.size (W.putObj (O0 + 2) (.deferred none)).heap.size (W.putObj (O0 + 2) (.deferred none)) (.slice (some ⟨g, 0, none⟩) n xc) (actW m ws l) ∧ Below w.heap.size w (W.putObj (O0 + 2) (.deferred none)) := by
  obtain ⟨i1, i2, i3, i4, i5, i6⟩ := h
  have hg := grownBy_putObj' W (O0 + 2) (.deferred none)
  rw [Nat.sub_self] at i3
  have hs := hg.size
  have hz := i5.size
  have hgC := (i3.1.lt g rfl).1
  rw [hC] at i5 i3
  exact ⟨⟨(i3.grown hg (.inr fun e => by have e2 : some g = some (O0 + 2) := e; have := Option.some.inj e2; omega)).mono (by omega) (by omega), Nat.le_refl _⟩, i5.grown hg (by omega) (fun k hk => by have := Option.some.inj hk; omega)⟩
set_option maxHeartbeats 4000000 in
set_option maxRecDepth 100000 in
theorem acti_yes (B B1 B2 : Nat) (v v1 v2 : Value) (m : List (List Int)) (ws l : List Int) (w : World) (h : MatB B w v m) (h1 : RowB B1 w v1 ws) (h2 : RowB B2 w v2 l) (hB : B ≤ w.heap.size) (hB1 : B1 ≤ w.heap.size) (hB2 : B2 ≤ w.heap.size)
    (hf : RowsFit m) (hl : l.length ≤ 1048576) (hW : IsW m ws) (hll : l.length = m.length) :
    Calls Tryz.prog 15 #[v, v1, v2] w (MakesS w (actW m ws l)) := by
  have hI := hW.2.1
  have hn1 := hI.2.2.1
  have hn4 := hI.2.2.2
  have hL15 := hW.2.2
  have hbA : Below w.heap.size w (w.alloc (.cells #[v] 24)) := (Below.refl _ _).alloc (Nat.le_refl _) _
  have HCL := Lib.hid ((cloi_any B2 v2 l (w.alloc (.cells #[v] 24)) (h2.below hbA hB2) (by simp; omega) hl).mono (R' := fun e w' => ∃ g xc, e = .returned (.slice (some ⟨g, 0, none⟩) m.length xc) ∧ (w.heap.size + 1 ≤ g ∧ g < w'.heap.size) ∧ RowI (w.heap.size + 1) w'.heap.size w' (.slice (some ⟨g, 0, none⟩) m.length xc) l ∧ Below (w.heap.size + 1) (w.alloc (.cells #[v] 24)) w' ∧ (∀ o, (w'.alloc o).cell? ⟨w.heap.size, 0, none⟩ = some v) ∧ ∀ o, Below w.heap.size w (w'.alloc o)) fun e w' ⟨x, he, hx, hb⟩ => by
    have hs : (w.alloc (.cells #[v] 24)).heap.size = w.heap.size + 1 := by simp
    rw [hs] at hx hb
    obtain ⟨g, xc, rfl, h1, h2⟩ := hx.1.at' (by omega)
    rw [hll] at hx he
    have hb3 : Below w.heap.size w w' := hbA.trans (hb.mono (by omega))
    have hz9 := hb.size
    rw [hs] at hz9
    exact ⟨g, xc, he, ⟨h1, h2⟩, hx.1, hb, fun o => (World.cell?_alloc_past _ _ _ (by show w.heap.size < _; omega)).trans (boxed_below (Boxed.new w 24 v) hb (by omega)).cell, fun o => hb3.alloc (by omega) _⟩)
  have HIW := Lib.hid (fun (wx : World) (hb : Below w.heap.size w wx) => (iswi_any B B1 v v1 m ws wx (h.below hb hB) (h1.below hb hB1) hf (by have := hW.2.2; unfold maxLen; omega)).mono (R' := fun e w' => e = .returned (.bool true) ∧ ∃ q, w' = wx.drewN q) fun e w' ⟨he, hw⟩ => ⟨by rw [he, wordB_yes hW], hw⟩)
  have HRP := Lib.hid (fun (x : Value) (l' : List Int) (k : Nat) (wx : World) (hb : Below w.heap.size w wx) (hx : RowI (w.heap.size + 1) wx.heap.size wx x l') (hl' : l'.length = m.length) (hk : k < m.length) => rip_any (w.heap.size + 1) B v x m l' k wx (h.below hb hB) hx (by omega) hI.1 hl' hk (by omega))
  have HLET := Lib.hid (fun j (hj : j < ws.length) => hW.1 j hj)
  have HST := Lib.hid (fun k (hk : k < ws.length) => actW_step (m := m) (ws := ws) (l := l) hk)
  have HAL := Lib.hid (fun k => show (actW m (ws.drop k) l).length = m.length from by rw [actW_len]; exact hll)
  have HA0 := Lib.hid (show actW m (ws.drop ws.length) l = l from by rw [List.drop_length]; rfl)
  have HAE := Lib.hid (show actW m (ws.drop 0) l = actW m ws l from rfl)
  have HRB := Lib.hid (fun (wx : World) (hb : Below w.heap.size w wx) => h1.below hb hB1)
  have HBX := Lib.hid (Boxed.new w 24 v)
  have HBG := Lib.hid (fun (n : Nat) (hn : 1 ≤ n) (C : Nat) => back_gives n hn B1 C v1 ws (by omega))
  have HBK := Lib.hid (fun (wx : World) => show Calls Tryz.prog 64 #[v1] wx fun e w' => e = .returned (backFn wx.heap.size) ∧ w' = wx.alloc (.cells #[v1] 25) from by
    obtain ⟨a1, cap1, e1⟩ := h1.slice
    exact backw_any v1 a1 _ cap1 e1 wx)
  have HXL := Lib.hid (backX_len ws)
  have HXG := Lib.hid (backX_get ws)
  obtain ⟨a, cap, rfl⟩ := h.slice
  obtain ⟨a1, cap1, rfl⟩ := h1.slice
  obtain ⟨a2, cap2, rfl⟩ := h2.slice
  have HLL := Lib.hid hll
  rw [hll] at HCL ⊢
  clear h h1 h2 hI hf hW hbA hl hll
  generalize m.length = n at *
  generalize hL : ws.length = L at *
  have HL := Lib.hid hL; clear hL
  have heq : ((n : Int) != (n : Int)) = false := by simp
  refine (callsIn_wide (n := 9)).1 ?_
  refine callsIn_of_wp_marks Tryz.func15 rfl trivial ?_ rfl
  simp only [Tryz.ntmps15, List.size_toArray, List.length_cons, List.length_nil, Nat.reduceAdd, Nat.reduceSub, Array.replicate_succ, Array.replicate_zero, List.push_toArray, List.append_toArray, List.nil_append, List.cons_append]
  gi_wp2_with (first | (refine ⟨trivial, ?_⟩; gi_at_call 56; refine (callsIn_wide.2 HCL.out).mono ?_; rintro e w1 ⟨g, xc, rfl, ⟨hg1, hg2⟩, hx, hb1, hcc, hbw⟩) | (refine ⟨trivial, ?_⟩; gi_at_call 63; refine (callsIn_wide.2 (HIW.out _ (hbw _))).mono ?_; rintro e w3 ⟨rfl, q, rfl⟩) | (refine ⟨trivial, ?_⟩; gi_at_call 64; refine (callsIn_wide.2 (HBK.out _)).mono ?_; rintro e w4 ⟨rfl, rfl⟩))
  obtain ⟨C0, hC0⟩ : ∃ C, C = w.heap.size := ⟨_, rfl⟩
  obtain ⟨O0, hO0⟩ : ∃ O, O = w1.heap.size := ⟨_, rfl⟩
  have hgC : C0 < g := by omega
  have hgO : g < O0 := by omega
  have hw1 : (w1.alloc (.cells #[.slice (some ⟨g, 0, none⟩) n xc] 25)).heap.size = O0 + 1 := by simp; omega
  have hal1 : Below O0 w1 (w1.alloc (.cells #[.slice (some ⟨g, 0, none⟩) n xc] 25)) := (Below.refl _ _).alloc (by omega) _
  have hO1 : Boxed (w1.alloc (.cells #[.slice (some ⟨g, 0, none⟩) n xc] 25)) O0 25 (.slice (some ⟨g, 0, none⟩) n xc) := by rw [hO0]; exact Boxed.new w1 25 _
  have hC1 : Boxed w1 C0 24 (.slice a n cap) := by rw [hC0]; exact boxed_below HBX.out hb1 (by omega)
  have hX1 : RowI (C0 + 1) O0 w1 (.slice (some ⟨g, 0, none⟩) n xc) l := by rw [hC0, hO0]; exact hx
  have hB1w := hbw (.cells #[.slice (some ⟨g, 0, none⟩) n xc] 25)
  rw [← hC0] at hB1w
  generalize w1.alloc (.cells #[.slice (some ⟨g, 0, none⟩) n xc] 25) = w2 at *
  have hal2 : Below (O0 + 1) w2 (w2.drewN q) := by rw [← hw1]; exact below_drewN q
  have hal3 : Below (O0 + 1) (w2.drewN q) ((w2.drewN q).alloc (.cells #[.slice a1 L cap1] 25)) := (Below.refl _ _).alloc (by rw [show (w2.drewN q).heap.size = w2.heap.size from rfl, hw1]; exact Nat.le_refl _) _
  have hz3 : ((w2.drewN q).alloc (.cells #[.slice a1 L cap1] 25)).heap.size = O0 + 2 := by rw [World.size_alloc, show (w2.drewN q).heap.size = w2.heap.size from rfl, hw1]
  have hS1 : Boxed ((w2.drewN q).alloc (.cells #[.slice a1 L cap1] 25)) (O0 + 1) 25 (.slice a1 L cap1) := by
    have := Boxed.new (w2.drewN q) 25 (.slice a1 L cap1)
    rw [show (w2.drewN q).heap.size = O0 + 1 from hw1] at this
    exact this
  have hbb := hal2.trans hal3
  have hO3 := boxed_below hO1 hbb (by omega)
  have hC3 := boxed_below hC1 (hal1.trans (hbb.mono (by omega))) (by omega)
  have hX3 : RowI (C0 + 1) O0 ((w2.drewN q).alloc (.cells #[.slice a1 L cap1] 25)) (.slice (some ⟨g, 0, none⟩) n xc) l := hX1.same (SameIn.of_below (hal1.trans (hbb.mono (by omega))) (Nat.le_refl _))
  have hB3 : Below C0 w ((w2.drewN q).alloc (.cells #[.slice a1 L cap1] 25)) := hB1w.trans (hbb.mono (by omega))
  rw [← hO0, ← hC0]
  generalize (w2.drewN q).alloc (.cells #[.slice a1 L cap1] 25) = W0 at *
  clear hal1 hal2 hal3 hbb hO1 hC1 hX1 hcc hbw hx hb1 hB1w hw1
  have hR3 : BackR B1 (O0 + 1) (.slice a1 L cap1) ws 0 W0 := ⟨hS1, HRB.out W0 (by rw [← hC0]; exact hB3)⟩
  have hBC : B1 ≤ C0 := by omega
  have HC0 := Lib.hid hC0
  have hCw : C0 ≤ w.heap.size ∧ w.heap.size ≤ C0 := by omega
  clear hC0 hO0
  refine range_gives (F := Fence.wide) (n := 9) (by omega) (gf := 100) (lb := #[.pointer (some ⟨O0 + 1, 0, none⟩)]) rfl trivial (enters_of Tryz.func100 (by kernel_rfl) rfl)
    (xs := backX ws) (R := BackR B1 (O0 + 1) (.slice a1 L cap1) ws) (Ab := fun A A' => A' = A) (HBG.out 8 (by omega) (O0 + 1)) (fun x hx => by unfold backX at hx; obtain ⟨y, _, rfl⟩ := List.mem_map.1 hx; rfl)
    (O0 + 3) (O0 + 2) [{ target := .collected (O0 + 2), args := #[] }] (fun fn => (W0.alloc (.deferred (some []))).alloc (.loop { state := .ready, pending := none, fn := fn, tmps := _, params := _, assign := _, body := _, defers := O0 + 2 }))
    (fun fn => enter_outer hz3 rfl fn _ _ _ _) (fun fn => heap_last (by rw [World.size_alloc, hz3]) _)
    (ActI m ws l w C0 O0 g n xc (.slice a n cap)) (fun _ => False) (fun k W r r' hi _ => hi.grown (grownBy_putObj' W _ _) (by omega) hgO (by omega)) (fun W r r' hi _ => hi) (fun k W r r' hi hl => hi.grown (grownBy_putObj' W _ _) (by have := (Array.getElem?_eq_some_iff.1 hl).1; omega) (by omega) (by omega))
    (fun k X Y hi hab => by subst hab; exact hi) (fun X Y hab => by subst hab; rfl) (fun fn => ?start)
    (fun k _ => { tmps := #[.slice a n cap, .slice a1 L cap1, .slice a2 n cap2, .pointer (some ⟨C0, 0, none⟩), undef, undef, .slice none 0 0, .pointer (some ⟨O0, 0, none⟩), undef, .int .i64 (ws.getD (L - k - 1) 0), .slice a2 n cap2, .slice (some ⟨g, 0, none⟩) n xc, .slice a n cap, .slice a1 L cap1, .bool true, .bool false, .bool false, .slice a2 n cap2, .int .i64 n, .slice a n cap, .int .i64 n, .bool false, .bool false, undef, .slice a1 L cap1, backFn (O0 + 1), .int .i64 (((L - k : Nat) : Int) - 1), .int .i64 (ws.getD (L - k - 1) 0), undef, undef, undef, undef, undef], defers := [] })
    ?assign ?body ?done ?stop
  case start =>
    have hal : ∀ o, Below (O0 + 2) W0 ((W0.alloc (.deferred (some []))).alloc o) := fun o => ((Below.refl _ _).alloc (by omega) _).alloc (by simp; omega) _
    refine ⟨⟨boxed_below hC3 (hal _) (by omega), boxed_below hO3 (hal _) (by omega), ?_, ?_, hB3.trans ((hal _).mono (by omega)), by simp; omega⟩, boxed_below hR3.1 (hal _) (by omega), hR3.2.below (hal _) (by omega)⟩
    · rw [Nat.sub_zero, HL.out, HA0.out]
      exact hX3.same (SameIn.of_below (hal _) (by omega))
    · exact ((MapKept.heap_alloc _ _).2 _ (by simp; omega)).trans (heap_last hz3 _)
  case assign =>
    intro k h W K hK
    rw [HXG.out k h]
    dsimp only at hK
    generalize ws.getD (L - k - 1) 0 = y at hK ⊢
    gi_wp2
    exact hK
  case body =>
    rintro k hk W r hr hi hR
    have hkL : k < L := by rw [HXL.out] at hk; exact hk
    have hle := HLET.out (L - k - 1) (by omega)
    have c1 := hi.1.cell
    have c2 := hi.2.1.cell
    obtain ⟨e, he⟩ : ∃ e : Nat, ws.getD (L - k - 1) 0 = (e : Int) := Int.eq_ofNat_of_zero_le hle.1
    have hx1 := hi.2.2.1
    rw [HL.out] at hx1
    have hcon := HRP.out (.slice (some ⟨g, 0, none⟩) n xc) (actW m (ws.drop (L - k)) l) e W (by rw [← HC0.out]; exact hi.2.2.2.2.1) (by rw [← HC0.out]; exact hx1.mono (Nat.le_refl _) (by have := hi.2.2.2.2.2; omega)) (HAL.out _) (by omega)
    have HCON := Lib.hid hcon
    have hst := HST.out (L - k - 1) (by omega)
    have HSTK := Lib.hid hst
    rw [he]
    clear hcon hst hk hx1 HST HLET
    gi_wp2_with (refine ⟨trivial, ?_⟩; gi_at_call 58; refine (CallsIn.inRound _ (callsIn_wide.2 HCON.out)).mono ?_; rintro e' w' ⟨rfl, q1, q2, q3⟩)
    rw [show e = (ws.getD (L - k - 1) 0).toNat by rw [he]; rfl, ← HC0.out] at q1
    exact hi.next HL.out hkL hgO hgC hr hR hBC HSTK.out q1 q2
  case done =>
    intro W hi
    rw [HXL.out, ← HL.out] at hi
    have c2 := hi.2.1.cell
    gi_wp2
    obtain ⟨e1, e2⟩ := act_end hi hgO HC0.out
    refine ⟨by simp, .inl ⟨_, _, rfl, run_takeDeferred hi.2.2.2.1, ?_⟩⟩
    exact ⟨_, by simp [results, Tryz.f15, go_sem], _, rfl, e1, e2⟩
  case stop => exact fun W h => h.elim
set_option maxHeartbeats 4000000 in
set_option maxRecDepth 100000 in
theorem acti_any (B B1 B2 : Nat) (v v1 v2 : Value) (m : List (List Int)) (ws l : List Int) (w : World) (h : MatB B w v m) (h1 : RowB B1 w v1 ws) (h2 : RowB B2 w v2 l) (hB : B ≤ w.heap.size) (hB1 : B1 ≤ w.heap.size) (hB2 : B2 ≤ w.heap.size)
    (hf : RowsFit m) (hws : ws.length ≤ 1048576) (hl : l.length ≤ 1048576) :
    Calls Tryz.prog 15 #[v, v1, v2] w (MakesS w (actL m ws l)) := by
  by_cases hok : ActOk m ws l
  · rw [actL_yes hok]
    exact acti_yes B B1 B2 v v1 v2 m ws l w h h1 h2 hB hB1 hB2 hf hl hok.1 hok.2
  · have HV := Lib.hid (actL_no hok)
    have hbA : Below w.heap.size w (w.alloc (.cells #[v] 24)) := (Below.refl _ _).alloc (Nat.le_refl _) _
    have HCL := Lib.hid ((cloi_any B2 v2 l (w.alloc (.cells #[v] 24)) (h2.below hbA hB2) (by simp; omega) hl).mono (R' := fun e w' => ∃ xa xc, e = .returned (.slice xa l.length xc) ∧ RowI w.heap.size w'.heap.size w' (.slice xa l.length xc) l ∧ Below w.heap.size w w' ∧ (∀ o, (w'.alloc o).cell? ⟨w.heap.size, 0, none⟩ = some v) ∧ (∀ o, Below w.heap.size w (w'.alloc o)) ∧ w.heap.size ≤ w'.heap.size) fun e w' ⟨x, he, hx, hb⟩ => by
      have hs : (w.alloc (.cells #[v] 24)).heap.size = w.heap.size + 1 := by simp
      rw [hs] at hx hb
      obtain ⟨xa, xc, rfl⟩ := hx.1.slice
      have hb3 : Below w.heap.size w w' := hbA.trans (hb.mono (by omega))
      have hz9 := hb.size
      rw [hs] at hz9
      exact ⟨xa, xc, he, hx.1.mono (by omega) (Nat.le_refl _), hb3, fun o => (World.cell?_alloc_past _ _ _ (by show w.heap.size < _; omega)).trans (boxed_below (Boxed.new w 24 v) hb (by omega)).cell, fun o => hb3.alloc (by omega) _, by omega⟩)
    have HIW := Lib.hid (fun (wx : World) (hb : Below w.heap.size w wx) => iswi_any B B1 v v1 m ws wx (h.below hb hB) (h1.below hb hB1) hf (by unfold maxLen; omega))
    obtain ⟨a, cap, rfl⟩ := h.slice
    obtain ⟨a1, cap1, rfl⟩ := h1.slice
    obtain ⟨a2, cap2, rfl⟩ := h2.slice
    have hlm := hf.1
    unfold maxLen at hlm
    by_cases hW : IsW m ws
    · have hne : ((l.length : Int) != (m.length : Int)) = true := by rw [bne_iff_ne]; intro e; exact hok ⟨hW, by omega⟩
      have HWB := Lib.hid (wordB_yes hW)
      rw [HWB.out] at HIW
      clear hok hW h h1 h2 hf hbA hws HWB
      generalize m.length = n at *
      generalize ws.length = L at *
      generalize l.length = n2 at *
      go_enter Tryz.func15, Tryz.ntmps15
      go_wp2_with fail
      refine HCL.out.mono ?_
      rintro e w1 ⟨xa, xc, rfl, hx, hb, hcc, hbw, hsz⟩
      have HX := Lib.hid hx; have HB := Lib.hid hb; have HIW2 := Lib.hid (HIW.out _ (hbw (.cells #[.slice xa n2 xc] 25)))
      clear hx hb hbw HIW HCL
      go_wp2_with fail
      refine HIW2.out.mono ?_
      rintro e w2 ⟨rfl, q, rfl⟩
      go_wp2_with fail
      go_ret
      have hb9 : Below w1.heap.size w1 ((w1.alloc (.cells #[.slice xa n2 xc] 25)).drewN q) := ((Below.refl _ _).alloc (Nat.le_refl _) _).trans ((below_drewN q).mono (by simp))
      exact ⟨_, rfl, ⟨by rw [HV.out]; exact HX.out.step hb9, Nat.le_refl _⟩, HB.out.trans (hb9.mono hsz)⟩
    · have HWB := Lib.hid (wordB_no hW)
      rw [HWB.out] at HIW
      clear hok hW h h1 h2 hf hbA hws HWB
      generalize m.length = n at *
      generalize ws.length = L at *
      generalize l.length = n2 at *
      go_enter Tryz.func15, Tryz.ntmps15
      go_wp2_with fail
      refine HCL.out.mono ?_
      rintro e w1 ⟨xa, xc, rfl, hx, hb, hcc, hbw, hsz⟩
      have HX := Lib.hid hx; have HB := Lib.hid hb; have HIW2 := Lib.hid (HIW.out _ (hbw (.cells #[.slice xa n2 xc] 25)))
      clear hx hb hbw HIW HCL
      go_wp2_with fail
      refine HIW2.out.mono ?_
      rintro e w2 ⟨rfl, q, rfl⟩
      go_wp2_with fail
      go_ret
      have hb9 : Below w1.heap.size w1 ((w1.alloc (.cells #[.slice xa n2 xc] 25)).drewN q) := ((Below.refl _ _).alloc (Nat.le_refl _) _).trans ((below_drewN q).mono (by simp))
      exact ⟨_, rfl, ⟨by rw [HV.out]; exact HX.out.step hb9, Nat.le_refl _⟩, HB.out.trans (hb9.mono hsz)⟩
end Go.Proofs.YtcmnkhblnlmfpaaGreatDoor
