/-
  Weights and roots: what the program's ActOnWeight and ActOnRoot return (printed by mk_rid.py).
-/
import Derived.Test.YtlbgblkoddlhnaaGreatDoorFW38
import Derived.Test.YtlbgblkoddlhnaaGreatDoorFW36
import Derived.Test.YtlbgblkoddlhnaaGreatDoorFW28
import Derived.Test.YtlbgblkoddlhnaaGreatDoorFW39
namespace Go.Proofs.YtlbgblkoddlhnaaGreatDoor
open Go.RowKit Go.Shelf
attribute [local go_sem] Oper.semAt_some

def backFn (S : Nat) : Value := .func (.func 74) #[] #[.pointer (some ⟨S, 0, none⟩)]
set_option maxRecDepth 100000 in
theorem backw_any (v : Value) (a : Option Addr) (n cap : Nat) (hv : v = .slice a n cap) (w : World) :
    Calls Tryz.prog 62 #[v] w fun e w' => e = .returned (backFn w.heap.size) ∧ w' = w.alloc (.cells #[v] 25) := by
  subst hv
  go_enter Tryz.func62, Tryz.ntmps62
  go_wp2_with fail
  go_ret
  exact ⟨rfl, rfl⟩
/-- The two boxed parameters. -/
abbrev boxW (w : World) (v fv : Value) : World := (w.alloc (.cells #[v] 24)).alloc (.cells #[fv] 73)
theorem boxW_facts (w : World) (v fv : Value) : Boxed (boxW w v fv) w.heap.size 24 v ∧ Boxed (boxW w v fv) (w.heap.size + 1) 73 fv ∧ (boxW w v fv).heap.size = w.heap.size + 2 ∧ Below w.heap.size w (boxW w v fv) := by
  have hs : (w.alloc (.cells #[v] 24)).heap.size = w.heap.size + 1 := by simp
  have hb : Below (w.heap.size + 1) (w.alloc (.cells #[v] 24)) (boxW w v fv) := (Below.refl _ _).alloc (by omega) _
  refine ⟨boxed_below (Boxed.new w 24 v) hb (by omega), ?_, by unfold boxW; rw [World.size_alloc, hs], ((Below.refl _ _).alloc (Nat.le_refl _) _).trans (hb.mono (by omega))⟩
  have := Boxed.new (w.alloc (.cells #[v] 24)) 73 fv
  rw [hs] at this
  exact this
/-- Between two letters: the first k from behind have acted. -/
def ActI (m : List (List Int)) (ws l : List Int) (w : World) (C0 O0 g n xc : Nat) (vC fv : Value) (k : Nat) (W : World) : Prop :=
  Boxed W (C0 + 1) 73 fv ∧ Boxed W C0 24 vC ∧ Boxed W O0 25 (.slice (some ⟨g, 0, none⟩) n xc) ∧ RowI (C0 + 2) O0 W (.slice (some ⟨g, 0, none⟩) n xc) (actW m (ws.drop (ws.length - k)) l) ∧ W.heap[O0 + 2]? = some (.deferred (some [])) ∧ Below C0 w W ∧ O0 + 4 ≤ W.heap.size
theorem ActI.grown {m : List (List Int)} {ws l : List Int} {w W W' : World} {C0 O0 g n xc k x : Nat} {vC fv : Value} (h : ActI m ws l w C0 O0 g n xc vC fv k W) (hg : W.grownBy W' (some x)) (hx : O0 + 2 < x) (hgO : g < O0) (hC : C0 < O0) : ActI m ws l w C0 O0 g n xc vC fv k W' := by
  obtain ⟨h0, h1, h2, h3, h4, h5, h6⟩ := h
  have hne : ∀ b, b ≤ O0 + 2 → some b ≠ some x := fun b hb e => by have := Option.some.inj e; omega
  exact ⟨h0.kept hg (hne _ (by omega)), h1.kept hg (hne _ (by omega)), h2.kept hg (hne _ (by omega)), h3.grown hg (.inr fun e => by have e2 : some g = some x := e; have := Option.some.inj e2; omega), heap_grown h4 hg (by omega), h5.grown hg (by have := h5.size; omega) (fun k hk => by have := Option.some.inj hk; omega), by have := hg.size; omega⟩
theorem BackR.grown {B C k x : Nat} {v : Value} {ws : List Int} {W W' : World} (h : BackR B C v ws k W) (hg : W.grownBy W' (some x)) (hB : B ≤ W.heap.size) (hxB : B ≤ x) (hxC : C ≠ x) : BackR B C v ws k W' :=
  ⟨h.1.kept hg (fun e => hxC (Option.some.inj e)), h.2.below ((Below.refl B W).grown hg hB (fun k hk => by have := Option.some.inj hk; omega)) (Nat.le_refl _)⟩
/-- One letter more. -/
theorem ActI.next {m : List (List Int)} {ws l : List Int} {w W W' : World} {C0 O0 g n xc k L B1 : Nat} {vC fv v1 : Value} {r : Loop} (hL : ws.length = L) (hk : k < L) (h : ActI m ws l w C0 O0 g n xc vC fv k W) (hgO : g < O0) (hC : C0 + 1 < g) (hr : W.heap[O0 + 3]? = some (.loop r)) (hR : BackR B1 (O0 + 1) v1 ws k W) (hB1 : B1 ≤ C0)
    (hst : reflL m (ws.getD (L - k - 1) 0).toNat (actW m (ws.drop (L - k - 1 + 1)) l) = actW m (ws.drop (L - k - 1)) l)
    (h1 : RowI (C0 + 2) W'.heap.size W' (.slice (some ⟨g, 0, none⟩) n xc) (reflL m (ws.getD (L - k - 1) 0).toNat (actW m (ws.drop (L - k)) l))) (h2 : W.grownBy W' (Value.slice (some ⟨g, 0, none⟩) n xc).ownBlock) :
    W'.heap[O0 + 3]? = some (.loop r) ∧ ActI m ws l w C0 O0 g n xc vC fv (k + 1) W' ∧ BackR B1 (O0 + 1) v1 ws k W' := by
  have h2' : W.grownBy W' (some g) := h2
  obtain ⟨i0, i1, i2, i3, i4, i5, i6⟩ := h
  have hne : ∀ b, b ≠ g → some b ≠ some g := fun b hb e => hb (Option.some.inj e)
  have hsz := h2'.size
  refine ⟨heap_grown hr h2' (by omega), ⟨i0.kept h2' (hne _ (by omega)), i1.kept h2' (hne _ (by omega)), i2.kept h2' (hne _ (by omega)), ⟨?_, i3.2⟩, heap_grown i4 h2' (by omega), i5.grown h2' (by have := i5.size; omega) (fun k hk => by have := Option.some.inj hk; omega), by omega⟩, hR.grown h2' (by omega) (by omega) (by omega)⟩
  have h3 := h1.1
  rw [show List.drop (L - k) ws = List.drop (L - k - 1 + 1) ws from by congr 1; omega, hst] at h3
  rw [hL, show L - (k + 1) = L - k - 1 by omega]
  exact h3
theorem act_end {m : List (List Int)} {ws l : List Int} {w W : World} {C0 O0 g n xc : Nat} {vC fv : Value} (h : ActI m ws l w C0 O0 g n xc vC fv ws.length W) (hgO : g < O0) (hC : C0 = w.heap.size) :
    OwnS w.heap.size (W.putObj (O0 + 2) (.deferred none)).heap.size (W.putObj (O0 + 2) (.deferred none)) (.slice (some ⟨g, 0, none⟩) n xc) (actW m ws l) ∧ Below w.heap.size w (W.putObj (O0 + 2) (.deferred none)) := by
  obtain ⟨_, i1, i2, i3, i4, i5, i6⟩ := h
  have hg := grownBy_putObj' W (O0 + 2) (.deferred none)
  rw [Nat.sub_self] at i3
  have hs := hg.size
  have hz := i5.size
  have hgC := (i3.1.lt g rfl).1
  rw [hC] at i5 i3
  exact ⟨⟨(i3.grown hg (.inr fun e => by have e2 : some g = some (O0 + 2) := e; have := Option.some.inj e2; omega)).mono (by omega) (by omega), Nat.le_refl _⟩, i5.grown hg (by omega) (fun k hk => by have := Option.some.inj hk; omega)⟩
set_option maxHeartbeats 4000000 in
set_option maxRecDepth 100000 in
theorem acti_yes (B B1 B2 : Nat) (v v1 v2 : Value) (m : List (List Int)) (ws l : List Int) (w : World) (h : MatB B w v m) (h1 : RowB B1 w v1 ws) (h2 : RowB B2 w v2 l) (hB : B ≤ w.heap.size) (hB1 : B1 ≤ w.heap.size) (hB2 : B2 ≤ w.heap.size)
    (hf : RowsFit m) (hl : l.length ≤ 1048576) (hW : IsW m ws) (hll : l.length = m.length) :
    Calls Tryz.prog 39 #[v, v1, v2, .func (.func 33) #[] #[]] w (MakesS w (actW m ws l)) := by
  have hI := hW.2.1
  have hn1 := hI.2.2.1
  have hn4 := hI.2.2.2
  have hL15 := hW.2.2
  obtain ⟨hbC, hbF, hbs, hbA⟩ := boxW_facts w v (.func (.func 33) #[] #[])
  have HCL := Lib.hid ((cloi_any B2 v2 l (boxW w v (.func (.func 33) #[] #[])) (h2.below hbA hB2) (by omega) hl).mono (R' := fun e w' => ∃ g xc, e = .returned (.slice (some ⟨g, 0, none⟩) m.length xc) ∧ (w.heap.size + 2 ≤ g ∧ g < w'.heap.size) ∧ RowI (w.heap.size + 2) w'.heap.size w' (.slice (some ⟨g, 0, none⟩) m.length xc) l ∧ Below (w.heap.size + 2) (boxW w v (.func (.func 33) #[] #[])) w' ∧ (∀ o, (w'.alloc o).cell? ⟨w.heap.size, 0, none⟩ = some v) ∧ ∀ o, Below w.heap.size w (w'.alloc o)) fun e w' ⟨x, he, hx, hb⟩ => by
    have hs := hbs
    rw [hs] at hx hb
    obtain ⟨g, xc, rfl, h1, h2⟩ := hx.1.at' (by omega)
    rw [hll] at hx he
    have hb3 : Below w.heap.size w w' := hbA.trans (hb.mono (by omega))
    have hz9 := hb.size
    rw [hs] at hz9
    exact ⟨g, xc, he, ⟨h1, h2⟩, hx.1, hb, fun o => (World.cell?_alloc_past _ _ _ (by show w.heap.size < _; omega)).trans (boxed_below hbC hb (by omega)).cell, fun o => hb3.alloc (by omega) _⟩)
  have HIW := Lib.hid (fun (wx : World) (hb : Below w.heap.size w wx) => (iswi_any B B1 v v1 m ws wx (h.below hb hB) (h1.below hb hB1) hf (by have := hW.2.2; unfold maxLen; omega)).mono (R' := fun e w' => e = .returned (.bool true) ∧ ∃ q, w' = wx.drewN q) fun e w' ⟨he, hw⟩ => ⟨by rw [he, wordB_yes hW], hw⟩)
  have HRP := Lib.hid (fun (x : Value) (l' : List Int) (k : Nat) (wx : World) (hb : Below w.heap.size w wx) (hx : RowI (w.heap.size + 2) wx.heap.size wx x l') (hl' : l'.length = m.length) (hk : k < m.length) => rip_any (w.heap.size + 2) B v x m l' k wx (h.below hb hB) hx (by omega) hI.1 hl' hk (by omega))
  have HLET := Lib.hid (fun j (hj : j < ws.length) => hW.1 j hj)
  have HST := Lib.hid (fun k (hk : k < ws.length) => actW_step (m := m) (ws := ws) (l := l) hk)
  have HAL := Lib.hid (fun k => show (actW m (ws.drop k) l).length = m.length from by rw [actW_len]; exact hll)
  have HA0 := Lib.hid (show actW m (ws.drop ws.length) l = l from by rw [List.drop_length]; rfl)
  have HAE := Lib.hid (show actW m (ws.drop 0) l = actW m ws l from rfl)
  have HRB := Lib.hid (fun (wx : World) (hb : Below w.heap.size w wx) => h1.below hb hB1)
  have HBX := Lib.hid hbC; have HBF := Lib.hid hbF
  have HBG := Lib.hid (fun (n : Nat) (hn : 1 ≤ n) (C : Nat) => back_gives n hn B1 C v1 ws (by omega))
  have HBK := Lib.hid (fun (wx : World) => show Calls Tryz.prog 62 #[v1] wx fun e w' => e = .returned (backFn wx.heap.size) ∧ w' = wx.alloc (.cells #[v1] 25) from by
    obtain ⟨a1, cap1, e1⟩ := h1.slice
    exact backw_any v1 a1 _ cap1 e1 wx)
  have HXL := Lib.hid (backX_len ws)
  have HXG := Lib.hid (backX_get ws)
  obtain ⟨a, cap, rfl⟩ := h.slice
  obtain ⟨a1, cap1, rfl⟩ := h1.slice
  obtain ⟨a2, cap2, rfl⟩ := h2.slice
  have HLL := Lib.hid hll
  rw [hll] at HCL ⊢
  clear h h1 h2 hI hf hW hbA hl hll hbC hbF hbs
  generalize m.length = n at *
  generalize hL : ws.length = L at *
  have HL := Lib.hid hL; clear hL
  have heq : ((n : Int) != (n : Int)) = false := by simp
  refine (callsIn_wide (n := 9)).1 ?_
  refine callsIn_of_wp_marks Tryz.func39 rfl trivial ?_ rfl
  simp only [Tryz.ntmps39, List.size_toArray, List.length_cons, List.length_nil, Nat.reduceAdd, Nat.reduceSub, Array.replicate_succ, Array.replicate_zero, List.push_toArray, List.append_toArray, List.nil_append, List.cons_append]
  gi_wp2_with (first | (refine ⟨trivial, ?_⟩; gi_at_call 57; refine (callsIn_wide.2 HCL.out).mono ?_; rintro e w1 ⟨g, xc, rfl, ⟨hg1, hg2⟩, hx, hb1, hcc, hbw⟩) | (refine ⟨trivial, ?_⟩; gi_at_call 61; refine (callsIn_wide.2 (HIW.out _ (hbw _))).mono ?_; rintro e w3 ⟨rfl, q, rfl⟩) | (refine ⟨trivial, ?_⟩; gi_at_call 62; refine (callsIn_wide.2 (HBK.out _)).mono ?_; rintro e w4 ⟨rfl, rfl⟩))
  obtain ⟨C0, hC0⟩ : ∃ C, C = w.heap.size := ⟨_, rfl⟩
  obtain ⟨O0, hO0⟩ : ∃ O, O = w1.heap.size := ⟨_, rfl⟩
  have hgC : C0 + 1 < g := by omega
  have hgO : g < O0 := by omega
  have hw1 : (w1.alloc (.cells #[.slice (some ⟨g, 0, none⟩) n xc] 25)).heap.size = O0 + 1 := by simp; omega
  have hal1 : Below O0 w1 (w1.alloc (.cells #[.slice (some ⟨g, 0, none⟩) n xc] 25)) := (Below.refl _ _).alloc (by omega) _
  have hO1 : Boxed (w1.alloc (.cells #[.slice (some ⟨g, 0, none⟩) n xc] 25)) O0 25 (.slice (some ⟨g, 0, none⟩) n xc) := by rw [hO0]; exact Boxed.new w1 25 _
  have hC1 : Boxed w1 C0 24 (.slice a n cap) := by rw [hC0]; exact boxed_below HBX.out hb1 (by omega)
  have hF1 : Boxed w1 (C0 + 1) 73 (.func (.func 33) #[] #[]) := by rw [hC0]; exact boxed_below HBF.out hb1 (by omega)
  have hX1 : RowI (C0 + 2) O0 w1 (.slice (some ⟨g, 0, none⟩) n xc) l := by rw [hC0, hO0]; exact hx
  have hB1w := hbw (.cells #[.slice (some ⟨g, 0, none⟩) n xc] 25)
  rw [← hC0] at hB1w
  generalize w1.alloc (.cells #[.slice (some ⟨g, 0, none⟩) n xc] 25) = w2 at *
  have hal2 : Below (O0 + 1) w2 (w2.drewN q) := by rw [← hw1]; exact below_drewN q
  have hal3 : Below (O0 + 1) (w2.drewN q) ((w2.drewN q).alloc (.cells #[.slice a1 L cap1] 25)) := (Below.refl _ _).alloc (by rw [show (w2.drewN q).heap.size = w2.heap.size from rfl, hw1]; exact Nat.le_refl _) _
  have hz3 : ((w2.drewN q).alloc (.cells #[.slice a1 L cap1] 25)).heap.size = O0 + 2 := by rw [World.size_alloc, show (w2.drewN q).heap.size = w2.heap.size from rfl, hw1]
  have hS1 : Boxed ((w2.drewN q).alloc (.cells #[.slice a1 L cap1] 25)) (O0 + 1) 25 (.slice a1 L cap1) := by
    have := Boxed.new (w2.drewN q) 25 (.slice a1 L cap1)
    rw [show (w2.drewN q).heap.size = O0 + 1 from hw1] at this
    exact this
  have hbb := hal2.trans hal3
  have hO3 := boxed_below hO1 hbb (by omega)
  have hC3 := boxed_below hC1 (hal1.trans (hbb.mono (by omega))) (by omega)
  have hF3 := boxed_below hF1 (hal1.trans (hbb.mono (by omega))) (by omega)
  have hX3 : RowI (C0 + 2) O0 ((w2.drewN q).alloc (.cells #[.slice a1 L cap1] 25)) (.slice (some ⟨g, 0, none⟩) n xc) l := hX1.same (SameIn.of_below (hal1.trans (hbb.mono (by omega))) (Nat.le_refl _))
  have hB3 : Below C0 w ((w2.drewN q).alloc (.cells #[.slice a1 L cap1] 25)) := hB1w.trans (hbb.mono (by omega))
  rw [← hO0, ← hC0]
  generalize (w2.drewN q).alloc (.cells #[.slice a1 L cap1] 25) = W0 at *
  clear hal1 hal2 hal3 hbb hO1 hC1 hF1 hX1 hcc hbw hx hb1 hB1w hw1
  have hR3 : BackR B1 (O0 + 1) (.slice a1 L cap1) ws 0 W0 := ⟨hS1, HRB.out W0 (by rw [← hC0]; exact hB3)⟩
  have hBC : B1 ≤ C0 := by omega
  have HC0 := Lib.hid hC0
  have hCw : C0 ≤ w.heap.size ∧ w.heap.size ≤ C0 := by omega
  clear hC0 hO0
  refine range_gives (F := Fence.wide) (n := 9) (by omega) (gf := 74) (lb := #[.pointer (some ⟨O0 + 1, 0, none⟩)]) rfl trivial (enters_of Tryz.func74 (by kernel_rfl) rfl)
    (xs := backX ws) (R := BackR B1 (O0 + 1) (.slice a1 L cap1) ws) (Ab := fun A A' => A' = A) (HBG.out 8 (by omega) (O0 + 1)) (fun x hx => by unfold backX at hx; obtain ⟨y, _, rfl⟩ := List.mem_map.1 hx; rfl)
    (O0 + 3) (O0 + 2) [{ target := .collected (O0 + 2), args := #[] }] (fun fn => (W0.alloc (.deferred (some []))).alloc (.loop { state := .ready, pending := none, fn := fn, tmps := _, params := _, assign := _, body := _, defers := O0 + 2 }))
    (fun fn => enter_outer hz3 rfl fn _ _ _ _) (fun fn => heap_last (by rw [World.size_alloc, hz3]) _)
    (ActI m ws l w C0 O0 g n xc (.slice a n cap) (.func (.func 33) #[] #[])) (fun _ => False) (fun k W r r' hi _ => hi.grown (grownBy_putObj' W _ _) (by omega) hgO (by omega)) (fun W r r' hi _ => hi) (fun k W r r' hi hl => hi.grown (grownBy_putObj' W _ _) (by have := (Array.getElem?_eq_some_iff.1 hl).1; omega) (by omega) (by omega))
    (fun k X Y hi hab => by subst hab; exact hi) (fun X Y hab => by subst hab; rfl) (fun fn => ?start)
    (fun k _ => { tmps := #[.slice a n cap, .slice a1 L cap1, .slice a2 n cap2, .func (.func 33) #[] #[], .pointer (some ⟨C0, 0, none⟩), undef, undef, .pointer (some ⟨C0 + 1, 0, none⟩), .slice none 0 0, .pointer (some ⟨O0, 0, none⟩), undef, .int .i64 (ws.getD (L - k - 1) 0), .slice a2 n cap2, .slice (some ⟨g, 0, none⟩) n xc, .slice a n cap, .slice a1 L cap1, .bool true, .bool false, .bool false, .slice a2 n cap2, .int .i64 n, .slice a n cap, .int .i64 n, .bool false, .bool false, undef, .slice a1 L cap1, backFn (O0 + 1), .int .i64 (((L - k : Nat) : Int) - 1), .int .i64 (ws.getD (L - k - 1) 0), undef, undef, undef, undef, undef, undef], defers := [] })
    ?assign ?body ?done ?stop
  case start =>
    have hal : ∀ o, Below (O0 + 2) W0 ((W0.alloc (.deferred (some []))).alloc o) := fun o => ((Below.refl _ _).alloc (by omega) _).alloc (by simp; omega) _
    refine ⟨⟨boxed_below hF3 (hal _) (by omega), boxed_below hC3 (hal _) (by omega), boxed_below hO3 (hal _) (by omega), ?_, ?_, hB3.trans ((hal _).mono (by omega)), by simp; omega⟩, boxed_below hR3.1 (hal _) (by omega), hR3.2.below (hal _) (by omega)⟩
    · rw [Nat.sub_zero, HL.out, HA0.out]
      exact hX3.same (SameIn.of_below (hal _) (by omega))
    · exact ((MapKept.heap_alloc _ _).2 _ (by simp; omega)).trans (heap_last hz3 _)
  case assign =>
    intro k h W K hK
    rw [HXG.out k h]
    dsimp only at hK
    generalize ws.getD (L - k - 1) 0 = y at hK ⊢
    gi_wp2
    exact hK
  case body =>
    rintro k hk W r hr hi hR
    have hkL : k < L := by rw [HXL.out] at hk; exact hk
    have hle := HLET.out (L - k - 1) (by omega)
    have c0 := hi.1.cell
    have c1 := hi.2.1.cell
    have c2 := hi.2.2.1.cell
    obtain ⟨e, he⟩ : ∃ e : Nat, ws.getD (L - k - 1) 0 = (e : Int) := Int.eq_ofNat_of_zero_le hle.1
    have hx1 := hi.2.2.2.1
    rw [HL.out] at hx1
    have hcon := HRP.out (.slice (some ⟨g, 0, none⟩) n xc) (actW m (ws.drop (L - k)) l) e W (by rw [← HC0.out]; exact hi.2.2.2.2.2.1) (by rw [← HC0.out]; exact hx1.mono (Nat.le_refl _) (by have := hi.2.2.2.2.2.2; omega)) (HAL.out _) (by omega)
    have HCON := Lib.hid hcon
    have hst := HST.out (L - k - 1) (by omega)
    have HSTK := Lib.hid hst
    rw [he]
    clear hcon hst hk hx1 HST HLET
    gi_wp2_with (refine ⟨trivial, ?_⟩; gi_at_call 33; refine (CallsIn.inRound _ (callsIn_wide.2 HCON.out)).mono ?_; rintro e' w' ⟨rfl, q1, q2, q3⟩)
    rw [show e = (ws.getD (L - k - 1) 0).toNat by rw [he]; rfl, ← HC0.out] at q1
    exact hi.next HL.out hkL hgO hgC hr hR hBC HSTK.out q1 q2
  case done =>
    intro W hi
    rw [HXL.out, ← HL.out] at hi
    have c2 := hi.2.2.1.cell
    gi_wp2
    obtain ⟨e1, e2⟩ := act_end hi hgO HC0.out
    refine ⟨by simp, .inl ⟨_, _, rfl, run_takeDeferred hi.2.2.2.2.1, ?_⟩⟩
    exact ⟨_, by simp [results, Tryz.f39, go_sem], _, rfl, e1, e2⟩
  case stop => exact fun W h => h.elim
set_option maxHeartbeats 4000000 in
set_option maxRecDepth 100000 in
theorem actL_any (B B1 B2 : Nat) (v v1 v2 : Value) (m : List (List Int)) (ws l : List Int) (w : World) (h : MatB B w v m) (h1 : RowB B1 w v1 ws) (h2 : RowB B2 w v2 l) (hB : B ≤ w.heap.size) (hB1 : B1 ≤ w.heap.size) (hB2 : B2 ≤ w.heap.size)
    (hf : RowsFit m) (hws : ws.length ≤ 1048576) (hl : l.length ≤ 1048576) :
    Calls Tryz.prog 39 #[v, v1, v2, .func (.func 33) #[] #[]] w (MakesS w (actL m ws l)) := by
  by_cases hok : ActOk m ws l
  · rw [actL_yes hok]
    exact acti_yes B B1 B2 v v1 v2 m ws l w h h1 h2 hB hB1 hB2 hf hl hok.1 hok.2
  · have HV := Lib.hid (actL_no hok)
    obtain ⟨hbC, hbF, hbs, hbA⟩ := boxW_facts w v (.func (.func 33) #[] #[])
    have HCL := Lib.hid ((cloi_any B2 v2 l (boxW w v (.func (.func 33) #[] #[])) (h2.below hbA hB2) (by omega) hl).mono (R' := fun e w' => ∃ xa xc, e = .returned (.slice xa l.length xc) ∧ RowI w.heap.size w'.heap.size w' (.slice xa l.length xc) l ∧ Below w.heap.size w w' ∧ (∀ o, (w'.alloc o).cell? ⟨w.heap.size, 0, none⟩ = some v) ∧ (∀ o, Below w.heap.size w (w'.alloc o)) ∧ w.heap.size ≤ w'.heap.size) fun e w' ⟨x, he, hx, hb⟩ => by
      have hs := hbs
      rw [hs] at hx hb
      obtain ⟨xa, xc, rfl⟩ := hx.1.slice
      have hb3 : Below w.heap.size w w' := hbA.trans (hb.mono (by omega))
      have hz9 := hb.size
      rw [hs] at hz9
      exact ⟨xa, xc, he, hx.1.mono (by omega) (Nat.le_refl _), hb3, fun o => (World.cell?_alloc_past _ _ _ (by show w.heap.size < _; omega)).trans (boxed_below hbC hb (by omega)).cell, fun o => hb3.alloc (by omega) _, by omega⟩)
    have HIW := Lib.hid (fun (wx : World) (hb : Below w.heap.size w wx) => iswi_any B B1 v v1 m ws wx (h.below hb hB) (h1.below hb hB1) hf (by unfold maxLen; omega))
    obtain ⟨a, cap, rfl⟩ := h.slice
    obtain ⟨a1, cap1, rfl⟩ := h1.slice
    obtain ⟨a2, cap2, rfl⟩ := h2.slice
    have hlm := hf.1
    unfold maxLen at hlm
    by_cases hW : IsW m ws
    · have hne : ((l.length : Int) != (m.length : Int)) = true := by rw [bne_iff_ne]; intro e; exact hok ⟨hW, by omega⟩
      have HWB := Lib.hid (wordB_yes hW)
      rw [HWB.out] at HIW
      clear hok hW h h1 h2 hf hbA hws HWB
      generalize m.length = n at *
      generalize ws.length = L at *
      generalize l.length = n2 at *
      go_enter Tryz.func39, Tryz.ntmps39
      go_wp2_with fail
      refine HCL.out.mono ?_
      rintro e w1 ⟨xa, xc, rfl, hx, hb, hcc, hbw, hsz⟩
      have HX := Lib.hid hx; have HB := Lib.hid hb; have HIW2 := Lib.hid (HIW.out _ (hbw (.cells #[.slice xa n2 xc] 25)))
      clear hx hb hbw HIW HCL
      go_wp2_with fail
      refine HIW2.out.mono ?_
      rintro e w2 ⟨rfl, q, rfl⟩
      go_wp2_with fail
      go_ret
      have hb9 : Below w1.heap.size w1 ((w1.alloc (.cells #[.slice xa n2 xc] 25)).drewN q) := ((Below.refl _ _).alloc (Nat.le_refl _) _).trans ((below_drewN q).mono (by simp))
      exact ⟨_, rfl, ⟨by rw [HV.out]; exact HX.out.step hb9, Nat.le_refl _⟩, HB.out.trans (hb9.mono hsz)⟩
    · have HWB := Lib.hid (wordB_no hW)
      rw [HWB.out] at HIW
      clear hok hW h h1 h2 hf hbA hws HWB
      generalize m.length = n at *
      generalize ws.length = L at *
      generalize l.length = n2 at *
      go_enter Tryz.func39, Tryz.ntmps39
      go_wp2_with fail
      refine HCL.out.mono ?_
      rintro e w1 ⟨xa, xc, rfl, hx, hb, hcc, hbw, hsz⟩
      have HX := Lib.hid hx; have HB := Lib.hid hb; have HIW2 := Lib.hid (HIW.out _ (hbw (.cells #[.slice xa n2 xc] 25)))
      clear hx hb hbw HIW HCL
      go_wp2_with fail
      refine HIW2.out.mono ?_
      rintro e w2 ⟨rfl, q, rfl⟩
      go_wp2_with fail
      go_ret
      have hb9 : Below w1.heap.size w1 ((w1.alloc (.cells #[.slice xa n2 xc] 25)).drewN q) := ((Below.refl _ _).alloc (Nat.le_refl _) _).trans ((below_drewN q).mono (by simp))
      exact ⟨_, rfl, ⟨by rw [HV.out]; exact HX.out.step hb9, Nat.le_refl _⟩, HB.out.trans (hb9.mono hsz)⟩
set_option maxHeartbeats 1000000 in
set_option maxRecDepth 100000 in
theorem acti_any (B B1 B2 : Nat) (v v1 v2 : Value) (m : List (List Int)) (ws l : List Int) (w : World) (h : MatB B w v m) (h1 : RowB B1 w v1 ws) (h2 : RowB B2 w v2 l) (hB : B ≤ w.heap.size) (hB1 : B1 ≤ w.heap.size) (hB2 : B2 ≤ w.heap.size)
    (hf : RowsFit m) (hws : ws.length ≤ 1048576) (hl : l.length ≤ 1048576) :
    Calls Tryz.prog 14 #[v, v1, v2] w (MakesS w (actL m ws l)) := by
  have HO := Lib.hid (actL_any B B1 B2 v v1 v2 m ws l w h h1 h2 hB hB1 hB2 hf hws hl)
  clear h h1 h2 hf
  go_enter Tryz.func14, Tryz.ntmps14
  go_wp2_with fail
  refine HO.out.mono ?_
  rintro e w1 ⟨x, rfl, hx, hb⟩
  have HX := Lib.hid hx; have HB := Lib.hid hb
  clear hx hb
  go_wp2_with fail
  go_ret
  exact ⟨_, rfl, HX.out, HB.out⟩
/-- Between two letters: the first k from behind have acted. -/
def ActIR (m : List (List Int)) (ws l : List Int) (w : World) (C0 O0 g n xc : Nat) (vC fv : Value) (k : Nat) (W : World) : Prop :=
  Boxed W (C0 + 1) 73 fv ∧ Boxed W C0 24 vC ∧ Boxed W O0 25 (.slice (some ⟨g, 0, none⟩) n xc) ∧ RowI (C0 + 2) O0 W (.slice (some ⟨g, 0, none⟩) n xc) (actRW m (ws.drop (ws.length - k)) l) ∧ W.heap[O0 + 2]? = some (.deferred (some [])) ∧ Below C0 w W ∧ O0 + 4 ≤ W.heap.size
theorem ActIR.grown {m : List (List Int)} {ws l : List Int} {w W W' : World} {C0 O0 g n xc k x : Nat} {vC fv : Value} (h : ActIR m ws l w C0 O0 g n xc vC fv k W) (hg : W.grownBy W' (some x)) (hx : O0 + 2 < x) (hgO : g < O0) (hC : C0 < O0) : ActIR m ws l w C0 O0 g n xc vC fv k W' := by
  obtain ⟨h0, h1, h2, h3, h4, h5, h6⟩ := h
  have hne : ∀ b, b ≤ O0 + 2 → some b ≠ some x := fun b hb e => by have := Option.some.inj e; omega
  exact ⟨h0.kept hg (hne _ (by omega)), h1.kept hg (hne _ (by omega)), h2.kept hg (hne _ (by omega)), h3.grown hg (.inr fun e => by have e2 : some g = some x := e; have := Option.some.inj e2; omega), heap_grown h4 hg (by omega), h5.grown hg (by have := h5.size; omega) (fun k hk => by have := Option.some.inj hk; omega), by have := hg.size; omega⟩
/-- One letter more. -/
theorem ActIR.next {m : List (List Int)} {ws l : List Int} {w W W' : World} {C0 O0 g n xc k L B1 : Nat} {vC fv v1 : Value} {r : Loop} (hL : ws.length = L) (hk : k < L) (h : ActIR m ws l w C0 O0 g n xc vC fv k W) (hgO : g < O0) (hC : C0 + 1 < g) (hr : W.heap[O0 + 3]? = some (.loop r)) (hR : BackR B1 (O0 + 1) v1 ws k W) (hB1 : B1 ≤ C0)
    (hst : rflR m (ws.getD (L - k - 1) 0).toNat (actRW m (ws.drop (L - k - 1 + 1)) l) = actRW m (ws.drop (L - k - 1)) l)
    (h1 : RowI (C0 + 2) W'.heap.size W' (.slice (some ⟨g, 0, none⟩) n xc) (rflR m (ws.getD (L - k - 1) 0).toNat (actRW m (ws.drop (L - k)) l))) (h2 : W.grownBy W' (Value.slice (some ⟨g, 0, none⟩) n xc).ownBlock) :
    W'.heap[O0 + 3]? = some (.loop r) ∧ ActIR m ws l w C0 O0 g n xc vC fv (k + 1) W' ∧ BackR B1 (O0 + 1) v1 ws k W' := by
  have h2' : W.grownBy W' (some g) := h2
  obtain ⟨i0, i1, i2, i3, i4, i5, i6⟩ := h
  have hne : ∀ b, b ≠ g → some b ≠ some g := fun b hb e => hb (Option.some.inj e)
  have hsz := h2'.size
  refine ⟨heap_grown hr h2' (by omega), ⟨i0.kept h2' (hne _ (by omega)), i1.kept h2' (hne _ (by omega)), i2.kept h2' (hne _ (by omega)), ⟨?_, i3.2⟩, heap_grown i4 h2' (by omega), i5.grown h2' (by have := i5.size; omega) (fun k hk => by have := Option.some.inj hk; omega), by omega⟩, hR.grown h2' (by omega) (by omega) (by omega)⟩
  have h3 := h1.1
  rw [show List.drop (L - k) ws = List.drop (L - k - 1 + 1) ws from by congr 1; omega, hst] at h3
  rw [hL, show L - (k + 1) = L - k - 1 by omega]
  exact h3
theorem act_endR {m : List (List Int)} {ws l : List Int} {w W : World} {C0 O0 g n xc : Nat} {vC fv : Value} (h : ActIR m ws l w C0 O0 g n xc vC fv ws.length W) (hgO : g < O0) (hC : C0 = w.heap.size) :
    OwnS w.heap.size (W.putObj (O0 + 2) (.deferred none)).heap.size (W.putObj (O0 + 2) (.deferred none)) (.slice (some ⟨g, 0, none⟩) n xc) (actRW m ws l) ∧ Below w.heap.size w (W.putObj (O0 + 2) (.deferred none)) := by
  obtain ⟨_, i1, i2, i3, i4, i5, i6⟩ := h
  have hg := grownBy_putObj' W (O0 + 2) (.deferred none)
  rw [Nat.sub_self] at i3
  have hs := hg.size
  have hz := i5.size
  have hgC := (i3.1.lt g rfl).1
  rw [hC] at i5 i3
  exact ⟨⟨(i3.grown hg (.inr fun e => by have e2 : some g = some (O0 + 2) := e; have := Option.some.inj e2; omega)).mono (by omega) (by omega), Nat.le_refl _⟩, i5.grown hg (by omega) (fun k hk => by have := Option.some.inj hk; omega)⟩
end Go.Proofs.YtlbgblkoddlhnaaGreatDoor
