/-
  Weights: the program's letters that act on a row in place (printed by mk_apb.py).
  Roots: the loops of the order, of the insertion and of the start, as functions on lists (no walk here).
-/
import Derived.Test.YtbmghddmilgngaaLc29
import Derived.Test.YtbmghddmilgngaaLc06
namespace Go.Proofs.Ytbmghddmilgngaa
open Go.RowKit Go.Shelf
attribute [local go_sem] Oper.semAt_some

/-- A list of ints that does not lie in the block g, but below C. -/
def RowN (g C : Nat) (w : World) (v : Value) (ws : List Int) : Prop :=
  (ws = [] ∧ ∃ a cap, v = .slice a 0 cap) ∨ ∃ b off cap, v = .slice (some ⟨b, off, none⟩) ws.length cap ∧ b < C ∧ b ≠ g ∧ ∀ j (h : j < ws.length), w.cell? ⟨b, off + j, none⟩ = some (.int .i64 ws[j])
theorem RowN.rowB {g C : Nat} {w : World} {v : Value} {ws : List Int} (h : RowN g C w v ws) : RowB C w v ws := by
  rcases h with h | ⟨b, off, cap, h1, h2, _, h4⟩
  · exact Or.inl h
  · exact Or.inr ⟨b, off, cap, h1, h2, h4⟩
theorem RowN.of {B g C : Nat} {w : World} {v : Value} {ws : List Int} (h : RowB B w v ws) (hg : B ≤ g) (hC : B ≤ C) : RowN g C w v ws := by
  rcases h with h | ⟨b, off, cap, h1, h2, h4⟩
  · exact Or.inl h
  · exact Or.inr ⟨b, off, cap, h1, by omega, by omega, h4⟩
theorem RowN.ofI {A B g C : Nat} {w : World} {v : Value} {ws : List Int} (h : RowI A B w v ws) (hg : g < A) (hC : B ≤ C) : RowN g C w v ws := by
  rcases h.rowB with h' | ⟨b, off, cap, h1, h2, h4⟩
  · exact Or.inl h'
  · have := (h.1.lt b (by rw [h1]; rfl)).1
    exact Or.inr ⟨b, off, cap, h1, by omega, by omega, h4⟩
theorem RowN.kept {g C x : Nat} {w w' : World} {v : Value} {ws : List Int} (h : RowN g C w v ws) (hg : w.grownBy w' (some x)) (hx : x = g ∨ C ≤ x) (hC : C ≤ w.heap.size) : RowN g C w' v ws := by
  rcases h with h | ⟨b, off, cap, h1, h2, h3, h4⟩
  · exact Or.inl h
  · refine Or.inr ⟨b, off, cap, h1, h2, h3, fun j hj => ?_⟩
    rw [← h4 j hj]
    have hbk : w'.heap[b]? = w.heap[b]? := hg.block b (by omega) (fun e => by have := Option.some.inj e; omega)
    unfold World.cell?
    simp only
    rw [hbk]
theorem RowN.below {g C : Nat} {w w' : World} {v : Value} {ws : List Int} (h : RowN g C w v ws) (hb : Below C w w') : RowN g C w' v ws := by
  rcases h with h | ⟨b, off, cap, h1, h2, h3, h4⟩
  · exact Or.inl h
  · exact Or.inr ⟨b, off, cap, h1, h2, h3, fun j hj => (hb.cell (p := ⟨b, off + j, none⟩) h2).trans (h4 j hj)⟩
theorem RowN.slice {g C : Nat} {w : World} {v : Value} {ws : List Int} (h : RowN g C w v ws) : ∃ a cap, v = .slice a ws.length cap := h.rowB.slice
/-- The iterator's own cell, and the list itself. -/
def BackN (g C0 C : Nat) (v : Value) (ws : List Int) (_k : Nat) (W : World) : Prop := Boxed W C 25 v ∧ RowN g C0 W v ws
set_option maxRecDepth 100000 in
set_option maxHeartbeats 1000000 in
theorem backN_gives (n : Nat) (hn : 1 ≤ n) (g C0 C : Nat) (v : Value) (ws : List Int) (hl : ws.length ≤ 1048576) :
    GivesB Fence.wide n Try.prog 103 #[.pointer (some ⟨C, 0, none⟩)] (backX ws) (BackN g C0 C v ws) (fun A A' => A' = A) := by
  intro lp J Jx W hJ hY h0 hR0
  refine callsIn_of_wp Try.func103 rfl trivial ?_ rfl
  simp only [Try.ntmps103, List.size_toArray, List.length_cons, List.length_nil, Nat.reduceAdd, Nat.reduceSub, Array.replicate_succ, Array.replicate_zero, List.push_toArray, List.append_toArray, List.nil_append, List.cons_append]
  have hR1 := hR0
  obtain ⟨b1, hr⟩ := hR0
  obtain ⟨a, cap, rfl⟩ := hr.slice
  have c1 := b1.cell
  have HLE := Lib.hid (backX_len ws)
  have HGE := Lib.hid (backX_get ws)
  generalize hL : ws.length = L at *
  have HL := Lib.hid hL
  clear hL
  clear b1 hr
  gi_wp2
  gi_loopw [3] (fun i W' => ∃ (j : Nat), j ≤ L ∧ i = .int .i64 ((j : Int) - 1) ∧ BackN g C0 C (.slice a L cap) ws 0 W' ∧ J (L - j) W') (fun i _ => (intOf i + 1).toNat)
  case atStart => exact ⟨L, Nat.le_refl _, rfl, hR1, by rw [Nat.sub_self]; exact h0⟩
  case round =>
    obtain ⟨j, hj, rfl, ⟨b1, hr⟩, hJ1⟩ := hrel
    have c1 := b1.cell
    by_cases hj0 : 0 < j
    · have hd : decide ((1 : Int) ≤ (j : Int)) = true := decide_eq_true (by omega)
      obtain ⟨bb, off, rfl, hbb, hx⟩ := hr.rowB.getD (show j - 1 < L by omega)
      have hkl : L - j < (backX ws).length := by rw [HLE.out]; omega
      have hy1 := hY (L - j) hkl wr hJ1 ⟨b1, hr⟩
      rw [HGE.out (L - j) hkl, show L - (L - j) = j by omega] at hy1
      obtain ⟨fn, tmps, assign, body, hy, hR⟩ := hy1
      have HSUB := Lib.hid (show L - j + 1 = L - (j - 1) by omega)
      clear hY hJ
      generalize ws.getD (j - 1) 0 = y at *
      gi_wp2
      refine hR.mono ?_
      rintro e W3 (⟨rfl, hJ3, hR3⟩ | ⟨rfl, hJx3⟩)
      · gi_wp2
        go_roundw
        case rel => exact ⟨j - 1, by omega, by rw [Int.ofNat_sub (by omega)]; rfl, hR3, by rw [← HSUB.out]; exact hJ3⟩
        case measure => simp [intOf]; omega
      · gi_wp2
        refine bodyPost_ret (results_none rfl _ _ _) rfl ?_
        exact ⟨⟨_, rfl⟩, .inr hJx3⟩
    · obtain rfl : j = 0 := by omega
      gi_wp2
      go_end0
      exact ⟨⟨_, rfl⟩, .inl (by rw [HLE.out]; exact hJ1)⟩
def backFn (S : Nat) : Value := .func (.func 103) #[] #[.pointer (some ⟨S, 0, none⟩)]
set_option maxRecDepth 100000 in
theorem backw_any (v : Value) (a : Option Addr) (n cap : Nat) (hv : v = .slice a n cap) (w : World) :
    Calls Try.prog 95 #[v] w fun e w' => e = .returned (backFn w.heap.size) ∧ w' = w.alloc (.cells #[v] 25) := by
  subst hv
  go_enter Try.func95, Try.ntmps95
  go_wp2_with fail
  go_ret
  exact ⟨rfl, rfl⟩
/-- The three boxed parameters. -/
abbrev boxA (w : World) (v vx fv : Value) : World := ((w.alloc (.cells #[v] 24)).alloc (.cells #[vx] 25)).alloc (.cells #[fv] 93)
theorem boxA_facts (w : World) (v vx fv : Value) : Boxed (boxA w v vx fv) w.heap.size 24 v ∧ Boxed (boxA w v vx fv) (w.heap.size + 1) 25 vx ∧ Boxed (boxA w v vx fv) (w.heap.size + 2) 93 fv ∧ (boxA w v vx fv).heap.size = w.heap.size + 3 ∧ Below w.heap.size w (boxA w v vx fv) := by
  have hs : (w.alloc (.cells #[v] 24)).heap.size = w.heap.size + 1 := by simp
  have hs2 : ((w.alloc (.cells #[v] 24)).alloc (.cells #[vx] 25)).heap.size = w.heap.size + 2 := by simp
  have hb3 : Below (w.heap.size + 2) ((w.alloc (.cells #[v] 24)).alloc (.cells #[vx] 25)) (boxA w v vx fv) := (Below.refl _ _).alloc (by omega) _
  have hb2 : Below (w.heap.size + 1) (w.alloc (.cells #[v] 24)) (boxA w v vx fv) := ((Below.refl _ _).alloc (by omega) _).trans (hb3.mono (by omega))
  refine ⟨boxed_below (Boxed.new w 24 v) hb2 (by omega), ?_, ?_, by unfold boxA; rw [World.size_alloc, hs2], ((Below.refl _ _).alloc (Nat.le_refl _) _).trans (hb2.mono (by omega))⟩
  · have := Boxed.new (w.alloc (.cells #[v] 24)) 25 vx
    rw [hs] at this
    exact boxed_below this hb3 (by omega)
  · have := Boxed.new ((w.alloc (.cells #[v] 24)).alloc (.cells #[vx] 25)) 93 fv
    rw [hs2] at this
    exact this
theorem BackN.kept {g C0 C k x : Nat} {v : Value} {ws : List Int} {W W' : World} (h : BackN g C0 C v ws k W) (hg : W.grownBy W' (some x)) (hx : x = g ∨ C0 ≤ x) (hC : C0 ≤ W.heap.size) (hxC : C ≠ x) : BackN g C0 C v ws k W' :=
  ⟨h.1.kept hg (fun e => hxC (Option.some.inj e)), h.2.kept hg hx hC⟩
/-- Between two letters: the first k from behind have acted. -/
def AplW (e : TypeId) (m : List (List Int)) (ws l rest : List Int) (w : World) (A C0 g cap n sc : Nat) (vC fv : Value) (k : Nat) (W : World) : Prop :=
  Boxed W (C0 + 2) 93 fv ∧ Boxed W C0 24 vC ∧ Boxed W (C0 + 1) 25 (.slice (some ⟨g, 0, none⟩) n sc) ∧ RowF e A W g cap (actW m (ws.drop (ws.length - k)) l) rest ∧ W.heap[C0 + 4]? = some (.deferred (some [])) ∧ w.grownBy W (some g) ∧ C0 + 6 ≤ W.heap.size
theorem AplW.grown {e : TypeId} {m : List (List Int)} {ws l rest : List Int} {w W W' : World} {A C0 g cap n sc k x : Nat} {vC fv : Value} (h : AplW e m ws l rest w A C0 g cap n sc vC fv k W) (hg : W.grownBy W' (some x)) (hx : C0 + 4 < x) (hgC : g < C0) (hC : C0 = w.heap.size) : AplW e m ws l rest w A C0 g cap n sc vC fv k W' := by
  obtain ⟨h0, h1, h2, h3, h4, h5, h6⟩ := h
  have hne : ∀ b, b ≤ C0 + 4 → some b ≠ some x := fun b hb e => by have := Option.some.inj e; omega
  exact ⟨h0.kept hg (hne _ (by omega)), h1.kept hg (hne _ (by omega)), h2.kept hg (hne _ (by omega)), h3.kept hg (by omega), heap_grown h4 hg (by omega), grown_past h5 hg (by omega), by have := hg.size; omega⟩
/-- One letter more. -/
theorem AplW.next {e : TypeId} {m : List (List Int)} {ws l rest : List Int} {w W W' : World} {A C0 g cap n sc k L : Nat} {vC fv v1 : Value} {r : Loop} (hL : ws.length = L) (hk : k < L) (h : AplW e m ws l rest w A C0 g cap n sc vC fv k W) (hgC : g < C0) (hr : W.heap[C0 + 5]? = some (.loop r)) (hR : BackN g C0 (C0 + 3) v1 ws k W)
    (hst : reflL m (ws.getD (L - k - 1) 0).toNat (actW m (ws.drop (L - k - 1 + 1)) l) = actW m (ws.drop (L - k - 1)) l)
    (h1 : RowF e A W' g cap (reflL m (ws.getD (L - k - 1) 0).toNat (actW m (ws.drop (L - k)) l)) rest) (h2 : W.grownBy W' (some g)) :
    W'.heap[C0 + 5]? = some (.loop r) ∧ AplW e m ws l rest w A C0 g cap n sc vC fv (k + 1) W' ∧ BackN g C0 (C0 + 3) v1 ws k W' := by
  obtain ⟨i0, i1, i2, i3, i4, i5, i6⟩ := h
  have hne : ∀ b, b ≠ g → some b ≠ some g := fun b hb e => hb (Option.some.inj e)
  have hsz := h2.size
  refine ⟨heap_grown hr h2 (by omega), ⟨i0.kept h2 (hne _ (by omega)), i1.kept h2 (hne _ (by omega)), i2.kept h2 (hne _ (by omega)), ?_, heap_grown i4 h2 (by omega), grown_trans i5 h2, by omega⟩, hR.kept h2 (.inl rfl) (by omega) (by omega)⟩
  rw [show List.drop (L - k) ws = List.drop (L - k - 1 + 1) ws from by congr 1; omega, hst] at h1
  rw [hL, show L - (k + 1) = L - k - 1 by omega]
  exact h1
theorem aplW_end {e : TypeId} {m : List (List Int)} {ws l rest : List Int} {w W : World} {A C0 g cap n sc : Nat} {vC fv : Value} (h : AplW e m ws l rest w A C0 g cap n sc vC fv ws.length W) (hgC : g < C0) (hC : C0 = w.heap.size) :
    RowF e A (W.putObj (C0 + 4) (.deferred none)) g cap (actW m ws l) rest ∧ w.grownBy (W.putObj (C0 + 4) (.deferred none)) (some g) := by
  obtain ⟨_, i1, i2, i3, i4, i5, i6⟩ := h
  have hg := grownBy_putObj' W (C0 + 4) (.deferred none)
  rw [Nat.sub_self] at i3
  exact ⟨i3.kept hg (by omega), grown_past i5 hg (by omega)⟩
set_option maxHeartbeats 4000000 in
set_option maxRecDepth 100000 in
theorem aplw_any (e : TypeId) (A B g cap sc : Nat) (v v1 : Value) (m : List (List Int)) (ws l rest : List Int) (w : World) (h : MatB B w v m) (h1 : RowN g w.heap.size w v1 ws) (h2 : RowF e A w g cap l rest) (hBA : B ≤ A) (hI : IsC m) (hW : LetTo m.length ws ws.length) (hws : ws.length ≤ 1048576) (hll : l.length = m.length) :
    Calls Try.prog 88 #[v, v1, .slice (some ⟨g, 0, none⟩) m.length sc, .func (.func 89) #[] #[]] w fun e' w' => e' = .returned (.tuple #[]) ∧ RowF e A w' g cap (actW m ws l) rest ∧ w.grownBy w' (some g) := by
  have hn1 := hI.2.2.1
  have hn4 := hI.2.2.2
  obtain ⟨hAg, hgw⟩ := h2.lt
  obtain ⟨hbC, hbX, hbF, hbs, hbA⟩ := boxA_facts w v (.slice (some ⟨g, 0, none⟩) m.length sc) (.func (.func 89) #[] #[])
  have HRP := Lib.hid (fun (l' : List Int) (k : Nat) (wx : World) (hb : Below A w wx) (hx : RowF e A wx g cap l' rest) (hl' : l'.length = m.length) (hk : k < m.length) => rip_gen e A B g cap sc v m l' rest k wx (h.below (hb.mono hBA) (Nat.le_refl _)) hx hBA hI.1 hl' hk (by omega))
  have HLET := Lib.hid (fun j (hj : j < ws.length) => hW j hj)
  have HST := Lib.hid (fun k (hk : k < ws.length) => actW_step (m := m) (ws := ws) (l := l) hk)
  have HAL := Lib.hid (fun k => show (actW m (ws.drop k) l).length = m.length from by rw [actW_len]; exact hll)
  have HA0 := Lib.hid (show actW m (ws.drop ws.length) l = l from by rw [List.drop_length]; rfl)
  have HBX := Lib.hid hbC; have HBV := Lib.hid hbX; have HBF := Lib.hid hbF
  have HBG := Lib.hid (fun (n : Nat) (hn : 1 ≤ n) (C0 C : Nat) => backN_gives n hn g C0 C v1 ws hws)
  have HBK := Lib.hid (fun (wx : World) => show Calls Try.prog 95 #[v1] wx fun e w' => e = .returned (backFn wx.heap.size) ∧ w' = wx.alloc (.cells #[v1] 25) from by
    obtain ⟨a1, cap1, e1⟩ := h1.slice
    exact backw_any v1 a1 _ cap1 e1 wx)
  have HXL := Lib.hid (backX_len ws)
  have HXG := Lib.hid (backX_get ws)
  have HN1 := Lib.hid h1
  have HF2 := Lib.hid h2
  have HBS := Lib.hid hbs; have HBA := Lib.hid hbA
  obtain ⟨a, cap0, rfl⟩ := h.slice
  obtain ⟨a1, cap1, rfl⟩ := h1.slice
  have HLL := Lib.hid hll
  clear h h1 h2 hI hW hbA hll hbC hbX hbF hbs
  generalize m.length = n at *
  generalize hL : ws.length = L at *
  have HL := Lib.hid hL; clear hL
  refine (callsIn_wide (n := 9)).1 ?_
  refine callsIn_of_wp_marks Try.func88 rfl trivial ?_ rfl
  simp only [Try.ntmps88, List.size_toArray, List.length_cons, List.length_nil, Nat.reduceAdd, Nat.reduceSub, Array.replicate_succ, Array.replicate_zero, List.push_toArray, List.append_toArray, List.nil_append, List.cons_append]
  gi_wp2_with (refine ⟨trivial, ?_⟩; gi_at_call 95; refine (callsIn_wide.2 (HBK.out _)).mono ?_; rintro e' w4 ⟨rfl, rfl⟩)
  obtain ⟨C0, hC0⟩ : ∃ C, C = w.heap.size := ⟨_, rfl⟩
  have hbs := HBS.out
  have hbA := HBA.out
  have hgC : g < C0 := by omega
  have hC1 := HBX.out
  have hX1 := HBV.out
  have hF1 := HBF.out
  rw [← hC0] at hbs hC1 hX1 hF1
  have hW1 : RowF e A (boxA w (.slice a n cap0) (.slice (some ⟨g, 0, none⟩) n sc) (.func (.func 89) #[] #[])) g cap l rest := HF2.out.below hbA hgw
  have hN1 : RowN g C0 (boxA w (.slice a n cap0) (.slice (some ⟨g, 0, none⟩) n sc) (.func (.func 89) #[] #[])) (.slice a1 L cap1) ws := by rw [hC0]; exact HN1.out.below hbA
  have hG1 : w.grownBy (boxA w (.slice a n cap0) (.slice (some ⟨g, 0, none⟩) n sc) (.func (.func 89) #[] #[])) (some g) := grown_blw (World.grownBy.refl _ _) hbA
  clear HBX HBV HBF HBA HBS hbA
  rw [← hC0, show C0 + 1 + 1 + 1 = C0 + 3 from rfl, show C0 + 1 + 1 = C0 + 2 from rfl]
  unfold boxA at hbs hC1 hX1 hF1 hW1 hN1 hG1
  generalize ((w.alloc (.cells #[.slice a n cap0] 24)).alloc (.cells #[.slice (some ⟨g, 0, none⟩) n sc] 25)).alloc (.cells #[.func (.func 89) #[] #[]] 93) = w1 at *
  have hal : Below (C0 + 3) w1 (w1.alloc (.cells #[.slice a1 L cap1] 25)) := (Below.refl _ _).alloc (by omega) _
  have hz3 : (w1.alloc (.cells #[.slice a1 L cap1] 25)).heap.size = C0 + 4 := by rw [World.size_alloc, hbs]
  have hS1 : Boxed (w1.alloc (.cells #[.slice a1 L cap1] 25)) (C0 + 3) 25 (.slice a1 L cap1) := by
    have := Boxed.new w1 25 (.slice a1 L cap1)
    rw [hbs] at this
    exact this
  have hC3 := boxed_below hC1 hal (by omega)
  have hX3 := boxed_below hX1 hal (by omega)
  have hF3 := boxed_below hF1 hal (by omega)
  have hW3 := hW1.below hal (by omega)
  have hN3 := hN1.below (hal.mono (by omega))
  have hG3 : w.grownBy (w1.alloc (.cells #[.slice a1 L cap1] 25)) (some g) := grown_blw hG1 (hal.mono (by omega))
  generalize w1.alloc (.cells #[.slice a1 L cap1] 25) = W0 at *
  clear hal hC1 hX1 hF1 hW1 hN1 hG1 hbs
  have hR3 : BackN g C0 (C0 + 3) (.slice a1 L cap1) ws 0 W0 := ⟨hS1, hN3⟩
  have HC0 := Lib.hid hC0
  have hCw : C0 ≤ w.heap.size ∧ w.heap.size ≤ C0 := by omega
  clear hC0
  refine range_gives (F := Fence.wide) (n := 9) (by omega) (gf := 103) (lb := #[.pointer (some ⟨C0 + 3, 0, none⟩)]) rfl trivial (enters_of Try.func103 (by kernel_rfl) rfl)
    (xs := backX ws) (R := BackN g C0 (C0 + 3) (.slice a1 L cap1) ws) (Ab := fun A A' => A' = A) (HBG.out 8 (by omega) C0 (C0 + 3)) (fun x hx => by unfold backX at hx; obtain ⟨y, _, rfl⟩ := List.mem_map.1 hx; rfl)
    (C0 + 5) (C0 + 4) [{ target := .collected (C0 + 4), args := #[] }] (fun fn => (W0.alloc (.deferred (some []))).alloc (.loop { state := .ready, pending := none, fn := fn, tmps := _, params := _, assign := _, body := _, defers := C0 + 4 }))
    (fun fn => enter_outer hz3 rfl fn _ _ _ _) (fun fn => heap_last (by rw [World.size_alloc, hz3]) _)
    (AplW e m ws l rest w A C0 g cap n sc (.slice a n cap0) (.func (.func 89) #[] #[])) (fun _ => False) (fun k W r r' hi _ => hi.grown (grownBy_putObj' W _ _) (by omega) hgC HC0.out) (fun W r r' hi _ => hi) (fun k W r r' hi hl => hi.kept (grownBy_putObj' W _ _) (.inr (by omega)) (by have := (Array.getElem?_eq_some_iff.1 hl).1; omega) (by omega))
    (fun k X Y hi hab => by subst hab; exact hi) (fun X Y hab => by subst hab; rfl) (fun fn => ?start)
    (fun k _ => { tmps := #[.slice a n cap0, .slice a1 L cap1, .slice (some ⟨g, 0, none⟩) n sc, .func (.func 89) #[] #[], .pointer (some ⟨C0, 0, none⟩), undef, .pointer (some ⟨C0 + 1, 0, none⟩), .pointer (some ⟨C0 + 2, 0, none⟩), undef, .int .i64 (ws.getD (L - k - 1) 0), .slice a1 L cap1, backFn (C0 + 3), .int .i64 (((L - k : Nat) : Int) - 1), .int .i64 (ws.getD (L - k - 1) 0), undef, undef, undef, undef, undef], defers := [] })
    ?assign ?body ?done ?stop
  case start =>
    have hal : ∀ o, Below (C0 + 4) W0 ((W0.alloc (.deferred (some []))).alloc o) := fun o => ((Below.refl _ _).alloc (by omega) _).alloc (by simp; omega) _
    refine ⟨⟨boxed_below hF3 (hal _) (by omega), boxed_below hC3 (hal _) (by omega), boxed_below hX3 (hal _) (by omega), ?_, ?_, grown_blw hG3 ((hal _).mono (by omega)), by simp; omega⟩, boxed_below hR3.1 (hal _) (by omega), hR3.2.below ((hal _).mono (by omega))⟩
    · rw [Nat.sub_zero, HL.out, HA0.out]
      exact hW3.below (hal _) (by omega)
    · exact ((MapKept.heap_alloc _ _).2 _ (by simp; omega)).trans (heap_last hz3 _)
  case assign =>
    intro k h W K hK
    rw [HXG.out k h]
    generalize ws.getD (L - k - 1) 0 = y at hK ⊢
    gi_wp2
    exact hK
  case body =>
    rintro k hk W r hr hi hR
    have hkL : k < L := by rw [HXL.out] at hk; exact hk
    have hle := HLET.out (L - k - 1) (by omega)
    have c0 := hi.1.cell
    have c1 := hi.2.1.cell
    have c2 := hi.2.2.1.cell
    obtain ⟨x, he⟩ : ∃ e : Nat, ws.getD (L - k - 1) 0 = (e : Int) := Int.eq_ofNat_of_zero_le hle.1
    have hx1 := hi.2.2.2.1
    rw [HL.out] at hx1
    have hcon := HRP.out (actW m (ws.drop (L - k)) l) x W (below_of_grown hi.2.2.2.2.2.1 hAg (by omega)) hx1 (HAL.out _) (by omega)
    have HCON := Lib.hid hcon
    have hst := HST.out (L - k - 1) (by omega)
    have HSTK := Lib.hid hst
    rw [he]
    clear hcon hst hk hx1 HST HLET
    gi_wp2_with (refine ⟨trivial, ?_⟩; gi_at_call 89; refine (CallsIn.inRound _ (callsIn_wide.2 HCON.out)).mono ?_; rintro e' w' ⟨rfl, q1, q2, q3⟩)
    rw [show x = (ws.getD (L - k - 1) 0).toNat by rw [he]; rfl] at q1
    exact hi.next HL.out hkL hgC hr hR HSTK.out q1 q2
  case done =>
    intro W hi
    rw [HXL.out, ← HL.out] at hi
    obtain ⟨e1, e2⟩ := aplW_end hi hgC HC0.out
    gi_wp2
    refine ⟨by simp, .inl ⟨_, _, rfl, run_takeDeferred hi.2.2.2.2.1, ?_⟩⟩
    exact ⟨_, by simp [results, Try.f88, go_sem], rfl, e1, e2⟩
  case stop => exact fun W h => h.elim
end Go.Proofs.Ytbmghddmilgngaa
namespace Go.Proofs.Ytbmghddmilgngaa
open Go.RowKit

/-! ### The first difference -/
def SameTo (a b : List Int) (k : Nat) : Prop := ∀ j, j < k → a.getD j 0 = b.getD j 0
theorem sameTo_zero (a b : List Int) : SameTo a b 0 := fun _ h => absurd h (Nat.not_lt_zero _)
theorem sameTo_step {a b : List Int} {k : Nat} (h : SameTo a b k) (hk : a.getD k 0 = b.getD k 0) : SameTo a b (k + 1) := fun j hj => by
  rcases Nat.lt_or_ge j k with h' | h'
  · exact h j h'
  · obtain rfl : j = k := by omega
    exact hk
theorem gt_drop : ∀ {a b : List Int} {k : Nat}, SameTo a b k → k ≤ a.length → k ≤ b.length → gtL a b = gtL (a.drop k) (b.drop k)
  | _, _, 0, _, _, _ => rfl
  | [], _, k + 1, _, h, _ => absurd h (by simp)
  | _ :: _, [], k + 1, _, _, h => absurd h (by simp)
  | x :: a, y :: b, k + 1, hs, ha, hb => by
    have h0 : x = y := by simpa using hs 0 (by omega)
    simp only [gtL, if_pos h0, List.drop_succ_cons]
    exact gt_drop (fun j hj => by simpa using hs (j + 1) (by omega)) (by simpa using ha) (by simpa using hb)
theorem gt_diff {a b : List Int} {k : Nat} (h : SameTo a b k) (ha : k < a.length) (hb : k < b.length) (hn : a.getD k 0 ≠ b.getD k 0) : gtL a b = decide (b.getD k 0 < a.getD k 0) := by
  rw [gt_drop h (by omega) (by omega), List.drop_eq_getElem_cons ha, List.drop_eq_getElem_cons hb]
  have e1 : a.getD k 0 = a[k] := by simp [List.getD, ha]
  have e2 : b.getD k 0 = b[k] := by simp [List.getD, hb]
  rw [e1, e2] at hn ⊢
  simp only [gtL]
  rw [if_neg hn]
theorem gt_end {a b : List Int} {k : Nat} (h : SameTo a b k) (ha : k ≤ a.length) (hb : k ≤ b.length) (he : k = a.length ∨ k = b.length) : gtL a b = false := by
  rw [gt_drop h ha hb]
  rcases he with e | e
  · rw [e, List.drop_length]; rfl
  · rw [e, List.drop_length]
    cases a.drop b.length <;> rfl
theorem bef_lt {a b : List Int} (h : hgtL a ≠ hgtL b) : befB a b = decide (hgtL a < hgtL b) := by unfold befB; rw [if_neg h]
theorem bef_eq {a b : List Int} (h : hgtL a = hgtL b) : befB a b = gtL a b := by unfold befB; rw [if_pos h]
/-! ### The insertion's loop -/
def putF (r : List Int) (s : List (List Int) × Bool) (x : List Int) : List (List Int) × Bool := if s.2 = false ∧ befB r x = true then (s.1 ++ [r] ++ [x], true) else (s.1 ++ [x], s.2)
def putK (L : List (List Int)) (r : List Int) (k : Nat) : List (List Int) × Bool := (L.take k).foldl (putF r) ([], false)
theorem putK_zero (L : List (List Int)) (r : List Int) : putK L r 0 = ([], false) := rfl
theorem putK_step {L : List (List Int)} {r : List Int} {k : Nat} (h : k < L.length) : putK L r (k + 1) = putF r (putK L r k) (L.getD k []) := by
  have e : L.getD k [] = L[k] := by simp [List.getD, h]
  unfold putK
  rw [List.take_succ_eq_append_getElem h, List.foldl_append, e]; rfl
theorem putF_done (r : List Int) : ∀ (L o : List (List Int)), L.foldl (putF r) (o, true) = (o ++ L, true)
  | [], o => by simp
  | x :: L, o => by
    have e : putF r (o, true) x = (o ++ [x], true) := by simp [putF]
    rw [List.foldl_cons, e, putF_done r L]; simp
theorem putF_end (r : List Int) : ∀ (L o : List (List Int)), (if (L.foldl (putF r) (o, false)).2 = true then (L.foldl (putF r) (o, false)).1 else (L.foldl (putF r) (o, false)).1 ++ [r]) = o ++ putR L r
  | [], o => by simp [putR]
  | x :: L, o => by
    cases hb : befB r x with
    | true =>
      have e : putF r (o, false) x = (o ++ [r] ++ [x], true) := by simp [putF, hb]
      have e2 : putR (x :: L) r = r :: x :: L := by simp [putR, hb]
      rw [List.foldl_cons, e, putF_done, e2]; simp
    | false =>
      have e : putF r (o, false) x = (o ++ [x], false) := by simp [putF, hb]
      have e2 : putR (x :: L) r = x :: putR L r := by simp [putR, hb]
      rw [List.foldl_cons, e, putF_end r L, e2]; simp
theorem putK_end (L : List (List Int)) (r : List Int) : (if (putK L r L.length).2 = true then (putK L r L.length).1 else (putK L r L.length).1 ++ [r]) = putR L r := by
  unfold putK; rw [List.take_length]; simpa using putF_end r L []
theorem putF_len (r : List Int) (s : List (List Int) × Bool) (x : List Int) : (putF r s x).1.length + (if (putF r s x).2 = true then 0 else 1) = s.1.length + 1 + (if s.2 = true then 0 else 1) := by
  obtain ⟨o, p⟩ := s
  cases p <;> cases hb : befB r x <;> simp [putF, hb]
theorem putK_len (L : List (List Int)) (r : List Int) : ∀ k, k ≤ L.length → (putK L r k).1.length ≤ k + 1 := by
  have h : ∀ k, k ≤ L.length → (putK L r k).1.length + (if (putK L r k).2 = true then 0 else 1) = k + 1 := by
    intro k
    induction k with
    | zero => intro _; simp [putK]
    | succ k ih =>
      intro hk
      rw [putK_step (by omega), putF_len, Nat.add_right_comm, ih (by omega)]
  intro k hk
  have := h k hk
  omega
/-! ### The start: the simple roots one by one -/
def RtB (m : List (List Int)) (L : List (List Int)) (i : Nat) : Prop := Ordd L ∧ ∀ r, r ∈ L ↔ ∃ j, j < i ∧ r = unitR m.length j
theorem rtB_zero (m : List (List Int)) : RtB m [] 0 := ⟨List.Pairwise.nil, fun r => ⟨fun h => absurd h (by simp), fun ⟨_, h, _⟩ => absurd h (Nat.not_lt_zero _)⟩⟩
theorem unitR_inj {n i j : Nat} (hi : i < n) (hj : j < n) (h : unitR n i = unitR n j) : i = j := by
  have h1 := congrArg vecL h
  rw [vecL_unit hi, vecL_unit hj] at h1
  have h2 := congrFun h1 i
  simp only [oneV] at h2
  refine Classical.byContradiction fun hn => ?_
  rw [if_pos True.intro, if_neg hn] at h2
  omega
theorem rtB_step {m L : List (List Int)} {i : Nat} (h : RtB m L i) (hi : i < m.length) : RtB m (putR L (unitR m.length i)) (i + 1) := by
  refine ⟨putR_ordd h.1 (fun hm => ?_) (fun x hx => ?_), fun r => ?_⟩
  · obtain ⟨j, hj, e⟩ := (h.2 _).1 hm
    have := unitR_inj hi (by omega) e; omega
  · obtain ⟨j, _, e⟩ := (h.2 _).1 hx
    rw [e, unitR_len, unitR_len]
  · rw [putR_mem, h.2]
    constructor
    · rintro (e | ⟨j, hj, e⟩)
      · exact ⟨i, by omega, e⟩
      · exact ⟨j, by omega, e⟩
    · rintro ⟨j, hj, e⟩
      rcases Nat.lt_or_ge j i with h' | h'
      · exact Or.inr ⟨j, h', e⟩
      · obtain rfl : j = i := by omega
        exact Or.inl e
theorem rtB_len {m L : List (List Int)} {i : Nat} (h : RtB m L i) (_hi : i ≤ m.length) (hm : m.length ≤ 4) : L.length ≤ 28561 :=
  low_count hm (ordd_nodup h.1) fun r hr => by
    obtain ⟨j, _, e⟩ := (h.2 r).1 hr
    refine ⟨by rw [e, unitR_len], fun x hx => ?_⟩
    rw [e] at hx
    rcases unitR_mem hx with e | e <;> omega
theorem rtB_end {m L : List (List Int)} {h : Int} (hB : RtB m L m.length) : RtI m h L 0 0 :=
  ⟨hB.1, fun r hr => by
    obtain ⟨j, hj, e⟩ := (hB.2 r).1 hr
    rw [e]; exact .base j hj, fun j hj => (hB.2 _).2 ⟨j, hj, rfl⟩, fun _ _ h => absurd h (Nat.not_lt_zero _), fun _ _ h => absurd h (Nat.not_lt_zero _)⟩
/-- A program's list: in order, of roots, with the simple ones, closed under reflections that stay positive and low. -/
theorem isRoots_of {m L : List (List Int)} {h : Int} (hO : Ordd L) (hs : ∀ r ∈ L, Asc m h r) (hb : ∀ j, j < m.length → unitR m.length j ∈ L) (hc : ∀ r ∈ L, ∀ j, j < m.length → 0 < sgnL (rflR m j r) → hgtL (rflR m j r) ≤ h → hgtL r < hgtL (rflR m j r) → rflR m j r ∈ L) : IsRoots m h L := by
  refine ⟨hO, fun r => ⟨hs r, fun hr => ?_⟩⟩
  induction hr with
  | base i hi => exact hb i hi
  | step r i _ hi h1 h2 h3 ih => exact hc r ih i hi h1 h2 h3
end Go.Proofs.Ytbmghddmilgngaa
