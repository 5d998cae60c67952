/-
  Roots: the program's letters that act on a row in place (printed by mk_apb.py).
  Roots: what the program's impl.ActOnRoot returns (printed by mk_apc.py).
  append(row, x) of a row that may be empty, told where the new row lies (the text of Min's law, alone).
-/
import Derived.Test.YtfjeghalkmkgoaaLc11
import Derived.Test.YtfjeghalkmkgoaaLc16
import Derived.Test.YtfjeghalkmkgoaaLc12
import Derived.Maps.AppendAt
import Derived.Test.YtfjeghalkmkgoaaLc09
namespace Go.Proofs.Ytfjeghalkmkgoaa
open Go.RowKit Go.Shelf
attribute [local go_sem] Oper.semAt_some

theorem RowF.rowB {e : TypeId} {A : Nat} {w : World} {g cap : Nat} {l rest : List Int} (h : RowF e A w g cap l rest) (sc : Nat) : RowB (g + 1) w (.slice (some ⟨g, 0, none⟩) l.length sc) l :=
  Or.inr ⟨g, 0, sc, rfl, by omega, fun j hj => by rw [Nat.zero_add, h.cellAt hj]; simp [List.getD, hj]⟩
theorem rrp_gen (A B g cap sc : Nat) (v : Value) (m : List (List Int)) (l : List Int) (i : Nat) (w : World) (h : MatB B w v m) (h' : RowF 3 A w g cap l []) (_hBA : B ≤ A) (hI : Rows0 m m.length m.length) (hll : l.length = m.length) (hi : i < m.length) (hn : m.length ≤ 1048576) :
    Calls Try.prog 69 #[v, .int .i64 i, .slice (some ⟨g, 0, none⟩) m.length sc] w fun e' w' => e' = .returned (.tuple #[]) ∧ RowF 3 A w' g cap (rflR m i l) [] ∧ w.grownBy w' (some g) ∧ w'.heap.size = w.heap.size := by
  have hrb := h'.rowB sc
  rw [hll] at hrb
  refine (rrc_any B g 0 m.length sc v m l i w h hrb hll (by rw [Nat.zero_add]; exact h'.frozenAt i) hI rfl hi hn).mono ?_
  rintro e w' ⟨rfl, q, rfl⟩
  rw [Nat.zero_add]
  obtain ⟨hst, hgs⟩ := h'.stored (k := i) (by omega) (subW (l.getD i 0) (prK m i l l.length))
  refine ⟨rfl, ?_, ⟨rfl, rfl, rfl, by show w.heap.size ≤ (w.setCell _ _).heap.size; rw [World.size_setCell]; exact Nat.le_refl _, fun b hb hne => hgs.block b hb hne⟩, by show (w.setCell _ _).heap.size = _; rw [World.size_setCell]⟩
  exact hst
/-- Between two letters: the first k from behind have acted. -/
def AplR (e : TypeId) (m : List (List Int)) (ws l rest : List Int) (w : World) (A C0 g cap n sc : Nat) (vC fv : Value) (k : Nat) (W : World) : Prop :=
  Boxed W (C0 + 2) 68 fv ∧ Boxed W C0 22 vC ∧ Boxed W (C0 + 1) 23 (.slice (some ⟨g, 0, none⟩) n sc) ∧ RowF e A W g cap (actRW m (ws.drop (ws.length - k)) l) rest ∧ W.heap[C0 + 4]? = some (.deferred (some [])) ∧ w.grownBy W (some g) ∧ C0 + 6 ≤ W.heap.size
theorem AplR.grown {e : TypeId} {m : List (List Int)} {ws l rest : List Int} {w W W' : World} {A C0 g cap n sc k x : Nat} {vC fv : Value} (h : AplR e m ws l rest w A C0 g cap n sc vC fv k W) (hg : W.grownBy W' (some x)) (hx : C0 + 4 < x) (hgC : g < C0) (hC : C0 = w.heap.size) : AplR e m ws l rest w A C0 g cap n sc vC fv k W' := by
  obtain ⟨h0, h1, h2, h3, h4, h5, h6⟩ := h
  have hne : ∀ b, b ≤ C0 + 4 → some b ≠ some x := fun b hb e => by have := Option.some.inj e; omega
  exact ⟨h0.kept hg (hne _ (by omega)), h1.kept hg (hne _ (by omega)), h2.kept hg (hne _ (by omega)), h3.kept hg (by omega), heap_grown h4 hg (by omega), grown_past h5 hg (by omega), by have := hg.size; omega⟩
/-- One letter more. -/
theorem AplR.next {e : TypeId} {m : List (List Int)} {ws l rest : List Int} {w W W' : World} {A C0 g cap n sc k L : Nat} {vC fv v1 : Value} {r : Loop} (hL : ws.length = L) (hk : k < L) (h : AplR e m ws l rest w A C0 g cap n sc vC fv k W) (hgC : g < C0) (hr : W.heap[C0 + 5]? = some (.loop r)) (hR : BackN g C0 (C0 + 3) v1 ws k W)
    (hst : rflR m (ws.getD (L - k - 1) 0).toNat (actRW m (ws.drop (L - k - 1 + 1)) l) = actRW m (ws.drop (L - k - 1)) l)
    (h1 : RowF e A W' g cap (rflR m (ws.getD (L - k - 1) 0).toNat (actRW m (ws.drop (L - k)) l)) rest) (h2 : W.grownBy W' (some g)) :
    W'.heap[C0 + 5]? = some (.loop r) ∧ AplR e m ws l rest w A C0 g cap n sc vC fv (k + 1) W' ∧ BackN g C0 (C0 + 3) v1 ws k W' := by
  obtain ⟨i0, i1, i2, i3, i4, i5, i6⟩ := h
  have hne : ∀ b, b ≠ g → some b ≠ some g := fun b hb e => hb (Option.some.inj e)
  have hsz := h2.size
  refine ⟨heap_grown hr h2 (by omega), ⟨i0.kept h2 (hne _ (by omega)), i1.kept h2 (hne _ (by omega)), i2.kept h2 (hne _ (by omega)), ?_, heap_grown i4 h2 (by omega), grown_trans i5 h2, by omega⟩, hR.kept h2 (.inl rfl) (by omega) (by omega)⟩
  rw [show List.drop (L - k) ws = List.drop (L - k - 1 + 1) ws from by congr 1; omega, hst] at h1
  rw [hL, show L - (k + 1) = L - k - 1 by omega]
  exact h1
theorem aplR_end {e : TypeId} {m : List (List Int)} {ws l rest : List Int} {w W : World} {A C0 g cap n sc : Nat} {vC fv : Value} (h : AplR e m ws l rest w A C0 g cap n sc vC fv ws.length W) (hgC : g < C0) (hC : C0 = w.heap.size) :
    RowF e A (W.putObj (C0 + 4) (.deferred none)) g cap (actRW m ws l) rest ∧ w.grownBy (W.putObj (C0 + 4) (.deferred none)) (some g) := by
  obtain ⟨_, i1, i2, i3, i4, i5, i6⟩ := h
  have hg := grownBy_putObj' W (C0 + 4) (.deferred none)
  rw [Nat.sub_self] at i3
  exact ⟨i3.kept hg (by omega), grown_past i5 hg (by omega)⟩
set_option maxHeartbeats 4000000 in
set_option maxRecDepth 100000 in
theorem aplr_any (A B g cap sc : Nat) (v v1 : Value) (m : List (List Int)) (ws l : List Int) (w : World) (h : MatB B w v m) (h1 : RowN g w.heap.size w v1 ws) (h2 : RowF 3 A w g cap l []) (hBA : B ≤ A) (hI : IsC m) (hW : LetTo m.length ws ws.length) (hws : ws.length ≤ 1048576) (hll : l.length = m.length) :
    Calls Try.prog 87 #[v, v1, .slice (some ⟨g, 0, none⟩) m.length sc, .func (.func 69) #[] #[]] w fun e' w' => e' = .returned (.tuple #[]) ∧ RowF 3 A w' g cap (actRW m ws l) [] ∧ w.grownBy w' (some g) := by
  have hn1 := hI.2.2.1
  have hn4 := hI.2.2.2
  obtain ⟨hAg, hgw⟩ := h2.lt
  obtain ⟨hbC, hbX, hbF, hbs, hbA⟩ := boxA_facts w v (.slice (some ⟨g, 0, none⟩) m.length sc) (.func (.func 69) #[] #[])
  have HRP := Lib.hid (fun (l' : List Int) (k : Nat) (wx : World) (hb : Below A w wx) (hx : RowF 3 A wx g cap l' []) (hl' : l'.length = m.length) (hk : k < m.length) => rrp_gen A B g cap sc v m l' k wx (h.below (hb.mono hBA) (Nat.le_refl _)) hx hBA hI.1 hl' hk (by omega))
  have HLET := Lib.hid (fun j (hj : j < ws.length) => hW j hj)
  have HST := Lib.hid (fun k (hk : k < ws.length) => actRW_step (m := m) (ws := ws) (l := l) hk)
  have HAL := Lib.hid (fun k => show (actRW m (ws.drop k) l).length = m.length from by rw [actRW_len]; exact hll)
  have HA0 := Lib.hid (show actRW m (ws.drop ws.length) l = l from by rw [List.drop_length]; rfl)
  have HBX := Lib.hid hbC; have HBV := Lib.hid hbX; have HBF := Lib.hid hbF
  have HBG := Lib.hid (fun (n : Nat) (hn : 1 ≤ n) (C0 C : Nat) => backN_gives n hn g C0 C v1 ws hws)
  have HBK := Lib.hid (fun (wx : World) => show Calls Try.prog 108 #[v1] wx fun e w' => e = .returned (backFn wx.heap.size) ∧ w' = wx.alloc (.cells #[v1] 23) from by
    obtain ⟨a1, cap1, e1⟩ := h1.slice
    exact backw_any v1 a1 _ cap1 e1 wx)
  have HXL := Lib.hid (backX_len ws)
  have HXG := Lib.hid (backX_get ws)
  have HN1 := Lib.hid h1
  have HF2 := Lib.hid h2
  have HBS := Lib.hid hbs; have HBA := Lib.hid hbA
  obtain ⟨a, cap0, rfl⟩ := h.slice
  obtain ⟨a1, cap1, rfl⟩ := h1.slice
  have HLL := Lib.hid hll
  clear h h1 h2 hI hW hbA hll hbC hbX hbF hbs
  generalize m.length = n at *
  generalize hL : ws.length = L at *
  have HL := Lib.hid hL; clear hL
  refine (callsIn_wide (n := 9)).1 ?_
  refine callsIn_of_wp_marks Try.func87 rfl trivial ?_ rfl
  simp only [Try.ntmps87, List.size_toArray, List.length_cons, List.length_nil, Nat.reduceAdd, Nat.reduceSub, Array.replicate_succ, Array.replicate_zero, List.push_toArray, List.append_toArray, List.nil_append, List.cons_append]
  gi_wp2_with (refine ⟨trivial, ?_⟩; gi_at_call 108; refine (callsIn_wide.2 (HBK.out _)).mono ?_; rintro e' w4 ⟨rfl, rfl⟩)
  obtain ⟨C0, hC0⟩ : ∃ C, C = w.heap.size := ⟨_, rfl⟩
  have hbs := HBS.out
  have hbA := HBA.out
  have hgC : g < C0 := by omega
  have hC1 := HBX.out
  have hX1 := HBV.out
  have hF1 := HBF.out
  rw [← hC0] at hbs hC1 hX1 hF1
  have hW1 : RowF 3 A (boxA w (.slice a n cap0) (.slice (some ⟨g, 0, none⟩) n sc) (.func (.func 69) #[] #[])) g cap l [] := HF2.out.below hbA hgw
  have hN1 : RowN g C0 (boxA w (.slice a n cap0) (.slice (some ⟨g, 0, none⟩) n sc) (.func (.func 69) #[] #[])) (.slice a1 L cap1) ws := by rw [hC0]; exact HN1.out.below hbA
  have hG1 : w.grownBy (boxA w (.slice a n cap0) (.slice (some ⟨g, 0, none⟩) n sc) (.func (.func 69) #[] #[])) (some g) := grown_blw (World.grownBy.refl _ _) hbA
  clear HBX HBV HBF HBA HBS hbA
  rw [← hC0, show C0 + 1 + 1 + 1 = C0 + 3 from rfl, show C0 + 1 + 1 = C0 + 2 from rfl]
  unfold boxA at hbs hC1 hX1 hF1 hW1 hN1 hG1
  generalize ((w.alloc (.cells #[.slice a n cap0] 22)).alloc (.cells #[.slice (some ⟨g, 0, none⟩) n sc] 23)).alloc (.cells #[.func (.func 69) #[] #[]] 68) = w1 at *
  have hal : Below (C0 + 3) w1 (w1.alloc (.cells #[.slice a1 L cap1] 23)) := (Below.refl _ _).alloc (by omega) _
  have hz3 : (w1.alloc (.cells #[.slice a1 L cap1] 23)).heap.size = C0 + 4 := by rw [World.size_alloc, hbs]
  have hS1 : Boxed (w1.alloc (.cells #[.slice a1 L cap1] 23)) (C0 + 3) 23 (.slice a1 L cap1) := by
    have := Boxed.new w1 23 (.slice a1 L cap1)
    rw [hbs] at this
    exact this
  have hC3 := boxed_below hC1 hal (by omega)
  have hX3 := boxed_below hX1 hal (by omega)
  have hF3 := boxed_below hF1 hal (by omega)
  have hW3 := hW1.below hal (by omega)
  have hN3 := hN1.below (hal.mono (by omega))
  have hG3 : w.grownBy (w1.alloc (.cells #[.slice a1 L cap1] 23)) (some g) := grown_blw hG1 (hal.mono (by omega))
  generalize w1.alloc (.cells #[.slice a1 L cap1] 23) = W0 at *
  clear hal hC1 hX1 hF1 hW1 hN1 hG1 hbs
  have hR3 : BackN g C0 (C0 + 3) (.slice a1 L cap1) ws 0 W0 := ⟨hS1, hN3⟩
  have HC0 := Lib.hid hC0
  have hCw : C0 ≤ w.heap.size ∧ w.heap.size ≤ C0 := by omega
  clear hC0
  refine range_gives (F := Fence.wide) (n := 9) (by omega) (gf := 116) (lb := #[.pointer (some ⟨C0 + 3, 0, none⟩)]) rfl trivial (enters_of Try.func116 (by kernel_rfl) rfl)
    (xs := backX ws) (R := BackN g C0 (C0 + 3) (.slice a1 L cap1) ws) (Ab := fun A A' => A' = A) (HBG.out 8 (by omega) C0 (C0 + 3)) (fun x hx => by unfold backX at hx; obtain ⟨y, _, rfl⟩ := List.mem_map.1 hx; rfl)
    (C0 + 5) (C0 + 4) [{ target := .collected (C0 + 4), args := #[] }] (fun fn => (W0.alloc (.deferred (some []))).alloc (.loop { state := .ready, pending := none, fn := fn, tmps := _, params := _, assign := _, body := _, defers := C0 + 4 }))
    (fun fn => enter_outer hz3 rfl fn _ _ _ _) (fun fn => heap_last (by rw [World.size_alloc, hz3]) _)
    (AplR 3 m ws l [] w A C0 g cap n sc (.slice a n cap0) (.func (.func 69) #[] #[])) (fun _ => False) (fun k W r r' hi _ => hi.grown (grownBy_putObj' W _ _) (by omega) hgC HC0.out) (fun W r r' hi _ => hi) (fun k W r r' hi hl => hi.kept (grownBy_putObj' W _ _) (.inr (by omega)) (by have := (Array.getElem?_eq_some_iff.1 hl).1; omega) (by omega))
    (fun k X Y hi hab => by subst hab; exact hi) (fun X Y hab => by subst hab; rfl) (fun fn => ?start)
    (fun k _ => { tmps := #[.slice a n cap0, .slice a1 L cap1, .slice (some ⟨g, 0, none⟩) n sc, .func (.func 69) #[] #[], .pointer (some ⟨C0, 0, none⟩), undef, .pointer (some ⟨C0 + 1, 0, none⟩), .pointer (some ⟨C0 + 2, 0, none⟩), undef, .int .i64 (ws.getD (L - k - 1) 0), .slice a1 L cap1, backFn (C0 + 3), .int .i64 (((L - k : Nat) : Int) - 1), .int .i64 (ws.getD (L - k - 1) 0), undef, undef, undef, undef, undef], defers := [] })
    ?assign ?body ?done ?stop
  case start =>
    have hal : ∀ o, Below (C0 + 4) W0 ((W0.alloc (.deferred (some []))).alloc o) := fun o => ((Below.refl _ _).alloc (by omega) _).alloc (by simp; omega) _
    refine ⟨⟨boxed_below hF3 (hal _) (by omega), boxed_below hC3 (hal _) (by omega), boxed_below hX3 (hal _) (by omega), ?_, ?_, grown_blw hG3 ((hal _).mono (by omega)), by simp; omega⟩, boxed_below hR3.1 (hal _) (by omega), hR3.2.below ((hal _).mono (by omega))⟩
    · rw [Nat.sub_zero, HL.out, HA0.out]
      exact hW3.below (hal _) (by omega)
    · exact ((MapKept.heap_alloc _ _).2 _ (by simp; omega)).trans (heap_last hz3 _)
  case assign =>
    intro k h W K hK
    rw [HXG.out k h]
    generalize ws.getD (L - k - 1) 0 = y at hK ⊢
    gi_wp2
    exact hK
  case body =>
    rintro k hk W r hr hi hR
    have hkL : k < L := by rw [HXL.out] at hk; exact hk
    have hle := HLET.out (L - k - 1) (by omega)
    have c0 := hi.1.cell
    have c1 := hi.2.1.cell
    have c2 := hi.2.2.1.cell
    obtain ⟨x, he⟩ : ∃ e : Nat, ws.getD (L - k - 1) 0 = (e : Int) := Int.eq_ofNat_of_zero_le hle.1
    have hx1 := hi.2.2.2.1
    rw [HL.out] at hx1
    have hcon := HRP.out (actRW m (ws.drop (L - k)) l) x W (below_of_grown hi.2.2.2.2.2.1 hAg (by omega)) hx1 (HAL.out _) (by omega)
    have HCON := Lib.hid hcon
    have hst := HST.out (L - k - 1) (by omega)
    have HSTK := Lib.hid hst
    rw [he]
    clear hcon hst hk hx1 HST HLET
    gi_wp2_with (refine ⟨trivial, ?_⟩; gi_at_call 69; refine (CallsIn.inRound _ (callsIn_wide.2 HCON.out)).mono ?_; rintro e' w' ⟨rfl, q1, q2, q3⟩)
    rw [show x = (ws.getD (L - k - 1) 0).toNat by rw [he]; rfl] at q1
    exact hi.next HL.out hkL hgC hr hR HSTK.out q1 q2
  case done =>
    intro W hi
    rw [HXL.out, ← HL.out] at hi
    obtain ⟨e1, e2⟩ := aplR_end hi hgC HC0.out
    gi_wp2
    refine ⟨by simp, .inl ⟨_, _, rfl, run_takeDeferred hi.2.2.2.2.1, ?_⟩⟩
    exact ⟨_, by simp [results, Try.f87, go_sem], rfl, e1, e2⟩
  case stop => exact fun W h => h.elim
end Go.Proofs.Ytfjeghalkmkgoaa
namespace Go.Proofs.Ytfjeghalkmkgoaa
open Go.RowKit

set_option maxHeartbeats 4000000 in
set_option maxRecDepth 100000 in
theorem rblR_any (B B1 B2 : Nat) (v v1 v2 : Value) (m : List (List Int)) (ws l : List Int) (w : World) (h : MatB B w v m) (h1 : RowB B1 w v1 ws) (h2 : RowB B2 w v2 l) (hB : B ≤ w.heap.size) (hB1 : B1 ≤ w.heap.size) (hB2 : B2 ≤ w.heap.size)
    (hf : RowsFit m) (hws : ws.length ≤ 1048576) (hl : l.length ≤ 1048576) :
    Calls Try.prog 66 #[v, v1, v2, .func (.func 69) #[] #[]] w (MakesS w (actR m ws l)) := by
  have HCL := Lib.hid (cloi_any B2 v2 l w h2 hB2 hl)
  have HIW := Lib.hid (fun (wx : World) (hb : Below w.heap.size w wx) => iswi_any B B1 v v1 m ws wx (h.below hb hB) (h1.below hb hB1) hf (by unfold maxLen; omega))
  by_cases hok : ActOk m ws l
  · rw [actR_yes hok]
    obtain ⟨hW, hll⟩ := hok
    have HAP := Lib.hid (fun (g xc : Nat) (wx : World) (hb : Below w.heap.size w wx) (hx : RowF 3 w.heap.size wx g xc l []) => aplr_any w.heap.size B g xc xc v v1 m ws l wx (h.below hb hB) (RowN.of (h1.below hb hB1) (Nat.le_trans hB1 hx.lt.1) (Nat.le_trans hB1 hb.size)) hx hB hW.2.1 hW.1 hws hll)
    have HWB := Lib.hid (wordB_yes hW)
    rw [HWB.out] at HIW
    have hn1 := hW.2.1.2.2.1
    have HLL := Lib.hid hll
    have HAL := Lib.hid ((actRW_len m ws l).trans hll)
    obtain ⟨a, cap, rfl⟩ := h.slice
    obtain ⟨a1, cap1, rfl⟩ := h1.slice
    obtain ⟨a2, cap2, rfl⟩ := h2.slice
    clear h h1 h2 hf hW HWB hws
    rw [hll] at HCL ⊢
    generalize m.length = n at *
    generalize ws.length = L at *
    have heq : ((n : Int) == (n : Int)) = true := by simp
    generalize actRW m ws l = R at *
    go_enter Try.func66, Try.ntmps66
    go_wp2_with fail
    refine HCL.out.mono ?_
    rintro e w1 ⟨x, rfl, ⟨hx, _⟩, hb⟩
    have HB := Lib.hid hb
    have HIW2 := Lib.hid (HIW.out _ HB.out)
    obtain ⟨g, xc, rfl, hg1, hg2⟩ := hx.at' (by rw [hll]; exact hn1)
    rw [hll] at hx ⊢
    have HX := Lib.hid (RowF.ofI hx hll)
    clear hx hb HIW hll
    go_wp2_with fail
    refine HIW2.out.mono ?_
    rintro e w2 ⟨rfl, q, rfl⟩
    have HB2 := Lib.hid (HB.out.trans ((below_drewN (w := w1) q).mono HB.out.size))
    have HX2 := Lib.hid (HX.out.below (below_drewN (w := w1) q) hg2)
    have HC := Lib.hid (HAP.out g xc _ HB2.out HX2.out)
    clear HX HB HIW2 HCL
    go_wp2_with fail
    refine HC.out.mono ?_
    rintro e w3 ⟨rfl, hr, hg⟩
    have HR := Lib.hid (hr.toI HAL.out)
    have HB3 := Lib.hid (HB2.out.grown hg HB2.out.size (fun j hj => by have := Option.some.inj hj; omega))
    clear hr hg HC HAP
    go_wp2_with fail
    go_ret
    exact ⟨_, rfl, ⟨HR.out, Nat.le_refl _⟩, HB3.out⟩
  · rw [actR_no hok]
    have hlm := hf.1
    unfold maxLen at hlm
    obtain ⟨a, cap, rfl⟩ := h.slice
    obtain ⟨a1, cap1, rfl⟩ := h1.slice
    obtain ⟨a2, cap2, rfl⟩ := h2.slice
    by_cases hW : IsW m ws
    · have hne : ((l.length : Int) == (m.length : Int)) = false := by rw [beq_eq_false_iff_ne]; intro e; exact hok ⟨hW, by omega⟩
      have HWB := Lib.hid (wordB_yes hW)
      rw [HWB.out] at HIW
      clear hok hW h h1 h2 hf hws HWB
      generalize m.length = n at *
      generalize ws.length = L at *
      generalize l.length = n2 at *
      go_enter Try.func66, Try.ntmps66
      go_wp2_with fail
      refine HCL.out.mono ?_
      rintro e w1 ⟨x, rfl, ⟨hx, _⟩, hb⟩
      have HX := Lib.hid hx; have HB := Lib.hid hb; have HIW2 := Lib.hid (HIW.out _ HB.out)
      clear hx hb HIW HCL
      go_wp2_with fail
      refine HIW2.out.mono ?_
      rintro e w2 ⟨rfl, q, rfl⟩
      go_wp2_with fail
      go_ret
      exact ⟨_, rfl, ⟨HX.out.step (below_drewN q), Nat.le_refl _⟩, HB.out.trans ((below_drewN q).mono HB.out.size)⟩
    · have HWB := Lib.hid (wordB_no hW)
      rw [HWB.out] at HIW
      clear hok hW h h1 h2 hf hws HWB
      generalize m.length = n at *
      generalize ws.length = L at *
      generalize l.length = n2 at *
      go_enter Try.func66, Try.ntmps66
      go_wp2_with fail
      refine HCL.out.mono ?_
      rintro e w1 ⟨x, rfl, ⟨hx, _⟩, hb⟩
      have HX := Lib.hid hx; have HB := Lib.hid hb; have HIW2 := Lib.hid (HIW.out _ HB.out)
      clear hx hb HIW HCL
      go_wp2_with fail
      refine HIW2.out.mono ?_
      rintro e w2 ⟨rfl, q, rfl⟩
      go_wp2_with fail
      go_ret
      exact ⟨_, rfl, ⟨HX.out.step (below_drewN q), Nat.le_refl _⟩, HB.out.trans ((below_drewN q).mono HB.out.size)⟩
set_option maxHeartbeats 1000000 in
set_option maxRecDepth 100000 in
theorem actri_any (B B1 B2 : Nat) (v v1 v2 : Value) (m : List (List Int)) (ws l : List Int) (w : World) (h : MatB B w v m) (h1 : RowB B1 w v1 ws) (h2 : RowB B2 w v2 l) (hB : B ≤ w.heap.size) (hB1 : B1 ≤ w.heap.size) (hB2 : B2 ≤ w.heap.size)
    (hf : RowsFit m) (hws : ws.length ≤ 1048576) (hl : l.length ≤ 1048576) :
    Calls Try.prog 41 #[v, v1, v2] w (MakesS w (actR m ws l)) := by
  have HO := Lib.hid (rblR_any B B1 B2 v v1 v2 m ws l w h h1 h2 hB hB1 hB2 hf hws hl)
  clear h h1 h2 hf
  go_enter Try.func41, Try.ntmps41
  go_wp2_with fail
  refine HO.out.mono ?_
  rintro e w1 ⟨x, rfl, hx, hb⟩
  have HX := Lib.hid hx; have HB := Lib.hid hb
  clear hx hb
  go_wp2_with fail
  go_ret
  exact ⟨_, rfl, HX.out, HB.out⟩
end Go.Proofs.Ytfjeghalkmkgoaa
namespace Go.Proofs.Ytfjeghalkmkgoaa
open Go.RowKit

/-! ### append(row, x) where the row may be empty -/
set_option maxRecDepth 100000 in
theorem append_intP {ops : Array Oper} {rest : List Oper} {o : Oper} {a : Act} {Q : Exit → Act → World → Prop} {s x : Operand} {A q : Nat} {v : Value} {l : List Int} {wr : World}
    (hM : RowI A wr.heap.size wr v l) (hA : A ≤ wr.heap.size) (hq : q = wr.heap.size) (n : Int) (hgd : o.guard = none)
    (ho : o.op = .call { callee := .builtin .append, args := #[s, x], argTypes := #[23, 23] }) (hs : a.eval s = v)
    (hx : a.eval x = .slice (some ⟨q, 0, none⟩) 1 1) (hlen : l.length ≤ 4194304)
    (h : ∀ v' w', RowI A w'.heap.size w' v' (l ++ [n]) → wr.grownBy w' v.ownBlock → (∀ g, v'.ownBlock = some g → v.ownBlock = some g ∨ wr.heap.size ≤ g) → wpList Try.prog ops Q rest (a.put o.dst v') w') :
    wpList Try.prog ops Q (o :: rest) a (wr.alloc (.cells #[.int .i64 n] 3)) := by
  subst hq
  obtain ⟨h1, h2⟩ := hM
  obtain ⟨i0, hi, hz0, hz1, hz2⟩ := info_parts Try.infoInt
  have h1a := h1.alloc (.cells #[.int .i64 n] 3)
  have hnew : ∀ j u, [Value.int .i64 n][j]? = some u → (wr.alloc (.cells #[.int .i64 n] 3)).cell? ((⟨wr.heap.size, 0, none⟩ : Addr).add j) = some u := by
    intro j u hu
    match j, hu with
    | 0, hu =>
      simp at hu
      subst hu
      rw [Addr.add_lit, cell_of_row _ wr.heap.size 0 _ _ _ (MapKept.heap_alloc wr _).1]
      rfl
    | j + 1, hu => simp at hu
  have hone : ∀ u ∈ [Value.int .i64 n], u.oneCell' = true := by
    intro u hu
    simp at hu
    subst hu
    rfl
  have hlv : (intsV l).length = l.length := intsV_len l
  obtain ⟨v', w', hr, h3, h4, _⟩ := run_append_own (P := Try.prog) (wr.alloc (.cells #[.int .i64 n] 3)) A 23 o.type 3 i0 (.int .i64 0) 1 8 Try.underlying23 hi hz0 hz1 hz2 rfl (by omega) v l.length (intsV l) h1a ⟨wr.heap.size, 0, none⟩ 1 1 [.int .i64 n] rfl hnew hone (by unfold maxLen; omega) (by omega) (by simp; omega)
  have hloc : ∀ g, v'.ownBlock = some g → v.ownBlock = some g ∨ wr.heap.size ≤ g := by
    rcases h1.2 with ⟨rfl, he⟩ | ⟨g, cap, cur, rfl, hAg, hg, hn, hc, hsz, ht⟩
    · have hr2 := run_append_nil (P := Try.prog) (wr.alloc (.cells #[.int .i64 n] 3)) 23 o.type 3 i0 (.int .i64 0) Try.underlying23 hi hz0 ⟨wr.heap.size, 0, none⟩ 1 1 [.int .i64 n] (by rw [hz1]; rfl) hnew (by omega) (by omega) (by rw [hz2]; omega)
      rw [hr] at hr2
      injection hr2 with e1 e2
      subst e1
      intro g' hg'
      right
      have : (wr.alloc (.cells #[.int .i64 n] 3)).heap.size = g' := by simpa [Value.ownBlock] using hg'
      simp at this
      omega
    · have hga : (wr.alloc (.cells #[.int .i64 n] 3)).heap[g]? = some (.cells cur 3 (0, 0)) := by
        rw [(MapKept.heap_alloc wr _).2 g (Array.getElem?_eq_some_iff.1 hg).1]; exact hg
      by_cases hroom : l.length + 1 ≤ cap
      · have hr2 := run_append_room (P := Try.prog) (wr.alloc (.cells #[.int .i64 n] 3)) 23 o.type 3 i0 Try.underlying23 hi g l.length cap cur hga ⟨wr.heap.size, 0, none⟩ 1 1 [.int .i64 n] (by rw [hz1]; rfl) hnew hone hroom (by rw [hz1]; simp; omega)
        rw [hr] at hr2
        injection hr2 with e1 e2
        subst e1
        intro g' hg'
        exact Or.inl hg'
      · have hr2 := run_append_grow (P := Try.prog) (wr.alloc (.cells #[.int .i64 n] 3)) 23 o.type 3 i0 (.int .i64 0) Try.underlying23 hi hz0 ⟨g, 0, none⟩ l.length cap (intsV l) (by rw [hz1, hlv]; omega) (h1a.cells (g := g) rfl) ⟨wr.heap.size, 0, none⟩ 1 1 [.int .i64 n] (by rw [hz1]; rfl) hnew (by omega) (by omega) (growslice_fits (by omega) (by rw [hz2]; omega))
        rw [hr] at hr2
        injection hr2 with e1 e2
        subst e1
        intro g' hg'
        right
        have : (wr.alloc (.cells #[.int .i64 n] 3)).heap.size = g' := by simpa [Value.ownBlock] using hg'
        simp at this
        omega
  refine Lib.wpList_append_run _ hgd s x 23 23 ho _ _ hs hx v' w' hr ?_
  refine h v' w' ⟨?_, fun g hgg => (h3.lt g hgg).2⟩ ⟨h4.os, h4.tape, h4.output, by have := h4.size; simp at this; omega, fun k hk hn => ?_⟩ hloc
  · have e : intsV l ++ [.int .i64 n] = intsV (l ++ [n]) := by simp [intsV]
    rw [e] at h3
    rw [List.length_append]
    exact h3
  · rw [h4.block k (by simp; omega) hn]
    exact (MapKept.heap_alloc wr _).2 k hk
end Go.Proofs.Ytfjeghalkmkgoaa
