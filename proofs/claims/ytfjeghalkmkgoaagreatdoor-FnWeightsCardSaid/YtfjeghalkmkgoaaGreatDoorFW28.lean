/-
  What the program's parseNumbers returns: the numbers of a text cut at its commas.
-/
import Derived.Test.YtfjeghalkmkgoaaGreatDoorFW26
import Derived.Test.YtfjeghalkmkgoaaGreatDoorFW27
namespace Go.Proofs.YtfjeghalkmkgoaaGreatDoor
open Go.RowKit Go.Shelf
attribute [local go_sem] Oper.semAt_some

open Classical in
noncomputable def pnB (l : List UInt8) : Bool := decide (RowOk l)
open Classical in
theorem pnB_yes {l : List UInt8} (h : RowOk l) : pnB l = true := decide_eq_true h
open Classical in
theorem pnB_no {l : List UInt8} (h : ¬ RowOk l) : pnB l = false := decide_eq_false h
noncomputable def pnL (l : List UInt8) : List Int := if pnB l = true then rowPV l else []
theorem pnL_yes {l : List UInt8} (h : RowOk l) : pnL l = rowPV l := if_pos (pnB_yes h)
theorem pnL_no {l : List UInt8} (h : ¬ RowOk l) : pnL l = [] := by unfold pnL; rw [pnB_no h]; rfl
theorem pnL_len (l : List UInt8) : (pnL l).length ≤ l.length + 1 := by
  by_cases h : RowOk l
  · rw [pnL_yes h, rowPV_len]; have := cutL_lenD 44 l; omega
  · rw [pnL_no h]; simp
/-- Between two rounds. -/
def PnI (l : List UInt8) (w : World) (B0 k : Nat) (W : World) : Prop :=
  Boxed W B0 25 nilS ∧ Boxed W (B0 + 1) 4 (.bool false) ∧ W.heap[B0 + 6]? = some (.deferred (some [])) ∧ Below B0 w W ∧ B0 + 8 ≤ W.heap.size ∧
    (∃ a n c, Boxed W (B0 + 2) 25 (.slice a n c) ∧ RowI (B0 + 8) W.heap.size W (.slice a n c) ((rowPV l).take k)) ∧ ∀ f ∈ (cutLD 44 l).take k, POk f
/-- Behind a field that is no number. -/
def PnX (l : List UInt8) (w : World) (B0 : Nat) (W : World) : Prop :=
  Boxed W B0 25 nilS ∧ Boxed W (B0 + 1) 4 (.bool false) ∧ W.heap[B0 + 6]? = some (.deferred (some [])) ∧ Below B0 w W ∧ ¬ RowOk l
theorem PnI.grown {l : List UInt8} {w : World} {B0 k x : Nat} {W W' : World} (h : PnI l w B0 k W) (hg : W.grownBy W' (some x)) (hx : x = B0 + 3 ∨ x = B0 + 7) : PnI l w B0 k W' := by
  obtain ⟨h1, h2, h3, h4, h5, ⟨a, n, c, h6, h7⟩, h8⟩ := h
  have hne : ∀ b, b ≤ B0 + 2 → some b ≠ some x := fun b hb e => by have := Option.some.inj e; omega
  exact ⟨h1.kept hg (hne _ (by omega)), h2.kept hg (hne _ (by omega)), heap_grown h3 hg (by omega), h4.grown hg (by have := h4.size; omega) (fun k hk => by have := Option.some.inj hk; omega), by have := hg.size; omega,
    ⟨a, n, c, h6.kept hg (hne _ (by omega)), (h7.same (sameIn_grownD hg (Nat.le_refl _) (by omega))).mono (Nat.le_refl _) hg.size⟩, h8⟩
theorem PnX.grown {l : List UInt8} {w : World} {B0 x : Nat} {W W' : World} (h : PnX l w B0 W) (hg : W.grownBy W' (some x)) (hx : B0 + 6 < x ∨ x = B0 + 3) : PnX l w B0 W' := by
  obtain ⟨h1, h2, h3, h4, h5⟩ := h
  have hne : ∀ b, b ≤ B0 + 2 → some b ≠ some x := fun b hb e => by have := Option.some.inj e; omega
  exact ⟨h1.kept hg (hne _ (by omega)), h2.kept hg (hne _ (by omega)), heap_grown h3 hg (by omega), h4.grown hg (by have := h1.lt; omega) (fun k hk => by have := Option.some.inj hk; omega), h5⟩
theorem pn_start {l : List UInt8} {w W0 : World} {B0 : Nat} (hz0 : W0.heap.size = B0 + 6) (b0 : Boxed W0 B0 25 nilS) (b1 : Boxed W0 (B0 + 1) 4 (.bool false)) (b2 : Boxed W0 (B0 + 2) 25 nilS) (hbe : Below B0 w W0) (hS0 : SplitR 44 l (B0 + 3) 0 W0) (o : Obj) :
    PnI l w B0 0 ((W0.alloc (.deferred (some []))).alloc o) ∧ SplitR 44 l (B0 + 3) 0 ((W0.alloc (.deferred (some []))).alloc o) := by
  have hal : Below (B0 + 6) W0 ((W0.alloc (.deferred (some []))).alloc o) := ((Below.refl _ _).alloc (by omega) _).alloc (by simp; omega) _
  have hz1 : ((W0.alloc (.deferred (some []))).alloc o).heap.size = B0 + 8 := by simp; omega
  refine ⟨⟨boxed_below b0 hal (by omega), boxed_below b1 hal (by omega), ?_, hbe.trans (hal.mono (by omega)), by rw [hz1]; exact Nat.le_refl _, ⟨none, 0, 0, boxed_below b2 hal (by omega), ?_⟩, by simp⟩, hS0.below hal (by omega)⟩
  · have h6 := heap_last hz0 (.deferred (some []))
    exact ((MapKept.heap_alloc _ _).2 _ (by simp; omega)).trans h6
  · rw [List.take_zero]; exact ⟨World.ownsRow_nil _ _ _ _, fun g h => by simp [Value.ownBlock] at h⟩
theorem pn_end0 {w W : World} {B0 : Nat} {v c : Value} {m : List Int} (k1 : Boxed W B0 25 v) (k2 : Boxed W (B0 + 1) 4 c) (_hK : W.heap[B0 + 6]? = some (.deferred (some []))) (hbe : Below B0 w W) (hm : RowI (B0 + 8) W.heap.size W v m) :
    (W.putObj (B0 + 6) (.deferred none)).cell? ⟨B0, 0, none⟩ = some v ∧ (W.putObj (B0 + 6) (.deferred none)).cell? ⟨B0 + 1, 0, none⟩ = some c ∧ OwnS B0 (W.putObj (B0 + 6) (.deferred none)).heap.size (W.putObj (B0 + 6) (.deferred none)) v m ∧ Below B0 w (W.putObj (B0 + 6) (.deferred none)) := by
  have hg := grownBy_putObj' W (B0 + 6) (.deferred none)
  refine ⟨(k1.kept hg (fun e => by have := Option.some.inj e; omega)).cell, (k2.kept hg (fun e => by have := Option.some.inj e; omega)).cell, ⟨(hm.same (sameIn_grownD hg (Nat.le_refl _) (by omega))).mono (by omega) hg.size, Nat.le_refl _⟩,
    hbe.grown hg (by have := k1.lt; omega) (fun k hk => by have := Option.some.inj hk; omega)⟩
theorem pn_set {w W : World} {B0 : Nat} {v v' c c' : Value} {m : List Int} (k1 : Boxed W B0 25 v) (k2 : Boxed W (B0 + 1) 4 c) (hK : W.heap[B0 + 6]? = some (.deferred (some []))) (hbe : Below B0 w W) (hm : RowI (B0 + 8) W.heap.size W v' m) (v'' : Value) :
    Boxed ((W.setCell ⟨B0, 0, none⟩ v'').setCell ⟨B0 + 1, 0, none⟩ c') B0 25 v'' ∧ Boxed ((W.setCell ⟨B0, 0, none⟩ v'').setCell ⟨B0 + 1, 0, none⟩ c') (B0 + 1) 4 c' ∧ ((W.setCell ⟨B0, 0, none⟩ v'').setCell ⟨B0 + 1, 0, none⟩ c').heap[B0 + 6]? = some (.deferred (some [])) ∧
      Below B0 w ((W.setCell ⟨B0, 0, none⟩ v'').setCell ⟨B0 + 1, 0, none⟩ c') ∧ RowI (B0 + 8) ((W.setCell ⟨B0, 0, none⟩ v'').setCell ⟨B0 + 1, 0, none⟩ c').heap.size ((W.setCell ⟨B0, 0, none⟩ v'').setCell ⟨B0 + 1, 0, none⟩ c') v' m := by
  have g1 := grownBy_setCell' W B0 v''
  have g2 := grownBy_setCell' (W.setCell ⟨B0, 0, none⟩ v'') (B0 + 1) c'
  have hW := k1.lt
  refine ⟨boxed_other (k1.set v'') (by omega) c', (boxed_other k2 (by omega) v'').set c', heap_grown (heap_grown hK g1 (by omega)) g2 (by omega),
    (hbe.grown g1 (by omega) (fun k hk => by have := Option.some.inj hk; omega)).grown g2 (by have := g1.size; omega) (fun k hk => by have := Option.some.inj hk; omega),
    (hm.same ((sameIn_grownD g1 (Nat.le_refl _) (by omega)).trans (sameIn_grownD g2 g1.size (by omega)))).mono (Nat.le_refl _) (Nat.le_trans g1.size g2.size)⟩
theorem pn_next {l : List UInt8} {w W w2 : World} {B0 k : Nat} {a n c : _} {v : Value} {r : Loop} (hr : W.heap[B0 + 7]? = some (.loop r)) (h1 : Boxed W B0 25 nilS) (h2 : Boxed W (B0 + 1) 4 (.bool false)) (h3 : W.heap[B0 + 6]? = some (.deferred (some [])))
    (h4 : Below B0 w W) (h5 : B0 + 8 ≤ W.heap.size) (h6 : Boxed W (B0 + 2) 25 (.slice a n c)) (hf : ∀ f ∈ (cutLD 44 l).take (k + 1), POk f) (hR : SplitR 44 l (B0 + 3) k W)
    (hq : Below (B0 + 8) W w2) (hv : ∃ a' n' c', v = .slice a' n' c') (hm : RowI (B0 + 8) w2.heap.size w2 v ((rowPV l).take (k + 1))) :
    (w2.setCell ⟨B0 + 2, 0, none⟩ v).heap[B0 + 7]? = some (.loop r) ∧ PnI l w B0 (k + 1) (w2.setCell ⟨B0 + 2, 0, none⟩ v) ∧ SplitR 44 l (B0 + 3) k (w2.setCell ⟨B0 + 2, 0, none⟩ v) := by
  obtain ⟨a', n', c', rfl⟩ := hv
  have g := grownBy_setCell' w2 (B0 + 2) (.slice a' n' c')
  have hz := hq.size
  exact ⟨heap_grown ((hq.block _ (by omega)).trans hr) g (by omega), ⟨boxed_other (boxed_below h1 hq (by omega)) (by omega) _, boxed_other (boxed_below h2 hq (by omega)) (by omega) _, heap_grown ((hq.block _ (by omega)).trans h3) g (by omega),
    (h4.trans (hq.mono (by omega))).grown g (by omega) (fun k hk => by have := Option.some.inj hk; omega), by have := g.size; omega, ⟨a', n', c', (boxed_below h6 hq (by omega)).set _, (hm.other g (by omega)).mono (Nat.le_refl _) g.size⟩, hf⟩, (hR.below hq (by omega)).grown g (.inl (by omega))⟩
theorem pn_bad {l : List UInt8} {w W w1 : World} {B0 : Nat} {r : Loop} (hr : W.heap[B0 + 7]? = some (.loop r)) (h1 : Boxed W B0 25 nilS) (h2 : Boxed W (B0 + 1) 4 (.bool false)) (h3 : W.heap[B0 + 6]? = some (.deferred (some [])))
    (h4 : Below B0 w W) (h5 : B0 + 8 ≤ W.heap.size) (hq : Below W.heap.size W w1) (hn : ¬ RowOk l) :
    ((w1.setCell ⟨B0, 0, none⟩ (.slice none 0 0)).setCell ⟨B0 + 1, 0, none⟩ (.bool false)).heap[B0 + 7]? = some (.loop r) ∧ PnX l w B0 ((w1.setCell ⟨B0, 0, none⟩ (.slice none 0 0)).setCell ⟨B0 + 1, 0, none⟩ (.bool false)) := by
  have g1 := grownBy_setCell' w1 B0 (.slice none 0 0)
  have g2 := grownBy_setCell' (w1.setCell ⟨B0, 0, none⟩ (.slice none 0 0)) (B0 + 1) (.bool false)
  obtain ⟨q1, q2, q3, q4, _⟩ := pn_set (c' := .bool false) (m := []) (v' := nilS) (boxed_below h1 hq (by omega)) (boxed_below h2 hq (by omega)) ((hq.block _ (by omega)).trans h3) (h4.trans (hq.mono (by omega))) ⟨World.ownsRow_nil _ _ _ _, fun g h => by simp [nilS, Value.ownBlock] at h⟩ (.slice none 0 0)
  exact ⟨heap_grown (heap_grown ((hq.block _ (by omega)).trans hr) g1 (by omega)) g2 (by omega), ⟨q1, q2, q3, q4, hn⟩⟩

set_option maxHeartbeats 4000000 in
set_option maxRecDepth 100000 in
theorem pni_any (s : ByteArray) (w : World) (hs : s.size ≤ 1048576) (htab : Lib.TabIs Tryz.prog w "internal/strconv.uint64pow10" .u64 Lib.pow10Tab) :
    Calls Tryz.prog 43 #[.string s] w (MakesS2 w (pnL s.data.toList) (.bool (pnB s.data.toList))) := by
  obtain ⟨l, hl⟩ : ∃ l, l = s.data.toList := ⟨_, rfl⟩
  have hsl : s.size = l.length := by rw [hl]; exact Array.length_toList.symm
  have hse : Value.string s = strL l := by rw [hl]; rfl
  rw [← hl, hse]
  clear hl
  rw [hsl] at hs
  clear hsl hse s
  refine (callsIn_wide (n := 9)).1 ?_
  refine callsIn_of_wp_marks Tryz.func43 rfl trivial ?_ rfl
  simp only [Tryz.ntmps43, List.size_toArray, List.length_cons, List.length_nil, Nat.reduceAdd, Nat.reduceSub, Array.replicate_succ, Array.replicate_zero, List.push_toArray, List.append_toArray, List.nil_append, List.cons_append]
  gi_wp2_with (refine ⟨trivial, ?_⟩; gi_at_call 65; refine (callsIn_wide.2 (splitseq_any l 44 _)).mono ?_; rintro e w' ⟨rfl, rfl⟩)
  obtain ⟨B0, hB0⟩ : ∃ B, w.heap.size = B := ⟨_, rfl⟩
  have hz0 : (splitW (((w.alloc (.cells #[nilS] 25)).alloc (.cells #[.bool false] 4)).alloc (.cells #[nilS] 25)) l 44).heap.size = B0 + 6 := by rw [splitW_size]; simp; omega
  have hS0 := splitW_start (((w.alloc (.cells #[nilS] 25)).alloc (.cells #[.bool false] 4)).alloc (.cells #[nilS] 25)) l 44
  have hq0 := splitW_below (((w.alloc (.cells #[nilS] 25)).alloc (.cells #[.bool false] 4)).alloc (.cells #[nilS] 25)) l 44
  have b0 := ((Boxed.new w 25 nilS).alloc (.cells #[.bool false] 4)).alloc (.cells #[nilS] 25)
  have b1 := (Boxed.new (w.alloc (.cells #[nilS] 25)) 4 (.bool false)).alloc (.cells #[nilS] 25)
  have b2 := Boxed.new ((w.alloc (.cells #[nilS] 25)).alloc (.cells #[.bool false] 4)) 25 nilS
  have hbe : Below w.heap.size w (((w.alloc (.cells #[nilS] 25)).alloc (.cells #[.bool false] 4)).alloc (.cells #[nilS] 25)) := (((Below.refl _ w).alloc (Nat.le_refl _) _).alloc (by simp) _).alloc (by simp; omega) _
  have hsz3 : (((w.alloc (.cells #[nilS] 25)).alloc (.cells #[.bool false] 4)).alloc (.cells #[nilS] 25)).heap.size = B0 + 3 := by simp; omega
  have b0 := boxed_below b0 hq0 (by rw [hsz3]; omega)
  have b1 := boxed_below b1 hq0 (by rw [hsz3]; simp; omega)
  have b2 := boxed_below b2 hq0 (by rw [hsz3]; simp; omega)
  have hbe := hbe.trans (hq0.mono (by rw [hsz3]; omega))
  rw [hsz3] at hS0
  simp only [World.size_alloc, hB0] at b0 b1 b2 hbe ⊢
  rw [show B0 + 1 + 1 + 1 = B0 + 3 from rfl, show B0 + 1 + 1 = B0 + 2 from rfl]
  rw [show B0 + 1 + 1 = B0 + 2 from rfl] at b2
  change Code.wpIn _ _ _ _ _ _ (splitW (((w.alloc (.cells #[nilS] 25)).alloc (.cells #[.bool false] 4)).alloc (.cells #[nilS] 25)) l 44)
  generalize splitW (((w.alloc (.cells #[nilS] 25)).alloc (.cells #[.bool false] 4)).alloc (.cells #[nilS] 25)) l 44 = W0 at *
  clear hq0 hsz3
  refine range_gives (F := Fence.wide) (n := 9) (by omega) (gf := 91) (lb := #[.pointer (some ⟨B0 + 3 + 1, 0, none⟩), .pointer (some ⟨B0 + 3, 0, none⟩), .pointer (some ⟨B0 + 3 + 2, 0, none⟩)]) rfl trivial (enters_of Tryz.func91 (by kernel_rfl) rfl)
    (xs := (cutLD 44 l).map fun x => #[strL x]) (R := SplitR 44 l (B0 + 3)) (Ab := SplitAb (B0 + 3)) (split_gives 8 (by omega) 44 l hs (B0 + 3)) (fun x hx => by obtain ⟨y, _, rfl⟩ := List.mem_map.1 hx; rfl)
    (B0 + 7) (B0 + 6) [{ target := .collected (B0 + 6), args := #[] }] (fun fn => (W0.alloc (.deferred (some []))).alloc (.loop { state := .ready, pending := none, fn := fn, tmps := _, params := _, assign := _, body := _, defers := B0 + 6 }))
    (fun fn => enter_outer hz0 rfl fn _ _ _ _) (fun fn => heap_last (by rw [World.size_alloc, hz0]) _)
    (PnI l w B0) (PnX l w B0) (fun k W r r' hi _ => hi.grown (grownBy_putObj' W _ _) (.inr rfl)) (fun W r r' hi _ => hi.grown (grownBy_putObj' W _ _) (.inl (by omega))) (fun k W r r' hi _ => hi.grown (grownBy_putObj' W _ _) (.inr (by omega)))
    (fun k X Y hi hab => by obtain ⟨v, rfl⟩ := hab; exact hi.grown (grownBy_setCell' _ _ _) (.inl rfl)) (fun X Y hab => by obtain ⟨v, rfl⟩ := hab; exact Below.heap_setCell _ _ _ _ (by simp)) (fun fn => ?start)
    (fun k _ => { tmps := #[strL l, undef, .pointer (some ⟨B0, 0, none⟩), .pointer (some ⟨B0 + 1, 0, none⟩), .pointer (some ⟨B0 + 2, 0, none⟩), strL ((cutLD 44 l).getD k []), undef, undef, strL l, splitFn (B0 + 3), strL ((cutLD 44 l).getD k []), undef, undef, undef, undef, undef, undef, undef, undef, undef, undef, undef, undef], defers := [] })
    ?assign ?body ?done ?stop
  case start => exact pn_start hz0 b0 b1 b2 hbe hS0 _
  case assign =>
    intro k h W K hK
    rw [map_get]
    gi_wp2
    exact hK
  case body =>
    rintro k hk W r hr ⟨h1, h2, h3, h4, h5, ⟨a, n, c, h6, h7⟩, h8⟩ hR
    have hkl : k < (cutLD 44 l).length := by simpa using hk
    have hmem := getD_mem hk
    have hfl := cutL_mem_len 44 l _ hmem
    have hrow := rowPV_snoc l k hkl
    have hgd : (cutLD 44 l).getD k [] = (cutLD 44 l)[k] := by simp [List.getD, hkl]
    rw [← hgd] at hrow
    have hall8 : ∀ f ∈ (cutLD 44 l).take (k + 1), f ∈ (cutLD 44 l).take k ∨ f = (cutLD 44 l).getD k [] := fun r hr => by
      rw [List.take_succ_eq_append_getElem hkl, ← hgd] at hr
      rcases List.mem_append.1 hr with h | h
      · exact .inl h
      · exact .inr (by simpa using h)
    have hpl : ((rowPV l).take k).length ≤ 4194304 := by
      have := rowPV_len l
      have := cutL_lenD 44 l
      rw [List.length_take]; omega
    have HMEM := Lib.hid hmem; have HROW := Lib.hid hrow; have HA8 := Lib.hid hall8; have HPL := Lib.hid hpl
    clear hmem hrow hgd hall8 hpl hkl hk
    generalize (cutLD 44 l).getD k [] = fl at *
    have htb := tab_below htab (h4.mono (Nat.le_of_eq hB0))
    have hpa := pari_any ⟨fl.toArray⟩ W (by rw [ba_list]; unfold maxLen; omega) htb
    change Calls _ _ #[strL fl] _ _ at hpa
    by_cases hp : POk fl
    · have hpy : Calls Tryz.prog 66 #[strL fl] W fun e w1 => e = .returned (.tuple #[.int .i64 (PV fl), .bool true]) ∧ Below W.heap.size W w1 := hpa.mono fun e w1 ⟨h, hb1⟩ => by
        rcases h with ⟨_, h⟩ | ⟨h, _⟩
        · exact ⟨h, hb1⟩
        · exact absurd hp h
      have hfy : ∀ f ∈ (cutLD 44 l).take (k + 1), POk f := fun f hff => by
        rcases HA8.out f hff with h | h
        · exact h8 f h
        · rw [h]; exact hp
      generalize PV fl = x at *
      gi_wp2_with (first | (refine ⟨trivial, ?_⟩; gi_at_call 66; refine (CallsIn.inRound _ (callsIn_wide.2 hpy)).mono ?_; rintro e w1 ⟨rfl, hb1⟩; have hz1 := hb1.size; have bx1 := boxed_below h6 hb1 (by omega); have cx1 := bx1.cell; have hrw1 := h7.step hb1) | (gi_at_builtin; refine append_intI hrw1 (by omega) x HROW.out rfl rfl rfl rfl HPL.out ?_; rintro v' w2 ⟨a', n', c', rfl⟩ hm2 hb2 hz3; have hq := hb2 W (B0 + 8) (Nat.le_refl _) (hb1.mono (by omega)); have c3 := (boxed_below h6 hq (by omega)).cell; have c3f := (boxed_below h6 hq (by omega)).frozen))
      exact pn_next hr h1 h2 h3 h4 h5 h6 hfy hR hq ⟨_, _, _, rfl⟩ hm2
    · have hpn : Calls Tryz.prog 66 #[strL fl] W fun e w1 => e = .returned (.tuple #[.int .i64 0, .bool false]) ∧ Below W.heap.size W w1 := hpa.mono fun e w1 ⟨h, hb1⟩ => by
        rcases h with ⟨h, _⟩ | ⟨_, h⟩
        · exact absurd h hp
        · exact ⟨h, hb1⟩
      have hno : ¬ RowOk l := fun h => hp (h _ HMEM.out)
      gi_wp2_with (refine ⟨trivial, ?_⟩; gi_at_call 66; refine (CallsIn.inRound _ (callsIn_wide.2 hpn)).mono ?_; rintro e w1 ⟨rfl, hb1⟩; have k1 := boxed_below h1 hb1 (by omega); have k2 := boxed_below h2 hb1 (by omega); have cx1 := k1.cell; have cx1f := k1.frozen; have k3 := boxed_other k2 (B' := B0) (by omega) (.slice none 0 0); have cx2 := k3.cell; have cx2f := k3.frozen)
      exact pn_bad hr h1 h2 h3 h4 h5 hb1 hno
  case done =>
    rintro W ⟨h1, h2, h3, h4, h5, ⟨a, n, c, h6, h7⟩, h8⟩
    rw [List.length_map] at h7 h8
    rw [List.take_of_length_le (by rw [rowPV_len]; exact Nat.le_refl _)] at h7
    rw [List.take_of_length_le (Nat.le_refl _)] at h8
    have hall : RowOk l := h8
    have cO := h6.cell
    have c5 := h1.cell
    have c5f := h1.frozen
    have k3 := boxed_other h2 (B' := B0) (by omega) (.slice a n c)
    have c6 := k3.cell
    have c6f := k3.frozen
    have HB : Hid (pnB l = true) := Lib.hid (pnB_yes hall)
    have HM : Hid (pnL l = rowPV l) := Lib.hid (pnL_yes hall)
    clear h8 hall
    gi_wp2
    obtain ⟨q1, q2, q3, q4, q5⟩ := pn_set (c' := .bool true) h1 h2 h3 h4 h7 (.slice a n c)
    obtain ⟨e1, e2, e3, e4⟩ := pn_end0 q1 q2 q3 q4 q5
    refine ⟨by simp, .inl ⟨_, _, rfl, run_takeDeferred q3, ?_⟩⟩
    refine ⟨.tuple #[(.slice a n c), .bool true], ?_, (.slice a n c), by rw [HB.out], by rw [HM.out, hB0]; exact e3, by rw [hB0]; exact e4⟩
    simp [results, Tryz.f43, go_sem, e1, e2]
  case stop =>
    rintro W ⟨h1, h2, h3, h4, h5⟩
    have HB : Hid (pnB l = false) := Lib.hid (pnB_no h5)
    have HM : Hid (pnL l = []) := Lib.hid (pnL_no h5)
    have c5 := h1.cell
    have c5f := h1.frozen
    gi_wp2
    obtain ⟨e1, e2, e3, e4⟩ := pn_end0 (m := []) h1 h2 h3 h4 ⟨World.ownsRow_nil _ _ _ _, fun g h => by simp [nilS, Value.ownBlock] at h⟩
    refine ⟨by simp, .inl ⟨_, _, rfl, run_takeDeferred h3, ?_⟩⟩
    refine ⟨.tuple #[nilS, .bool false], ?_, nilS, by rw [HB.out], by rw [HM.out, hB0]; exact e3, by rw [hB0]; exact e4⟩
    simp [results, Tryz.f43, go_sem, e1, e2]
end Go.Proofs.YtfjeghalkmkgoaaGreatDoor
