/-
  Elements: the program's ways to the same answers (no walk here).
  Weights: what the program's reflection in place returns.
  A range over a function whose iterator keeps state in cells of its own, and hands over a list that is known beforehand (over any program): what the iterator owes, and the statement's law.
  Boxed variables and loops' records: what stays as it was (over any program but for the rows' type).
-/
import Derived.Test.YtnlbmnielemgiaaGreatEz22
import Derived.Deep.RegionLaw
import Derived.Test.YtnlbmnielemgiaaGreatEz03
import Derived.Test.YtnlbmnielemgiaaGreatEz18
import Derived.Test.YtnlbmnielemgiaaGreatEz15
import Derived.Test.YtnlbmnielemgiaaGreatEz14
import Derived.RangeFuncNested
import Derived.RangeFuncBound
import Derived.RangeFuncCalls
import Derived.RangeFuncLeaves
import Derived.Shelf.Abstract
import Derived.WalkKit
import Derived.OwnWalkIn
import Derived.TacticsInMore
import Derived.LoopNIn
import Derived.LoopIn
import Derived.Test.YtnlbmnielemgiaaGreatEz12
namespace Go.Proofs.YtnlbmnielemgiaaGreat
open Go.RowKit

theorem isW_nil {m : List (List Int)} (h : IsC m) : IsW m [] := ⟨fun _j hj => absurd hj (Nat.not_lt_zero _), h, Nat.zero_le _⟩
theorem wordB_rev (m : List (List Int)) (w : List Int) : wordB m w.reverse = wordB m w := by
  by_cases h : IsW m w
  · rw [wordB_yes h, wordB_yes (isW_rev h)]
  · rw [wordB_no h, wordB_no (fun h' => h (by have := isW_rev h'; rwa [List.reverse_reverse] at this))]
/-- What the program answers by one operation on two words. -/
noncomputable def elbB (m : List (List Int)) (a b ws : List Int) : Bool := wordB m a && wordB m b && decide ((fitL m ws).length ≤ 15)
noncomputable def elbL (m : List (List Int)) (a b ws : List Int) : List Int := if elbB m a b ws = true then fitL m ws else []
theorem elb_mul (m : List (List Int)) (a b : List Int) : elbB m a b (a ++ b) = mulB m a b ∧ elbL m a b (a ++ b) = mulL m a b := ⟨rfl, rfl⟩
theorem elb_inv (m : List (List Int)) (a : List Int) : elbB m a [] (a.reverse ++ []) = invB m a ∧ elbL m a [] (a.reverse ++ []) = invL m a := by
  rw [List.append_nil]
  have e : elbB m a [] a.reverse = invB m a := by
    unfold elbB invB
    rw [wordB_rev]
    by_cases h : IsW m a
    · have h2 := (fit_spec (wd_of (isW_rev h))).2.1
      have h3 := h.2.2
      rw [List.length_reverse] at h2
      rw [wordB_yes h, wordB_yes (isW_nil h.2.1), decide_eq_true (by omega)]; rfl
    · rw [wordB_no h]; rfl
  refine ⟨e, ?_⟩
  unfold elbL invL
  rw [e]
  unfold invB
  by_cases h : IsW m a
  · rw [wordB_yes (isW_rev h), if_pos rfl, nrm_fit (isW_rev h)]
  · rw [if_neg (by rw [wordB_rev, wordB_no h]; simp), nrmL_no (fun h' => h (by have := isW_rev h'; rwa [List.reverse_reverse] at this))]
theorem elb_front (m : List (List Int)) (a b : List Int) : elbB m b a (b.reverse ++ a) = mulB m b.reverse a ∧ elbL m b a (b.reverse ++ a) = mulL m b.reverse a := by
  have e : elbB m b a (b.reverse ++ a) = mulB m b.reverse a := by unfold elbB mulB; rw [wordB_rev]
  exact ⟨e, by unfold elbL mulL; rw [e]⟩
theorem mul_nrm {m : List (List Int)} {w : List Int} (h : IsW m w) (p : List Int) : mulB m p w = mulB m p (nrmL m w) ∧ mulL m p w = mulL m p (nrmL m w) := by
  have hn := nrm_word h
  by_cases hp : IsW m p
  · have e : fitL m (p ++ w) = fitL m (p ++ nrmL m w) := (fit_same (wd_cat hp h) (wd_cat hp hn) fun z => by
      rw [natsW_append, mapN_append, natsW_append, mapN_append, nrm_fit h, (fit_spec (wd_of h)).2.2.2.2]).2
    have e2 : mulB m p w = mulB m p (nrmL m w) := by unfold mulB; rw [e, wordB_yes h, wordB_yes hn]
    exact ⟨e2, by unfold mulL; rw [e2, e]⟩
  · have e1 : mulB m p w = false := by unfold mulB; rw [wordB_no hp]; rfl
    have e2 : mulB m p (nrmL m w) = false := by unfold mulB; rw [wordB_no hp]; rfl
    exact ⟨by rw [e1, e2], by rw [mul_no e1, mul_no e2]⟩
theorem pow_nrm {m : List (List Int)} {w : List Int} (h : IsW m w) : ∀ k, powS m w k = powS m (nrmL m w) k
  | 0 => rfl
  | k + 1 => by unfold powS; rw [pow_nrm h k, (mul_nrm h _).1, (mul_nrm h _).2]
theorem ivo_is (m : List (List Int)) (w : List Int) : ivoB m w = (samB m w w.reverse && !samB m w []) := by
  unfold ivoB
  by_cases h : IsW m w
  · have hc : comB m w w = true := by unfold comB; rw [wordB_yes h, eqwB_same]; rfl
    have hl : decide (0 < lenI m w) = !samB m w [] := by
      unfold lenI samB
      rw [wordB_yes h, wordB_yes (isW_nil h.2.1), if_pos rfl, eqwB_is, nrm_fit h, Bool.true_and, Bool.true_and]
      by_cases he : imgW m w = imgW m []
      · have h0 : fitL m w = [] := by
          have := fit_nil h.2.1
          unfold fitL at this ⊢; rw [he]; exact this
        rw [decide_eq_true he, h0]; rfl
      · have h0 : fitL m w ≠ [] := fun h0 => he (by have := (fit_spec (wd_of h)).1; rw [h0] at this; exact this.symm)
        have : 0 < (fitL m w).length := List.length_pos_iff.2 h0
        rw [decide_eq_false he, decide_eq_true (by omega)]; rfl
    rw [hc, hl, Bool.and_true, Bool.and_comm]
  · have h1 : lenI m w = -1 := by unfold lenI; rw [wordB_no h]; rfl
    rw [h1, show samB m w w.reverse = false by unfold samB; rw [wordB_no h]; rfl]; simp
theorem mulL_len (m : List (List Int)) (a b : List Int) : (mulL m a b).length ≤ 31 := by
  unfold mulL
  split
  · exact fitL_len m _
  · exact Nat.zero_le _
theorem cnjL_len (m : List (List Int)) (a b : List Int) : (cnjL m a b).length ≤ 31 := by
  unfold cnjL
  split
  · exact mulL_len m _ _
  · exact Nat.zero_le _
theorem powS_len' (m : List (List Int)) (x : List Int) : ∀ t, (powS m x t).1.length ≤ 31
  | 0 => Nat.zero_le _
  | t + 1 => by
    unfold powS
    split
    · exact mulL_len m _ _
    · exact Nat.zero_le _
theorem powL_len (m : List (List Int)) (w : List Int) (k : Int) : (powL m w k).length ≤ 31 := by
  unfold powL
  split
  · exact powS_len' m _ _
  · exact Nat.zero_le _
end Go.Proofs.YtnlbmnielemgiaaGreat
namespace Go.Proofs.YtnlbmnielemgiaaGreat
open Go.RowKit

theorem RowI.at' {A B : Nat} {w : World} {v : Value} {l : List Int} (h : RowI A B w v l) (h0 : 0 < l.length) : ∃ g cap, v = .slice (some ⟨g, 0, none⟩) l.length cap ∧ A ≤ g ∧ g < B := by
  rcases h.1.2 with ⟨_, h'⟩ | ⟨g, cap, _, h', hA, _⟩
  · omega
  · exact ⟨g, cap, h', hA, h.2 g (by rw [h']; rfl)⟩

set_option maxHeartbeats 4000000 in
set_option maxRecDepth 100000 in
theorem rip_any (A B : Nat) (v v' : Value) (m : List (List Int)) (l : List Int) (i : Nat) (w : World) (h : MatB B w v m) (h' : RowI A w.heap.size w v' l) (hBA : B ≤ A) (hI : Rows0 m m.length m.length) (hll : l.length = m.length) (hi : i < m.length) (hn : m.length ≤ 1048576) :
    Calls Tryz.prog 77 #[v, .int .i64 i, v'] w fun e w' => e = .returned (.tuple #[]) ∧ RowI A w'.heap.size w' v' (reflL m i l) ∧ w.grownBy w' v'.ownBlock ∧ w'.heap.size = w.heap.size := by
  obtain ⟨a, cap, rfl⟩ := h.slice
  obtain ⟨g, cap', rfl, hAg, hg⟩ := h'.at' (by omega)
  have HR := Lib.hid h
  have HRW := Lib.hid hI
  have hx0 : w.cell? ⟨g, i, none⟩ = some (.int .i64 (l.getD i 0)) := by
    have := h'.1.cellAt i (by omega)
    rw [this]; simp [intsV, List.getD, show i < l.length by omega]
  have h1 : w.ownsRow A 3 1 (.slice (some ⟨g, 0, none⟩) l.length cap') l.length (intsV (rflS m i l 0)) := by rw [rflS_zero]; exact h'.1
  have H1 := Lib.hid h1
  have HSTP := Lib.hid (fun k (hk : k < m.length) => rflS_step m i l k (by omega))
  have HLN := Lib.hid (fun k (hk : k ≤ m.length) => rflS_len m i l k (by omega))
  have HGT := Lib.hid (fun k (hk : k < m.length) => rflS_get m i l k (by omega))
  have HEND := Lib.hid (show rflS m i l m.length = reflL m i l from by rw [← hll]; exact rflS_end m i l)
  have HRL := Lib.hid (show (reflL m i l).length = m.length from by rw [reflL_len]; exact hll)
  have HEQ := Lib.hid (fun k => show reflE m i l k = subW (l.getD k 0) (mulW (l.getD i 0) (entry m k i)) from rfl)
  clear h h' hI h1
  rw [hll] at H1 ⊢
  rw [hll] at HLN
  generalize l.getD i 0 = z at *
  generalize m.length = n at *
  clear hll
  go_enter Tryz.func77, Tryz.ntmps77
  go_wp2_with fail
  clear hx0
  go_loopw [14] (fun i' wr => ∃ (k : Nat) (wq : World), wq = wr ∧ k ≤ n ∧ i' = .int .i64 k ∧ wq.ownsRow A 3 1 (.slice (some ⟨g, 0, none⟩) n cap') n (intsV (rflS m i l k)) ∧ w.grownBy wq (some g) ∧ wq.heap.size = w.heap.size) (fun i' _ => n - (intOf i').toNat)
  case atStart => exact ⟨0, _, rfl, Nat.zero_le _, rfl, H1.out, World.grownBy.refl _ _, rfl⟩
  case round =>
    obtain ⟨k, wq, rfl, hk, rfl, hown, hgr, hsz⟩ := hrel
    have HO := Lib.hid hown; have HG := Lib.hid hgr; have HSZ := Lib.hid hsz
    by_cases hlt : k < n
    · have hcell : wq.cell? ⟨g, k, none⟩ = some (.int .i64 (l.getD k 0)) := by
        rw [hown.cellAt k (by omega)]
        have := HGT.out k hlt
        simp [intsV, this]
      have hfz : wq.frozen? ⟨g, k, none⟩ = false := hown.frozenAt k
      have hbl : ∀ b, b < A → wq.heap[b]? = w.heap[b]? := fun b hb => hgr.block b (by omega) (fun e => by have := Option.some.inj e; omega)
      have hbw : Below A w wq := (Below.refl A w).grown hgr (by omega) (fun j hj => by have := Option.some.inj hj; omega)
      obtain ⟨b, off, rb, roff, rcap, rfl, hc1, hx⟩ := (HR.out.below hbw hBA).entry HRW.out hlt hi
      obtain ⟨hst, hgs⟩ := hown.stored k (.int .i64 (reflE m i l k))
      rw [intsV_set, HSTP.out k hlt] at hst
      have HST := Lib.hid hst
      have HGS := Lib.hid (grown_trans hgr hgs)
      have HE := Lib.hid (HEQ.out k)
      clear hst hgs hown hgr hsz hbl hbw
      generalize reflE m i l k = E at *
      generalize l.getD k 0 = x at *
      generalize entry m k i = y at *
      obtain ⟨pr, hpr⟩ : ∃ pr, pr = mulW z y := ⟨_, rfl⟩
      have h1 : IntKind.i64.wrap (z * y) = pr := by rw [hpr, wrapk]; rfl
      have h2 : wrap64 (z * y) = pr := by rw [hpr]; rfl
      have h3 : IntKind.i64.wrap (x - pr) = E := by rw [HE.out, hpr, wrapk]; rfl
      have h4 : wrap64 (x - pr) = E := by rw [HE.out, hpr]; rfl
      clear hpr HE
      go_wp2_with fail
      go_region
      go_wp2_with fail
      exact ⟨⟨k + 1, _, rfl, by omega, by go_num, HST.out.drew, grown_trans HGS.out ⟨rfl, rfl, rfl, Nat.le_refl _, fun _ _ _ => rfl⟩, by show (World.setCell _ _ _).heap.size = _; rw [World.size_setCell]; exact HSZ.out⟩, by simp [intOf]; omega⟩
    · obtain rfl : k = n := by omega
      have hd : decide (k < k) = false := by simp
      go_wp2_with fail
      go_end0
      have hfin : RowI A wq.heap.size wq (.slice (some ⟨g, 0, none⟩) k cap') (reflL m i l) := by
        refine ⟨?_, fun g' hg' => ?_⟩
        · rw [HRL.out, ← HEND.out]; exact HO.out
        · have : g = g' := by simpa [Value.ownBlock] using hg'
          have := HSZ.out; omega
      exact ⟨rfl, hfin, HG.out, HSZ.out⟩

end Go.Proofs.YtnlbmnielemgiaaGreat
namespace Go.Proofs.YtnlbmnielemgiaaGreat
open Go.RowKit Go.Shelf

/-- What the iterator owes: R k: its own cells before element k is handed over; Ab: a step of its own. -/
def GivesB (F : Fence) (n : Nat) (P : Program) (g : Nat) (lb : Array Value) (xs : List (Array Value)) (R : Nat → World → Prop) (Ab : World → World → Prop) : Prop :=
  ∀ (l : Nat) (J : Nat → World → Prop) (Jx : World → Prop) (W : World), (∀ k A B, J k A → Ab A B → J k B) →
    (∀ k (h : k < xs.length) W1, J k W1 → R k W1 → YieldAt F (n - 1) P l xs[k] W1 fun e W' => (e = .returned (.bool true) ∧ J (k + 1) W' ∧ R k W') ∨ (e = .returned (.bool false) ∧ Jx W')) →
    J 0 W → R 0 W → CallsIn F n P g (#[.func (.yield l) #[] #[]] ++ lb) W fun e W' => (∃ v, e = .returned v) ∧ (J xs.length W' ∨ Jx W')

/-- What is asked behind a round's body: it goes on, or it returns; the loop's record lies as it lay. -/
def roundEnd (l : Nat) (o : Option Obj) (I R Ix : World → Prop) : Exit → Act → World → Prop
  | .normal, _, W' => W'.heap[l]? = o ∧ I W' ∧ R W'
  | .ret, _, W' => W'.heap[l]? = o ∧ Ix W'
  | _, _, _ => False

theorem range_gives {F : Fence} {n : Nat} {P : Program} {g : Operand} {ps : Array Tmp} {assign body : Code} {Q : Exit → Act → World → Prop} {a : Act} {w : World}
    (h1 : 1 ≤ n) {gf : Nat} {lb : Array Value} (hg : a.eval g = .func (.func gf) #[] lb) (hFg : F.fn gf) (eg : ∀ args w, (callFunc gf args).run P w = .ok (.enter gf args) w)
    {xs : List (Array Value)} {R : Nat → World → Prop} {Ab : World → World → Prop} (hseq : GivesB F (n - 1) P gf lb xs R Ab) (hps : ∀ x ∈ xs, x.size = ps.size)
    (l D : Nat) (mark : List Deferred) (W1 : FuncId → World) (he : ∀ fn, (Instr.enterLoop fn a.tmps ps assign body F.round).run P w = .ok (l, mark) (W1 fn))
    (hl : ∀ fn, (W1 fn).heap[l]? = some (.loop { state := .ready, pending := none, fn := fn, tmps := a.tmps, params := ps, assign := assign, body := body, defers := D }))
    (I : Nat → World → Prop) (Ix : World → Prop)
    (hIp : ∀ k W r r', I k W → W.heap[l]? = some (.loop r) → I k (W.putObj l (.loop r'))) (hXp : ∀ W r r', Ix W → W.heap[l]? = some (.loop r) → Ix (W.putObj l (.loop r')))
    (hRp : ∀ k W r r', R k W → W.heap[l]? = some (.loop r) → R k (W.putObj l (.loop r'))) (hIa : ∀ k A B, I k A → Ab A B → I k B) (hla : ∀ A B, Ab A B → B.heap[l]? = A.heap[l]?)
    (h0 : ∀ fn, I 0 (W1 fn) ∧ R 0 (W1 fn)) (act : (k : Nat) → k < xs.length → Act)
    (hassign : ∀ k (h : k < xs.length) W (K : Act → World → Prop), K (act k h) W → assign.wpIn (F.inRound l) (n - 1 - 1) P (Exit.then K (fun _ _ _ => False)) { tmps := (ps.zip xs[k]).foldl (fun t (p, v) => t.setIfInBounds p v) a.tmps, defers := [] } W)
    (hbody : ∀ k (h : k < xs.length) W r, W.heap[l]? = some (.loop r) → I k W → R k W → body.wpIn (F.inRound l) (n - 1 - 1) P (roundEnd l (some (.loop r)) (I (k + 1)) (R k) Ix) (act k h) W)
    (hdone : ∀ W, I xs.length W → Q .normal { a with defers := mark ++ a.defers } W) (hstop : ∀ W, Ix W → Code.ret.wpIn F n P Q { a with defers := mark ++ a.defers } W) :
    (Code.rangeFunc g ps assign body).wpIn F n P Q a w := by
  refine wpIn_rangeFunc fun fn hfn => ?_
  obtain ⟨rec, hrec⟩ : ∃ rec : LoopState → Option Code → Loop, rec = fun st pe => { state := st, pending := pe, fn := fn, tmps := a.tmps, params := ps, assign := assign, body := body, defers := D } := ⟨_, rfl⟩
  have hl0 : (W1 fn).heap[l]? = some (.loop (rec .ready none)) := by rw [hrec]; exact hl fn
  refine ⟨l, mark, W1 fn, { target := .fn (.func gf) lb, args := #[.func (.yield l) #[] #[]] }, W1 fn, gf, #[.func (.yield l) #[] #[]] ++ lb, W1 fn, he fn, ?_, ?_, ?_, fun _ => h1, ?_⟩
  · simp only [resolve, hg]
    simp [go_sem]
  · intro f' hf'
    simp [Target.leads] at hf'
    subst hf'
    exact hFg
  · simp [invoke, go_sem, eg]
  · refine (hseq l (fun k W => I k W ∧ W.heap[l]? = some (.loop (rec .ready none))) (fun W => Ix W ∧ W.heap[l]? = some (.loop (rec .done (some .ret)))) (W1 fn)
      (fun k A B hj hab => ⟨hIa k A B hj.1 hab, (hla A B hab).trans hj.2⟩) (fun k hk W hj hr => ?_) ⟨(h0 fn).1, hl0⟩ (h0 fn).2).mono ?_
    · obtain ⟨hi, hrl⟩ := hj
      have hlt : l < W.heap.size := (Array.getElem?_eq_some_iff.1 hrl).1
      have hy := run_yield (P := P) (args := xs[k]) hrl (by rw [hrec]; exact hps _ (List.getElem_mem hk))
      rw [hrec] at hy
      refine ⟨fn, _, assign, body, hy, roundIn_of_wpIn hfn (hassign k hk W _ ?_)⟩
      refine ⟨_, run_beginRound hrl (by rw [hrec]), ?_⟩
      have hl2 : (W.putObj l (.loop { rec .ready none with state := .busy })).heap[l]? = some (.loop { rec .ready none with state := .busy }) := World.putObj_heap_same hlt
      refine wpIn_mono (hbody k hk _ _ hl2 (hIp k W _ _ hi hrl) (hRp k W _ _ hr hrl)) ?_
      rintro e a3 W3 hp
      cases e with
      | normal =>
        obtain ⟨hl3, hi3, hr3⟩ := hp
        have hlt3 : l < W3.heap.size := (Array.getElem?_eq_some_iff.1 hl3).1
        have hend := run_endRound (P := P) none hl3
        refine ⟨_, _, hend, .inl ⟨rfl, ⟨hIp _ _ _ _ hi3 hl3, ?_⟩, hRp _ _ _ _ hr3 hl3⟩⟩
        rw [World.putObj_heap_same hlt3, hrec]; rfl
      | ret =>
        obtain ⟨hl3, hi3⟩ := hp
        have hlt3 : l < W3.heap.size := (Array.getElem?_eq_some_iff.1 hl3).1
        have hend := run_endRound (P := P) (some .ret) hl3
        refine ⟨_, _, hend, .inr ⟨rfl, hXp _ _ _ hi3 hl3, ?_⟩⟩
        rw [World.putObj_heap_same hlt3, hrec]; rfl
      | exit id => exact hp.elim
      | goto t => exact hp.elim
      | panic ch => exact hp.elim
      | outgrown => exact hp.elim
    · rintro e W2 ⟨⟨v, rfl⟩, (⟨hi, hrl⟩ | ⟨hi, hrl⟩)⟩
      · have hend := run_endLoop (P := P) hrl (by rw [hrec]; simp)
        have hpe : (rec .ready none).pending = none := by rw [hrec]
        rw [hpe] at hend
        exact ⟨none, _, hend, hdone _ (hIp _ _ _ _ hi hrl)⟩
      · have hend := run_endLoop (P := P) hrl (by rw [hrec]; simp)
        have hpe : (rec .done (some .ret)).pending = some .ret := by rw [hrec]
        rw [hpe] at hend
        exact ⟨some .ret, _, hend, hstop _ (hXp _ _ _ hi hrl)⟩
end Go.Proofs.YtnlbmnielemgiaaGreat
namespace Go.Proofs.YtnlbmnielemgiaaGreat
open Go.RowKit Go.Shelf
attribute [local go_sem] Oper.semAt_some

theorem boxed_other {W : World} {B B' : Nat} {t : TypeId} {v : Value} (h : Boxed W B t v) (hne : B ≠ B') (u : Value) : Boxed (W.setCell ⟨B', 0, none⟩ u) B t v := h.kept (grownBy_setCell' W B' u) (fun e => hne (Option.some.inj e))
theorem boxed_below {W W' : World} {b A : Nat} {t : TypeId} {v : Value} (h : Boxed W b t v) (hb : Below A W W') (hA : b < A) : Boxed W' b t v := (hb.block b hA).trans h
theorem GivesB.inRound {F : Fence} {n : Nat} {P : Program} {g : Nat} {lb : Array Value} {xs : List (Array Value)} {R : Nat → World → Prop} {Ab : World → World → Prop} (l : Nat) (h : GivesB F n P g lb xs R Ab) : GivesB (F.inRound l) n P g lb xs R Ab := h
theorem enter_outer {P : Program} {W : World} {l D : Nat} (hD : W.heap.size = D) (hl : l = D + 1) (fn : FuncId) (tmps : Array Value) (ps : Array Tmp) (assign body : Code) :
    (Instr.enterLoop fn tmps ps assign body none).run P W = .ok (l, [{ target := .collected D, args := #[] }]) ((W.alloc (.deferred (some []))).alloc (.loop { state := .ready, pending := none, fn := fn, tmps := tmps, params := ps, assign := assign, body := body, defers := D })) := by
  subst hD hl; exact run_enterLoop_outer ..
theorem heap_last {W : World} {l : Nat} (hl : W.heap.size = l) (o : Obj) : (W.alloc o).heap[l]? = some o := by subst hl; exact World.alloc_heap_new _ _
theorem enter_inner {P : Program} {W : World} {l : Nat} (hl : W.heap.size = l) {l0 : Nat} {r0 : Loop} (h : W.heap[l0]? = some (.loop r0)) (fn : FuncId) (tmps : Array Value) (ps : Array Tmp) (assign body : Code) :
    (Instr.enterLoop fn tmps ps assign body (some l0)).run P W = .ok (l, []) (W.alloc (.loop { state := .ready, pending := none, fn := fn, tmps := tmps, params := ps, assign := assign, body := body, defers := r0.defers })) := by
  subst hl; exact run_enterLoop_inner h ..
def nilS : Value := .slice none 0 0
theorem sameIn_grownD {A B x : Nat} {W W' : World} (hg : W.grownBy W' (some x)) (hB : B ≤ W.heap.size) (hx : x < A) : SameIn A B W W' := fun k h1 h2 => hg.block k (by omega) (fun e => by have := Option.some.inj e; omega)
theorem heap_grown {W W' : World} {x k : Nat} {o : Obj} (h : W.heap[k]? = some o) (hg : W.grownBy W' (some x)) (hx : k ≠ x) : W'.heap[k]? = some o :=
  (hg.block k (Array.getElem?_eq_some_iff.1 h).1 (fun e => hx (Option.some.inj e))).trans h
theorem RowI.other {A B x : Nat} {W W' : World} {v : Value} {l : List Int} (h : RowI A B W v l) (hg : W.grownBy W' (some x)) (hx : x < A) : RowI A B W' v l :=
  h.grown hg (by
    cases hv : v.ownBlock with
    | none => exact .inl rfl
    | some g => exact .inr fun e => by have h1 := (h.1.lt g hv).1; have := Option.some.inj e; omega)
end Go.Proofs.YtnlbmnielemgiaaGreat
