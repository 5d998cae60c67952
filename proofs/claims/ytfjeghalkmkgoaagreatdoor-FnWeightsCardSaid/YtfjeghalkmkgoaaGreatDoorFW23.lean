/-
  ParseInt of the program: what each call returns.
  ParseCartan of the model: what the call returns.
  A range over a function whose iterator keeps state in cells of its own, and hands over a list that is known beforehand (over any program): what the iterator owes, and the statement's law.
-/
import Derived.Test.YtfjeghalkmkgoaaGreatDoorFW22
import Derived.Test.YtfjeghalkmkgoaaGreatDoorFW19
import Derived.Test.YtfjeghalkmkgoaaGreatDoorFW21
import Derived.RangeFuncNested
import Derived.RangeFuncBound
import Derived.RangeFuncCalls
import Derived.RangeFuncLeaves
import Derived.Shelf.Abstract
import Derived.WalkKit
import Derived.OwnWalkIn
import Derived.TacticsInMore
import Derived.LoopNIn
import Derived.LoopIn
namespace Go.Proofs.YtfjeghalkmkgoaaGreatDoor
open Go.RowKit

theorem trim_lib (l : List UInt8) : Lib.trimPrefix l [45] = trim l := by
  unfold Lib.trimPrefix Lib.hasPrefix trim signed
  cases l with
  | nil => rfl
  | cons a r =>
    by_cases h : a = 45
    · subst h; simp [List.isPrefixOf]
    · have h' : ¬ (45 : UInt8) = a := fun e => h e.symm
      simp [List.isPrefixOf, h, h']

theorem trim_any (s : ByteArray) (w : World) :
    Calls Tryz.prog 80 #[.string s, .string ⟨#[45]⟩] w fun e w' => ∃ d : ByteArray, e = .returned (.string d) ∧ d.data.toList = trim s.data.toList ∧ w = w' :=
  (Tryz.strings_TrimPrefix s ⟨#[45]⟩ w).mono fun e w' ⟨he, hw⟩ => ⟨_, he, by rw [← trim_lib], hw.symm⟩

/-- The digits so far. -/
def PRel (d : ByteArray) (k : Nat) : Prop := allDig (d.data.toList.take k)
theorem prel_step {d : ByteArray} {k : Nat} (h : k < d.size) (hr : PRel d k) (hd : isDig (d[k])) : PRel d (k + 1) := by
  unfold PRel
  rw [take_byte d k h]
  intro b hb
  rcases List.mem_append.1 hb with hb | hb
  · exact hr b hb
  · simp only [List.mem_singleton] at hb; rw [hb]; exact hd
theorem bad_digit {s d : ByteArray} {k : Nat} (ht : d.data.toList = trim s.data.toList) (h : k < d.size) (hd : ¬ isDig (d[k])) : ¬ POk s.data.toList := fun hp => by
  have ha := (pok_tok hp).2
  rw [← ht] at ha
  refine hd (ha _ ?_)
  have : d.data.toList[k]'(by simpa using h) = d[k] := rfl
  rw [← this]; exact List.getElem_mem _
theorem trim_eq {s d : ByteArray} (ht : d.data.toList = trim s.data.toList) (h : ¬ signed s.data.toList) : d = s := by
  have e : trim s.data.toList = s.data.toList := if_neg h
  rw [e] at ht
  cases d; cases s
  congr 1
  exact Array.toList_inj.1 ht
theorem trim_ne {s d : ByteArray} (ht : d.data.toList = trim s.data.toList) (h : signed s.data.toList) : ¬ d.data.toList = s.data.toList := by
  intro e
  rw [e] at ht
  have h1 := tail_cons h
  have h2 : trim s.data.toList = s.data.toList.tail := if_pos h
  have h3 := congrArg List.length (ht.trans h2)
  have h4 := congrArg List.length h1
  simp only [List.length_cons] at h4
  omega
theorem it_pos1 (s : ByteArray) (w : World) (p : Nat) : (w.iter s p).iterPos w.heap.size = p := World.iterPos_iter w s p
theorem it_below1 (s : ByteArray) (w : World) (p : Nat) : Below w.heap.size w (w.iter s p) := (Below.refl _ _).alloc (Nat.le_refl _) _

theorem tok_of {s d : ByteArray} (ht : d.data.toList = trim s.data.toList) (h9 : d.size ≤ 9) (hr : PRel d d.size) : TOk s.data.toList := by
  unfold PRel at hr
  rw [take_all] at hr
  refine ⟨?_, ?_⟩
  · rw [← ht]; simpa using h9
  · rw [← ht]; exact hr
theorem fin_yes {s d : ByteArray} (ht : d.data.toList = trim s.data.toList) (h : TOk s.data.toList) {v : Int} (hv : v = pval s.data.toList (sv (d.data.toList.take d.size))) (hok : Lib.itoa v = s.data.toList) : POk s.data.toList ∧ v = PV s.data.toList := by
  rw [take_all, ht] at hv
  exact ⟨(pok_iff h).2 (by rw [← hv]; exact hok), by rw [hv, pv_tok h]⟩
theorem fin_no {s d : ByteArray} (ht : d.data.toList = trim s.data.toList) (h : TOk s.data.toList) {v : Int} (hv : v = pval s.data.toList (sv (d.data.toList.take d.size))) (hok : ¬ Lib.itoa v = s.data.toList) : ¬ POk s.data.toList := fun hp => by
  rw [take_all, ht] at hv
  exact hok (by rw [hv]; exact (pok_iff h).1 hp)
theorem ndig_i32 {b : UInt8} (h : ¬ isDig b) : b.toNat < 48 ∨ 57 < b.toNat := by unfold isDig at h; omega

set_option maxHeartbeats 1000000 in
set_option maxRecDepth 100000 in
theorem pari_any (s : ByteArray) (w : World) (hs : s.size ≤ maxLen) (htab : Lib.TabIs Tryz.prog w "internal/strconv.uint64pow10" .u64 Lib.pow10Tab) :
    Calls Tryz.prog 66 #[.string s] w fun e w' => ParseAns s e ∧ Below w.heap.size w w' := by
  unfold maxLen at hs
  have HT := Lib.hid htab; clear htab
  go_enter Tryz.func66, Tryz.ntmps66
  go_wp2_with fail
  refine (trim_any s _).mono ?_
  rintro e w' ⟨d, rfl, ht, rfl⟩
  have HD := Lib.hid ht; clear ht
  have hds : d.size ≤ 9223372036854775807 := by
    have h1 := congrArg List.length HD.out
    have h2 : (trim s.data.toList).length ≤ s.data.toList.length := by unfold trim; split <;> simp
    simp at h1 h2; omega
  by_cases h9 : 9 < d.size
  · have hno : ¬ POk s.data.toList := fun hp => by
      have h1 := (pok_tok hp).1
      rw [← HD.out] at h1
      simp at h1; omega
    have HNO := Lib.hid hno; clear hno
    go_wp2_with fail
    go_ret2
    exact ⟨ans_no HNO.out, Below.refl _ _⟩
  have h9' : d.size ≤ 9 := by omega
  clear h9
  go_wp2_with fail
  go_loopw [5] (fun n wr => ∃ k : Nat, k ≤ d.size ∧ wr = w.iter d k ∧ n = .int .i64 (sv (d.data.toList.take k)) ∧ PRel d k) (fun _ wr => d.size - wr.iterPos w.heap.size)
  case atStart => exact ⟨0, Nat.zero_le _, rfl, rfl, fun b hb => by simp at hb⟩
  case round =>
    obtain ⟨k, hk, rfl, rfl, hr⟩ := hrel
    have HR := Lib.hid hr; clear hr
    have hsv := sv_take_le d k (by omega)
    by_cases hlt : k < d.size
    · by_cases ha : (d[k]'hlt).toNat < 128
      · have hnx := fun ty => run_next_ascii (P := Tryz.prog) w d k ty hlt ha
        by_cases hd : isDig (d[k]'hlt)
        · have e1 := sv_step_yes d k hlt hd
          have E1 := Lib.hid e1; clear e1
          have hp := prel_step hlt HR.out hd
          have HP := Lib.hid hp; clear hp
          have d1 := hd.1
          have d2 := hd.2
          clear hd
          go_wp2_with fail
          refine ⟨⟨k + 1, by omega, rfl, by rw [E1.out]; go_num, HP.out⟩, ?_⟩
          rw [it_pos1, it_pos1]; omega
        · have hno := bad_digit HD.out hlt hd
          have HNO := Lib.hid hno; clear hno
          rcases ndig_i32 hd with d1 | d1
          all_goals
            clear hd
            go_wp2_with fail
            go_ret2
            exact ⟨ans_no HNO.out, it_below1 _ _ _⟩
      · have hnx := fun ty => run_next_any (P := Tryz.prog) w d k ty hlt
        have hdh := (decode_high d k hlt (by omega)).1
        have hno := bad_digit HD.out hlt (by unfold isDig; omega)
        have HNO := Lib.hid hno; clear hno
        go_wp2_with fail
        go_ret2
        exact ⟨ans_no HNO.out, it_below1 _ _ _⟩
    · obtain rfl : k = d.size := by omega
      have hnx := fun ty => run_next_end (P := Tryz.prog) w d d.size ty hlt
      have htok := tok_of HD.out h9' HR.out
      have HTOK := Lib.hid htok; clear htok
      have htab2 := tab_below HT.out (it_below1 d w d.size)
      have HT2 := Lib.hid htab2; clear htab2
      by_cases hsg : signed s.data.toList
      · have hv : -((sv (d.data.toList.take d.size) : Nat) : Int) = pval s.data.toList (sv (d.data.toList.take d.size)) := (if_pos hsg).symm
        have hne := trim_ne HD.out hsg
        have HV := Lib.hid hv; clear hv
        have hq : (d.toList == s.toList) = false := by rw [ByteArray.toList_eq, ByteArray.toList_eq, beq_eq_false_iff_ne]; exact hne
        clear hne hsg
        by_cases hok : Lib.itoa (-((sv (d.data.toList.take d.size) : Nat) : Int)) = s.data.toList
        · have hf := fin_yes HD.out HTOK.out HV.out hok
          have hz := neq_no hok
          have HF := Lib.hid hf; clear hf hok
          go_wp2_with (go_at_call 63; go_must (refine (fmti_any (-((sv (d.data.toList.take d.size) : Nat) : Int)) _ (by omega) (by omega) HT2.out).mono ?_; rintro e w1 ⟨rfl, hb1⟩))
          go_ret2
          exact ⟨ans_yes HF.out.1 HF.out.2, (it_below1 _ _ _).trans (hb1.mono (it_below1 d w d.size).size)⟩
        · have hf := fin_no HD.out HTOK.out HV.out hok
          have hz := neq_yes hok
          have HF := Lib.hid hf; clear hf hok
          go_wp2_with (go_at_call 63; go_must (refine (fmti_any (-((sv (d.data.toList.take d.size) : Nat) : Int)) _ (by omega) (by omega) HT2.out).mono ?_; rintro e w1 ⟨rfl, hb1⟩))
          go_ret2
          exact ⟨ans_no HF.out, (it_below1 _ _ _).trans (hb1.mono (it_below1 d w d.size).size)⟩
      · have hv : ((sv (d.data.toList.take d.size) : Nat) : Int) = pval s.data.toList (sv (d.data.toList.take d.size)) := (if_neg hsg).symm
        have hne := trim_eq HD.out hsg
        have HV := Lib.hid hv; clear hv
        have hq : (d.toList == s.toList) = true := by rw [ByteArray.toList_eq, ByteArray.toList_eq, beq_iff_eq, hne]
        clear hne hsg
        by_cases hok : Lib.itoa (((sv (d.data.toList.take d.size) : Nat) : Int)) = s.data.toList
        · have hf := fin_yes HD.out HTOK.out HV.out hok
          have hz := neq_no hok
          have HF := Lib.hid hf; clear hf hok
          go_wp2_with (go_at_call 63; go_must (refine (fmti_any (((sv (d.data.toList.take d.size) : Nat) : Int)) _ (by omega) (by omega) HT2.out).mono ?_; rintro e w1 ⟨rfl, hb1⟩))
          go_ret2
          exact ⟨ans_yes HF.out.1 HF.out.2, (it_below1 _ _ _).trans (hb1.mono (it_below1 d w d.size).size)⟩
        · have hf := fin_no HD.out HTOK.out HV.out hok
          have hz := neq_yes hok
          have HF := Lib.hid hf; clear hf hok
          go_wp2_with (go_at_call 63; go_must (refine (fmti_any (((sv (d.data.toList.take d.size) : Nat) : Int)) _ (by omega) (by omega) HT2.out).mono ?_; rintro e w1 ⟨rfl, hb1⟩))
          go_ret2
          exact ⟨ans_no HF.out, (it_below1 _ _ _).trans (hb1.mono (it_below1 d w d.size).size)⟩
end Go.Proofs.YtfjeghalkmkgoaaGreatDoor
namespace Go.Proofs.YtfjeghalkmkgoaaGreatDoor
open Go.RowKit

open Classical in
noncomputable def numL (l : List UInt8) : Int := if POk l then PV l else 9
theorem numL_yes {l : List UInt8} (h : POk l) : numL l = PV l := if_pos h
theorem numL_no {l : List UInt8} (h : ¬ POk l) : numL l = 9 := if_neg h
set_option maxHeartbeats 1000000 in
theorem pnum_any (s : ByteArray) (w : World) (hs : s.size ≤ maxLen) :
    Calls Tryz.prog 47 #[.string s, .int .i64 9] w fun e w' => e = .returned (.int .i64 (numL s.data.toList)) ∧ Below w.heap.size w w' := by
  go_enter Tryz.func47, Tryz.ntmps47
  go_wp2_with fail
  refine (pars_any s _ hs).mono ?_
  rintro e w1 ⟨ha, hb1⟩
  have HB1 := Lib.hid hb1; clear hb1
  rcases ha with ⟨h, rfl⟩ | ⟨h, rfl⟩
  · have HN := Lib.hid (numL_yes h)
    clear h
    generalize PV s.data.toList = v at *
    go_wp2_with fail
    go_ret
    exact ⟨ret_int HN.out.symm, HB1.out⟩
  · have HN := Lib.hid (numL_no h)
    clear h
    go_wp2_with fail
    go_ret
    exact ⟨ret_int HN.out.symm, HB1.out⟩

noncomputable def rowN (l : List UInt8) : List Int := (cutLD 44 l).map numL
noncomputable def parM (l : List UInt8) : List (List Int) := (cutLD 59 l).map rowN
theorem rowN_len (l : List UInt8) : (rowN l).length ≤ l.length + 1 := by have := cutL_lenD 44 l; simp [rowN]; omega
theorem parM_len (l : List UInt8) : (parM l).length ≤ l.length + 1 := by have := cutL_lenD 59 l; simp [parM]; omega
def PcOk (l : List UInt8) : Prop := l ≠ [] ∧ fmtM (parM l) = l
open Classical in
noncomputable def pcB (l : List UInt8) : Bool := decide (PcOk l)
open Classical in
theorem pcB_yes {l : List UInt8} (h : PcOk l) : pcB l = true := decide_eq_true h
open Classical in
theorem pcB_no {l : List UInt8} (h : ¬ PcOk l) : pcB l = false := decide_eq_false h
noncomputable def pcM (l : List UInt8) : List (List Int) := if pcB l = true then parM l else []
theorem pcM_yes {l : List UInt8} (h : PcOk l) : pcM l = parM l := if_pos (pcB_yes h)
theorem pcM_no {l : List UInt8} (h : ¬ PcOk l) : pcM l = [] := by unfold pcM; rw [pcB_no h]; rfl
theorem toB_get (xs : List (List UInt8)) (j : Nat) (h : j < (toBD xs).length) : (toBD xs)[j] = ⟨(xs[j]'(by simpa [toBD] using h)).toArray⟩ := by simp [toBD]
theorem rowN_snoc (l : List UInt8) (j : Nat) (h : j < (cutLD 44 l).length) : (rowN l).take j ++ [numL (cutLD 44 l)[j]] = (rowN l).take (j + 1) := by
  rw [List.take_succ_eq_append_getElem (by simpa [rowN] using h)]; simp [rowN]
theorem parM_snoc (l : List UInt8) (k : Nat) (h : k < (cutLD 59 l).length) : (parM l).take k ++ [rowN (cutLD 59 l)[k]] = (parM l).take (k + 1) := by
  rw [List.take_succ_eq_append_getElem (by simpa [parM] using h)]; simp [parM]
theorem makesM2_no {w w' : World} {x : Value} {m : List (List Int)} {c : Bool} (hm : m = []) (hc : false = c) (h : MatI w.heap.size w'.heap.size w' x []) (hb : Below w.heap.size w w') : MakesM2 w m (.bool c) (.returned (.tuple #[x, .bool false])) w' :=
  ⟨x, by rw [hc], by rw [hm]; exact ⟨h, Nat.le_refl _⟩, hb⟩
theorem str_empty {s : ByteArray} (h : s.data.toList = []) : s.toList.isEmpty = true := by rw [ByteArray.toList_eq, h]; rfl
theorem str_full {s : ByteArray} (h : ¬ s.data.toList = []) : s.toList.isEmpty = false := by
  rw [ByteArray.toList_eq]; cases hs : s.data.toList with
  | nil => exact absurd hs h
  | cons a l => rfl

end Go.Proofs.YtfjeghalkmkgoaaGreatDoor
namespace Go.Proofs.YtfjeghalkmkgoaaGreatDoor
open Go.RowKit Go.Shelf

/-- What the iterator owes: R k: its own cells before element k is handed over; Ab: a step of its own. -/
def GivesB (F : Fence) (n : Nat) (P : Program) (g : Nat) (lb : Array Value) (xs : List (Array Value)) (R : Nat → World → Prop) (Ab : World → World → Prop) : Prop :=
  ∀ (l : Nat) (J : Nat → World → Prop) (Jx : World → Prop) (W : World), (∀ k A B, J k A → Ab A B → J k B) →
    (∀ k (h : k < xs.length) W1, J k W1 → R k W1 → YieldAt F (n - 1) P l xs[k] W1 fun e W' => (e = .returned (.bool true) ∧ J (k + 1) W' ∧ R k W') ∨ (e = .returned (.bool false) ∧ Jx W')) →
    J 0 W → R 0 W → CallsIn F n P g (#[.func (.yield l) #[] #[]] ++ lb) W fun e W' => (∃ v, e = .returned v) ∧ (J xs.length W' ∨ Jx W')

/-- What is asked behind a round's body: it goes on, or it returns; the loop's record lies as it lay. -/
def roundEnd (l : Nat) (o : Option Obj) (I R Ix : World → Prop) : Exit → Act → World → Prop
  | .normal, _, W' => W'.heap[l]? = o ∧ I W' ∧ R W'
  | .ret, _, W' => W'.heap[l]? = o ∧ Ix W'
  | _, _, _ => False

theorem range_gives {F : Fence} {n : Nat} {P : Program} {g : Operand} {ps : Array Tmp} {assign body : Code} {Q : Exit → Act → World → Prop} {a : Act} {w : World}
    (h1 : 1 ≤ n) {gf : Nat} {lb : Array Value} (hg : a.eval g = .func (.func gf) #[] lb) (hFg : F.fn gf) (eg : ∀ args w, (callFunc gf args).run P w = .ok (.enter gf args) w)
    {xs : List (Array Value)} {R : Nat → World → Prop} {Ab : World → World → Prop} (hseq : GivesB F (n - 1) P gf lb xs R Ab) (hps : ∀ x ∈ xs, x.size = ps.size)
    (l D : Nat) (mark : List Deferred) (W1 : FuncId → World) (he : ∀ fn, (Instr.enterLoop fn a.tmps ps assign body F.round).run P w = .ok (l, mark) (W1 fn))
    (hl : ∀ fn, (W1 fn).heap[l]? = some (.loop { state := .ready, pending := none, fn := fn, tmps := a.tmps, params := ps, assign := assign, body := body, defers := D }))
    (I : Nat → World → Prop) (Ix : World → Prop)
    (hIp : ∀ k W r r', I k W → W.heap[l]? = some (.loop r) → I k (W.putObj l (.loop r'))) (hXp : ∀ W r r', Ix W → W.heap[l]? = some (.loop r) → Ix (W.putObj l (.loop r')))
    (hRp : ∀ k W r r', R k W → W.heap[l]? = some (.loop r) → R k (W.putObj l (.loop r'))) (hIa : ∀ k A B, I k A → Ab A B → I k B) (hla : ∀ A B, Ab A B → B.heap[l]? = A.heap[l]?)
    (h0 : ∀ fn, I 0 (W1 fn) ∧ R 0 (W1 fn)) (act : (k : Nat) → k < xs.length → Act)
    (hassign : ∀ k (h : k < xs.length) W (K : Act → World → Prop), K (act k h) W → assign.wpIn (F.inRound l) (n - 1 - 1) P (Exit.then K (fun _ _ _ => False)) { tmps := (ps.zip xs[k]).foldl (fun t (p, v) => t.setIfInBounds p v) a.tmps, defers := [] } W)
    (hbody : ∀ k (h : k < xs.length) W r, W.heap[l]? = some (.loop r) → I k W → R k W → body.wpIn (F.inRound l) (n - 1 - 1) P (roundEnd l (some (.loop r)) (I (k + 1)) (R k) Ix) (act k h) W)
    (hdone : ∀ W, I xs.length W → Q .normal { a with defers := mark ++ a.defers } W) (hstop : ∀ W, Ix W → Code.ret.wpIn F n P Q { a with defers := mark ++ a.defers } W) :
    (Code.rangeFunc g ps assign body).wpIn F n P Q a w := by
  refine wpIn_rangeFunc fun fn hfn => ?_
  obtain ⟨rec, hrec⟩ : ∃ rec : LoopState → Option Code → Loop, rec = fun st pe => { state := st, pending := pe, fn := fn, tmps := a.tmps, params := ps, assign := assign, body := body, defers := D } := ⟨_, rfl⟩
  have hl0 : (W1 fn).heap[l]? = some (.loop (rec .ready none)) := by rw [hrec]; exact hl fn
  refine ⟨l, mark, W1 fn, { target := .fn (.func gf) lb, args := #[.func (.yield l) #[] #[]] }, W1 fn, gf, #[.func (.yield l) #[] #[]] ++ lb, W1 fn, he fn, ?_, ?_, ?_, fun _ => h1, ?_⟩
  · simp only [resolve, hg]
    simp [go_sem]
  · intro f' hf'
    simp [Target.leads] at hf'
    subst hf'
    exact hFg
  · simp [invoke, go_sem, eg]
  · refine (hseq l (fun k W => I k W ∧ W.heap[l]? = some (.loop (rec .ready none))) (fun W => Ix W ∧ W.heap[l]? = some (.loop (rec .done (some .ret)))) (W1 fn)
      (fun k A B hj hab => ⟨hIa k A B hj.1 hab, (hla A B hab).trans hj.2⟩) (fun k hk W hj hr => ?_) ⟨(h0 fn).1, hl0⟩ (h0 fn).2).mono ?_
    · obtain ⟨hi, hrl⟩ := hj
      have hlt : l < W.heap.size := (Array.getElem?_eq_some_iff.1 hrl).1
      have hy := run_yield (P := P) (args := xs[k]) hrl (by rw [hrec]; exact hps _ (List.getElem_mem hk))
      rw [hrec] at hy
      refine ⟨fn, _, assign, body, hy, roundIn_of_wpIn hfn (hassign k hk W _ ?_)⟩
      refine ⟨_, run_beginRound hrl (by rw [hrec]), ?_⟩
      have hl2 : (W.putObj l (.loop { rec .ready none with state := .busy })).heap[l]? = some (.loop { rec .ready none with state := .busy }) := World.putObj_heap_same hlt
      refine wpIn_mono (hbody k hk _ _ hl2 (hIp k W _ _ hi hrl) (hRp k W _ _ hr hrl)) ?_
      rintro e a3 W3 hp
      cases e with
      | normal =>
        obtain ⟨hl3, hi3, hr3⟩ := hp
        have hlt3 : l < W3.heap.size := (Array.getElem?_eq_some_iff.1 hl3).1
        have hend := run_endRound (P := P) none hl3
        refine ⟨_, _, hend, .inl ⟨rfl, ⟨hIp _ _ _ _ hi3 hl3, ?_⟩, hRp _ _ _ _ hr3 hl3⟩⟩
        rw [World.putObj_heap_same hlt3, hrec]; rfl
      | ret =>
        obtain ⟨hl3, hi3⟩ := hp
        have hlt3 : l < W3.heap.size := (Array.getElem?_eq_some_iff.1 hl3).1
        have hend := run_endRound (P := P) (some .ret) hl3
        refine ⟨_, _, hend, .inr ⟨rfl, hXp _ _ _ hi3 hl3, ?_⟩⟩
        rw [World.putObj_heap_same hlt3, hrec]; rfl
      | exit id => exact hp.elim
      | goto t => exact hp.elim
      | panic ch => exact hp.elim
      | outgrown => exact hp.elim
    · rintro e W2 ⟨⟨v, rfl⟩, (⟨hi, hrl⟩ | ⟨hi, hrl⟩)⟩
      · have hend := run_endLoop (P := P) hrl (by rw [hrec]; simp)
        have hpe : (rec .ready none).pending = none := by rw [hrec]
        rw [hpe] at hend
        exact ⟨none, _, hend, hdone _ (hIp _ _ _ _ hi hrl)⟩
      · have hend := run_endLoop (P := P) hrl (by rw [hrec]; simp)
        have hpe : (rec .done (some .ret)).pending = some .ret := by rw [hrec]
        rw [hpe] at hend
        exact ⟨some .ret, _, hend, hstop _ (hXp _ _ _ hi hrl)⟩
end Go.Proofs.YtfjeghalkmkgoaaGreatDoor
