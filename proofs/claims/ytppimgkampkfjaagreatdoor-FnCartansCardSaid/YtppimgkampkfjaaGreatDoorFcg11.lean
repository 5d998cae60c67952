/-
  Orders of points: what they are, and the calls that ask whether a list is one.
  RelabelCartan of the model and of the program: what each call returns.
-/
import Derived.Test.YtppimgkampkfjaaGreatDoorFcg08
namespace Go.Proofs.YtppimgkampkfjaaGreatDoor
open Go.RowKit

def hasB (l : List Int) (x : Int) : Bool := decide (x ∈ l)
theorem hasB_yes {l : List Int} {x : Int} (h : x ∈ l) : hasB l x = true := decide_eq_true h
theorem hasB_no {l : List Int} {x : Int} (h : ¬ x ∈ l) : hasB l x = false := decide_eq_false h
theorem take_getD {l : List Int} {k : Nat} (hk : k < l.length) : l.take (k + 1) = l.take k ++ [l.getD k 0] := by
  rw [List.take_succ_eq_append_getElem hk]; simp [List.getD, hk]
theorem mem_getD {l : List Int} {k : Nat} (hk : k < l.length) : l.getD k 0 ∈ l := by
  have : l.getD k 0 = l[k] := by simp [List.getD, hk]
  rw [this]; exact List.getElem_mem hk
/-- An order, as the model asks for it. -/
def ordC (n : Nat) (l : List Int) (k : Nat) : Prop := (0 ≤ l.getD k 0 ∧ l.getD k 0 ≤ (n : Int) - 1) ∧ ¬ l.getD k 0 ∈ l.take k
def OrdTo (n : Nat) (l : List Int) (k : Nat) : Prop := ∀ i, i < k → ordC n l i
theorem ordTo_step {n k : Nat} {l : List Int} (h : OrdTo n l k) (hk : ordC n l k) : OrdTo n l (k + 1) := fun i hi => by
  rcases Nat.lt_or_ge i k with h' | h'
  · exact h i h'
  · obtain rfl : i = k := by omega
    exact hk
def IsOrd (n : Nat) (l : List Int) : Prop := l.length = n ∧ OrdTo n l l.length
theorem isOrd_pt {n : Nat} {l : List Int} (h : IsOrd n l) : AllPt n l := fun k hk => (h.2 k hk).1
/-- The same, as the program asks for it. -/
def HasAll (n : Nat) (l : List Int) : Prop := l.length = n ∧ ∀ j : Nat, j < n → (j : Int) ∈ l
theorem fin4 {a : Int} (h : 0 ≤ a ∧ a ≤ 3) : a = 0 ∨ a = 1 ∨ a = 2 ∨ a = 3 := by omega
theorem ord_all0 (l : List Int) (n : Nat) (hn : n ≤ 4) (h : IsOrd n l) : HasAll n l := by
  obtain ⟨h0, h⟩ := h
  refine ⟨h0, fun j hj => ?_⟩
  subst h0
  match l, hn, h, hj with
  | [], _, _, hj => simp at hj
  | [a], _, h, hj =>
    have h1 := h 0 (by simp)
    simp [ordC] at h1 hj ⊢
    omega
  | [a, b], _, h, hj =>
    have h1 := h 0 (by simp)
    have h2 := h 1 (by simp)
    simp [ordC] at h1 h2 hj ⊢
    omega
  | [a, b, c], _, h, hj =>
    have h1 := h 0 (by simp)
    have h2 := h 1 (by simp)
    have h3 := h 2 (by simp)
    simp [ordC] at h1 h2 h3 hj ⊢
    omega
  | [a, b, c, d], _, h, hj =>
    have h1 := h 0 (by simp)
    have h2 := h 1 (by simp)
    have h3 := h 2 (by simp)
    have h4 := h 3 (by simp)
    simp [ordC] at h1 h2 h3 h4 hj ⊢
    omega
  | a :: b :: c :: d :: e :: l, hn, _, _ => simp at hn
theorem ord_all1 (l : List Int) (n : Nat) (hn : n ≤ 4) (h : HasAll n l) : IsOrd n l := by
  obtain ⟨h0, h⟩ := h
  refine ⟨h0, fun k hk => ?_⟩
  subst h0
  match l, hn, h, hk with
  | [], _, _, hk => simp at hk
  | [a], _, h, hk =>
    have h1 := h 0 (by simp)
    simp at h1 hk
    subst hk
    simp [ordC]
    omega
  | [a, b], _, h, hk =>
    have h1 := h 0 (by simp)
    have h2 := h 1 (by simp)
    simp at h1 h2 hk
    rcases (show k = 0 ∨ k = 1 by omega) with rfl | rfl <;> simp [ordC] <;> omega
  | [a, b, c], _, h, hk =>
    have h1 := h 0 (by simp)
    have h2 := h 1 (by simp)
    have h3 := h 2 (by simp)
    simp at h1 h2 h3 hk
    rcases (show k = 0 ∨ k = 1 ∨ k = 2 by omega) with rfl | rfl | rfl <;> simp [ordC] <;> omega
  | [a, b, c, d], _, h, hk =>
    have h1 := h 0 (by simp)
    have h2 := h 1 (by simp)
    have h3 := h 2 (by simp)
    have h4 := h 3 (by simp)
    simp at h1 h2 h3 h4 hk
    rcases (show k = 0 ∨ k = 1 ∨ k = 2 ∨ k = 3 by omega) with rfl | rfl | rfl | rfl <;> simp [ordC] <;> omega
  | a :: b :: c :: d :: e :: l, hn, _, _ => simp at hn
open Classical in
noncomputable def ordB (n : Nat) (l : List Int) : Bool := decide (IsOrd n l)
open Classical in
theorem ordB_yes {n : Nat} {l : List Int} (h : IsOrd n l) : ordB n l = true := decide_eq_true h
open Classical in
theorem ordB_no {n : Nat} {l : List Int} (h : ¬ IsOrd n l) : ordB n l = false := decide_eq_false h

/-! ### Is a number in a list -/
set_option maxHeartbeats 1000000 in
set_option maxRecDepth 100000 in
theorem hasl_any (B : Nat) (v : Value) (l : List Int) (x : Int) (w : World) (h : RowB B w v l) (hl : l.length ≤ maxLen) :
    Calls Tryz.prog 106 #[v, .int .i64 x] w fun e w' => e = .returned (.bool (hasB l x)) ∧ w = w' := by
  obtain ⟨a, cap, rfl⟩ := h.slice
  have HL := Lib.hid h; clear h
  have HYES := Lib.hid (fun (k : Nat) (hk : k < l.length) (e : l.getD k 0 = x) => hasB_yes (l := l) (x := x) (e ▸ mem_getD hk))
  have HNO := Lib.hid (fun (h : ¬ x ∈ l.take l.length) => hasB_no (l := l) (x := x) (by rwa [List.take_length] at h))
  have HST := Lib.hid (fun (k : Nat) (hk : k < l.length) (h : ¬ x ∈ l.take k) (e : ¬ l.getD k 0 = x) => show ¬ x ∈ l.take (k + 1) by
    rw [take_getD hk, List.mem_append]; rintro (h' | h'); exact h h'; have h9 := List.mem_singleton.1 h'; exact e h9.symm)
  generalize hasB l x = R at *
  generalize hln : l.length = L at *
  clear hln
  unfold maxLen at hl
  go_enter Tryz.func106, Tryz.ntmps106
  go_wp2_with fail
  go_loopw [5] (fun i wr => ∃ k : Nat, k ≤ L ∧ i = .int .i64 k ∧ wr = w ∧ Hid (¬ x ∈ l.take k)) (fun i _ => L - (intOf i).toNat)
  case atStart => exact ⟨0, Nat.zero_le _, rfl, rfl, Lib.hid (by simp)⟩
  case round =>
    obtain ⟨k, hk, rfl, rfl, hs⟩ := hrel
    by_cases hlt : k < L
    · obtain ⟨lb, loff, rfl, hlb, hlc⟩ := HL.out.getD hlt
      by_cases he : l.getD k 0 = x
      · have HR := Lib.hid (HYES.out k hlt he)
        have hb : (l.getD k 0 == x) = true := by rw [beq_iff_eq]; exact he
        clear he
        generalize l.getD k 0 = y at *
        go_wp2_with fail
        go_ret
        exact ⟨ret_boolean HR.out.symm, rfl⟩
      · have HR := Lib.hid (HST.out k hlt hs.out he)
        have hb : (l.getD k 0 == x) = false := by rw [beq_eq_false_iff_ne]; exact he
        clear he
        generalize l.getD k 0 = y at *
        go_wp2_with fail
        exact ⟨⟨k + 1, by omega, by go_num, trivial, HR⟩, by simp [intOf]; omega⟩
    · obtain rfl : k = L := by omega
      go_wp2_with fail
      go_ret
      exact ⟨ret_boolean (HNO.out hs.out).symm, rfl⟩

theorem has_q (B : Nat) (v : Value) (l : List Int) (x : Int) (c : Bool) (hc : hasB l x = c) (w : World) (h : RowB B w v l) (hl : l.length ≤ maxLen) (q : Nat) :
    Calls Tryz.prog 106 #[v, .int .i64 x] (w.drewN q) fun e w' => e = .returned (.bool c) ∧ ∃ m, w' = (w.drewN q).drewN m :=
  (hasl_any B v l x (w.drewN q) (h.drewN q) hl).mono fun e w' ⟨he, hw⟩ => ⟨by rw [he]; exact ret_boolean hc, 0, hw.symm⟩

set_option maxHeartbeats 1000000 in
set_option maxRecDepth 100000 in
theorem sindex_any (B : Nat) (v : Value) (l : List Int) (x : Int) (w : World) (h : RowB B w v l) (hl : l.length ≤ maxLen) :
    Calls Tryz.prog 144 #[v, .int .i64 x] w fun e w' => ∃ r : Int, e = .returned (.int .i64 r) ∧ decide (0 ≤ r) = hasB l x ∧ w = w' := by
  obtain ⟨a, cap, rfl⟩ := h.slice
  have HL := Lib.hid h; clear h
  have HYES := Lib.hid (fun (k : Nat) (hk : k < l.length) (e : l.getD k 0 = x) => hasB_yes (l := l) (x := x) (e ▸ mem_getD hk))
  have HNO := Lib.hid (fun (h : ¬ x ∈ l.take l.length) => hasB_no (l := l) (x := x) (by rwa [List.take_length] at h))
  have HST := Lib.hid (fun (k : Nat) (hk : k < l.length) (h : ¬ x ∈ l.take k) (e : ¬ l.getD k 0 = x) => show ¬ x ∈ l.take (k + 1) by
    rw [take_getD hk, List.mem_append]; rintro (h' | h'); exact h h'; have h9 := List.mem_singleton.1 h'; exact e h9.symm)
  generalize hasB l x = R at *
  generalize hln : l.length = L at *
  clear hln
  unfold maxLen at hl
  go_enter Tryz.func144, Tryz.ntmps144
  go_wp2_with fail
  go_loopw [8] (fun i wr => ∃ k : Nat, k ≤ L ∧ i = .int .i64 k ∧ wr = w ∧ Hid (¬ x ∈ l.take k)) (fun i _ => L - (intOf i).toNat)
  case atStart => exact ⟨0, Nat.zero_le _, rfl, rfl, Lib.hid (by simp)⟩
  case round =>
    obtain ⟨k, hk, rfl, rfl, hs⟩ := hrel
    by_cases hlt : k < L
    · obtain ⟨lb, loff, rfl, hlb, hlc⟩ := HL.out.getD hlt
      by_cases he : l.getD k 0 = x
      · have HR := Lib.hid (HYES.out k hlt he)
        have hb : (x == l.getD k 0) = true := by rw [beq_iff_eq]; exact he.symm
        clear he
        generalize l.getD k 0 = y at *
        go_wp2_with fail
        go_ret
        exact ⟨_, rfl, by rw [HR.out]; exact decide_eq_true (by omega), rfl⟩
      · have HR := Lib.hid (HST.out k hlt hs.out he)
        have hb : (x == l.getD k 0) = false := by rw [beq_eq_false_iff_ne]; exact fun e => he e.symm
        clear he
        generalize l.getD k 0 = y at *
        go_wp2_with fail
        exact ⟨⟨k + 1, by omega, by go_num, trivial, HR⟩, by simp [intOf]; omega⟩
    · obtain rfl : k = L := by omega
      go_wp2_with fail
      go_ret
      exact ⟨_, rfl, by rw [HNO.out hs.out]; rfl, rfl⟩
theorem scont_any (B : Nat) (v : Value) (l : List Int) (x : Int) (w : World) (h : RowB B w v l) (hl : l.length ≤ maxLen) :
    Calls Tryz.prog 130 #[v, .int .i64 x] w fun e w' => e = .returned (.bool (hasB l x)) ∧ w = w' := by
  have HL := Lib.hid h; clear h
  go_enter Tryz.func130, Tryz.ntmps130
  go_wp2_with fail
  refine (sindex_any B v l x w HL.out hl).mono ?_
  rintro e w' ⟨r, rfl, hr, rfl⟩
  go_wp2_with fail
  go_ret
  exact ⟨rfl, rfl⟩

set_option maxHeartbeats 1000000 in
set_option maxRecDepth 100000 in
theorem isord_any (B : Nat) (a : Option Addr) (n cap : Nat) (v' : Value) (l : List Int) (w : World) (h : RowB B w v' l) (hn : n ≤ 4) (hl : l.length ≤ maxLen) :
    Calls Tryz.prog 102 #[.slice a n cap, v'] w fun e w' => e = .returned (.bool (ordB n l)) ∧ w = w' := by
  obtain ⟨a', cap', rfl⟩ := h.slice
  have HL := Lib.hid h; clear h
  have HLL := Lib.hid hl
  have HNO := Lib.hid (fun (h : ¬ HasAll n l) => ordB_no (fun e => h (ord_all0 l n hn e)))
  have HYES := Lib.hid (fun (h : HasAll n l) => ordB_yes (ord_all1 l n hn h))
  generalize ordB n l = R at *
  generalize hln : l.length = L at *
  have HLN := Lib.hid hln; clear hln
  unfold maxLen at hl
  by_cases he : L = n
  · subst he
    have hb : ((L : Int) != (L : Int)) = false := by rw [bne_eq_false_iff_eq]
    go_enter Tryz.func102, Tryz.ntmps102
    go_wp2_with fail
    go_loopw [13] (fun i wr => ∃ k : Nat, k ≤ L ∧ i = .int .i64 k ∧ wr = w ∧ ∀ j : Nat, j < k → (j : Int) ∈ l) (fun i _ => L - (intOf i).toNat)
    case atStart => exact ⟨0, Nat.zero_le _, rfl, rfl, fun j hj => by omega⟩
    case round =>
      obtain ⟨k, hk, rfl, rfl, hs⟩ := hrel
      have HS := Lib.hid hs; clear hs
      by_cases hlt : k < L
      · by_cases hm : (k : Int) ∈ l
        · have HM := Lib.hid (hasB_yes hm)
          have hs' : ∀ j : Nat, j < k + 1 → (j : Int) ∈ l := fun j hj => by
            rcases Nat.lt_or_ge j k with h' | h'
            · exact HS.out j h'
            · obtain rfl : j = k := by omega
              exact hm
          have HS' := Lib.hid hs'
          clear hm hs'
          go_wp2_with fail
          refine (scont_any B _ l k _ HL.out (by rw [HLN.out]; exact HLL.out)).mono ?_
          rintro e w' ⟨rfl, rfl⟩
          rw [HM.out]
          go_wp2_with fail
          exact ⟨⟨k + 1, by omega, by go_num, trivial, HS'.out⟩, by simp [intOf]; omega⟩
        · have HM := Lib.hid (hasB_no hm)
          have HR := Lib.hid (HNO.out (fun h => hm (h.2 k hlt)))
          clear hm
          go_wp2_with fail
          refine (scont_any B _ l k _ HL.out (by rw [HLN.out]; exact HLL.out)).mono ?_
          rintro e w' ⟨rfl, rfl⟩
          rw [HM.out]
          go_wp2_with fail
          go_ret
          exact ⟨ret_boolean HR.out.symm, rfl⟩
      · obtain rfl : k = L := by omega
        go_wp2_with fail
        go_ret
        exact ⟨ret_boolean (HYES.out ⟨HLN.out, HS.out⟩).symm, rfl⟩
  · have hb : ((L : Int) != (n : Int)) = true := by rw [bne_iff_ne]; omega
    have HR := Lib.hid (HNO.out (fun h => he (by rw [← HLN.out]; exact h.1)))
    go_enter Tryz.func102, Tryz.ntmps102
    go_wp2_with fail
    go_ret
    exact ⟨ret_boolean HR.out.symm, rfl⟩
end Go.Proofs.YtppimgkampkfjaaGreatDoor
namespace Go.Proofs.YtppimgkampkfjaaGreatDoor
open Go.RowKit

/-- What RelabelCartan accepts. -/
def RelOk (m : List (List Int)) (l : List Int) : Prop := IsC m ∧ IsOrd m.length l
open Classical in
noncomputable def relB (m : List (List Int)) (l : List Int) : Bool := decide (RelOk m l)
noncomputable def relM (m : List (List Int)) (l : List Int) : List (List Int) := if relB m l = true then pick m l else []
open Classical in
theorem relB_yes {m : List (List Int)} {l : List Int} (h : RelOk m l) : relB m l = true := decide_eq_true h
open Classical in
theorem relB_no {m : List (List Int)} {l : List Int} (h : ¬ RelOk m l) : relB m l = false := decide_eq_false h
theorem relM_yes {m : List (List Int)} {l : List Int} (h : RelOk m l) : relM m l = pick m l := if_pos (relB_yes h)
theorem relM_no {m : List (List Int)} {l : List Int} (h : ¬ RelOk m l) : relM m l = [] := by unfold relM; rw [relB_no h]; rfl
theorem relM_small (m : List (List Int)) (l : List Int) : szSum (relM m l) ≤ 1048576 := by
  by_cases h : RelOk m l
  · rw [relM_yes h]
    have h1 := h.2.1
    have h2 := h.1.2.2.2
    exact fullF_small _ _ (by omega)
  · rw [relM_no h]; decide
/-- The capacity of a list of the call's own. -/
def CapOk (v : Value) : Prop := ∀ a n cap, v = .slice a n cap → n ≤ cap
theorem RowI.capOk {A B : Nat} {w : World} {v : Value} {l : List Int} (h : RowI A B w v l) : CapOk v := fun a n cap e => by
  rcases h.1.2 with ⟨rfl, _⟩ | ⟨g, cap', cur, rfl, _, _, hn, _⟩
  · injection e with _ h2 h3; omega
  · injection e with _ h2 h3; omega
theorem OwnS.capOk {A B : Nat} {w : World} {v : Value} {l : List Int} (h : OwnS A B w v l) : CapOk v := h.1.capOk
theorem RowB.take {B : Nat} {w : World} {b off n cap : Nat} {l : List Int} (h : RowB B w (.slice (some ⟨b, off, none⟩) n cap) l) {k : Nat} (hk : k < n) (cap' : Nat) : RowB B w (.slice (some ⟨b, off, none⟩) k cap') (l.take k) := by
  obtain ⟨b1, off1, hl, ha, hb, _⟩ := h.get hk
  injection ha with ha
  injection ha with ha1 ha2
  subst ha1
  subst ha2
  refine Or.inr ⟨b, off, cap', by rw [List.length_take, Nat.min_eq_left (by omega)], hb, fun j hj => ?_⟩
  have hj' : j < k := by rw [List.length_take] at hj; omega
  rw [h.prev (show j < n by omega)]
  simp [List.getD, show j < l.length by omega]

set_option maxHeartbeats 2000000 in
set_option maxRecDepth 100000 in
theorem reli_any (B B' : Nat) (v v' : Value) (m : List (List Int)) (l : List Int) (w : World) (h : MatB B w v m) (h' : RowB B' w v' l) (hB : B ≤ w.heap.size) (hB' : B' ≤ w.heap.size) (hf : RowsFit m) (hll : l.length ≤ maxLen) :
    Calls Tryz.prog 36 #[v, v'] w (MakesM2 w (relM m l) (.bool (relB m l))) := by
  obtain ⟨a, cap, rfl⟩ := h.slice
  obtain ⟨a', cap', rfl⟩ := h'.slice
  have hl := hf.1
  have HR := Lib.hid h; clear h
  have HL := Lib.hid h'; clear h'
  have HF := Lib.hid hf; clear hf
  have HLL := Lib.hid hll
  unfold maxLen at hl hll
  by_cases hI : IsC m
  · have HC := Lib.hid (isB_yes hI)
    have hn4 := hI.2.2.2
    by_cases hs : IsOrd m.length l
    · have hok : RelOk m l := ⟨hI, hs⟩
      have HM := Lib.hid (relM_yes hok)
      have HB := Lib.hid (relB_yes hok)
      have HS := Lib.hid (ordB_yes hs)
      have HPT := Lib.hid (isOrd_pt hs)
      have hlen := hs.1
      have HRW := Lib.hid hI.1
      clear hok hI hs
      generalize relM m l = R at *
      generalize relB m l = c at *
      generalize hn : m.length = n at *
      have HN := Lib.hid hn; clear hn
      generalize hln : l.length = L at *
      have HLN := Lib.hid hln; clear hln
      subst hlen
      go_enter Tryz.func36, Tryz.ntmps36
      go_wp2_with fail
      refine (icm_w B _ m true HC.out _ HR.out HF.out).mono ?_
      rintro e w1 ⟨rfl, hb1⟩
      have HB1 := Lib.hid hb1; clear hb1
      go_wp2_with fail
      refine (isord_any B' _ L cap _ l w1 (HL.out.below HB1.out hB') (by omega) (by rw [HLN.out]; exact HLL.out)).mono ?_
      rintro e w' ⟨rfl, rfl⟩
      rw [HS.out]
      go_wp2_with fail
      refine (pickp_any B B' _ _ m l w1 (HR.out.below HB1.out hB) (HL.out.below HB1.out hB') (Nat.le_trans hB HB1.out.size) (Nat.le_trans hB' HB1.out.size) HF.out (by rw [HN.out]; exact HRW.out) (by rw [HN.out]; exact HPT.out) (by rw [HLN.out]; omega)).mono ?_
      rintro e w2 ⟨x, rfl, hm2, hb2⟩
      have HM2 := Lib.hid hm2; clear hm2
      have HB2 := Lib.hid (HB1.out.trans (hb2.mono HB1.out.size)); clear hb2
      go_wp2_with fail
      go_ret2
      exact ⟨_, by rw [HB.out]; rfl, by rw [HM.out]; exact ⟨HM2.out.1.mono HB1.out.size (Nat.le_refl _), Nat.le_refl _⟩, HB2.out⟩
    · have hno : ¬ RelOk m l := fun h => hs h.2
      have HM := Lib.hid (relM_no hno)
      have HB := Lib.hid (relB_no hno)
      have HS := Lib.hid (ordB_no hs)
      clear hno hI hs
      generalize relM m l = R at *
      generalize relB m l = c at *
      generalize hn : m.length = n at *
      have HN := Lib.hid hn; clear hn
      generalize hln : l.length = L at *
      have HLN := Lib.hid hln; clear hln
      go_enter Tryz.func36, Tryz.ntmps36
      go_wp2_with fail
      refine (icm_w B _ m true HC.out _ HR.out HF.out).mono ?_
      rintro e w1 ⟨rfl, hb1⟩
      have HB1 := Lib.hid hb1; clear hb1
      go_wp2_with fail
      refine (isord_any B' _ n cap _ l w1 (HL.out.below HB1.out hB') (by omega) (by rw [HLN.out]; exact HLL.out)).mono ?_
      rintro e w' ⟨rfl, rfl⟩
      rw [HS.out]
      go_wp2_with fail
      go_ret2
      exact makesM2_nil HM.out HB.out.symm (MatI.nil _ _ _) HB1.out
  · have hno : ¬ RelOk m l := fun h => hI h.1
    have HM := Lib.hid (relM_no hno)
    have HB := Lib.hid (relB_no hno)
    have HC := Lib.hid (isB_no hI)
    clear hno hI
    generalize relM m l = R at *
    generalize relB m l = c at *
    generalize hn : m.length = n at *
    have HN := Lib.hid hn; clear hn
    generalize hln : l.length = L at *
    have HLN := Lib.hid hln; clear hln
    go_enter Tryz.func36, Tryz.ntmps36
    go_wp2_with fail
    refine (icm_w B _ m false HC.out _ HR.out HF.out).mono ?_
    rintro e w1 ⟨rfl, hb1⟩
    have HB1 := Lib.hid hb1; clear hb1
    go_wp2_with fail
    go_ret2
    exact makesM2_nil HM.out HB.out.symm (MatI.nil _ _ _) HB1.out

theorem below_da {w w1 : World} (h : Below w.heap.size w w1) (q : Nat) (o : Obj) : Below w.heap.size w ((w1.drewN q).alloc o) :=
  (h.trans ((below_drewN q).mono h.size)).alloc h.size o

/-! ### The model -/
set_option maxHeartbeats 4000000 in
set_option maxRecDepth 100000 in
theorem rels_any (B B' : Nat) (v v' : Value) (m : List (List Int)) (l : List Int) (w : World) (h : MatB B w v m) (h' : RowB B' w v' l) (hB : B ≤ w.heap.size) (hB' : B' ≤ w.heap.size) (hf : RowsFit m) (hll : l.length ≤ maxLen) (hcap : CapOk v') :
    Calls Tryz.prog 49 #[v, v'] w (MakesM2 w (relM m l) (.bool (relB m l))) := by
  obtain ⟨a, cap, rfl⟩ := h.slice
  obtain ⟨a', cap', rfl⟩ := h'.slice
  have hl := hf.1
  have hcp := hcap _ _ _ rfl
  clear hcap
  have HR := Lib.hid h; clear h
  have HL := Lib.hid h'; clear h'
  have HF := Lib.hid hf; clear hf
  have HLL := Lib.hid hll
  unfold maxLen at hl hll
  by_cases hI : IsC m
  · have HC := Lib.hid (isB_yes hI)
    have hn4 := hI.2.2.2
    by_cases he : l.length = m.length
    · have HNO := Lib.hid (fun (k : Nat) (hk : k < l.length) (h : ¬ ordC m.length l k) => show relM m l = [] ∧ relB m l = false from
        have hno : ¬ RelOk m l := fun hh => h (hh.2.2 k hk)
        ⟨relM_no hno, relB_no hno⟩)
      have HYES := Lib.hid (fun (h : OrdTo m.length l l.length) => show (relM m l = pick m l ∧ relB m l = true) ∧ AllPt m.length l from
        have hok : RelOk m l := ⟨hI, he, h⟩
        ⟨⟨relM_yes hok, relB_yes hok⟩, isOrd_pt hok.2⟩)
      have HRW := Lib.hid hI.1
      clear hI
      have HPK := Lib.hid (show pick m l = fullF (ptsF m l) l.length from rfl)
      generalize pick m l = R at *
      generalize relM m l = R' at *
      generalize relB m l = cc at *
      generalize hn : m.length = n at *
      have HN := Lib.hid hn; clear hn
      generalize hln : l.length = L at *
      have HLN := Lib.hid hln; clear hln
      subst he
      have hb : ((L : Int) != (L : Int)) = false := by rw [bne_eq_false_iff_eq]
      go_enter Tryz.func49, Tryz.ntmps49
      go_wp2_with fail
      refine (isc_w B _ m true HC.out _ HR.out HF.out).mono ?_
      rintro e w1 ⟨rfl, hb1⟩
      have HB1 := Lib.hid hb1; clear hb1
      go_wp2_with fail
      go_loopw [6] (fun i wr => ∃ k q : Nat, k ≤ L ∧ i = .int .i64 k ∧ wr = w1.drewN q ∧ OrdTo L l k) (fun i _ => L - (intOf i).toNat)
      case atStart => exact ⟨0, 0, Nat.zero_le _, rfl, rfl, fun i hi => by omega⟩
      case round =>
        obtain ⟨k, q, hk, rfl, rfl, hs⟩ := hrel
        have HS := Lib.hid hs; clear hs
        by_cases hlt : k < L
        · have hlt' : decide (k < L) = true := decide_eq_true hlt
          obtain ⟨lb, loff, rfl, hlb, hlc⟩ := (HL.out.below HB1.out hB').getD hlt
          have HT := Lib.hid (((HL.out.below HB1.out hB').take hlt cap'))
          have htl : (l.take k).length ≤ maxLen := by rw [List.length_take]; unfold maxLen; omega
          have HTL := Lib.hid htl; clear htl
          by_cases hin : 0 ≤ l.getD k 0 ∧ l.getD k 0 ≤ (L : Int) - 1
          · have HIN := Lib.hid (inB_yes hin)
            by_cases hm : l.getD k 0 ∈ l.take k
            · obtain ⟨hr1, hr2⟩ := HNO.out k hlt (fun h => h.2 hm)
              have HR1 := Lib.hid hr1; have HR2 := Lib.hid hr2
              have HM := Lib.hid (hasB_yes hm)
              clear hin hm hr1 hr2
              generalize l.getD k 0 = x at *
              go_wp2_with fail
              go_quiet (first | (go_at_call 79; exact quiet_more (fun q => l1in_q _ _ _ _ HIN.out w1 q) _ _) | (go_at_call 106; exact quiet_more (fun q => (has_q _ _ _ _ _ HM.out w1 HT.out HTL.out q)) _ _))
              go_wp2_with fail
              go_ret2
              exact makesM2_nil HR1.out HR2.out.symm ((mat_empty _).mono HB1.out.size (Nat.le_refl _)) (below_da HB1.out _ _)
            · have HST := Lib.hid (ordTo_step HS.out ⟨hin, hm⟩)
              have HM := Lib.hid (hasB_no hm)
              clear hin hm
              generalize l.getD k 0 = x at *
              go_wp2_with fail
              go_quiet (first | (go_at_call 79; exact quiet_more (fun q => l1in_q _ _ _ _ HIN.out w1 q) _ _) | (go_at_call 106; exact quiet_more (fun q => (has_q _ _ _ _ _ HM.out w1 HT.out HTL.out q)) _ _))
              go_wp2_with fail
              exact ⟨⟨k + 1, q + nq, by omega, by go_num, rfl, HST.out⟩, by simp [intOf]; omega⟩
          · have HIN := Lib.hid (inB_no hin)
            obtain ⟨hr1, hr2⟩ := HNO.out k hlt (fun h => hin h.1)
            have HR1 := Lib.hid hr1; have HR2 := Lib.hid hr2
            clear hin hr1 hr2
            generalize l.getD k 0 = x at *
            go_wp2_with fail
            go_quiet (first | (go_at_call 79; exact quiet_more (fun q => l1in_q _ _ _ _ HIN.out w1 q) _ _) | fail)
            go_wp2_with fail
            go_ret2
            exact makesM2_nil HR1.out HR2.out.symm ((mat_empty _).mono HB1.out.size (Nat.le_refl _)) (below_da HB1.out _ _)
        · obtain rfl : L = k := by omega
          have hlt' : decide (L < L) = false := by simp
          obtain ⟨⟨hr1, hr2⟩, hpt⟩ := HYES.out HS.out
          have HM := Lib.hid hr1; have HB := Lib.hid hr2; have HPT := Lib.hid hpt
          clear hr1 hr2 hpt
          have he1 : Below w.heap.size w ((w1.drewN q).alloc (.cells #[] 39)) := below_da HB1.out q _
          have HE1 := Lib.hid he1; clear he1
          go_wp2_with fail
          clear hlt' hk hlt
          go_loopw [7, 8] (fun o i wr => ∃ (k : Nat) (wq : World), wq = wr ∧ k ≤ L ∧ i = .int .i64 k ∧ MatI w.heap.size wq.heap.size wq o ((fullF (ptsF m l) L).take k) ∧ Below w.heap.size w wq) (fun _ i _ => L - (intOf i).toNat)
          case atStart => exact ⟨0, _, rfl, Nat.zero_le _, rfl, (mat_empty _).mono HB1.out.size (Nat.le_refl _), HE1.out⟩
          case round =>
            obtain ⟨k, wq, rfl, hk, rfl, hM, hb⟩ := hrel
            have HMQ := Lib.hid hM; clear hM
            have HBQ := Lib.hid hb; clear hb
            by_cases hlt : k < L
            · have hlt' : decide (k < L) = true := decide_eq_true hlt
              obtain ⟨hp0, hp1⟩ := HPT.out k (by rw [HLN.out]; exact hlt)
              obtain ⟨p, hpe⟩ := Int.eq_ofNat_of_zero_le hp0
              have hpn : p < L := by omega
              have HPE := Lib.hid hpe; clear hpe hp0 hp1
              go_wp2_with fail
              go_loopw [9, 10] (fun r j wr => ∃ (c : Nat) (wi : World), wi = wr ∧ c ≤ L ∧ j = .int .i64 c ∧ RowI wq.heap.size wi.heap.size wi r ((rowF (ptsF m l) L k).take c) ∧ Below wq.heap.size wq wi) (fun _ j _ => L - (intOf j).toNat)
              case atStart => exact ⟨0, _, rfl, Nat.zero_le _, rfl, row_empty wq, (Below.refl _ _).alloc (Nat.le_refl _) _⟩
              case round =>
                obtain ⟨c, wi, rfl, hc, rfl, hR, hbi⟩ := hrel
                have HBI := Lib.hid hbi
                have hsz := hbi.size
                have hBQ := HBQ.out.size
                clear hbi
                by_cases hcn : c < L
                · have hcn' : decide (c < L) = true := decide_eq_true hcn
                  have hBi : Below w.heap.size w wi := HBQ.out.trans (HBI.out.mono hBQ)
                  obtain ⟨lb, loff, rfl, hlb, hlc⟩ := (HL.out.below hBi hB').getD hlt
                  have hlc2 := (HL.out.below hBi hB').prev hcn
                  obtain ⟨hq0, hq1⟩ := HPT.out c (by rw [HLN.out]; exact hcn)
                  obtain ⟨q, hqe⟩ := Int.eq_ofNat_of_zero_le hq0
                  have hqn : q < L := by omega
                  rw [HPE.out] at hlc
                  rw [hqe] at hlc2
                  obtain ⟨b, off, rb, roff, rcap, rfl, hc1, hx⟩ := (HR.out.below hBi hB).entry HRW.out hpn hqn
                  have hpt : ptsF m l k c = entry m p q := by unfold ptsF; rw [HPE.out, hqe]; rfl
                  clear hBi hq0 hq1 hqe
                  have hst := rowF_step (ptsF m l) L k c hcn
                  rw [hpt] at hst
                  have HST := Lib.hid hst
                  have hrl : ((rowF (ptsF m l) L k).take c).length + [entry m p q].length ≤ 4194304 := by rw [List.length_take]; simp; omega
                  clear hst hpt
                  generalize entry m p q = x at *
                  have HRI := Lib.hid hR; clear hR
                  have HRL := Lib.hid hrl; clear hrl
                  go_wp2_with fail
                  go_region_law (refine step_lit x wi.heap.size ((HRI.out.alloc _).mono (Nat.le_refl _) (by simp)) (by simp; omega) (MapKept.heap_alloc _ _).1 HRL.out rfl rfl rfl rfl ?_; intro v3 w3 hr3 hb3 hz3)
                  all_goals
                    rw [HST.out] at hr3
                    have HR3 := Lib.hid hr3
                    have HB3 := Lib.hid (hb3 wq wq.heap.size (Nat.le_refl _) (HBI.out.alloc hsz _).drew)
                    clear hr3 hb3 hz3
                    go_wp2_with fail
                    exact ⟨⟨c + 1, _, rfl, by omega, by go_num, HR3.out, HB3.out⟩, by simp [intOf]; omega⟩
                · obtain rfl : c = L := by omega
                  have hcn' : decide (c < c) = false := by simp
                  have hM3 : MatI w.heap.size wq.heap.size wi _ _ := HMQ.out.same (SameIn.of_below HBI.out (Nat.le_refl _))
                  rw [rowF_end] at hR
                  obtain ⟨ra, rcap, rfl⟩ := hR.slice
                  have HM3 := Lib.hid hM3
                  have HR3 := Lib.hid hR
                  have HST := Lib.hid (fullF_step (ptsF m l) c k hlt)
                  have hml : ((fullF (ptsF m l) c).take k).length ≤ 1048576 := by rw [List.length_take]; omega
                  have HML := Lib.hid hml
                  clear hM3 hR hml
                  go_wp2_with (at_builtin; go_must (refine append_row HM3.out HR3.out hBQ hsz rfl rfl rfl rfl HML.out ?_; intro v' w3 hm3 hb3 hz3))
                  rw [HST.out] at hm3
                  have HM4 := Lib.hid hm3
                  have HB4 := Lib.hid (hb3 w w.heap.size (Nat.le_refl _) (HBQ.out.trans (HBI.out.mono hBQ)))
                  exact ⟨⟨k + 1, _, rfl, by omega, by go_num, HM4.out, HB4.out⟩, by simp [intOf]; omega⟩
            · obtain rfl : k = L := by omega
              have hlt' : decide (k < k) = false := by simp
              have hM := HMQ.out
              rw [fullF_end] at hM
              have HM2 := Lib.hid hM
              clear hM
              go_wp2_with fail
              go_ret2
              exact ⟨_, by rw [HB.out]; rfl, by rw [HM.out, HPK.out]; exact ⟨HM2.out, Nat.le_refl _⟩, HBQ.out⟩
    · have hno : ¬ RelOk m l := fun h => he h.2.1
      have HM := Lib.hid (relM_no hno)
      have HB := Lib.hid (relB_no hno)
      clear hno hI
      generalize relM m l = R' at *
      generalize relB m l = cc at *
      generalize hn : m.length = n at *
      have HN := Lib.hid hn; clear hn
      generalize hln : l.length = L at *
      have HLN := Lib.hid hln; clear hln
      have hb : ((L : Int) != (n : Int)) = true := by rw [bne_iff_ne]; omega
      go_enter Tryz.func49, Tryz.ntmps49
      go_wp2_with fail
      refine (isc_w B _ m true HC.out _ HR.out HF.out).mono ?_
      rintro e w1 ⟨rfl, hb1⟩
      have HB1 := Lib.hid hb1; clear hb1
      go_wp2_with fail
      go_ret2
      exact makesM2_nil HM.out HB.out.symm ((mat_empty w1).mono HB1.out.size (Nat.le_refl _)) (HB1.out.alloc HB1.out.size _)
  · have hno : ¬ RelOk m l := fun h => hI h.1
    have HM := Lib.hid (relM_no hno)
    have HB := Lib.hid (relB_no hno)
    have HC := Lib.hid (isB_no hI)
    clear hno hI
    generalize relM m l = R' at *
    generalize relB m l = cc at *
    generalize hn : m.length = n at *
    have HN := Lib.hid hn; clear hn
    generalize hln : l.length = L at *
    have HLN := Lib.hid hln; clear hln
    go_enter Tryz.func49, Tryz.ntmps49
    go_wp2_with fail
    refine (isc_w B _ m false HC.out _ HR.out HF.out).mono ?_
    rintro e w1 ⟨rfl, hb1⟩
    have HB1 := Lib.hid hb1; clear hb1
    go_wp2_with fail
    go_ret2
    exact makesM2_nil HM.out HB.out.symm ((mat_empty w1).mono HB1.out.size (Nat.le_refl _)) (HB1.out.alloc HB1.out.size _)
end Go.Proofs.YtppimgkampkfjaaGreatDoor
