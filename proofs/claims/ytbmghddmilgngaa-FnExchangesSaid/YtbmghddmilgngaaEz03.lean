/-
  IsCartan of the model: what the call returns.
  BondOf of the model: what the call returns.
  Words: what the functions of chapter 5 answer (no walk here).
-/
import Derived.Test.YtbmghddmilgngaaEz02
namespace Go.Proofs.Ytbmghddmilgngaa
open Go.RowKit

def entry (m : List (List Int)) (i j : Nat) : Int := (m.getD i []).getD j 0
def okC (m : List (List Int)) (i j : Nat) : Prop := (i = j ∧ entry m i j = 2) ∨ (i ≠ j ∧ (-3 ≤ entry m i j ∧ entry m i j ≤ 0) ∧ (entry m i j = 0 ↔ entry m j i = 0))
def IsC (m : List (List Int)) : Prop := (∀ i, i < m.length → (m.getD i []).length = m.length) ∧ (∀ i j, i < m.length → j < m.length → okC m i j) ∧ 1 ≤ m.length ∧ m.length ≤ 4
def IsAns (m : List (List Int)) (e : Ending) : Prop := (IsC m ∧ e = .returned (.bool true)) ∨ (¬ IsC m ∧ e = .returned (.bool false))
def Rows0 (m : List (List Int)) (n k : Nat) : Prop := ∀ i, i < k → (m.getD i []).length = n
def Ok0 (m : List (List Int)) (n k j : Nat) : Prop := (∀ i c, i < k → c < n → okC m i c) ∧ ∀ c, c < j → okC m k c
theorem ans_f {m : List (List Int)} (h : ¬ IsC m) : IsAns m (.returned (.bool false)) := Or.inr ⟨h, rfl⟩
theorem rows0_step {m : List (List Int)} {n k : Nat} (h : Rows0 m n k) (hk : (m.getD k []).length = n) : Rows0 m n (k + 1) := fun i hi => by
  rcases Nat.lt_or_ge i k with h' | h'
  · exact h i h'
  · have : i = k := by omega
    subst this; exact hk
theorem ok0_step {m : List (List Int)} {n k j : Nat} (h : Ok0 m n k j) (hk : okC m k j) : Ok0 m n k (j + 1) := ⟨h.1, fun c hc => by
  rcases Nat.lt_or_ge c j with h' | h'
  · exact h.2 c h'
  · have : c = j := by omega
    subst this; exact hk⟩
theorem ok0_row {m : List (List Int)} {n k : Nat} (h : Ok0 m n k n) : Ok0 m n (k + 1) 0 := ⟨fun i c hi hc => by
  rcases Nat.lt_or_ge i k with h' | h'
  · exact h.1 i c h' hc
  · have : i = k := by omega
    subst this; exact h.2 c hc, fun c hc => by omega⟩
theorem getD_row (m : List (List Int)) (i : Nat) (h : i < m.length) : m.getD i [] = m[i] := by simp [List.getD, h]

/-- One entry of a square matrix: the row's header and the cell. -/
theorem MatB.entry {B : Nat} {w : World} {a : Option Addr} {n cap : Nat} {m : List (List Int)} (h : MatB B w (.slice a n cap) m) (hr : Rows0 m n n) {i j : Nat} (hi : i < n) (hj : j < n) :
    ∃ b off rb roff rcap, a = some ⟨b, off, none⟩ ∧ w.cell? ⟨b, off + i, none⟩ = some (.slice (some ⟨rb, roff, none⟩) n rcap) ∧ w.cell? ⟨rb, roff + j, none⟩ = some (.int .i64 (entry m i j)) := by
  obtain ⟨b, off, hil, rfl, hb, ra, rcap, hc, hrow⟩ := h.get hi
  have hg := getD_row m i hil
  have hlen : m[i].length = n := by rw [← hg]; exact hr i hi
  rw [hlen] at hc hrow
  obtain ⟨rb, roff, hjl, rfl, _, hcell⟩ := hrow.get hj
  refine ⟨b, off, rb, roff, rcap, rfl, hc, ?_⟩
  rw [hcell]
  unfold Go.Proofs.Ytbmghddmilgngaa.entry
  rw [hg]
  simp [List.getD, hjl]

set_option maxHeartbeats 4000000 in
set_option maxRecDepth 100000 in
theorem isc_any (B : Nat) (v : Value) (m : List (List Int)) (w : World) (h : MatB B w v m) (hf : RowsFit m) :
    Calls Try.prog 55 #[v] w fun e w' => IsAns m e ∧ ∃ q, w' = w.drewN q := by
  obtain ⟨a, cap, rfl⟩ := h.slice
  have hl := hf.1
  have HR := Lib.hid h; clear h
  have HF := Lib.hid hf; clear hf
  generalize hn : m.length = n at *
  unfold maxLen at hl
  have HN := Lib.hid hn; clear hn
  go_enter Try.func55, Try.ntmps55
  go_wp2_with fail
  go_loop [3] (fun i => ∃ k : Nat, k ≤ n ∧ i = .int .i64 k ∧ Rows0 m n k) (fun i => n - (RowKit.intOf i).toNat)
  case atStart => exact ⟨0, Nat.zero_le _, rfl, fun i hi => by omega⟩
  case round =>
    obtain ⟨k, hk, rfl, hr⟩ := hrel
    have HRW := Lib.hid hr; clear hr
    by_cases hlt : k < n
    · obtain ⟨b, off, hkl, rfl, hb, ra, rcap, hc, hrow⟩ := HR.out.get hlt
      have hrl := HF.out.2 k hkl
      unfold maxLen at hrl
      have hg := getD_row m k hkl
      clear hrow
      by_cases he : m[k].length = n
      · have hst := rows0_step HRW.out (by rw [hg]; exact he)
        have HST := Lib.hid hst; clear hst hg
        generalize m[k].length = r at *
        have hq : ((r : Int) != (n : Int)) = false := by rw [bne_eq_false_iff_eq]; omega
        have hr1 : r ≤ n := by omega
        have hr2 : n ≤ r := by omega
        clear he
        go_wp2_with fail
        go_round
        case rel => exact ⟨k + 1, by omega, by go_num, HST.out⟩
        case measure => simp [RowKit.intOf]; omega
      · have hbad : ¬ IsC m := fun hi => he (by have := hi.1 k (by rw [HN.out]; exact hlt); rw [hg, HN.out] at this; exact this)
        have HBAD := Lib.hid hbad; clear hbad hg
        generalize m[k].length = r at *
        have hq : ((r : Int) != (n : Int)) = true := by rw [bne_iff_ne]; omega
        clear he
        go_wp2_with fail
        go_ret
        exact ⟨ans_f HBAD.out, 0, rfl⟩
    · obtain rfl : n = k := by omega
      go_wp2_with fail
      go_loopw [4] (fun i wr => ∃ (k q : Nat), k ≤ n ∧ i = .int .i64 k ∧ wr = w.drewN q ∧ Ok0 m n k 0) (fun i _ => n - (RowKit.intOf i).toNat)
      case atStart => exact ⟨0, 0, Nat.zero_le _, rfl, rfl, fun i c hi _ => by omega, fun c hc => by omega⟩
      case round =>
        obtain ⟨k, q, hk2, rfl, rfl, ho⟩ := hrel
        have HO := Lib.hid ho; clear ho
        by_cases hkn : k < n
        · go_wp2_with fail
          go_loopw [5] (fun i wr => ∃ (j q : Nat), j ≤ n ∧ i = .int .i64 j ∧ wr = w.drewN q ∧ Ok0 m n k j) (fun i _ => n - (RowKit.intOf i).toNat)
          case atStart => exact ⟨0, q, Nat.zero_le _, rfl, rfl, HO.out⟩
          case round =>
            obtain ⟨j, q2, hj, rfl, rfl, hoj⟩ := hrel
            have HOJ := Lib.hid hoj; clear hoj
            by_cases hjn : j < n
            · obtain ⟨b, off, rb, roff, rcap, rfl, hc1, hx⟩ := HR.out.entry HRW.out hkn hjn
              obtain ⟨b', off', rb', roff', rcap', hab, hc2, hy⟩ := HR.out.entry HRW.out hjn hkn
              injection hab with hab
              injection hab with hab1 hab2
              subst hab1
              subst hab2
              have hst : okC m k j → Ok0 m n k (j + 1) := ok0_step HOJ.out
              have hbd : ¬ okC m k j → ¬ IsC m := fun h1 h2 => h1 (h2.2.1 k j (by rw [HN.out]; exact hkn) (by rw [HN.out]; exact hjn))
              have hok : okC m k j ↔ ((k = j ∧ entry m k j = 2) ∨ (k ≠ j ∧ (-3 ≤ entry m k j ∧ entry m k j ≤ 0) ∧ (entry m k j = 0 ↔ entry m j k = 0))) := Iff.rfl
              have HSTP := Lib.hid hst; clear hst
              have HBDP := Lib.hid hbd; clear hbd
              have HOK := Lib.hid hok; clear hok
              generalize entry m k j = x at *
              generalize entry m j k = y at *
              by_cases hkj : k = j
              · subst hkj
                have g1 : ((k : Int) == (k : Int)) = true := by rw [beq_iff_eq]
                by_cases hx2 : x = 2
                · have HST := Lib.hid (HSTP.out (HOK.out.2 (Or.inl ⟨rfl, hx2⟩)))
                  have g3 : (x != 2) = false := by rw [bne_eq_false_iff_eq]; exact hx2
                  clear hx2
                  go_wp2_with fail
                  go_quiet (fail)
                  go_wp2_with fail
                  exact ⟨⟨k + 1, q2 + nq, by omega, by go_num, rfl, HST.out⟩, by simp [RowKit.intOf]; omega⟩
                · have HBAD := Lib.hid (HBDP.out (fun h => by rcases HOK.out.1 h with h | h; exact hx2 h.2; exact h.1 rfl))
                  have g3 : (x != 2) = true := by rw [bne_iff_ne]; exact hx2
                  clear hx2
                  go_wp2_with fail
                  go_quiet (fail)
                  go_wp2_with fail
                  go_ret
                  exact ⟨ans_f HBAD.out, _, World.drewN_drewN _ _ _⟩
              · have g1 : ((k : Int) == (j : Int)) = false := by rw [beq_eq_false_iff_ne]; omega
                have g2 : ((k : Int) != (j : Int)) = true := by rw [bne_iff_ne]; omega
                by_cases hin : -3 ≤ x ∧ x ≤ 0
                · have HIN := Lib.hid (inB_yes hin)
                  by_cases hz : x = 0 ↔ y = 0
                  · have HST := Lib.hid (HSTP.out (HOK.out.2 (Or.inr ⟨hkj, hin, hz⟩)))
                    have g5 : ((x == 0) == (y == 0)) = true := by
                      rw [beq_iff_eq, Bool.eq_iff_iff, beq_iff_eq, beq_iff_eq]; exact hz
                    clear hin hz hkj
                    go_wp2_with fail
                    go_quiet (((go_at_call 54; exact quiet_more (fun q => l1in_q _ _ _ _ HIN.out w q) _ _)))
                    go_wp2_with fail
                    exact ⟨⟨j + 1, q2 + nq, by omega, by go_num, rfl, HST.out⟩, by simp [RowKit.intOf]; omega⟩
                  · have HBAD := Lib.hid (HBDP.out (fun h => by rcases HOK.out.1 h with h | h; exact hkj h.1; exact hz h.2.2))
                    have g5 : ((x == 0) == (y == 0)) = false := by
                      rw [beq_eq_false_iff_ne]; intro e; rw [Bool.eq_iff_iff, beq_iff_eq, beq_iff_eq] at e; exact hz e
                    clear hin hz hkj
                    go_wp2_with fail
                    go_quiet (((go_at_call 54; exact quiet_more (fun q => l1in_q _ _ _ _ HIN.out w q) _ _)))
                    go_wp2_with fail
                    go_ret
                    exact ⟨ans_f HBAD.out, _, World.drewN_drewN _ _ _⟩
                · have HIN := Lib.hid (inB_no hin)
                  have HBAD := Lib.hid (HBDP.out (fun h => by rcases HOK.out.1 h with h | h; exact hkj h.1; exact hin h.2.1))
                  clear hin hkj
                  go_wp2_with fail
                  go_quiet (((go_at_call 54; exact quiet_more (fun q => l1in_q _ _ _ _ HIN.out w q) _ _)))
                  go_wp2_with fail
                  go_ret
                  exact ⟨ans_f HBAD.out, _, World.drewN_drewN _ _ _⟩
            · obtain rfl : n = j := by omega
              go_wp2_with fail
              exact ⟨⟨k + 1, q2, by omega, by go_num, rfl, ok0_row HOJ.out⟩, by simp [RowKit.intOf]; omega⟩
        · obtain rfl : n = k := by omega
          by_cases hin : 1 ≤ n ∧ n ≤ 4
          · have hgood : IsC m := ⟨by rw [HN.out]; exact HRW.out, by rw [HN.out]; exact HO.out.1, by rw [HN.out]; exact hin.1, by rw [HN.out]; exact hin.2⟩
            have HG := Lib.hid hgood
            have hb : inB (n : Int) 1 4 = true := inB_yes (by omega)
            have HB := Lib.hid hb; clear hb hgood hin
            go_wp2_with (go_at_call 54; refine (l1in_q _ _ _ true HB.out w q).mono ?_; rintro e w' ⟨rfl, mm, rfl⟩)
            go_ret
            exact ⟨Or.inl ⟨HG.out, rfl⟩, _, rfl⟩
          · have hbad : ¬ IsC m := fun h => hin (by have := h.2.2; rw [HN.out] at this; exact this)
            have HG := Lib.hid hbad
            have hb : inB (n : Int) 1 4 = false := inB_no (by omega)
            have HB := Lib.hid hb; clear hb hbad hin
            go_wp2_with (go_at_call 54; refine (l1in_q _ _ _ false HB.out w q).mono ?_; rintro e w' ⟨rfl, mm, rfl⟩)
            go_ret
            exact ⟨Or.inr ⟨HG.out, rfl⟩, _, rfl⟩
end Go.Proofs.Ytbmghddmilgngaa
namespace Go.Proofs.Ytbmghddmilgngaa
open Go.RowKit

open Classical in
noncomputable def isB (m : List (List Int)) : Bool := decide (IsC m)
open Classical in
theorem isB_yes {m : List (List Int)} (h : IsC m) : isB m = true := decide_eq_true h
open Classical in
theorem isB_no {m : List (List Int)} (h : ¬ IsC m) : isB m = false := decide_eq_false h
theorem isc_q (B : Nat) (v : Value) (m : List (List Int)) (c : Bool) (hc : isB m = c) (w : World) (h : MatB B w v m) (hf : RowsFit m) (q : Nat) :
    Calls Try.prog 55 #[v] (w.drewN q) fun e w' => e = .returned (.bool c) ∧ ∃ m, w' = (w.drewN q).drewN m :=
  (isc_any B v m (w.drewN q) h hf).mono fun e w' ⟨he, hw⟩ => ⟨by
    rcases he with ⟨h1, rfl⟩ | ⟨h1, rfl⟩
    · exact ret_boolean ((isB_yes h1).symm.trans hc)
    · exact ret_boolean ((isB_no h1).symm.trans hc), hw⟩
theorem isc_0 (B : Nat) (v : Value) (m : List (List Int)) (c : Bool) (hc : isB m = c) (w : World) (h : MatB B w v m) (hf : RowsFit m) :
    Calls Try.prog 55 #[v] w fun e w' => e = .returned (.bool c) ∧ ∃ m, w' = w.drewN m :=
  (isc_any B v m w h hf).mono fun e w' ⟨he, hw⟩ => ⟨by
    rcases he with ⟨h1, rfl⟩ | ⟨h1, rfl⟩
    · exact ret_boolean ((isB_yes h1).symm.trans hc)
    · exact ret_boolean ((isB_no h1).symm.trans hc), hw⟩
theorem l1in_c (x a b : Int) (c : Bool) (hc : inB x a b = c) (w : World) :
    Calls Try.prog 54 #[.int .i64 x, .int .i64 a, .int .i64 b] w fun e w' => e = .returned (.bool c) ∧ w = w' :=
  (l1in_any x a b w).mono fun e w' ⟨he, hw⟩ => ⟨by rw [he]; exact ret_boolean hc, hw⟩
/-- The bond of two rows, from the product of the two entries. -/
def bondP (p : Int) : Int := if p = 0 then 2 else if p = 1 then 3 else if p = 2 then 4 else if p = 3 then 6 else 0
open Classical in
noncomputable def bond (m : List (List Int)) (i j : Int) : Int :=
  if IsC m ∧ (0 ≤ i ∧ i ≤ (m.length : Int) - 1) ∧ (0 ≤ j ∧ j ≤ (m.length : Int) - 1) then (if i = j then 1 else bondP (entry m i.toNat j.toNat * entry m j.toNat i.toNat)) else -1
theorem bond_eq {m : List (List Int)} {i : Nat} (h : IsC m) (hi : i < m.length) : bond m i i = 1 := by
  unfold bond; rw [if_pos ⟨h, by omega, by omega⟩, if_pos rfl]
theorem bond_ne {m : List (List Int)} {i j : Nat} (h : IsC m) (hi : i < m.length) (hj : j < m.length) (hn : i ≠ j) : bond m i j = bondP (entry m i j * entry m j i) := by
  unfold bond; rw [if_pos ⟨h, by omega, by omega⟩, if_neg (by omega)]; rfl
theorem isc_in {m : List (List Int)} (h : IsC m) {i j : Nat} (hi : i < m.length) (hj : j < m.length) (hn : i ≠ j) : -3 ≤ entry m i j ∧ entry m i j ≤ 0 := by
  rcases h.2.1 i j hi hj with h | h
  · exact absurd h.1 hn
  · exact h.2.1
theorem four {x : Int} (h : -3 ≤ x ∧ x ≤ 0) : x = 0 ∨ x = -1 ∨ x = -2 ∨ x = -3 := by omega
theorem bond_no {m : List (List Int)} {i j : Int} (h : ¬ (IsC m ∧ (0 ≤ i ∧ i ≤ (m.length : Int) - 1) ∧ (0 ≤ j ∧ j ≤ (m.length : Int) - 1))) : bond m i j = -1 := if_neg h

end Go.Proofs.Ytbmghddmilgngaa
namespace Go.Proofs.Ytbmghddmilgngaa
open Go.RowKit

/-! ### Words over points -/
def LetTo (n : Nat) (l : List Int) (k : Nat) : Prop := ∀ j, j < k → 0 ≤ l.getD j 0 ∧ l.getD j 0 ≤ (n : Int) - 1
theorem letTo_zero (n : Nat) (l : List Int) : LetTo n l 0 := fun _ hj => absurd hj (Nat.not_lt_zero _)
theorem letTo_step {n k : Nat} {l : List Int} (h : LetTo n l k) (hk : 0 ≤ l.getD k 0 ∧ l.getD k 0 ≤ (n : Int) - 1) : LetTo n l (k + 1) := fun j hj => by
  rcases Nat.lt_or_ge j k with h' | h'
  · exact h j h'
  · obtain rfl : j = k := by omega
    exact hk
def IsW (c : List (List Int)) (l : List Int) : Prop := LetTo c.length l l.length ∧ IsC c ∧ l.length ≤ 15
open Classical in
noncomputable def wordB (c : List (List Int)) (l : List Int) : Bool := decide (IsW c l)
open Classical in
theorem wordB_yes {c : List (List Int)} {l : List Int} (h : IsW c l) : wordB c l = true := decide_eq_true h
open Classical in
theorem wordB_no {c : List (List Int)} {l : List Int} (h : ¬ IsW c l) : wordB c l = false := decide_eq_false h
theorem isW_bad {c : List (List Int)} {l : List Int} {k : Nat} (hk : k < l.length) (h : ¬ (0 ≤ l.getD k 0 ∧ l.getD k 0 ≤ (c.length : Int) - 1)) : ¬ IsW c l := fun h' => h (h'.1 k hk)

/-! ### Which of two words comes first -/
def cmpL : List Int → List Int → Int
  | x :: a, y :: b => if x < y then -1 else if y < x then 1 else cmpL a b
  | _, _ => 0
def cmpW (a b : List Int) : Int := if a.length < b.length then -1 else if b.length < a.length then 1 else cmpL a b
theorem cmpL_same (a : List Int) : ∀ b, cmpL (a ++ b) (a ++ b) = cmpL b b := by
  induction a with
  | nil => intro b; rfl
  | cons x a ih => intro b; simp [cmpL, ih]
theorem cmpL_refl (a : List Int) : cmpL a a = 0 := by
  induction a with
  | nil => rfl
  | cons x a ih => simp [cmpL, ih]
theorem cmpL_front {p a b : List Int} : cmpL (p ++ a) (p ++ b) = cmpL a b := by
  induction p with
  | nil => rfl
  | cons x p ih => simp [cmpL, ih]
theorem cmpL_at {a b : List Int} {k : Nat} (ha : k < a.length) (hb : k < b.length) (he : a.take k = b.take k) (hne : a.getD k 0 ≠ b.getD k 0) : cmpL a b = if a.getD k 0 < b.getD k 0 then -1 else 1 := by
  have e1 : a.getD k 0 = a[k] := by simp [List.getD, ha]
  have e2 : b.getD k 0 = b[k] := by simp [List.getD, hb]
  rw [e1, e2] at hne ⊢
  conv => lhs; rw [← List.take_append_drop k a, ← List.take_append_drop k b, he, cmpL_front, List.drop_eq_getElem_cons ha, List.drop_eq_getElem_cons hb]
  unfold cmpL
  by_cases h1 : a[k] < b[k]
  · rw [if_pos h1, if_pos h1]
  · rw [if_neg h1, if_neg h1, if_pos (by omega)]
theorem cmpW_lt {a b : List Int} (h : a.length < b.length) : cmpW a b = -1 := if_pos h
theorem cmpW_gt {a b : List Int} (h : b.length < a.length) : cmpW a b = 1 := by unfold cmpW; rw [if_neg (by omega), if_pos h]
theorem cmpW_eq {a b : List Int} (h : a.length = b.length) : cmpW a b = cmpL a b := by unfold cmpW; rw [if_neg (by omega), if_neg (by omega)]
theorem cmpW_at {a b : List Int} {k : Nat} (hl : a.length = b.length) (hk : k < a.length) (he : a.take k = b.take k) (hne : a.getD k 0 ≠ b.getD k 0) : cmpW a b = if a.getD k 0 < b.getD k 0 then -1 else 1 := by
  rw [cmpW_eq hl]; exact cmpL_at hk (by omega) he hne
theorem cmpL_zero {a : List Int} : ∀ {b}, a.length = b.length → cmpL a b = 0 → a = b := by
  induction a with
  | nil => intro b h _; cases b with
    | nil => rfl
    | cons y b => simp at h
  | cons x a ih =>
    intro b h hc
    cases b with
    | nil => simp at h
    | cons y b =>
      unfold cmpL at hc
      by_cases h1 : x < y
      · rw [if_pos h1] at hc; omega
      · rw [if_neg h1] at hc
        by_cases h2 : y < x
        · rw [if_pos h2] at hc; omega
        · rw [if_neg h2] at hc
          rw [ih (by simpa using h) hc, show x = y by omega]
theorem cmpW_zero {a b : List Int} : cmpW a b = 0 ↔ a = b := by
  constructor
  · intro h
    rcases Nat.lt_trichotomy a.length b.length with h1 | h1 | h1
    · rw [cmpW_lt h1] at h; omega
    · rw [cmpW_eq h1] at h; exact cmpL_zero h1 h
    · rw [cmpW_gt h1] at h; omega
  · rintro rfl
    rw [cmpW_eq rfl, cmpL_refl]
theorem cmpL_neg (a : List Int) : ∀ b, cmpL b a = - cmpL a b := by
  induction a with
  | nil => intro b; cases b <;> rfl
  | cons x a ih =>
    intro b
    cases b with
    | nil => rfl
    | cons y b =>
      unfold cmpL
      by_cases h1 : x < y
      · rw [if_pos h1, if_neg (by omega), if_pos h1]; rfl
      · by_cases h2 : y < x
        · rw [if_pos h2, if_neg h1, if_pos h2]
        · rw [if_neg h1, if_neg h2, if_neg h2, if_neg h1, ih]
theorem cmpW_neg (a b : List Int) : cmpW b a = - cmpW a b := by
  rcases Nat.lt_trichotomy a.length b.length with h1 | h1 | h1
  · rw [cmpW_lt h1, cmpW_gt h1]; rfl
  · rw [cmpW_eq h1, cmpW_eq h1.symm, cmpL_neg]
  · rw [cmpW_lt h1, cmpW_gt h1]

/-! ### The letters that occur -/
def putS (x : Int) (s : List Int × Bool) (y : Int) : List Int × Bool :=
  let p := s.2 || decide (y = x)
  if decide (x < y) && !p then (s.1 ++ [x, y], true) else (s.1 ++ [y], p)
def putP (x : Int) (l : List Int) : List Int × Bool := l.foldl (putS x) ([], false)
def putL (l : List Int) (x : Int) : List Int := if (putP x l).2 then (putP x l).1 else (putP x l).1 ++ [x]
theorem putP_snoc (x : Int) (l : List Int) (y : Int) : putP x (l ++ [y]) = putS x (putP x l) y := by simp [putP]
theorem putP_take {x : Int} {l : List Int} {k : Nat} (h : k < l.length) : putP x (l.take (k + 1)) = putS x (putP x (l.take k)) (l.getD k 0) := by
  rw [List.take_succ_eq_append_getElem h, putP_snoc]; simp [List.getD, h]
theorem putS_len (x : Int) (s : List Int × Bool) (y : Int) : (putS x s y).1.length + (if (putS x s y).2 then 0 else 1) ≤ s.1.length + 1 + (if s.2 then 0 else 1) := by
  unfold putS
  simp only []
  split
  · rename_i h
    simp only [Bool.and_eq_true, Bool.not_eq_true', Bool.or_eq_false_iff] at h
    rw [h.2.1]; simp
  · cases s.2 <;> simp
    split <;> omega
theorem putP_len (x : Int) (l : List Int) : (putP x l).1.length + (if (putP x l).2 then 0 else 1) ≤ l.length + 1 := by
  have : ∀ (l : List Int) (s : List Int × Bool), (l.foldl (putS x) s).1.length + (if (l.foldl (putS x) s).2 then 0 else 1) ≤ s.1.length + l.length + (if s.2 then 0 else 1) := by
    intro l
    induction l with
    | nil => intro s; exact Nat.le_refl _
    | cons y l ih =>
      intro s
      rw [List.foldl_cons]
      refine Nat.le_trans (ih _) ?_
      have := putS_len x s y
      simp only [List.length_cons]
      omega
  have h := this l ([], false)
  simp at h
  unfold putP
  omega
theorem putL_len (l : List Int) (x : Int) : (putL l x).length ≤ l.length + 1 := by
  have := putP_len x l
  unfold putL
  split
  · rename_i h; rw [h] at this; simp at this; exact this
  · rename_i h
    have h' : (putP x l).2 = false := by simpa using h
    rw [h'] at this; simp at this ⊢; omega
def suppL (w : List Int) : List Int := w.foldl putL []
theorem suppL_take {w : List Int} {k : Nat} (h : k < w.length) : suppL (w.take (k + 1)) = putL (suppL (w.take k)) (w.getD k 0) := by
  rw [List.take_succ_eq_append_getElem h]
  unfold suppL
  rw [List.foldl_append]
  simp [List.getD, h]
theorem suppL_len (w : List Int) : (suppL w).length ≤ w.length := by
  have : ∀ (w l : List Int), (w.foldl putL l).length ≤ l.length + w.length := by
    intro w
    induction w with
    | nil => intro l; simp
    | cons x w ih =>
      intro l
      rw [List.foldl_cons]
      have := putL_len l x
      refine Nat.le_trans (ih _) ?_
      simp only [List.length_cons]
      omega
  simpa [suppL] using this w []

/-! ### Letters in turn -/
def altK (i j : Int) (k : Nat) : List Int := (List.range k).map fun t => if t % 2 = 0 then i else j
theorem altK_len (i j : Int) (k : Nat) : (altK i j k).length = k := by simp [altK]
theorem altK_even {i j : Int} {k : Nat} (h : k % 2 = 0) : altK i j k ++ [i] = altK i j (k + 1) := by simp [altK, List.range_succ, h]
theorem altK_odd {i j : Int} {k : Nat} (h : ¬ k % 2 = 0) : altK i j k ++ [j] = altK i j (k + 1) := by simp [altK, List.range_succ, h]
def altL (i j n : Int) : List Int := altK i j (min n.toNat 15)

/-! ### Texts -/
def letC (x : Int) : UInt8 := UInt8.ofNat (49 + x.toNat)
def fmtTo (w : List Int) (k : Nat) : List UInt8 := (w.take k).map letC
theorem fmtTo_step {w : List Int} {k : Nat} (h : k < w.length) : fmtTo w k ++ [letC (w.getD k 0)] = fmtTo w (k + 1) := by
  unfold fmtTo
  rw [List.take_succ_eq_append_getElem h, List.map_append]; simp [List.getD, h]
theorem fmtTo_len (w : List Int) (k : Nat) : (fmtTo w k).length ≤ k := by simp [fmtTo]; omega
open Classical in
noncomputable def fmtW (w : List Int) : List UInt8 := if LetTo 4 w w.length then (if w = [] then [101] else w.map letC) else []
theorem fmtW_bad {w : List Int} (h : ¬ LetTo 4 w w.length) : fmtW w = [] := if_neg h
theorem fmtW_nil : fmtW [] = [101] := by unfold fmtW; rw [if_pos (show LetTo 4 [] ([] : List Int).length from letTo_zero _ _), if_pos rfl]
theorem fmtW_full {w : List Int} (h : LetTo 4 w w.length) (hne : w ≠ []) : fmtW w = w.map letC := by unfold fmtW; rw [if_pos h, if_neg hne]
def letN (b : UInt8) : Int := (b.toNat : Int) - 49
def parW (l : List UInt8) : List Int := if l = [101] then [] else l.map letN
def PwOk (c : List (List Int)) (l : List UInt8) : Prop := l ≠ [] ∧ IsW c (parW l)
open Classical in
noncomputable def pwB (c : List (List Int)) (l : List UInt8) : Bool := decide (PwOk c l)
open Classical in
theorem pwB_yes {c : List (List Int)} {l : List UInt8} (h : PwOk c l) : pwB c l = true := decide_eq_true h
open Classical in
theorem pwB_no {c : List (List Int)} {l : List UInt8} (h : ¬ PwOk c l) : pwB c l = false := decide_eq_false h
noncomputable def pwL (c : List (List Int)) (l : List UInt8) : List Int := if pwB c l = true then parW l else []
theorem pwL_yes {c : List (List Int)} {l : List UInt8} (h : PwOk c l) : pwL c l = parW l := if_pos (pwB_yes h)
theorem pwL_no {c : List (List Int)} {l : List UInt8} (h : ¬ PwOk c l) : pwL c l = [] := by unfold pwL; rw [pwB_no h]; rfl
end Go.Proofs.Ytbmghddmilgngaa
