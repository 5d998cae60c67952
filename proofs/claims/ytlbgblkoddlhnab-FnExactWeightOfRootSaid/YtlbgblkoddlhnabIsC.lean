/-
  IsCartan of the model: what the call returns.
-/
import Derived.Test.YtlbgblkoddlhnabIn
namespace Go.Proofs.Ytlbgblkoddlhnab
open Go.RowKit

def entry (m : List (List Int)) (i j : Nat) : Int := (m.getD i []).getD j 0
def okC (m : List (List Int)) (i j : Nat) : Prop := (i = j ∧ entry m i j = 2) ∨ (i ≠ j ∧ (-3 ≤ entry m i j ∧ entry m i j ≤ 0) ∧ (entry m i j = 0 ↔ entry m j i = 0))
def IsC (m : List (List Int)) : Prop := (∀ i, i < m.length → (m.getD i []).length = m.length) ∧ (∀ i j, i < m.length → j < m.length → okC m i j) ∧ 1 ≤ m.length ∧ m.length ≤ 4
def IsAns (m : List (List Int)) (e : Ending) : Prop := (IsC m ∧ e = .returned (.bool true)) ∨ (¬ IsC m ∧ e = .returned (.bool false))
def Rows0 (m : List (List Int)) (n k : Nat) : Prop := ∀ i, i < k → (m.getD i []).length = n
def Ok0 (m : List (List Int)) (n k j : Nat) : Prop := (∀ i c, i < k → c < n → okC m i c) ∧ ∀ c, c < j → okC m k c
theorem ans_f {m : List (List Int)} (h : ¬ IsC m) : IsAns m (.returned (.bool false)) := Or.inr ⟨h, rfl⟩
theorem rows0_step {m : List (List Int)} {n k : Nat} (h : Rows0 m n k) (hk : (m.getD k []).length = n) : Rows0 m n (k + 1) := fun i hi => by
  rcases Nat.lt_or_ge i k with h' | h'
  · exact h i h'
  · have : i = k := by omega
    subst this; exact hk
theorem ok0_step {m : List (List Int)} {n k j : Nat} (h : Ok0 m n k j) (hk : okC m k j) : Ok0 m n k (j + 1) := ⟨h.1, fun c hc => by
  rcases Nat.lt_or_ge c j with h' | h'
  · exact h.2 c h'
  · have : c = j := by omega
    subst this; exact hk⟩
theorem ok0_row {m : List (List Int)} {n k : Nat} (h : Ok0 m n k n) : Ok0 m n (k + 1) 0 := ⟨fun i c hi hc => by
  rcases Nat.lt_or_ge i k with h' | h'
  · exact h.1 i c h' hc
  · have : i = k := by omega
    subst this; exact h.2 c hc, fun c hc => by omega⟩
theorem getD_row (m : List (List Int)) (i : Nat) (h : i < m.length) : m.getD i [] = m[i] := by simp [List.getD, h]

/-- One entry of a square matrix: the row's header and the cell. -/
theorem MatB.entry {B : Nat} {w : World} {a : Option Addr} {n cap : Nat} {m : List (List Int)} (h : MatB B w (.slice a n cap) m) (hr : Rows0 m n n) {i j : Nat} (hi : i < n) (hj : j < n) :
    ∃ b off rb roff rcap, a = some ⟨b, off, none⟩ ∧ w.cell? ⟨b, off + i, none⟩ = some (.slice (some ⟨rb, roff, none⟩) n rcap) ∧ w.cell? ⟨rb, roff + j, none⟩ = some (.int .i64 (entry m i j)) := by
  obtain ⟨b, off, hil, rfl, hb, ra, rcap, hc, hrow⟩ := h.get hi
  have hg := getD_row m i hil
  have hlen : m[i].length = n := by rw [← hg]; exact hr i hi
  rw [hlen] at hc hrow
  obtain ⟨rb, roff, hjl, rfl, _, hcell⟩ := hrow.get hj
  refine ⟨b, off, rb, roff, rcap, rfl, hc, ?_⟩
  rw [hcell]
  unfold Go.Proofs.Ytlbgblkoddlhnab.entry
  rw [hg]
  simp [List.getD, hjl]

set_option maxHeartbeats 4000000 in
set_option maxRecDepth 100000 in
theorem isc_any (B : Nat) (v : Value) (m : List (List Int)) (w : World) (h : MatB B w v m) (hf : RowsFit m) :
    Calls Try.prog 15 #[v] w fun e w' => IsAns m e ∧ ∃ q, w' = w.drewN q := by
  obtain ⟨a, cap, rfl⟩ := h.slice
  have hl := hf.1
  have HR := Lib.hid h; clear h
  have HF := Lib.hid hf; clear hf
  generalize hn : m.length = n at *
  unfold maxLen at hl
  have HN := Lib.hid hn; clear hn
  go_enter Try.func15, Try.ntmps15
  go_wp2_with fail
  go_loop [3] (fun i => ∃ k : Nat, k ≤ n ∧ i = .int .i64 k ∧ Rows0 m n k) (fun i => n - (intOf i).toNat)
  case atStart => exact ⟨0, Nat.zero_le _, rfl, fun i hi => by omega⟩
  case round =>
    obtain ⟨k, hk, rfl, hr⟩ := hrel
    have HRW := Lib.hid hr; clear hr
    by_cases hlt : k < n
    · obtain ⟨b, off, hkl, rfl, hb, ra, rcap, hc, hrow⟩ := HR.out.get hlt
      have hrl := HF.out.2 k hkl
      unfold maxLen at hrl
      have hg := getD_row m k hkl
      clear hrow
      by_cases he : m[k].length = n
      · have hst := rows0_step HRW.out (by rw [hg]; exact he)
        have HST := Lib.hid hst; clear hst hg
        generalize m[k].length = r at *
        have hq : ((r : Int) != (n : Int)) = false := by rw [bne_eq_false_iff_eq]; omega
        have hr1 : r ≤ n := by omega
        have hr2 : n ≤ r := by omega
        clear he
        go_wp2_with fail
        go_round
        case rel => exact ⟨k + 1, by omega, by go_num, HST.out⟩
        case measure => simp [intOf]; omega
      · have hbad : ¬ IsC m := fun hi => he (by have := hi.1 k (by rw [HN.out]; exact hlt); rw [hg, HN.out] at this; exact this)
        have HBAD := Lib.hid hbad; clear hbad hg
        generalize m[k].length = r at *
        have hq : ((r : Int) != (n : Int)) = true := by rw [bne_iff_ne]; omega
        clear he
        go_wp2_with fail
        go_ret
        exact ⟨ans_f HBAD.out, 0, rfl⟩
    · obtain rfl : n = k := by omega
      go_wp2_with fail
      go_loopw [4] (fun i wr => ∃ (k q : Nat), k ≤ n ∧ i = .int .i64 k ∧ wr = w.drewN q ∧ Ok0 m n k 0) (fun i _ => n - (intOf i).toNat)
      case atStart => exact ⟨0, 0, Nat.zero_le _, rfl, rfl, fun i c hi _ => by omega, fun c hc => by omega⟩
      case round =>
        obtain ⟨k, q, hk2, rfl, rfl, ho⟩ := hrel
        have HO := Lib.hid ho; clear ho
        by_cases hkn : k < n
        · go_wp2_with fail
          go_loopw [5] (fun i wr => ∃ (j q : Nat), j ≤ n ∧ i = .int .i64 j ∧ wr = w.drewN q ∧ Ok0 m n k j) (fun i _ => n - (intOf i).toNat)
          case atStart => exact ⟨0, q, Nat.zero_le _, rfl, rfl, HO.out⟩
          case round =>
            obtain ⟨j, q2, hj, rfl, rfl, hoj⟩ := hrel
            have HOJ := Lib.hid hoj; clear hoj
            by_cases hjn : j < n
            · obtain ⟨b, off, rb, roff, rcap, rfl, hc1, hx⟩ := HR.out.entry HRW.out hkn hjn
              obtain ⟨b', off', rb', roff', rcap', hab, hc2, hy⟩ := HR.out.entry HRW.out hjn hkn
              injection hab with hab
              injection hab with hab1 hab2
              subst hab1
              subst hab2
              have hst : okC m k j → Ok0 m n k (j + 1) := ok0_step HOJ.out
              have hbd : ¬ okC m k j → ¬ IsC m := fun h1 h2 => h1 (h2.2.1 k j (by rw [HN.out]; exact hkn) (by rw [HN.out]; exact hjn))
              have hok : okC m k j ↔ ((k = j ∧ entry m k j = 2) ∨ (k ≠ j ∧ (-3 ≤ entry m k j ∧ entry m k j ≤ 0) ∧ (entry m k j = 0 ↔ entry m j k = 0))) := Iff.rfl
              have HSTP := Lib.hid hst; clear hst
              have HBDP := Lib.hid hbd; clear hbd
              have HOK := Lib.hid hok; clear hok
              generalize entry m k j = x at *
              generalize entry m j k = y at *
              by_cases hkj : k = j
              · subst hkj
                have g1 : ((k : Int) == (k : Int)) = true := by rw [beq_iff_eq]
                by_cases hx2 : x = 2
                · have HST := Lib.hid (HSTP.out (HOK.out.2 (Or.inl ⟨rfl, hx2⟩)))
                  have g3 : (x != 2) = false := by rw [bne_eq_false_iff_eq]; exact hx2
                  clear hx2
                  go_wp2_with fail
                  go_quiet (fail)
                  go_wp2_with fail
                  exact ⟨⟨k + 1, q2 + nq, by omega, by go_num, rfl, HST.out⟩, by simp [intOf]; omega⟩
                · have HBAD := Lib.hid (HBDP.out (fun h => by rcases HOK.out.1 h with h | h; exact hx2 h.2; exact h.1 rfl))
                  have g3 : (x != 2) = true := by rw [bne_iff_ne]; exact hx2
                  clear hx2
                  go_wp2_with fail
                  go_quiet (fail)
                  go_wp2_with fail
                  go_ret
                  exact ⟨ans_f HBAD.out, _, World.drewN_drewN _ _ _⟩
              · have g1 : ((k : Int) == (j : Int)) = false := by rw [beq_eq_false_iff_ne]; omega
                have g2 : ((k : Int) != (j : Int)) = true := by rw [bne_iff_ne]; omega
                by_cases hin : -3 ≤ x ∧ x ≤ 0
                · have HIN := Lib.hid (inB_yes hin)
                  by_cases hz : x = 0 ↔ y = 0
                  · have HST := Lib.hid (HSTP.out (HOK.out.2 (Or.inr ⟨hkj, hin, hz⟩)))
                    have g5 : ((x == 0) == (y == 0)) = true := by
                      rw [beq_iff_eq, Bool.eq_iff_iff, beq_iff_eq, beq_iff_eq]; exact hz
                    clear hin hz hkj
                    go_wp2_with fail
                    go_quiet (((go_at_call 18; exact quiet_more (fun q => l1in_q _ _ _ _ HIN.out w q) _ _)))
                    go_wp2_with fail
                    exact ⟨⟨j + 1, q2 + nq, by omega, by go_num, rfl, HST.out⟩, by simp [intOf]; omega⟩
                  · have HBAD := Lib.hid (HBDP.out (fun h => by rcases HOK.out.1 h with h | h; exact hkj h.1; exact hz h.2.2))
                    have g5 : ((x == 0) == (y == 0)) = false := by
                      rw [beq_eq_false_iff_ne]; intro e; rw [Bool.eq_iff_iff, beq_iff_eq, beq_iff_eq] at e; exact hz e
                    clear hin hz hkj
                    go_wp2_with fail
                    go_quiet (((go_at_call 18; exact quiet_more (fun q => l1in_q _ _ _ _ HIN.out w q) _ _)))
                    go_wp2_with fail
                    go_ret
                    exact ⟨ans_f HBAD.out, _, World.drewN_drewN _ _ _⟩
                · have HIN := Lib.hid (inB_no hin)
                  have HBAD := Lib.hid (HBDP.out (fun h => by rcases HOK.out.1 h with h | h; exact hkj h.1; exact hin h.2.1))
                  clear hin hkj
                  go_wp2_with fail
                  go_quiet (((go_at_call 18; exact quiet_more (fun q => l1in_q _ _ _ _ HIN.out w q) _ _)))
                  go_wp2_with fail
                  go_ret
                  exact ⟨ans_f HBAD.out, _, World.drewN_drewN _ _ _⟩
            · obtain rfl : n = j := by omega
              go_wp2_with fail
              exact ⟨⟨k + 1, q2, by omega, by go_num, rfl, ok0_row HOJ.out⟩, by simp [intOf]; omega⟩
        · obtain rfl : n = k := by omega
          by_cases hin : 1 ≤ n ∧ n ≤ 4
          · have hgood : IsC m := ⟨by rw [HN.out]; exact HRW.out, by rw [HN.out]; exact HO.out.1, by rw [HN.out]; exact hin.1, by rw [HN.out]; exact hin.2⟩
            have HG := Lib.hid hgood
            have hb : inB (n : Int) 1 4 = true := inB_yes (by omega)
            have HB := Lib.hid hb; clear hb hgood hin
            go_wp2_with (go_at_call 18; refine (l1in_q _ _ _ true HB.out w q).mono ?_; rintro e w' ⟨rfl, mm, rfl⟩)
            go_ret
            exact ⟨Or.inl ⟨HG.out, rfl⟩, _, rfl⟩
          · have hbad : ¬ IsC m := fun h => hin (by have := h.2.2; rw [HN.out] at this; exact this)
            have HG := Lib.hid hbad
            have hb : inB (n : Int) 1 4 = false := inB_no (by omega)
            have HB := Lib.hid hb; clear hb hbad hin
            go_wp2_with (go_at_call 18; refine (l1in_q _ _ _ false HB.out w q).mono ?_; rintro e w' ⟨rfl, mm, rfl⟩)
            go_ret
            exact ⟨Or.inr ⟨HG.out, rfl⟩, _, rfl⟩
end Go.Proofs.Ytlbgblkoddlhnab
