/-
  BondOf of the model: what the call returns.
  IsCartan of the program: what the call returns.
-/
import Derived.Test.YtfjeghalkmkgoaaGreatDoorFW04
namespace Go.Proofs.YtfjeghalkmkgoaaGreatDoor
open Go.RowKit

open Classical in
noncomputable def isB (m : List (List Int)) : Bool := decide (IsC m)
open Classical in
theorem isB_yes {m : List (List Int)} (h : IsC m) : isB m = true := decide_eq_true h
open Classical in
theorem isB_no {m : List (List Int)} (h : ¬ IsC m) : isB m = false := decide_eq_false h
theorem isc_q (B : Nat) (v : Value) (m : List (List Int)) (c : Bool) (hc : isB m = c) (w : World) (h : MatB B w v m) (hf : RowsFit m) (q : Nat) :
    Calls Tryz.prog 11 #[v] (w.drewN q) fun e w' => e = .returned (.bool c) ∧ ∃ m, w' = (w.drewN q).drewN m :=
  (isc_any B v m (w.drewN q) h hf).mono fun e w' ⟨he, hw⟩ => ⟨by
    rcases he with ⟨h1, rfl⟩ | ⟨h1, rfl⟩
    · exact ret_boolean ((isB_yes h1).symm.trans hc)
    · exact ret_boolean ((isB_no h1).symm.trans hc), hw⟩
theorem isc_0 (B : Nat) (v : Value) (m : List (List Int)) (c : Bool) (hc : isB m = c) (w : World) (h : MatB B w v m) (hf : RowsFit m) :
    Calls Tryz.prog 11 #[v] w fun e w' => e = .returned (.bool c) ∧ ∃ m, w' = w.drewN m :=
  (isc_any B v m w h hf).mono fun e w' ⟨he, hw⟩ => ⟨by
    rcases he with ⟨h1, rfl⟩ | ⟨h1, rfl⟩
    · exact ret_boolean ((isB_yes h1).symm.trans hc)
    · exact ret_boolean ((isB_no h1).symm.trans hc), hw⟩
theorem l1in_c (x a b : Int) (c : Bool) (hc : inB x a b = c) (w : World) :
    Calls Tryz.prog 34 #[.int .i64 x, .int .i64 a, .int .i64 b] w fun e w' => e = .returned (.bool c) ∧ w = w' :=
  (l1in_any x a b w).mono fun e w' ⟨he, hw⟩ => ⟨by rw [he]; exact ret_boolean hc, hw⟩
/-- The bond of two rows, from the product of the two entries. -/
def bondP (p : Int) : Int := if p = 0 then 2 else if p = 1 then 3 else if p = 2 then 4 else if p = 3 then 6 else 0
open Classical in
noncomputable def bond (m : List (List Int)) (i j : Int) : Int :=
  if IsC m ∧ (0 ≤ i ∧ i ≤ (m.length : Int) - 1) ∧ (0 ≤ j ∧ j ≤ (m.length : Int) - 1) then (if i = j then 1 else bondP (entry m i.toNat j.toNat * entry m j.toNat i.toNat)) else -1
theorem bond_eq {m : List (List Int)} {i : Nat} (h : IsC m) (hi : i < m.length) : bond m i i = 1 := by
  unfold bond; rw [if_pos ⟨h, by omega, by omega⟩, if_pos rfl]
theorem bond_ne {m : List (List Int)} {i j : Nat} (h : IsC m) (hi : i < m.length) (hj : j < m.length) (hn : i ≠ j) : bond m i j = bondP (entry m i j * entry m j i) := by
  unfold bond; rw [if_pos ⟨h, by omega, by omega⟩, if_neg (by omega)]; rfl
theorem isc_in {m : List (List Int)} (h : IsC m) {i j : Nat} (hi : i < m.length) (hj : j < m.length) (hn : i ≠ j) : -3 ≤ entry m i j ∧ entry m i j ≤ 0 := by
  rcases h.2.1 i j hi hj with h | h
  · exact absurd h.1 hn
  · exact h.2.1
theorem four {x : Int} (h : -3 ≤ x ∧ x ≤ 0) : x = 0 ∨ x = -1 ∨ x = -2 ∨ x = -3 := by omega
theorem bond_no {m : List (List Int)} {i j : Int} (h : ¬ (IsC m ∧ (0 ≤ i ∧ i ≤ (m.length : Int) - 1) ∧ (0 ≤ j ∧ j ≤ (m.length : Int) - 1))) : bond m i j = -1 := if_neg h

end Go.Proofs.YtfjeghalkmkgoaaGreatDoor
namespace Go.Proofs.YtfjeghalkmkgoaaGreatDoor
open Go.RowKit

def SizeOk (m : List (List Int)) : Prop := (1 ≤ m.length ∧ m.length ≤ 4) ∧ ∀ i, i < m.length → (m.getD i []).length = m.length
open Classical in
noncomputable def sizeB (m : List (List Int)) : Bool := decide (SizeOk m)
open Classical in
theorem sizeB_yes {m : List (List Int)} (h : SizeOk m) : sizeB m = true := decide_eq_true h
open Classical in
theorem sizeB_no {m : List (List Int)} (h : ¬ SizeOk m) : sizeB m = false := decide_eq_false h
open Classical in
noncomputable def okB (m : List (List Int)) (i j : Nat) : Bool := decide (okC m i j)
open Classical in
theorem okB_yes {m : List (List Int)} {i j : Nat} (h : okC m i j) : okB m i j = true := decide_eq_true h
open Classical in
theorem okB_no {m : List (List Int)} {i j : Nat} (h : ¬ okC m i j) : okB m i j = false := decide_eq_false h

set_option maxHeartbeats 1000000 in
theorem ics_any (B : Nat) (v : Value) (m : List (List Int)) (w : World) (h : MatB B w v m) (hf : RowsFit m) :
    Calls Tryz.prog 58 #[v] w fun e w' => e = .returned (.bool (sizeB m)) ∧ w = w' := by
  obtain ⟨a, cap, rfl⟩ := h.slice
  have hl := hf.1
  have HR := Lib.hid h; clear h
  have HF := Lib.hid hf; clear hf
  generalize hn : m.length = n at *
  unfold maxLen at hl
  have HN := Lib.hid hn; clear hn
  by_cases h1 : n < 1
  · have hv := sizeB_no (m := m) (fun h => by have := h.1.1; rw [HN.out] at this; omega)
    have HV := Lib.hid hv; clear hv
    have hd : decide (n < 1) = true := decide_eq_true h1
    go_enter Tryz.func58, Tryz.ntmps58
    go_wp2_with fail
    go_ret
    exact ⟨ret_boolean HV.out.symm, rfl⟩
  · by_cases h4 : 4 < n
    · have hv := sizeB_no (m := m) (fun h => by have := h.1.2; rw [HN.out] at this; omega)
      have HV := Lib.hid hv; clear hv
      go_enter Tryz.func58, Tryz.ntmps58
      go_wp2_with fail
      go_ret
      exact ⟨ret_boolean HV.out.symm, rfl⟩
    · go_enter Tryz.func58, Tryz.ntmps58
      go_wp2_with fail
      go_loop [15] (fun i => ∃ k : Nat, k ≤ n ∧ i = .int .i64 k ∧ Rows0 m n k) (fun i => n - (intOf i).toNat)
      case atStart => exact ⟨0, Nat.zero_le _, rfl, fun i hi => by omega⟩
      case round =>
        obtain ⟨k, hk, rfl, hr⟩ := hrel
        have HRW := Lib.hid hr; clear hr
        by_cases hlt : k < n
        · obtain ⟨b, off, hkl, rfl, hb, ra, rcap, hc, hrow⟩ := HR.out.get hlt
          have hrl := HF.out.2 k hkl
          unfold maxLen at hrl
          have hg := getD_row m k hkl
          clear hrow
          by_cases he : m[k].length = n
          · have hst := rows0_step HRW.out (by rw [hg]; exact he)
            have HST := Lib.hid hst; clear hst hg
            generalize m[k].length = r at *
            have hq : ((r : Int) != (n : Int)) = false := by rw [bne_eq_false_iff_eq]; omega
            have hr1 : r ≤ n := by omega
            have hr2 : n ≤ r := by omega
            clear he
            go_wp2_with fail
            go_round
            case rel => exact ⟨k + 1, by omega, by go_num, HST.out⟩
            case measure => simp [intOf]; omega
          · have hv := sizeB_no (m := m) (fun hi => he (by have := hi.2 k (by rw [HN.out]; exact hlt); rw [hg, HN.out] at this; exact this))
            have HV := Lib.hid hv; clear hv hg
            generalize m[k].length = r at *
            have hq : ((r : Int) != (n : Int)) = true := by rw [bne_iff_ne]; omega
            clear he
            go_wp2_with fail
            go_ret
            exact ⟨ret_boolean HV.out.symm, rfl⟩
        · obtain rfl : n = k := by omega
          have hv := sizeB_yes (m := m) ⟨by rw [HN.out]; omega, by rw [HN.out]; exact HRW.out⟩
          have HV := Lib.hid hv; clear hv
          go_wp2_with fail
          go_ret
          exact ⟨ret_boolean HV.out.symm, rfl⟩

set_option maxHeartbeats 4000000 in
set_option maxRecDepth 100000 in
theorem ice_walk {b off rb roff rcap rb' roff' rcap' n cap p r : Nat} {w : World} {x y : Int} {c : Bool}
    (hl : n ≤ 2 ^ 63 - 1) (hp : p < n) (hr : r < n)
    (hc1 : w.cell? ⟨b, off + p, none⟩ = some (.slice (some ⟨rb, roff, none⟩) n rcap)) (hx1 : w.cell? ⟨rb, roff + r, none⟩ = some (.int .i64 x))
    (hc2 : w.cell? ⟨b, off + r, none⟩ = some (.slice (some ⟨rb', roff', none⟩) n rcap')) (hy1 : w.cell? ⟨rb', roff' + p, none⟩ = some (.int .i64 y))
    (hv : (((p : Int) == (r : Int)) = true ∧ (x == 2) = c) ∨ (((p : Int) == (r : Int)) = false ∧ ((¬ -3 ≤ x ∧ c = false) ∨ (-3 ≤ x ∧ ¬ x ≤ 0 ∧ c = false) ∨ (-3 ≤ x ∧ x ≤ 0 ∧ ((x == 0) == (y == 0)) = c)))) :
    Calls Tryz.prog 59 #[.slice (some ⟨b, off, none⟩) n cap, .int .i64 p, .int .i64 r] w fun e w' => e = .returned (.bool c) ∧ ∃ q, w' = w.drewN q := by
  have H0 := Lib.hid hl; clear hl
  have H1 := Lib.hid hc1; clear hc1
  have H2 := Lib.hid hc2; clear hc2
  have H3 := Lib.hid hx1; clear hx1
  have H4 := Lib.hid hy1; clear hy1
  have H5 := Lib.hid hp; clear hp
  have H6 := Lib.hid hr; clear hr
  have HV := Lib.hid hv; clear hv
  go_enter Tryz.func59, Tryz.ntmps59
  go_wp2_with fail
  have hl := H0.out
  have hp := H5.out
  have hr := H6.out
  have hc1 := H1.out
  have hc2 := H2.out
  have hx1 := H3.out
  have hy1 := H4.out
  go_quiet (fail)
  rcases HV.out with ⟨h1, h2⟩ | ⟨h1, ⟨h2, rfl⟩ | ⟨h2, h3, rfl⟩ | ⟨h2, h3, h4⟩⟩
  · go_wp2_with fail
    go_ret
    exact ⟨rfl, _, rfl⟩
  · have h2' : decide (-3 ≤ x) = false := decide_eq_false (by omega)
    go_wp2_with fail
    go_ret
    exact ⟨rfl, _, rfl⟩
  · have h2' : decide (-3 ≤ x) = true := decide_eq_true (by omega)
    have h3' : decide (x ≤ 0) = false := decide_eq_false (by omega)
    go_wp2_with fail
    go_ret
    exact ⟨rfl, _, rfl⟩
  · have h2' : decide (-3 ≤ x) = true := decide_eq_true (by omega)
    have h3' : decide (x ≤ 0) = true := decide_eq_true (by omega)
    have HQ := Lib.hid h4; clear h4
    go_wp2_with fail
    go_ret
    exact ⟨ret_boolean HQ.out, _, rfl⟩

theorem ice_any (B : Nat) (a : Option Addr) (n cap : Nat) (m : List (List Int)) (p r : Nat) (w : World) (h : MatB B w (.slice a n cap) m) (hrows : Rows0 m n n) (hl : n ≤ 2 ^ 63 - 1) (hp : p < n) (hr : r < n) :
    Calls Tryz.prog 59 #[.slice a n cap, .int .i64 p, .int .i64 r] w fun e w' => e = .returned (.bool (okB m p r)) ∧ ∃ q, w' = w.drewN q := by
  obtain ⟨b, off, rb, roff, rcap, rfl, hc1, hx1⟩ := h.entry hrows hp hr
  obtain ⟨b', off', rb', roff', rcap', hab, hc2, hy1⟩ := h.entry hrows hr hp
  injection hab with hab
  injection hab with hab1 hab2
  subst hab1
  subst hab2
  refine ice_walk hl hp hr hc1 hx1 hc2 hy1 ?_
  by_cases hpr : p = r
  · left
    subst hpr
    refine ⟨by simp, ?_⟩
    by_cases h2 : entry m p p = 2
    · rw [okB_yes (Or.inl ⟨rfl, h2⟩)]; simp [h2]
    · rw [okB_no (fun h => by rcases h with h | h; exact h2 h.2; exact h.1 rfl)]; simp [h2]
  · right
    refine ⟨by rw [beq_eq_false_iff_ne]; omega, ?_⟩
    by_cases h1 : -3 ≤ entry m p r
    · by_cases h2 : entry m p r ≤ 0
      · right; right
        refine ⟨h1, h2, ?_⟩
        by_cases h3 : entry m p r = 0 ↔ entry m r p = 0
        · rw [okB_yes (Or.inr ⟨hpr, ⟨h1, h2⟩, h3⟩), beq_iff_eq, Bool.eq_iff_iff, beq_iff_eq, beq_iff_eq]; exact h3
        · rw [okB_no (fun h => by rcases h with h | h; exact hpr h.1; exact h3 h.2.2), beq_eq_false_iff_ne]
          intro e; rw [Bool.eq_iff_iff, beq_iff_eq, beq_iff_eq] at e; exact h3 e
      · right; left
        exact ⟨h1, h2, okB_no (fun h => by rcases h with h | h; exact hpr h.1; exact h2 h.2.1.2)⟩
    · left
      exact ⟨h1, okB_no (fun h => by rcases h with h | h; exact hpr h.1; exact h1 h.2.1.1)⟩

set_option maxHeartbeats 2000000 in
set_option maxRecDepth 100000 in
theorem icm_any (B : Nat) (v : Value) (m : List (List Int)) (w : World) (h : MatB B w v m) (hf : RowsFit m) :
    Calls Tryz.prog 36 #[v] w fun e w' => e = .returned (.bool (isB m)) ∧ ∃ q, w' = w.drewN q := by
  have hz := ics_any B v m w h hf
  have HZ := Lib.hid hz; clear hz
  obtain ⟨a, cap, rfl⟩ := h.slice
  by_cases hs : SizeOk m
  · have hsz := sizeB_yes hs
    rw [hsz] at HZ
    clear hsz
    have hl := hf.1
    have hrows : Rows0 m m.length m.length := hs.2
    have hb4 := hs.1
    have HS := Lib.hid hs; clear hs hf
    have HR := Lib.hid h; clear h
    have HRW := Lib.hid hrows; clear hrows
    generalize hn : m.length = n at *
    unfold maxLen at hl
    have HN := Lib.hid hn; clear hn
    go_enter Tryz.func36, Tryz.ntmps36
    go_wp2_with fail
    refine HZ.out.mono ?_
    rintro e w' ⟨rfl, rfl⟩
    go_wp2_with fail
    go_loopw [10] (fun i wr => ∃ (k q : Nat), k ≤ n ∧ i = .int .i64 k ∧ wr = w.drewN q ∧ Ok0 m n k 0) (fun i _ => n - (intOf i).toNat)
    case atStart => exact ⟨0, 0, Nat.zero_le _, rfl, rfl, fun i c hi _ => by omega, fun c hc => by omega⟩
    case round =>
      obtain ⟨k, q, hk2, rfl, rfl, ho⟩ := hrel
      have HO := Lib.hid ho; clear ho
      by_cases hkn : k < n
      · go_wp2_with fail
        go_loopw [15] (fun i wr => ∃ (j q : Nat), j ≤ n ∧ i = .int .i64 j ∧ wr = w.drewN q ∧ Ok0 m n k j) (fun i _ => n - (intOf i).toNat)
        case atStart => exact ⟨0, q, Nat.zero_le _, rfl, rfl, HO.out⟩
        case round =>
          obtain ⟨j, q2, hj, rfl, rfl, hoj⟩ := hrel
          have HOJ := Lib.hid hoj; clear hoj
          by_cases hjn : j < n
          · have hcon : Calls Tryz.prog 59 #[.slice a n cap, .int .i64 k, .int .i64 j] (w.drewN q2) fun e w' => e = .returned (.bool (okB m k j)) ∧ ∃ q, w' = (w.drewN q2).drewN q :=
              ice_any B a n cap m k j (w.drewN q2) HR.out HRW.out hl hkn hjn
            by_cases hok : okC m k j
            · rw [okB_yes hok] at hcon
              have HST := Lib.hid (ok0_step HOJ.out hok); clear hok
              have HCON := Lib.hid hcon; clear hcon
              go_wp2_with fail
              refine HCON.out.mono ?_
              rintro e w' ⟨rfl, q3, rfl⟩
              go_wp2_with fail
              exact ⟨⟨j + 1, q2 + q3, by omega, by go_num, rfl, HST.out⟩, by simp [intOf]; omega⟩
            · rw [okB_no hok] at hcon
              have HCON := Lib.hid hcon; clear hcon
              have HV := Lib.hid (isB_no (m := m) (fun h => hok (h.2.1 k j (by rw [HN.out]; exact hkn) (by rw [HN.out]; exact hjn)))); clear hok
              go_wp2_with fail
              refine HCON.out.mono ?_
              rintro e w' ⟨rfl, q3, rfl⟩
              go_wp2_with fail
              go_ret
              exact ⟨ret_boolean HV.out.symm, q2 + q3, rfl⟩
          · obtain rfl : n = j := by omega
            go_wp2_with fail
            exact ⟨⟨k + 1, q2, by omega, by go_num, rfl, ok0_row HOJ.out⟩, by simp [intOf]; omega⟩
      · obtain rfl : n = k := by omega
        have HV := Lib.hid (isB_yes (m := m) ⟨HS.out.2, by rw [HN.out]; exact HO.out.1, by rw [HN.out]; exact hb4.1, by rw [HN.out]; exact hb4.2⟩)
        go_wp2_with fail
        go_ret
        exact ⟨ret_boolean HV.out.symm, _, rfl⟩
  · have hsz := sizeB_no hs
    rw [hsz] at HZ
    have HV := Lib.hid (isB_no (m := m) (fun h => hs ⟨h.2.2, h.1⟩))
    clear hsz hs h hf
    generalize m.length = n at *
    go_enter Tryz.func36, Tryz.ntmps36
    go_wp2_with fail
    refine HZ.out.mono ?_
    rintro e w' ⟨rfl, rfl⟩
    go_wp2_with fail
    go_ret
    exact ⟨ret_boolean HV.out.symm, 0, rfl⟩
end Go.Proofs.YtfjeghalkmkgoaaGreatDoor
