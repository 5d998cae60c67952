/-
  Weights: which vectors are weights (no walk here).
  IsCartan of the program: what the call returns.
-/
import Derived.Test.YtnlbmnielemgiaaFl03
namespace Go.Proofs.Ytnlbmnielemgiaa
open Go.RowKit

def WtTo (l : List Int) (k : Nat) : Prop := ∀ j, j < k → -1000 ≤ l.getD j 0 ∧ l.getD j 0 ≤ 1000
theorem wtTo_zero (l : List Int) : WtTo l 0 := fun _ hj => absurd hj (Nat.not_lt_zero _)
theorem wtTo_step {k : Nat} {l : List Int} (h : WtTo l k) (hk : -1000 ≤ l.getD k 0 ∧ l.getD k 0 ≤ 1000) : WtTo l (k + 1) := fun j hj => by
  rcases Nat.lt_or_ge j k with h' | h'
  · exact h j h'
  · obtain rfl : j = k := by omega
    exact hk
def IsWt (c : List (List Int)) (l : List Int) : Prop := WtTo l l.length ∧ IsC c ∧ l.length = c.length
open Classical in
noncomputable def wtB (c : List (List Int)) (l : List Int) : Bool := decide (IsWt c l)
open Classical in
theorem wtB_yes {c : List (List Int)} {l : List Int} (h : IsWt c l) : wtB c l = true := decide_eq_true h
open Classical in
theorem wtB_no {c : List (List Int)} {l : List Int} (h : ¬ IsWt c l) : wtB c l = false := decide_eq_false h
theorem isWt_bad {c : List (List Int)} {l : List Int} {k : Nat} (hk : k < l.length) (h : ¬ (-1000 ≤ l.getD k 0 ∧ l.getD k 0 ≤ 1000)) : ¬ IsWt c l := fun h' => h (h'.1 k hk)
open Classical in
noncomputable def wtlB (l : List Int) : Bool := decide (WtTo l l.length)
open Classical in
theorem wtlB_yes {l : List Int} (h : WtTo l l.length) : wtlB l = true := decide_eq_true h
open Classical in
theorem wtlB_no {l : List Int} (h : ¬ WtTo l l.length) : wtlB l = false := decide_eq_false h
theorem wtB_is (m : List (List Int)) (l : List Int) : wtB m l = (isB m && decide (l.length = m.length) && wtlB l) := by
  by_cases hI : IsC m
  · by_cases h15 : l.length = m.length
    · by_cases hl : WtTo l l.length
      · rw [wtB_yes ⟨hl, hI, h15⟩, isB_yes hI, decide_eq_true h15, wtlB_yes hl]; rfl
      · rw [wtB_no (fun h => hl h.1), wtlB_no hl, Bool.and_false]
    · rw [wtB_no (fun h => h15 h.2.2), decide_eq_false h15, Bool.and_false, Bool.false_and]
  · rw [wtB_no (fun h => hI h.2.1), isB_no hI, Bool.false_and, Bool.false_and]
/-! ### A reflection in place: the first k numbers are new -/
def rflS (m : List (List Int)) (i : Nat) (l : List Int) (k : Nat) : List Int := reflK m i l k ++ l.drop k
theorem rflS_zero (m : List (List Int)) (i : Nat) (l : List Int) : rflS m i l 0 = l := by simp [rflS, reflK]
theorem rflS_len (m : List (List Int)) (i : Nat) (l : List Int) (k : Nat) (h : k ≤ l.length) : (rflS m i l k).length = l.length := by simp [rflS, reflK_len]; omega
theorem rflS_end (m : List (List Int)) (i : Nat) (l : List Int) : rflS m i l l.length = reflL m i l := by simp [rflS, reflL]
theorem rflS_get (m : List (List Int)) (i : Nat) (l : List Int) (k : Nat) (h : k < l.length) : (rflS m i l k)[k]? = some (l.getD k 0) := by
  unfold rflS
  rw [List.getElem?_append_right (by rw [reflK_len]; exact Nat.le_refl _), reflK_len, Nat.sub_self, List.getElem?_drop]
  simp [List.getD, h]
theorem rflS_step (m : List (List Int)) (i : Nat) (l : List Int) (k : Nat) (h : k < l.length) : (rflS m i l k).set k (reflE m i l k) = rflS m i l (k + 1) := by
  unfold rflS
  rw [List.set_append_right _ _ (by rw [reflK_len]; exact Nat.le_refl _), reflK_len, Nat.sub_self, List.drop_eq_getElem_cons h, List.set_cons_zero, ← reflK_step, List.append_assoc]
  rfl
end Go.Proofs.Ytnlbmnielemgiaa
namespace Go.Proofs.Ytnlbmnielemgiaa
open Go.RowKit

def SizeOk (m : List (List Int)) : Prop := (1 ≤ m.length ∧ m.length ≤ 4) ∧ ∀ i, i < m.length → (m.getD i []).length = m.length
open Classical in
noncomputable def sizeB (m : List (List Int)) : Bool := decide (SizeOk m)
open Classical in
theorem sizeB_yes {m : List (List Int)} (h : SizeOk m) : sizeB m = true := decide_eq_true h
open Classical in
theorem sizeB_no {m : List (List Int)} (h : ¬ SizeOk m) : sizeB m = false := decide_eq_false h
open Classical in
noncomputable def okB (m : List (List Int)) (i j : Nat) : Bool := decide (okC m i j)
open Classical in
theorem okB_yes {m : List (List Int)} {i j : Nat} (h : okC m i j) : okB m i j = true := decide_eq_true h
open Classical in
theorem okB_no {m : List (List Int)} {i j : Nat} (h : ¬ okC m i j) : okB m i j = false := decide_eq_false h

set_option maxHeartbeats 1000000 in
theorem ics_any (B : Nat) (v : Value) (m : List (List Int)) (w : World) (h : MatB B w v m) (hf : RowsFit m) :
    Calls Try.prog 114 #[v] w fun e w' => e = .returned (.bool (sizeB m)) ∧ w = w' := by
  obtain ⟨a, cap, rfl⟩ := h.slice
  have hl := hf.1
  have HR := Lib.hid h; clear h
  have HF := Lib.hid hf; clear hf
  generalize hn : m.length = n at *
  unfold maxLen at hl
  have HN := Lib.hid hn; clear hn
  by_cases h1 : n < 1
  · have hv := sizeB_no (m := m) (fun h => by have := h.1.1; rw [HN.out] at this; omega)
    have HV := Lib.hid hv; clear hv
    have hd : decide (n < 1) = true := decide_eq_true h1
    go_enter Try.func114, Try.ntmps114
    go_wp2_with fail
    go_ret
    exact ⟨ret_boolean HV.out.symm, rfl⟩
  · by_cases h4 : 4 < n
    · have hv := sizeB_no (m := m) (fun h => by have := h.1.2; rw [HN.out] at this; omega)
      have HV := Lib.hid hv; clear hv
      go_enter Try.func114, Try.ntmps114
      go_wp2_with fail
      go_ret
      exact ⟨ret_boolean HV.out.symm, rfl⟩
    · go_enter Try.func114, Try.ntmps114
      go_wp2_with fail
      go_loop [15] (fun i => ∃ k : Nat, k ≤ n ∧ i = .int .i64 k ∧ Rows0 m n k) (fun i => n - (intOf i).toNat)
      case atStart => exact ⟨0, Nat.zero_le _, rfl, fun i hi => by omega⟩
      case round =>
        obtain ⟨k, hk, rfl, hr⟩ := hrel
        have HRW := Lib.hid hr; clear hr
        by_cases hlt : k < n
        · obtain ⟨b, off, hkl, rfl, hb, ra, rcap, hc, hrow⟩ := HR.out.get hlt
          have hrl := HF.out.2 k hkl
          unfold maxLen at hrl
          have hg := getD_row m k hkl
          clear hrow
          by_cases he : m[k].length = n
          · have hst := rows0_step HRW.out (by rw [hg]; exact he)
            have HST := Lib.hid hst; clear hst hg
            generalize m[k].length = r at *
            have hq : ((r : Int) != (n : Int)) = false := by rw [bne_eq_false_iff_eq]; omega
            have hr1 : r ≤ n := by omega
            have hr2 : n ≤ r := by omega
            clear he
            go_wp2_with fail
            go_round
            case rel => exact ⟨k + 1, by omega, by go_num, HST.out⟩
            case measure => simp [intOf]; omega
          · have hv := sizeB_no (m := m) (fun hi => he (by have := hi.2 k (by rw [HN.out]; exact hlt); rw [hg, HN.out] at this; exact this))
            have HV := Lib.hid hv; clear hv hg
            generalize m[k].length = r at *
            have hq : ((r : Int) != (n : Int)) = true := by rw [bne_iff_ne]; omega
            clear he
            go_wp2_with fail
            go_ret
            exact ⟨ret_boolean HV.out.symm, rfl⟩
        · obtain rfl : n = k := by omega
          have hv := sizeB_yes (m := m) ⟨by rw [HN.out]; omega, by rw [HN.out]; exact HRW.out⟩
          have HV := Lib.hid hv; clear hv
          go_wp2_with fail
          go_ret
          exact ⟨ret_boolean HV.out.symm, rfl⟩

set_option maxHeartbeats 4000000 in
set_option maxRecDepth 100000 in
theorem ice_walk {b off rb roff rcap rb' roff' rcap' n cap p r : Nat} {w : World} {x y : Int} {c : Bool}
    (hl : n ≤ 2 ^ 63 - 1) (hp : p < n) (hr : r < n)
    (hc1 : w.cell? ⟨b, off + p, none⟩ = some (.slice (some ⟨rb, roff, none⟩) n rcap)) (hx1 : w.cell? ⟨rb, roff + r, none⟩ = some (.int .i64 x))
    (hc2 : w.cell? ⟨b, off + r, none⟩ = some (.slice (some ⟨rb', roff', none⟩) n rcap')) (hy1 : w.cell? ⟨rb', roff' + p, none⟩ = some (.int .i64 y))
    (hv : (((p : Int) == (r : Int)) = true ∧ (x == 2) = c) ∨ (((p : Int) == (r : Int)) = false ∧ ((¬ -3 ≤ x ∧ c = false) ∨ (-3 ≤ x ∧ ¬ x ≤ 0 ∧ c = false) ∨ (-3 ≤ x ∧ x ≤ 0 ∧ ((x == 0) == (y == 0)) = c)))) :
    Calls Try.prog 115 #[.slice (some ⟨b, off, none⟩) n cap, .int .i64 p, .int .i64 r] w fun e w' => e = .returned (.bool c) ∧ ∃ q, w' = w.drewN q := by
  have H0 := Lib.hid hl; clear hl
  have H1 := Lib.hid hc1; clear hc1
  have H2 := Lib.hid hc2; clear hc2
  have H3 := Lib.hid hx1; clear hx1
  have H4 := Lib.hid hy1; clear hy1
  have H5 := Lib.hid hp; clear hp
  have H6 := Lib.hid hr; clear hr
  have HV := Lib.hid hv; clear hv
  go_enter Try.func115, Try.ntmps115
  go_wp2_with fail
  have hl := H0.out
  have hp := H5.out
  have hr := H6.out
  have hc1 := H1.out
  have hc2 := H2.out
  have hx1 := H3.out
  have hy1 := H4.out
  go_quiet (fail)
  rcases HV.out with ⟨h1, h2⟩ | ⟨h1, ⟨h2, rfl⟩ | ⟨h2, h3, rfl⟩ | ⟨h2, h3, h4⟩⟩
  · go_wp2_with fail
    go_ret
    exact ⟨rfl, _, rfl⟩
  · have h2' : decide (-3 ≤ x) = false := decide_eq_false (by omega)
    go_wp2_with fail
    go_ret
    exact ⟨rfl, _, rfl⟩
  · have h2' : decide (-3 ≤ x) = true := decide_eq_true (by omega)
    have h3' : decide (x ≤ 0) = false := decide_eq_false (by omega)
    go_wp2_with fail
    go_ret
    exact ⟨rfl, _, rfl⟩
  · have h2' : decide (-3 ≤ x) = true := decide_eq_true (by omega)
    have h3' : decide (x ≤ 0) = true := decide_eq_true (by omega)
    have HQ := Lib.hid h4; clear h4
    go_wp2_with fail
    go_ret
    exact ⟨ret_boolean HQ.out, _, rfl⟩

theorem ice_any (B : Nat) (a : Option Addr) (n cap : Nat) (m : List (List Int)) (p r : Nat) (w : World) (h : MatB B w (.slice a n cap) m) (hrows : Rows0 m n n) (hl : n ≤ 2 ^ 63 - 1) (hp : p < n) (hr : r < n) :
    Calls Try.prog 115 #[.slice a n cap, .int .i64 p, .int .i64 r] w fun e w' => e = .returned (.bool (okB m p r)) ∧ ∃ q, w' = w.drewN q := by
  obtain ⟨b, off, rb, roff, rcap, rfl, hc1, hx1⟩ := h.entry hrows hp hr
  obtain ⟨b', off', rb', roff', rcap', hab, hc2, hy1⟩ := h.entry hrows hr hp
  injection hab with hab
  injection hab with hab1 hab2
  subst hab1
  subst hab2
  refine ice_walk hl hp hr hc1 hx1 hc2 hy1 ?_
  by_cases hpr : p = r
  · left
    subst hpr
    refine ⟨by simp, ?_⟩
    by_cases h2 : entry m p p = 2
    · rw [okB_yes (Or.inl ⟨rfl, h2⟩)]; simp [h2]
    · rw [okB_no (fun h => by rcases h with h | h; exact h2 h.2; exact h.1 rfl)]; simp [h2]
  · right
    refine ⟨by rw [beq_eq_false_iff_ne]; omega, ?_⟩
    by_cases h1 : -3 ≤ entry m p r
    · by_cases h2 : entry m p r ≤ 0
      · right; right
        refine ⟨h1, h2, ?_⟩
        by_cases h3 : entry m p r = 0 ↔ entry m r p = 0
        · rw [okB_yes (Or.inr ⟨hpr, ⟨h1, h2⟩, h3⟩), beq_iff_eq, Bool.eq_iff_iff, beq_iff_eq, beq_iff_eq]; exact h3
        · rw [okB_no (fun h => by rcases h with h | h; exact hpr h.1; exact h3 h.2.2), beq_eq_false_iff_ne]
          intro e; rw [Bool.eq_iff_iff, beq_iff_eq, beq_iff_eq] at e; exact h3 e
      · right; left
        exact ⟨h1, h2, okB_no (fun h => by rcases h with h | h; exact hpr h.1; exact h2 h.2.1.2)⟩
    · left
      exact ⟨h1, okB_no (fun h => by rcases h with h | h; exact hpr h.1; exact h1 h.2.1.1)⟩

set_option maxHeartbeats 2000000 in
set_option maxRecDepth 100000 in
theorem icm_any (B : Nat) (v : Value) (m : List (List Int)) (w : World) (h : MatB B w v m) (hf : RowsFit m) :
    Calls Try.prog 94 #[v] w fun e w' => e = .returned (.bool (isB m)) ∧ ∃ q, w' = w.drewN q := by
  have hz := ics_any B v m w h hf
  have HZ := Lib.hid hz; clear hz
  obtain ⟨a, cap, rfl⟩ := h.slice
  by_cases hs : SizeOk m
  · have hsz := sizeB_yes hs
    rw [hsz] at HZ
    clear hsz
    have hl := hf.1
    have hrows : Rows0 m m.length m.length := hs.2
    have hb4 := hs.1
    have HS := Lib.hid hs; clear hs hf
    have HR := Lib.hid h; clear h
    have HRW := Lib.hid hrows; clear hrows
    generalize hn : m.length = n at *
    unfold maxLen at hl
    have HN := Lib.hid hn; clear hn
    go_enter Try.func94, Try.ntmps94
    go_wp2_with fail
    refine HZ.out.mono ?_
    rintro e w' ⟨rfl, rfl⟩
    go_wp2_with fail
    go_loopw [10] (fun i wr => ∃ (k q : Nat), k ≤ n ∧ i = .int .i64 k ∧ wr = w.drewN q ∧ Ok0 m n k 0) (fun i _ => n - (intOf i).toNat)
    case atStart => exact ⟨0, 0, Nat.zero_le _, rfl, rfl, fun i c hi _ => by omega, fun c hc => by omega⟩
    case round =>
      obtain ⟨k, q, hk2, rfl, rfl, ho⟩ := hrel
      have HO := Lib.hid ho; clear ho
      by_cases hkn : k < n
      · go_wp2_with fail
        go_loopw [15] (fun i wr => ∃ (j q : Nat), j ≤ n ∧ i = .int .i64 j ∧ wr = w.drewN q ∧ Ok0 m n k j) (fun i _ => n - (intOf i).toNat)
        case atStart => exact ⟨0, q, Nat.zero_le _, rfl, rfl, HO.out⟩
        case round =>
          obtain ⟨j, q2, hj, rfl, rfl, hoj⟩ := hrel
          have HOJ := Lib.hid hoj; clear hoj
          by_cases hjn : j < n
          · have hcon : Calls Try.prog 115 #[.slice a n cap, .int .i64 k, .int .i64 j] (w.drewN q2) fun e w' => e = .returned (.bool (okB m k j)) ∧ ∃ q, w' = (w.drewN q2).drewN q :=
              ice_any B a n cap m k j (w.drewN q2) HR.out HRW.out hl hkn hjn
            by_cases hok : okC m k j
            · rw [okB_yes hok] at hcon
              have HST := Lib.hid (ok0_step HOJ.out hok); clear hok
              have HCON := Lib.hid hcon; clear hcon
              go_wp2_with fail
              refine HCON.out.mono ?_
              rintro e w' ⟨rfl, q3, rfl⟩
              go_wp2_with fail
              exact ⟨⟨j + 1, q2 + q3, by omega, by go_num, rfl, HST.out⟩, by simp [intOf]; omega⟩
            · rw [okB_no hok] at hcon
              have HCON := Lib.hid hcon; clear hcon
              have HV := Lib.hid (isB_no (m := m) (fun h => hok (h.2.1 k j (by rw [HN.out]; exact hkn) (by rw [HN.out]; exact hjn)))); clear hok
              go_wp2_with fail
              refine HCON.out.mono ?_
              rintro e w' ⟨rfl, q3, rfl⟩
              go_wp2_with fail
              go_ret
              exact ⟨ret_boolean HV.out.symm, q2 + q3, rfl⟩
          · obtain rfl : n = j := by omega
            go_wp2_with fail
            exact ⟨⟨k + 1, q2, by omega, by go_num, rfl, ok0_row HOJ.out⟩, by simp [intOf]; omega⟩
      · obtain rfl : n = k := by omega
        have HV := Lib.hid (isB_yes (m := m) ⟨HS.out.2, by rw [HN.out]; exact HO.out.1, by rw [HN.out]; exact hb4.1, by rw [HN.out]; exact hb4.2⟩)
        go_wp2_with fail
        go_ret
        exact ⟨ret_boolean HV.out.symm, _, rfl⟩
  · have hsz := sizeB_no hs
    rw [hsz] at HZ
    have HV := Lib.hid (isB_no (m := m) (fun h => hs ⟨h.2.2, h.1⟩))
    clear hsz hs h hf
    generalize m.length = n at *
    go_enter Try.func94, Try.ntmps94
    go_wp2_with fail
    refine HZ.out.mono ?_
    rintro e w' ⟨rfl, rfl⟩
    go_wp2_with fail
    go_ret
    exact ⟨ret_boolean HV.out.symm, 0, rfl⟩
end Go.Proofs.Ytnlbmnielemgiaa
