/-
  IsCartan of the program: what the call returns.
  TransposeCartan of the model: what the call returns.
  A row of a square matrix that came in: its header and its cells.
  Weights: what the model's reflections, ones, sums and columns return.
  Weights: what the model's ReflectWeight, ActOnWeight, RhoOf, AddWeights and SimpleRootWeight return.
  Weights: what the model's ActOnWeight, RhoOf, AddWeights and SimpleRootWeight return.
  Weights: what the model's RhoOf, AddWeights and SimpleRootWeight return.
-/
import Derived.Test.YtbmghddmilgngaaEz03
import Derived.Test.YtbmghddmilgngaaEz13
import Derived.Deep.RegionLaw
import Derived.Deep.QuietTactic
import Derived.BigQuiet
import Derived.Test.YtbmghddmilgngaaEz04
import Derived.Test.YtbmghddmilgngaaEz15
namespace Go.Proofs.Ytbmghddmilgngaa
open Go.RowKit

def SizeOk (m : List (List Int)) : Prop := (1 ≤ m.length ∧ m.length ≤ 4) ∧ ∀ i, i < m.length → (m.getD i []).length = m.length
open Classical in
noncomputable def sizeB (m : List (List Int)) : Bool := decide (SizeOk m)
open Classical in
theorem sizeB_yes {m : List (List Int)} (h : SizeOk m) : sizeB m = true := decide_eq_true h
open Classical in
theorem sizeB_no {m : List (List Int)} (h : ¬ SizeOk m) : sizeB m = false := decide_eq_false h
open Classical in
noncomputable def okB (m : List (List Int)) (i j : Nat) : Bool := decide (okC m i j)
open Classical in
theorem okB_yes {m : List (List Int)} {i j : Nat} (h : okC m i j) : okB m i j = true := decide_eq_true h
open Classical in
theorem okB_no {m : List (List Int)} {i j : Nat} (h : ¬ okC m i j) : okB m i j = false := decide_eq_false h

set_option maxHeartbeats 1000000 in
theorem ics_any (B : Nat) (v : Value) (m : List (List Int)) (w : World) (h : MatB B w v m) (hf : RowsFit m) :
    Calls Try.prog 84 #[v] w fun e w' => e = .returned (.bool (sizeB m)) ∧ w = w' := by
  obtain ⟨a, cap, rfl⟩ := h.slice
  have hl := hf.1
  have HR := Lib.hid h; clear h
  have HF := Lib.hid hf; clear hf
  generalize hn : m.length = n at *
  unfold maxLen at hl
  have HN := Lib.hid hn; clear hn
  by_cases h1 : n < 1
  · have hv := sizeB_no (m := m) (fun h => by have := h.1.1; rw [HN.out] at this; omega)
    have HV := Lib.hid hv; clear hv
    have hd : decide (n < 1) = true := decide_eq_true h1
    go_enter Try.func84, Try.ntmps84
    go_wp2_with fail
    go_ret
    exact ⟨ret_boolean HV.out.symm, rfl⟩
  · by_cases h4 : 4 < n
    · have hv := sizeB_no (m := m) (fun h => by have := h.1.2; rw [HN.out] at this; omega)
      have HV := Lib.hid hv; clear hv
      go_enter Try.func84, Try.ntmps84
      go_wp2_with fail
      go_ret
      exact ⟨ret_boolean HV.out.symm, rfl⟩
    · go_enter Try.func84, Try.ntmps84
      go_wp2_with fail
      go_loop [15] (fun i => ∃ k : Nat, k ≤ n ∧ i = .int .i64 k ∧ Rows0 m n k) (fun i => n - (RowKit.intOf i).toNat)
      case atStart => exact ⟨0, Nat.zero_le _, rfl, fun i hi => by omega⟩
      case round =>
        obtain ⟨k, hk, rfl, hr⟩ := hrel
        have HRW := Lib.hid hr; clear hr
        by_cases hlt : k < n
        · obtain ⟨b, off, hkl, rfl, hb, ra, rcap, hc, hrow⟩ := HR.out.get hlt
          have hrl := HF.out.2 k hkl
          unfold maxLen at hrl
          have hg := getD_row m k hkl
          clear hrow
          by_cases he : m[k].length = n
          · have hst := rows0_step HRW.out (by rw [hg]; exact he)
            have HST := Lib.hid hst; clear hst hg
            generalize m[k].length = r at *
            have hq : ((r : Int) != (n : Int)) = false := by rw [bne_eq_false_iff_eq]; omega
            have hr1 : r ≤ n := by omega
            have hr2 : n ≤ r := by omega
            clear he
            go_wp2_with fail
            go_round
            case rel => exact ⟨k + 1, by omega, by go_num, HST.out⟩
            case measure => simp [RowKit.intOf]; omega
          · have hv := sizeB_no (m := m) (fun hi => he (by have := hi.2 k (by rw [HN.out]; exact hlt); rw [hg, HN.out] at this; exact this))
            have HV := Lib.hid hv; clear hv hg
            generalize m[k].length = r at *
            have hq : ((r : Int) != (n : Int)) = true := by rw [bne_iff_ne]; omega
            clear he
            go_wp2_with fail
            go_ret
            exact ⟨ret_boolean HV.out.symm, rfl⟩
        · obtain rfl : n = k := by omega
          have hv := sizeB_yes (m := m) ⟨by rw [HN.out]; omega, by rw [HN.out]; exact HRW.out⟩
          have HV := Lib.hid hv; clear hv
          go_wp2_with fail
          go_ret
          exact ⟨ret_boolean HV.out.symm, rfl⟩

set_option maxHeartbeats 4000000 in
set_option maxRecDepth 100000 in
theorem ice_walk {b off rb roff rcap rb' roff' rcap' n cap p r : Nat} {w : World} {x y : Int} {c : Bool}
    (hl : n ≤ 2 ^ 63 - 1) (hp : p < n) (hr : r < n)
    (hc1 : w.cell? ⟨b, off + p, none⟩ = some (.slice (some ⟨rb, roff, none⟩) n rcap)) (hx1 : w.cell? ⟨rb, roff + r, none⟩ = some (.int .i64 x))
    (hc2 : w.cell? ⟨b, off + r, none⟩ = some (.slice (some ⟨rb', roff', none⟩) n rcap')) (hy1 : w.cell? ⟨rb', roff' + p, none⟩ = some (.int .i64 y))
    (hv : (((p : Int) == (r : Int)) = true ∧ (x == 2) = c) ∨ (((p : Int) == (r : Int)) = false ∧ ((¬ -3 ≤ x ∧ c = false) ∨ (-3 ≤ x ∧ ¬ x ≤ 0 ∧ c = false) ∨ (-3 ≤ x ∧ x ≤ 0 ∧ ((x == 0) == (y == 0)) = c)))) :
    Calls Try.prog 85 #[.slice (some ⟨b, off, none⟩) n cap, .int .i64 p, .int .i64 r] w fun e w' => e = .returned (.bool c) ∧ ∃ q, w' = w.drewN q := by
  have H0 := Lib.hid hl; clear hl
  have H1 := Lib.hid hc1; clear hc1
  have H2 := Lib.hid hc2; clear hc2
  have H3 := Lib.hid hx1; clear hx1
  have H4 := Lib.hid hy1; clear hy1
  have H5 := Lib.hid hp; clear hp
  have H6 := Lib.hid hr; clear hr
  have HV := Lib.hid hv; clear hv
  go_enter Try.func85, Try.ntmps85
  go_wp2_with fail
  have hl := H0.out
  have hp := H5.out
  have hr := H6.out
  have hc1 := H1.out
  have hc2 := H2.out
  have hx1 := H3.out
  have hy1 := H4.out
  go_quiet (fail)
  rcases HV.out with ⟨h1, h2⟩ | ⟨h1, ⟨h2, rfl⟩ | ⟨h2, h3, rfl⟩ | ⟨h2, h3, h4⟩⟩
  · go_wp2_with fail
    go_ret
    exact ⟨rfl, _, rfl⟩
  · have h2' : decide (-3 ≤ x) = false := decide_eq_false (by omega)
    go_wp2_with fail
    go_ret
    exact ⟨rfl, _, rfl⟩
  · have h2' : decide (-3 ≤ x) = true := decide_eq_true (by omega)
    have h3' : decide (x ≤ 0) = false := decide_eq_false (by omega)
    go_wp2_with fail
    go_ret
    exact ⟨rfl, _, rfl⟩
  · have h2' : decide (-3 ≤ x) = true := decide_eq_true (by omega)
    have h3' : decide (x ≤ 0) = true := decide_eq_true (by omega)
    have HQ := Lib.hid h4; clear h4
    go_wp2_with fail
    go_ret
    exact ⟨ret_boolean HQ.out, _, rfl⟩

theorem ice_any (B : Nat) (a : Option Addr) (n cap : Nat) (m : List (List Int)) (p r : Nat) (w : World) (h : MatB B w (.slice a n cap) m) (hrows : Rows0 m n n) (hl : n ≤ 2 ^ 63 - 1) (hp : p < n) (hr : r < n) :
    Calls Try.prog 85 #[.slice a n cap, .int .i64 p, .int .i64 r] w fun e w' => e = .returned (.bool (okB m p r)) ∧ ∃ q, w' = w.drewN q := by
  obtain ⟨b, off, rb, roff, rcap, rfl, hc1, hx1⟩ := h.entry hrows hp hr
  obtain ⟨b', off', rb', roff', rcap', hab, hc2, hy1⟩ := h.entry hrows hr hp
  injection hab with hab
  injection hab with hab1 hab2
  subst hab1
  subst hab2
  refine ice_walk hl hp hr hc1 hx1 hc2 hy1 ?_
  by_cases hpr : p = r
  · left
    subst hpr
    refine ⟨by simp, ?_⟩
    by_cases h2 : entry m p p = 2
    · rw [okB_yes (Or.inl ⟨rfl, h2⟩)]; simp [h2]
    · rw [okB_no (fun h => by rcases h with h | h; exact h2 h.2; exact h.1 rfl)]; simp [h2]
  · right
    refine ⟨by rw [beq_eq_false_iff_ne]; omega, ?_⟩
    by_cases h1 : -3 ≤ entry m p r
    · by_cases h2 : entry m p r ≤ 0
      · right; right
        refine ⟨h1, h2, ?_⟩
        by_cases h3 : entry m p r = 0 ↔ entry m r p = 0
        · rw [okB_yes (Or.inr ⟨hpr, ⟨h1, h2⟩, h3⟩), beq_iff_eq, Bool.eq_iff_iff, beq_iff_eq, beq_iff_eq]; exact h3
        · rw [okB_no (fun h => by rcases h with h | h; exact hpr h.1; exact h3 h.2.2), beq_eq_false_iff_ne]
          intro e; rw [Bool.eq_iff_iff, beq_iff_eq, beq_iff_eq] at e; exact h3 e
      · right; left
        exact ⟨h1, h2, okB_no (fun h => by rcases h with h | h; exact hpr h.1; exact h2 h.2.1.2)⟩
    · left
      exact ⟨h1, okB_no (fun h => by rcases h with h | h; exact hpr h.1; exact h1 h.2.1.1)⟩

set_option maxHeartbeats 2000000 in
set_option maxRecDepth 100000 in
theorem icm_any (B : Nat) (v : Value) (m : List (List Int)) (w : World) (h : MatB B w v m) (hf : RowsFit m) :
    Calls Try.prog 74 #[v] w fun e w' => e = .returned (.bool (isB m)) ∧ ∃ q, w' = w.drewN q := by
  have hz := ics_any B v m w h hf
  have HZ := Lib.hid hz; clear hz
  obtain ⟨a, cap, rfl⟩ := h.slice
  by_cases hs : SizeOk m
  · have hsz := sizeB_yes hs
    rw [hsz] at HZ
    clear hsz
    have hl := hf.1
    have hrows : Rows0 m m.length m.length := hs.2
    have hb4 := hs.1
    have HS := Lib.hid hs; clear hs hf
    have HR := Lib.hid h; clear h
    have HRW := Lib.hid hrows; clear hrows
    generalize hn : m.length = n at *
    unfold maxLen at hl
    have HN := Lib.hid hn; clear hn
    go_enter Try.func74, Try.ntmps74
    go_wp2_with fail
    refine HZ.out.mono ?_
    rintro e w' ⟨rfl, rfl⟩
    go_wp2_with fail
    go_loopw [10] (fun i wr => ∃ (k q : Nat), k ≤ n ∧ i = .int .i64 k ∧ wr = w.drewN q ∧ Ok0 m n k 0) (fun i _ => n - (RowKit.intOf i).toNat)
    case atStart => exact ⟨0, 0, Nat.zero_le _, rfl, rfl, fun i c hi _ => by omega, fun c hc => by omega⟩
    case round =>
      obtain ⟨k, q, hk2, rfl, rfl, ho⟩ := hrel
      have HO := Lib.hid ho; clear ho
      by_cases hkn : k < n
      · go_wp2_with fail
        go_loopw [15] (fun i wr => ∃ (j q : Nat), j ≤ n ∧ i = .int .i64 j ∧ wr = w.drewN q ∧ Ok0 m n k j) (fun i _ => n - (RowKit.intOf i).toNat)
        case atStart => exact ⟨0, q, Nat.zero_le _, rfl, rfl, HO.out⟩
        case round =>
          obtain ⟨j, q2, hj, rfl, rfl, hoj⟩ := hrel
          have HOJ := Lib.hid hoj; clear hoj
          by_cases hjn : j < n
          · have hcon : Calls Try.prog 85 #[.slice a n cap, .int .i64 k, .int .i64 j] (w.drewN q2) fun e w' => e = .returned (.bool (okB m k j)) ∧ ∃ q, w' = (w.drewN q2).drewN q :=
              ice_any B a n cap m k j (w.drewN q2) HR.out HRW.out hl hkn hjn
            by_cases hok : okC m k j
            · rw [okB_yes hok] at hcon
              have HST := Lib.hid (ok0_step HOJ.out hok); clear hok
              have HCON := Lib.hid hcon; clear hcon
              go_wp2_with fail
              refine HCON.out.mono ?_
              rintro e w' ⟨rfl, q3, rfl⟩
              go_wp2_with fail
              exact ⟨⟨j + 1, q2 + q3, by omega, by go_num, rfl, HST.out⟩, by simp [RowKit.intOf]; omega⟩
            · rw [okB_no hok] at hcon
              have HCON := Lib.hid hcon; clear hcon
              have HV := Lib.hid (isB_no (m := m) (fun h => hok (h.2.1 k j (by rw [HN.out]; exact hkn) (by rw [HN.out]; exact hjn)))); clear hok
              go_wp2_with fail
              refine HCON.out.mono ?_
              rintro e w' ⟨rfl, q3, rfl⟩
              go_wp2_with fail
              go_ret
              exact ⟨ret_boolean HV.out.symm, q2 + q3, rfl⟩
          · obtain rfl : n = j := by omega
            go_wp2_with fail
            exact ⟨⟨k + 1, q2, by omega, by go_num, rfl, ok0_row HOJ.out⟩, by simp [RowKit.intOf]; omega⟩
      · obtain rfl : n = k := by omega
        have HV := Lib.hid (isB_yes (m := m) ⟨HS.out.2, by rw [HN.out]; exact HO.out.1, by rw [HN.out]; exact hb4.1, by rw [HN.out]; exact hb4.2⟩)
        go_wp2_with fail
        go_ret
        exact ⟨ret_boolean HV.out.symm, _, rfl⟩
  · have hsz := sizeB_no hs
    rw [hsz] at HZ
    have HV := Lib.hid (isB_no (m := m) (fun h => hs ⟨h.2.2, h.1⟩))
    clear hsz hs h hf
    generalize m.length = n at *
    go_enter Try.func74, Try.ntmps74
    go_wp2_with fail
    refine HZ.out.mono ?_
    rintro e w' ⟨rfl, rfl⟩
    go_wp2_with fail
    go_ret
    exact ⟨ret_boolean HV.out.symm, 0, rfl⟩
end Go.Proofs.Ytbmghddmilgngaa
namespace Go.Proofs.Ytbmghddmilgngaa
open Go.RowKit

def colR (m : List (List Int)) (n k : Nat) : List Int := (List.range n).map fun j => entry m j k
def trN (m : List (List Int)) (n : Nat) : List (List Int) := (List.range n).map fun i => colR m n i
noncomputable def trM (m : List (List Int)) : List (List Int) := if isB m = true then trN m m.length else []
theorem trM_yes {m : List (List Int)} (h : IsC m) : trM m = trN m m.length := if_pos (isB_yes h)
theorem trM_no {m : List (List Int)} (h : ¬ IsC m) : trM m = [] := by unfold trM; rw [isB_no h]; rfl
theorem colR_len (m : List (List Int)) (n k : Nat) : (colR m n k).length = n := by simp [colR]
theorem trN_len (m : List (List Int)) (n : Nat) : (trN m n).length = n := by simp [trN]
theorem colR_step (m : List (List Int)) (n k c : Nat) (h : c < n) : (colR m n k).take c ++ [entry m c k] = (colR m n k).take (c + 1) := by
  rw [List.take_succ_eq_append_getElem (by rw [colR_len]; exact h)]; simp [colR]
theorem trN_step (m : List (List Int)) (n k : Nat) (h : k < n) : (trN m n).take k ++ [colR m n k] = (trN m n).take (k + 1) := by
  rw [List.take_succ_eq_append_getElem (by rw [trN_len]; exact h)]; simp [trN]
theorem colR_end (m : List (List Int)) (n k : Nat) : (colR m n k).take n = colR m n k := List.take_of_length_le (by rw [colR_len]; exact Nat.le_refl _)
theorem trN_end (m : List (List Int)) (n : Nat) : (trN m n).take n = trN m n := List.take_of_length_le (by rw [trN_len]; exact Nat.le_refl _)
theorem isc_w (B : Nat) (v : Value) (m : List (List Int)) (c : Bool) (hc : isB m = c) (w : World) (h : MatB B w v m) (hf : RowsFit m) :
    Calls Try.prog 55 #[v] w fun e w' => e = .returned (.bool c) ∧ Below w.heap.size w w' :=
  (isc_0 B v m c hc w h hf).mono fun e w' ⟨h1, q, h2⟩ => ⟨h1, by rw [h2]; exact below_drewN q⟩
theorem icm_w (B : Nat) (v : Value) (m : List (List Int)) (c : Bool) (hc : isB m = c) (w : World) (h : MatB B w v m) (hf : RowsFit m) :
    Calls Try.prog 74 #[v] w fun e w' => e = .returned (.bool c) ∧ Below w.heap.size w w' :=
  (icm_any B v m w h hf).mono fun e w' ⟨h1, q, h2⟩ => ⟨by rw [h1]; exact ret_boolean hc, by rw [h2]; exact below_drewN q⟩
theorem makesM_nil {w w' : World} {x : Value} {m : List (List Int)} (hm : m = []) (h : MatI w.heap.size w'.heap.size w' x []) (hb : Below w.heap.size w w') : MakesM w m (.returned x) w' :=
  ⟨x, rfl, by rw [hm]; exact ⟨h, Nat.le_refl _⟩, hb⟩

end Go.Proofs.Ytbmghddmilgngaa
namespace Go.Proofs.Ytbmghddmilgngaa
open Go.RowKit

/-- A row of a square matrix: its header and its cells. -/
theorem MatB.line {B : Nat} {w : World} {a : Option Addr} {n cap : Nat} {m : List (List Int)} (h : MatB B w (.slice a n cap) m) (hr : Rows0 m n n) {i : Nat} (hi : i < n) :
    ∃ b off rb roff rcap, a = some ⟨b, off, none⟩ ∧ b < B ∧ rb < B ∧ w.cell? ⟨b, off + i, none⟩ = some (.slice (some ⟨rb, roff, none⟩) n rcap) ∧ ∀ j, j < n → w.cell? ⟨rb, roff + j, none⟩ = some (.int .i64 (Go.Proofs.Ytbmghddmilgngaa.entry m i j)) := by
  obtain ⟨b, off, hil, rfl, hb, ra, rcap, hc, hrow⟩ := h.get hi
  have hg := getD_row m i hil
  have hlen : m[i].length = n := by rw [← hg]; exact hr i hi
  rw [hlen] at hc hrow
  obtain ⟨rb, roff, hjl, rfl, hrb, _⟩ := hrow.get (j := 0) (by omega)
  refine ⟨b, off, rb, roff, rcap, rfl, hb, hrb, hc, fun j hj => ?_⟩
  obtain ⟨rb', roff', hjl', he, _, hcell⟩ := hrow.get hj
  injection he with he
  injection he with he1 he2
  subst he1
  subst he2
  rw [hcell]
  unfold Go.Proofs.Ytbmghddmilgngaa.entry
  rw [hg]
  simp [List.getD, hjl']

end Go.Proofs.Ytbmghddmilgngaa
namespace Go.Proofs.Ytbmghddmilgngaa
open Go.RowKit

/-- 'append(row, x)' as a step of a region that draws its order: the literal's block lies at g. -/
theorem step_lit6 {ops : Array Oper} {o : Oper} {a : Act} {K : Act → World → Prop} {Q : Exit → Act → World → Prop} {E : Prop} {s x : Operand} {A : Nat} {v : Value} {l : List Int} {wr : World} (n : Int) (g : Nat)
    (hM : RowI A wr.heap.size wr v l) (hA : A ≤ wr.heap.size) (hg : wr.heap[g]? = some (.cells #[.int .i64 n] 3 (0, 0))) (hlen : l.length + [n].length ≤ 4194304) (hgd : o.guard = none)
    (ho : o.op = .call { callee := .builtin .append, args := #[s, x], argTypes := #[25, 25] }) (hs : a.eval s = v) (hx : a.eval x = .slice (some ⟨g, 0, none⟩) 1 1)
    (h : AfterRow A wr (l ++ [n]) fun v' w' => K (a.put o.dst v') w') : if Region.wanted o (yielded ops a.tmps) = true then Oper.wp Try.prog o a wr K Q else E :=
  step_ints (l2 := [n]) (B := g + 1) hM hA (Or.inr ⟨g, 0, 1, rfl, by omega, fun j hj => by
    obtain rfl : j = 0 := by simp at hj; omega
    rw [cell_of_row wr g (0 + 0) _ _ _ hg]; rfl⟩) (by simp) hlen hgd ho hs hx h

set_option maxHeartbeats 4000000 in
set_option maxRecDepth 100000 in
theorem l6r_any (B B' : Nat) (v v' : Value) (m : List (List Int)) (l : List Int) (i : Nat) (w : World) (h : MatB B w v m) (h' : RowB B' w v' l) (hB : B ≤ w.heap.size) (hB' : B' ≤ w.heap.size) (hI : IsC m) (hll : l.length = m.length) (hi : i < m.length) :
    Calls Try.prog 71 #[v, .int .i64 i, v'] w (MakesS w (reflL m i l)) := by
  obtain ⟨a, cap, rfl⟩ := h.slice
  obtain ⟨a', cap', rfl⟩ := h'.slice
  have HR := Lib.hid h; have HL := Lib.hid h'
  clear h h'
  have hn4 := hI.2.2.2
  have HRW := Lib.hid (show Rows0 m m.length m.length from hI.1)
  have HST := Lib.hid (fun k => reflK_step m i l k)
  have HKL := Lib.hid (fun k => reflK_len m i l k)
  have HEN := Lib.hid (show reflL m i l = reflK m i l m.length from by unfold reflL; rw [hll])
  clear hI
  rw [hll] at HL ⊢
  generalize hn : m.length = n at *
  have HN := Lib.hid hn; have HLN := Lib.hid hll
  clear hn hll
  go_enter Try.func71, Try.ntmps71
  go_wp2_with fail
  go_loopw [7, 8] (fun o i' wr => ∃ (k : Nat) (wq : World), wq = wr ∧ k ≤ n ∧ i' = .int .i64 k ∧ RowI w.heap.size wq.heap.size wq o (reflK m i l k) ∧ Below w.heap.size w wq) (fun _ i' _ => n - (RowKit.intOf i').toNat)
  case atStart => exact ⟨0, _, rfl, Nat.zero_le _, rfl, row_empty w, (Below.refl _ _).alloc (Nat.le_refl _) _⟩
  case round =>
    obtain ⟨k, wq, rfl, hk, rfl, hM, hb⟩ := hrel
    have HM := Lib.hid hM; clear hM
    have hsq := hb.size
    have HB := Lib.hid hb; clear hb
    by_cases hlt : k < n
    · have hlt' : decide (k < n) = true := decide_eq_true hlt
      obtain ⟨b, off, rb, roff, rcap, rfl, hc1, hx⟩ := (HR.out.below HB.out hB).entry HRW.out hlt hi
      obtain ⟨b', off', rfl, hbb, hy⟩ := (HL.out.below HB.out hB').getD hlt
      obtain ⟨b2, off2, he2, _, hz⟩ := (HL.out.below HB.out hB').getD hi
      have hz : wq.cell? ⟨b', off' + i, none⟩ = some (.int .i64 (l.getD i 0)) := by injection he2 with he2; injection he2 with e1 e2; subst e1; subst e2; exact hz
      have HS := Lib.hid (HST.out k)
      have HRL := Lib.hid (show (reflK m i l k).length + [reflE m i l k].length ≤ 4194304 by rw [HKL.out]; simp; omega)
      have HE := Lib.hid (show reflE m i l k = subW (l.getD k 0) (mulW (l.getD i 0) (entry m k i)) from rfl)
      clear hbb he2
      generalize reflE m i l k = E at *
      generalize l.getD k 0 = x at *
      generalize l.getD i 0 = z at *
      generalize entry m k i = y at *
      obtain ⟨pr, hpr⟩ : ∃ pr, pr = mulW z y := ⟨_, rfl⟩
      have h1 : IntKind.i64.wrap (z * y) = pr := by rw [hpr, wrapk]; rfl
      have h2 : wrap64 (z * y) = pr := by rw [hpr]; rfl
      have h3 : IntKind.i64.wrap (x - pr) = E := by rw [HE.out, hpr, wrapk]; rfl
      have h4 : wrap64 (x - pr) = E := by rw [HE.out, hpr]; rfl
      clear hpr HE
      go_wp2_with fail
      go_region_law (refine step_lit6 E wq.heap.size ((HM.out.alloc _).mono (Nat.le_refl _) (by simp)) (by simp; omega) (MapKept.heap_alloc _ _).1 HRL.out rfl rfl rfl rfl ?_; intro v3 w3 hr3 hb3 hz3)
      all_goals
        rw [HS.out] at hr3
        have HR3 := Lib.hid hr3
        have HB3 := Lib.hid (hb3 w w.heap.size (Nat.le_refl _) (HB.out.alloc hsq _).drew)
        clear hr3 hb3 hz3 h1 h2 h3 h4
        go_wp2_with fail
        exact ⟨⟨k + 1, _, rfl, by omega, by go_num, HR3.out, HB3.out⟩, by simp [RowKit.intOf]; omega⟩
    · obtain rfl : k = n := by omega
      have hlt' : decide (k < k) = false := by simp
      go_wp2_with fail
      go_ret
      exact ⟨_, rfl, ⟨by rw [HEN.out]; exact HM.out, Nat.le_refl _⟩, HB.out⟩
end Go.Proofs.Ytbmghddmilgngaa
namespace Go.Proofs.Ytbmghddmilgngaa
open Go.RowKit

/-- A copy: 'append([]int{}, v...)' behind a walk. -/
abbrev CopyEnd (w : World) (l : List Int) (x : Value) (w' : World) : Prop := OwnS w.heap.size w'.heap.size w' x l ∧ Below w.heap.size w w'
end Go.Proofs.Ytbmghddmilgngaa
namespace Go.Proofs.Ytbmghddmilgngaa
open Go.RowKit

end Go.Proofs.Ytbmghddmilgngaa
namespace Go.Proofs.Ytbmghddmilgngaa
open Go.RowKit

set_option maxHeartbeats 4000000 in
set_option maxRecDepth 100000 in
theorem rhos_any (B : Nat) (v : Value) (m : List (List Int)) (w : World) (h : MatB B w v m) (hB : B ≤ w.heap.size) (hf : RowsFit m) :
    Calls Try.prog 70 #[v] w (MakesS w (rhoL m)) := by
  have HIS := Lib.hid (fun c (hc : isB m = c) (wx : World) (hb : Below w.heap.size w wx) => isc_w B v m c hc wx (h.below hb hB) hf)
  have hlm := hf.1
  obtain ⟨a, cap, rfl⟩ := h.slice
  clear h hf
  unfold maxLen at hlm
  by_cases hI : IsC m
  · have HV := Lib.hid (rhoL_yes hI)
    have HC := Lib.hid (fun wx hb => HIS.out true (isB_yes hI) wx hb)
    have hn4 := hI.2.2.2
    clear HIS hI
    rw [HV.out]
    clear HV
    generalize m.length = n at *
    go_enter Try.func70, Try.ntmps70
    go_wp2_with fail
    go_loopw [3, 4] (fun o i wr => ∃ (k : Nat) (wq : World), wq = wr ∧ k ≤ n ∧ i = .int .i64 k ∧ RowI w.heap.size wq.heap.size wq o (onesR k) ∧ Below w.heap.size w wq) (fun _ i _ => n - (RowKit.intOf i).toNat)
    case atStart => exact ⟨0, _, rfl, Nat.zero_le _, rfl, row_empty w, (Below.refl _ _).alloc (Nat.le_refl _) _⟩
    case round =>
      obtain ⟨k, wq, rfl, hk, rfl, hM, hb⟩ := hrel
      have HM := Lib.hid hM
      have HCQ := Lib.hid (HC.out wq hb)
      have hsq := hb.size
      have HB := Lib.hid hb
      clear hM hb
      by_cases hlt : k < n
      · have hd : decide (k < n) = true := decide_eq_true hlt
        go_wp2_with fail
        refine HCQ.out.mono ?_
        rintro e w1 ⟨rfl, hb1⟩
        have HM1 := Lib.hid (HM.out.step hb1)
        have HB1 := Lib.hid (HB.out.trans (hb1.mono hsq))
        have hs1 : w.heap.size ≤ w1.heap.size := HB1.out.size
        have HRL := Lib.hid (show (onesR k).length ≤ 4194304 by simp [onesR]; omega)
        have HS := Lib.hid (onesR_step k)
        clear hb1
        go_wp2_with (at_builtin; go_must (refine append_int HM1.out hs1 1 rfl rfl rfl rfl HRL.out ?_; intro v' w3 hr3 hb3 hz3))
        rw [HS.out] at hr3
        have HR3 := Lib.hid hr3
        have HB3 := Lib.hid (hb3 w w.heap.size (Nat.le_refl _) HB1.out)
        clear hr3 hb3 hz3
        go_wp2_with fail
        exact ⟨⟨k + 1, _, rfl, by omega, by go_num, HR3.out, HB3.out⟩, by simp [RowKit.intOf]; omega⟩
      · obtain rfl : k = n := by omega
        have hd : decide (k < k) = false := by simp
        go_wp2_with fail
        go_ret
        exact ⟨_, rfl, ⟨HM.out, Nat.le_refl _⟩, HB.out⟩
  · have HV := Lib.hid (rhoL_no hI)
    have HC := Lib.hid (fun wx hb => HIS.out false (isB_no hI) wx hb)
    clear HIS hI
    rw [HV.out]
    clear HV
    generalize m.length = n at *
    go_enter Try.func70, Try.ntmps70
    go_wp2_with fail
    go_loopw [3, 4] (fun o i wr => i = .int .i64 0 ∧ o = .slice (some ⟨w.heap.size, 0, none⟩) 0 0 ∧ wr = w.alloc (.cells #[] 3)) (fun _ _ _ => 0)
    case atStart => exact ⟨rfl, rfl, rfl⟩
    case round =>
      obtain ⟨rfl, rfl, rfl⟩ := hrel
      have HB := Lib.hid (show Below w.heap.size w (w.alloc (.cells #[] 3)) from (Below.refl _ _).alloc (Nat.le_refl _) _)
      have HCQ := Lib.hid (HC.out _ HB.out)
      by_cases h0 : 0 < n
      · have hd : decide (0 < n) = true := decide_eq_true h0
        go_wp2_with fail
        refine HCQ.out.mono ?_
        rintro e w2 ⟨rfl, hb2⟩
        have HB2 := Lib.hid hb2; clear hb2
        go_wp2_with fail
        go_ret
        exact ⟨_, rfl, ⟨(row_empty w).step HB2.out, Nat.le_refl _⟩, HB.out.trans (HB2.out.mono HB.out.size)⟩
      · have hd : decide (0 < n) = false := decide_eq_false h0
        go_wp2_with fail
        go_ret
        exact ⟨_, rfl, ⟨row_empty w, Nat.le_refl _⟩, HB.out⟩

end Go.Proofs.Ytbmghddmilgngaa
