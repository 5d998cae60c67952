/-
  Weights: what the program's IsWeight returns.
-/
import Derived.Test.YtlbgblkoddlhnaaWtW
import Derived.Test.YtlbgblkoddlhnaaBondW
import Derived.Test.YtlbgblkoddlhnaaWrdS
namespace Go.Proofs.Ytlbgblkoddlhnaa
open Go.RowKit

set_option maxHeartbeats 400000 in
theorem iby_c (x : Int) (c : Bool) (hc : (!decide (-1000 ≤ x ∧ x ≤ 1000)) = c) (w : World) :
    Calls Try.prog 72 #[.int .i64 x] w fun e w' => e = .returned (.bool c) ∧ w = w' := by
  by_cases h : x < -1000
  · have h1 : decide (x < -1000) = true := decide_eq_true h
    have HV := Lib.hid (show c = true from by rw [← hc, decide_eq_false (by omega)]; rfl)
    clear hc
    go_enter Try.func72, Try.ntmps72
    go_wp2_with fail
    go_ret
    exact ⟨ret_boolean HV.out.symm, rfl⟩
  · have h1 : decide (x < -1000) = false := decide_eq_false h
    by_cases h2 : 1000 < x
    · have h3 : decide (1000 < x) = true := decide_eq_true h2
      have HV := Lib.hid (show c = true from by rw [← hc, decide_eq_false (by omega)]; rfl)
      clear hc
      go_enter Try.func72, Try.ntmps72
      go_wp2_with fail
      go_ret
      exact ⟨ret_boolean HV.out.symm, rfl⟩
    · have h3 : decide (1000 < x) = false := decide_eq_false h2
      have HV := Lib.hid (show c = false from by rw [← hc, decide_eq_true (by omega)]; rfl)
      clear hc
      go_enter Try.func72, Try.ntmps72
      go_wp2_with fail
      go_ret
      exact ⟨ret_boolean HV.out.symm, rfl⟩

/-- Where the first number that is too large stands. -/
def IdxIs (l : List Int) (r : Int) : Prop := (r = -1 ∧ WtTo l l.length) ∨ (0 ≤ r ∧ ¬ WtTo l l.length)
set_option maxHeartbeats 2000000 in
set_option maxRecDepth 100000 in
theorem idxf_any (B : Nat) (v : Value) (l : List Int) (w : World) (h : RowB B w v l) (hl : l.length ≤ maxLen) :
    Calls Try.prog 90 #[v, .func (.func 72) #[] #[]] w fun e w' => ∃ r, e = .returned (.int .i64 r) ∧ IdxIs l r ∧ w = w' := by
  obtain ⟨a, cap, rfl⟩ := h.slice
  have HL := Lib.hid h
  clear h
  unfold maxLen at hl
  have HNO := Lib.hid (fun (k : Nat) (hk : k < l.length) (h : ¬ (-1000 ≤ l.getD k 0 ∧ l.getD k 0 ≤ 1000)) => show IdxIs l (k : Int) from Or.inr ⟨by omega, fun h' => h (h' k hk)⟩)
  have HYES := Lib.hid (fun (h : WtTo l l.length) => show IdxIs l (-1) from Or.inl ⟨rfl, h⟩)
  generalize hln : l.length = L at *
  have HLN := Lib.hid hln; clear hln
  go_enter Try.func90, Try.ntmps90
  go_wp2_with fail
  go_loop [8] (fun i => ∃ (k : Nat), k ≤ L ∧ i = .int .i64 k ∧ Hid (WtTo l k)) (fun i => L - (intOf i).toNat)
  case atStart => exact ⟨0, Nat.zero_le _, rfl, Lib.hid (wtTo_zero _)⟩
  case round =>
    obtain ⟨k, hk, rfl, hs⟩ := hrel
    by_cases hlt : k < L
    · obtain ⟨b, off, rfl, hb, hc⟩ := HL.out.getD hlt
      by_cases hin : -1000 ≤ l.getD k 0 ∧ l.getD k 0 ≤ 1000
      · have HST := Lib.hid (wtTo_step hs.out hin)
        have HC := Lib.hid (iby_c (l.getD k 0) false (by rw [decide_eq_true hin]; rfl) w)
        clear hin hs
        generalize l.getD k 0 = x at *
        go_wp2_with fail
        refine HC.out.mono ?_
        rintro e w' ⟨rfl, rfl⟩
        go_wp2_with fail
        exact ⟨⟨k + 1, by omega, by go_num, HST⟩, by simp [intOf]; omega⟩
      · have HBAD := Lib.hid (HNO.out k hlt hin)
        have HC := Lib.hid (iby_c (l.getD k 0) true (by rw [decide_eq_false hin]; rfl) w)
        clear hin hs
        generalize l.getD k 0 = x at *
        go_wp2_with fail
        refine HC.out.mono ?_
        rintro e w' ⟨rfl, rfl⟩
        go_wp2_with fail
        go_ret
        exact ⟨_, rfl, HBAD.out, rfl⟩
    · obtain rfl : k = L := by omega
      have HE := Lib.hid (HYES.out hs.out)
      clear HNO HYES hs
      go_wp2_with fail
      go_ret
      exact ⟨_, rfl, HE.out, rfl⟩
set_option maxHeartbeats 2000000 in
set_option maxRecDepth 100000 in
theorem conf_any (B : Nat) (v : Value) (l : List Int) (w : World) (h : RowB B w v l) (hl : l.length ≤ maxLen) :
    Calls Try.prog 71 #[v, .func (.func 72) #[] #[]] w fun e w' => e = .returned (.bool (!wtlB l)) ∧ w = w' := by
  have HI := Lib.hid (idxf_any B v l w h hl)
  obtain ⟨a, cap, rfl⟩ := h.slice
  have HY := Lib.hid (fun (h : WtTo l l.length) => wtlB_yes h)
  have HN := Lib.hid (fun (h : ¬ WtTo l l.length) => wtlB_no h)
  clear h hl
  go_enter Try.func71, Try.ntmps71
  go_wp2_with fail
  refine HI.out.mono ?_
  rintro e w' ⟨r, rfl, hr, rfl⟩
  rcases hr with ⟨rfl, h⟩ | ⟨h0, h⟩
  · have HV := Lib.hid (HY.out h)
    clear h HY HN
    go_wp2_with fail
    go_ret
    exact ⟨ret_boolean (by rw [HV.out]; rfl), rfl⟩
  · have HV := Lib.hid (HN.out h)
    have hd : decide (0 ≤ r) = true := decide_eq_true h0
    clear h HY HN
    go_wp2_with fail
    go_ret
    exact ⟨ret_boolean (by rw [HV.out]; rfl), rfl⟩
set_option maxHeartbeats 2000000 in
set_option maxRecDepth 100000 in
theorem iswti_any (B B' : Nat) (v v' : Value) (m : List (List Int)) (l : List Int) (w : World) (h : MatB B w v m) (h' : RowB B' w v' l) (hf : RowsFit m) (hl : l.length ≤ maxLen) :
    Calls Try.prog 54 #[v, v'] w fun e w' => e = .returned (.bool (wtB m l)) ∧ ∃ q, w' = w.drewN q := by
  obtain ⟨a, cap, rfl⟩ := h.slice
  have HISC := Lib.hid (fun c (hc : isB m = c) => icm_0 B _ m c hc w h hf)
  have hml := hf.1
  unfold maxLen at hml
  have HOP := Lib.hid (fun q => conf_any B' v' l (w.drewN q) (h'.drewN q) hl)
  obtain ⟨a', cap', rfl⟩ := h'.slice
  rw [wtB_is]
  unfold maxLen at hl
  clear h h' hf
  generalize m.length = n at *
  generalize hln : l.length = L at *
  generalize wtlB l = R at *
  have HLN := Lib.hid hln; clear hln
  generalize isB m = ib at *
  cases ib with
  | false =>
    go_enter Try.func54, Try.ntmps54
    go_wp2_with fail
    refine (HISC.out _ rfl).mono ?_
    rintro e w' ⟨rfl, q, rfl⟩
    go_wp2_with fail
    go_ret
    exact ⟨ret_boolean (by simp), q, rfl⟩
  | true =>
    by_cases h15 : L = n
    · have hd : ((L : Int) == (n : Int)) = true := by rw [beq_iff_eq]; omega
      have HD := Lib.hid (show decide (L = n) = true from decide_eq_true h15)
      clear h15
      go_enter Try.func54, Try.ntmps54
      go_wp2_with fail
      refine (HISC.out _ rfl).mono ?_
      rintro e w' ⟨rfl, q, rfl⟩
      go_wp2_with fail
      refine (HOP.out q).mono ?_
      rintro e w' ⟨rfl, rfl⟩
      go_wp2_with fail
      go_ret
      exact ⟨ret_boolean (by rw [HD.out]; simp), q, rfl⟩
    · have hd : ((L : Int) == (n : Int)) = false := by rw [beq_eq_false_iff_ne]; omega
      have HD := Lib.hid (show decide (L = n) = false from decide_eq_false h15)
      clear h15
      go_enter Try.func54, Try.ntmps54
      go_wp2_with fail
      refine (HISC.out _ rfl).mono ?_
      rintro e w' ⟨rfl, q, rfl⟩
      go_wp2_with fail
      go_ret
      exact ⟨ret_boolean (by rw [HD.out]; simp), q, rfl⟩
theorem iswts_b (B B' : Nat) (v v' : Value) (m : List (List Int)) (l : List Int) (w : World) (h : MatB B w v m) (h' : RowB B' w v' l) (hf : RowsFit m) (hl : l.length ≤ maxLen) :
    Calls Try.prog 53 #[v, v'] w fun e w' => e = .returned (.bool (wtB m l)) ∧ Below w.heap.size w w' :=
  (iswts_any B B' v v' m l w h h' hf hl).mono fun e w' ⟨h1, q, h2⟩ => ⟨h1, by rw [h2]; exact below_drewN q⟩
theorem iswti_b (B B' : Nat) (v v' : Value) (m : List (List Int)) (l : List Int) (w : World) (h : MatB B w v m) (h' : RowB B' w v' l) (hf : RowsFit m) (hl : l.length ≤ maxLen) :
    Calls Try.prog 54 #[v, v'] w fun e w' => e = .returned (.bool (wtB m l)) ∧ Below w.heap.size w w' :=
  (iswti_any B B' v v' m l w h h' hf hl).mono fun e w' ⟨h1, q, h2⟩ => ⟨h1, by rw [h2]; exact below_drewN q⟩
end Go.Proofs.Ytlbgblkoddlhnaa
