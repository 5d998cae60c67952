/-
  Words: what the program's CompareWords, EqualWords, ReverseWord and ConcatWords return.
-/
import Derived.Lib.AppendZeros
import Derived.Test.YtnlbmnielemgiaaGreatEz30
import Derived.Test.YtnlbmnielemgiaaGreatEz16
namespace Go.Proofs.YtnlbmnielemgiaaGreat
open Go.RowKit

def cmpI (x y : Int) : Int := if x < y then -1 else if y < x then 1 else 0
theorem cmpI_lt {x y : Int} (h : x < y) : cmpI x y = -1 := if_pos h
theorem cmpI_gt {x y : Int} (h : y < x) : cmpI x y = 1 := by unfold cmpI; rw [if_neg (by omega), if_pos h]
theorem cmpI_eq {x y : Int} (h : x = y) : cmpI x y = 0 := by unfold cmpI; rw [if_neg (by omega), if_neg (by omega)]
set_option maxHeartbeats 1000000 in
set_option maxRecDepth 100000 in
theorem nan_any (x : Int) (w : World) : Calls Tryz.prog 103 #[.int .i64 x] w fun e w' => e = .returned (.bool false) ∧ w = w' := by
  go_enter Tryz.func103, Tryz.ntmps103
  go_wp2_with fail
  go_ret
  exact ⟨ret_boolean (by simp), rfl⟩
set_option maxHeartbeats 1000000 in
set_option maxRecDepth 100000 in
theorem cmpi_any (x y : Int) (w : World) : Calls Tryz.prog 93 #[.int .i64 x, .int .i64 y] w fun e w' => e = .returned (.int .i64 (cmpI x y)) ∧ w = w' := by
  rcases Int.lt_trichotomy x y with h | h | h
  · have HV := Lib.hid (cmpI_lt h)
    have h1 : decide (x < y) = true := decide_eq_true h
    clear h
    go_enter Tryz.func93, Tryz.ntmps93
    go_wp2_with fail
    refine (nan_any _ _).mono ?_; rintro e w' ⟨rfl, rfl⟩
    go_wp2_with fail
    refine (nan_any _ _).mono ?_; rintro e w' ⟨rfl, rfl⟩
    go_wp2_with fail
    go_ret
    exact ⟨ret_i64 HV.out.symm, rfl⟩
  · subst h
    have HV := Lib.hid (cmpI_eq (rfl : x = x))
    have h1 : decide (x < x) = false := by simp
    go_enter Tryz.func93, Tryz.ntmps93
    go_wp2_with fail
    refine (nan_any _ _).mono ?_; rintro e w' ⟨rfl, rfl⟩
    go_wp2_with fail
    refine (nan_any _ _).mono ?_; rintro e w' ⟨rfl, rfl⟩
    go_wp2_with fail
    go_ret
    exact ⟨ret_i64 HV.out.symm, rfl⟩
  · have HV := Lib.hid (cmpI_gt h)
    have h1 : decide (x < y) = false := decide_eq_false (by omega)
    have h2 : decide (y < x) = true := decide_eq_true h
    clear h
    go_enter Tryz.func93, Tryz.ntmps93
    go_wp2_with fail
    refine (nan_any _ _).mono ?_; rintro e w' ⟨rfl, rfl⟩
    go_wp2_with fail
    refine (nan_any _ _).mono ?_; rintro e w' ⟨rfl, rfl⟩
    go_wp2_with fail
    go_ret
    exact ⟨ret_i64 HV.out.symm, rfl⟩
theorem cmpi_c (x y c : Int) (hc : cmpI x y = c) (w : World) : Calls Tryz.prog 93 #[.int .i64 x, .int .i64 y] w fun e w' => e = .returned (.int .i64 c) ∧ w = w' := by
  rw [← hc]; exact cmpi_any x y w

set_option maxHeartbeats 2000000 in
set_option maxRecDepth 100000 in
theorem slcmp_any (B : Nat) (v v' : Value) (l l' : List Int) (w : World) (h : RowB B w v l) (h' : RowB B w v' l') (hl : l.length ≤ maxLen) (heq : l'.length = l.length) :
    Calls Tryz.prog 94 #[v, v'] w fun e w' => e = .returned (.int .i64 (cmpL l l')) ∧ w = w' := by
  obtain ⟨a, cap, rfl⟩ := h.slice
  obtain ⟨a', cap', rfl⟩ := h'.slice
  rw [heq] at h' ⊢
  have HL := Lib.hid h; have HL' := Lib.hid h'
  clear h h'
  unfold maxLen at hl
  have HAT := Lib.hid (fun k (hk : k < l.length) (he : l.take k = l'.take k) (hne : l.getD k 0 ≠ l'.getD k 0) => cmpL_at hk (by omega) he hne)
  have HEQ := Lib.hid (fun (he : l.take l.length = l'.take l.length) => show cmpL l l' = 0 from by
    rw [List.take_length, ← heq, List.take_length] at he
    rw [he]; exact cmpL_refl l')
  have HTK := Lib.hid (fun k (hk : k < l.length) (he : l.take k = l'.take k) (hx : l.getD k 0 = l'.getD k 0) => show l.take (k + 1) = l'.take (k + 1) from by
    have hk' : k < l'.length := by omega
    rw [List.take_succ_eq_append_getElem hk, List.take_succ_eq_append_getElem hk', he]
    simp [List.getD, hk, hk'] at hx
    rw [hx])
  generalize cmpL l l' = R at *
  clear heq
  generalize hn : l.length = n at *
  have HN := Lib.hid hn
  clear hn
  go_enter Tryz.func94, Tryz.ntmps94
  go_wp2_with fail
  go_loop [11] (fun i => ∃ (k : Nat), k ≤ n ∧ i = .int .i64 k ∧ Hid (l.take k = l'.take k)) (fun i => n - (RowKit.intOf i).toNat)
  case atStart => exact ⟨0, Nat.zero_le _, rfl, Lib.hid rfl⟩
  case round =>
    obtain ⟨k, hk, rfl, hp⟩ := hrel
    by_cases hlt : k < n
    · obtain ⟨b, off, rfl, hb, hc⟩ := HL.out.getD hlt
      obtain ⟨b', off', rfl, hb', hc'⟩ := HL'.out.getD hlt
      have hge : decide (n ≤ k) = false := decide_eq_false (by omega)
      have HV := Lib.hid (fun h => HAT.out k hlt hp.out h)
      have HS := Lib.hid (fun h => HTK.out k hlt hp.out h)
      clear HAT HEQ HTK
      generalize l.getD k 0 = x at *
      generalize l'.getD k 0 = y at *
      rcases Int.lt_trichotomy x y with hxy | hxy | hxy
      · have HV2 := Lib.hid ((HV.out (by omega)).trans (if_pos hxy))
        have HC := Lib.hid (cmpi_c x y _ (cmpI_lt hxy) w)
        clear HV HS hxy
        go_wp2_with fail
        refine HC.out.mono ?_; rintro e w' ⟨rfl, rfl⟩
        go_wp2_with fail
        go_ret
        exact ⟨ret_i64 HV2.out.symm, rfl⟩
      · have HS2 := Lib.hid (HS.out hxy)
        have HC := Lib.hid (cmpi_c x y _ (cmpI_eq hxy) w)
        clear HV HS hxy
        go_wp2_with fail
        refine HC.out.mono ?_; rintro e w' ⟨rfl, rfl⟩
        go_wp2_with fail
        exact ⟨⟨k + 1, by omega, by go_num, HS2⟩, by simp [RowKit.intOf]; omega⟩
      · have HV2 := Lib.hid ((HV.out (by omega)).trans (if_neg (by omega)))
        have HC := Lib.hid (cmpi_c x y _ (cmpI_gt hxy) w)
        clear HV HS hxy
        go_wp2_with fail
        refine HC.out.mono ?_; rintro e w' ⟨rfl, rfl⟩
        go_wp2_with fail
        go_ret
        exact ⟨ret_i64 HV2.out.symm, rfl⟩
    · obtain rfl : k = n := by omega
      have HV := Lib.hid (HEQ.out hp.out)
      have hd : decide (k < k) = false := by simp
      clear HAT HEQ HTK
      go_wp2_with fail
      go_ret
      exact ⟨ret_i64 HV.out.symm, rfl⟩

set_option maxHeartbeats 1000000 in
set_option maxRecDepth 100000 in
theorem wcmp_any (B : Nat) (v v' : Value) (l l' : List Int) (w : World) (h : RowB B w v l) (h' : RowB B w v' l') (hl : l.length ≤ maxLen) (hl' : l'.length ≤ maxLen) :
    Calls Tryz.prog 80 #[v, v'] w fun e w' => e = .returned (.int .i64 (cmpW l l')) ∧ w = w' := by
  have HSL := Lib.hid (fun (he : l'.length = l.length) => slcmp_any B v v' l l' w h h' hl he)
  obtain ⟨a, cap, rfl⟩ := h.slice
  obtain ⟨a', cap', rfl⟩ := h'.slice
  have HLT := Lib.hid (fun (h : l.length < l'.length) => cmpW_lt h)
  have HGT := Lib.hid (fun (h : l'.length < l.length) => cmpW_gt h)
  have HEQ := Lib.hid (fun (h : l.length = l'.length) => cmpW_eq h)
  clear h h'
  unfold maxLen at hl hl'
  generalize cmpW l l' = R at *
  generalize cmpL l l' = S at *
  generalize hn : l.length = n at *
  generalize hn' : l'.length = n' at *
  have HN := Lib.hid hn; have HN' := Lib.hid hn'
  clear hn hn'
  rcases Nat.lt_trichotomy n n' with hlt | heq | hgt
  · have HV := Lib.hid (HLT.out hlt)
    have HC := Lib.hid (cmpi_c (n : Int) (n' : Int) _ (cmpI_lt (by omega)) w)
    clear HLT HGT HEQ HSL hlt
    go_enter Tryz.func80, Tryz.ntmps80
    go_wp2_with fail
    refine HC.out.mono ?_; rintro e w' ⟨rfl, rfl⟩
    go_wp2_with fail
    go_ret
    exact ⟨ret_i64 HV.out.symm, rfl⟩
  · subst heq
    have HV := Lib.hid (HEQ.out rfl)
    have HC := Lib.hid (cmpi_c (n : Int) (n : Int) _ (cmpI_eq rfl) w)
    have HS := Lib.hid (HSL.out rfl)
    clear HLT HGT HEQ HSL
    go_enter Tryz.func80, Tryz.ntmps80
    go_wp2_with fail
    refine HC.out.mono ?_; rintro e w' ⟨rfl, rfl⟩
    go_wp2_with fail
    refine HS.out.mono ?_; rintro e w' ⟨rfl, rfl⟩
    go_wp2_with fail
    go_ret
    exact ⟨ret_i64 HV.out.symm, rfl⟩
  · have HV := Lib.hid (HGT.out hgt)
    have HC := Lib.hid (cmpi_c (n : Int) (n' : Int) _ (cmpI_gt (by omega)) w)
    clear HLT HGT HEQ HSL hgt
    go_enter Tryz.func80, Tryz.ntmps80
    go_wp2_with fail
    refine HC.out.mono ?_; rintro e w' ⟨rfl, rfl⟩
    go_wp2_with fail
    go_ret
    exact ⟨ret_i64 HV.out.symm, rfl⟩
set_option maxRecDepth 100000 in
theorem cmpwi_any (B : Nat) (v v' : Value) (l l' : List Int) (w : World) (h : RowB B w v l) (h' : RowB B w v' l') (hl : l.length ≤ maxLen) (hl' : l'.length ≤ maxLen) :
    Calls Tryz.prog 64 #[v, v'] w fun e w' => e = .returned (.int .i64 (cmpW l l')) ∧ w = w' := by
  have HC := Lib.hid (wcmp_any B v v' l l' w h h' hl hl')
  clear h h' hl hl'
  go_enter Tryz.func64, Tryz.ntmps64
  go_wp2_with fail
  refine HC.out.mono ?_; rintro e w' ⟨rfl, rfl⟩
  go_wp2_with fail
  go_ret
  exact ⟨rfl, rfl⟩
set_option maxRecDepth 100000 in
theorem eqwi_any (B : Nat) (v v' : Value) (l l' : List Int) (w : World) (h : RowB B w v l) (h' : RowB B w v' l') (hl : l.length ≤ maxLen) (hl' : l'.length ≤ maxLen) :
    Calls Tryz.prog 36 #[v, v'] w fun e w' => e = .returned (.bool (eqwB l l')) ∧ w = w' := by
  have HC := Lib.hid (cmpwi_any B v v' l l' w h h' hl hl')
  have HE := Lib.hid (show (cmpW l l' == 0) = eqwB l l' from rfl)
  clear h h' hl hl'
  generalize cmpW l l' = c at *
  go_enter Tryz.func36, Tryz.ntmps36
  go_wp2_with fail
  refine HC.out.mono ?_; rintro e w' ⟨rfl, rfl⟩
  go_wp2_with fail
  go_ret
  exact ⟨ret_boolean HE.out, rfl⟩

set_option maxRecDepth 100000 in
theorem wrev_any (B : Nat) (v : Value) (l : List Int) (w : World) (h : RowB B w v l) (hB : B ≤ w.heap.size) (hl : l.length ≤ 1048576) :
    Calls Tryz.prog 65 #[v] w (MakesS w l.reverse) := by
  have HC := Lib.hid (clone_any B v l w h hB hl)
  have HL := Lib.hid hl
  clear h hl
  go_enter Tryz.func65, Tryz.ntmps65
  go_wp2_with fail
  refine HC.out.mono ?_
  rintro e w1 ⟨x, rfl, hx, hb⟩
  have HR := Lib.hid (revw_row w.heap.size w1 x l hx.1 HL.out)
  have HB := Lib.hid hb
  have HX := Lib.hid hx
  clear hx hb
  go_wp2_with fail
  refine HR.out.mono ?_
  rintro e w2 ⟨rfl, hr, hg⟩
  have HR2 := Lib.hid hr
  have HB2 := Lib.hid (HB.out.grown hg HB.out.size (fun k hk => (HX.out.1.1.lt k hk).1))
  clear hr hg
  go_wp2_with fail
  go_ret
  exact ⟨_, rfl, ⟨HR2.out, Nat.le_refl _⟩, HB2.out⟩
set_option maxRecDepth 100000 in
theorem revi_any (B : Nat) (v : Value) (l : List Int) (w : World) (h : RowB B w v l) (hB : B ≤ w.heap.size) (hl : l.length ≤ 1048576) :
    Calls Tryz.prog 53 #[v] w (MakesS w l.reverse) := by
  have HC := Lib.hid (wrev_any B v l w h hB hl)
  clear h hl
  go_enter Tryz.func53, Tryz.ntmps53
  go_wp2_with fail
  refine HC.out.mono ?_
  rintro e w1 ⟨x, rfl, hx, hb⟩
  have HX := Lib.hid hx; have HB := Lib.hid hb
  clear hx hb
  go_wp2_with fail
  go_ret
  exact ⟨_, rfl, HX.out, HB.out⟩
end Go.Proofs.YtnlbmnielemgiaaGreat
