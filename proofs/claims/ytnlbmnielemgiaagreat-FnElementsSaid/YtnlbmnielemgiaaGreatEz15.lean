/-
  Words: what the model's functions of chapter 5 return.
  IsCartan of the program: what the call returns.
  TransposeCartan of the model: what the call returns.
  A row of a square matrix that came in: its header and its cells.
-/
import Derived.Test.YtnlbmnielemgiaaGreatEz02
import Derived.Test.YtnlbmnielemgiaaGreatEz01
import Derived.Test.YtnlbmnielemgiaaGreatEz11
import Derived.Test.YtnlbmnielemgiaaGreatEz12
import Derived.Test.YtnlbmnielemgiaaGreatEz14
namespace Go.Proofs.YtnlbmnielemgiaaGreat
open Go.RowKit

theorem RowB.drawn1 {B : Nat} {w : World} {v : Value} {l : List Int} (h : RowB B w v l) (q : Nat) : RowB B (w.drewN q) v l := h.drewN q
set_option maxHeartbeats 2000000 in
set_option maxRecDepth 100000 in
theorem isws_any (B B' : Nat) (v v' : Value) (m : List (List Int)) (l : List Int) (w : World) (h : MatB B w v m) (h' : RowB B' w v' l) (hf : RowsFit m) (hl : l.length ≤ maxLen) :
    Calls Tryz.prog 10 #[v, v'] w fun e w' => e = .returned (.bool (wordB m l)) ∧ ∃ q, w' = w.drewN q := by
  obtain ⟨a, cap, rfl⟩ := h.slice
  obtain ⟨a', cap', rfl⟩ := h'.slice
  have HISC := Lib.hid (fun c (hc : isB m = c) q => isc_q B _ m c hc w h hf q)
  have HL := Lib.hid h'
  have hml := hf.1
  unfold maxLen at hl hml
  clear h h' hf
  have HNO := Lib.hid (fun (k : Nat) (hk : k < l.length) (h : ¬ (0 ≤ l.getD k 0 ∧ l.getD k 0 ≤ (m.length : Int) - 1)) => wordB_no (isW_bad (c := m) hk h))
  have HEND := Lib.hid (fun (h : LetTo m.length l l.length) => show wordB m l = (isB m && decide (l.length ≤ 15)) from by
    by_cases hI : IsC m
    · by_cases h15 : l.length ≤ 15
      · rw [wordB_yes ⟨h, hI, h15⟩, isB_yes hI, decide_eq_true h15]; rfl
      · rw [wordB_no (fun h' => h15 h'.2.2), decide_eq_false h15, Bool.and_false]
    · rw [wordB_no (fun h' => hI h'.2.1), isB_no hI, Bool.false_and])
  generalize wordB m l = R at *
  generalize isB m = ib at *
  generalize m.length = n at *
  generalize hln : l.length = L at *
  have HLN := Lib.hid hln; clear hln
  go_enter Tryz.func10, Tryz.ntmps10
  go_wp2_with fail
  go_loopw [5] (fun i wr => ∃ (k q : Nat), k ≤ L ∧ i = .int .i64 k ∧ wr = w.drewN q ∧ Hid (LetTo n l k)) (fun i _ => L - (intOf i).toNat)
  case atStart => exact ⟨0, 0, Nat.zero_le _, rfl, rfl, Lib.hid (letTo_zero _ _)⟩
  case round =>
    obtain ⟨k, q, hk, rfl, rfl, hs⟩ := hrel
    by_cases hlt : k < L
    · obtain ⟨b, off, rfl, hb, hc⟩ := HL.out.getD hlt
      by_cases hin : 0 ≤ l.getD k 0 ∧ l.getD k 0 ≤ (n : Int) - 1
      · have HST := Lib.hid (letTo_step hs.out hin)
        have HIN := Lib.hid (inB_yes hin)
        clear hin hs
        generalize l.getD k 0 = x at *
        go_wp2_with fail
        refine (l1in_q _ _ _ true HIN.out _ _).mono ?_
        rintro e w' ⟨rfl, nq, rfl⟩
        go_wp2_with fail
        exact ⟨⟨k + 1, q + nq, by omega, by go_num, rfl, HST⟩, by simp [intOf]; omega⟩
      · have HBAD := Lib.hid (HNO.out k hlt hin)
        have HIN := Lib.hid (inB_no hin)
        clear hin hs
        generalize l.getD k 0 = x at *
        go_wp2_with fail
        refine (l1in_q _ _ _ false HIN.out _ _).mono ?_
        rintro e w' ⟨rfl, nq, rfl⟩
        go_wp2_with fail
        go_ret
        exact ⟨ret_boolean HBAD.out.symm, q + nq, rfl⟩
    · obtain rfl : k = L := by omega
      have HE := Lib.hid (HEND.out hs.out)
      have HLK : decide ((k : Int) ≤ 15) = decide (k ≤ 15) := decide_eq_decide.2 (by omega)
      clear HEND HNO hs
      go_wp2_with fail
      refine (HISC.out _ rfl q).mono ?_
      rintro e w' ⟨rfl, nq, rfl⟩
      cases ib
      all_goals
        go_wp2_with fail
        go_ret
        exact ⟨ret_boolean (by rw [HE.out]; first | rfl | (rw [HLK, Bool.true_and])), q + nq, rfl⟩

set_option maxHeartbeats 2000000 in
set_option maxRecDepth 100000 in
theorem cats_any (B B' : Nat) (v v' : Value) (l l' : List Int) (w : World) (h : RowB B w v l) (h' : RowB B' w v' l') (hB : B ≤ w.heap.size) (hB' : B' ≤ w.heap.size) (hl : l.length ≤ 1048576) (hl' : l'.length ≤ 1048576) :
    Calls Tryz.prog 15 #[v, v'] w (MakesS w (l ++ l')) := by
  obtain ⟨a, cap, rfl⟩ := h.slice
  obtain ⟨a', cap', rfl⟩ := h'.slice
  have hb0 : Below w.heap.size w (w.alloc (.cells #[] 3)) := (Below.refl _ _).alloc (Nat.le_refl _) _
  have HL := Lib.hid (h.below hb0 hB)
  have HR := Lib.hid h'
  have hs0 : w.heap.size ≤ (w.alloc (.cells #[] 3)).heap.size := by simp
  have h1 : ([] : List Int).length + l.length ≤ 4194304 := by simp; omega
  have h2 : l.length + l'.length ≤ 4194304 := by omega
  have H1 := Lib.hid h1; have H2 := Lib.hid h2
  clear h h' hb0 h1 h2
  generalize hln : l.length = n at *
  generalize hln' : l'.length = n' at *
  have HLN := Lib.hid hln; have HLN' := Lib.hid hln'
  clear hln hln'
  go_enter Tryz.func15, Tryz.ntmps15
  go_wp2_with (at_builtin; go_must (refine append_intsA (row_empty w) hs0 HL.out (by rw [HLN.out]; exact H1.out) rfl rfl rfl rfl ?_))
  intro v3 w3 hr3 hb3 hz3
  have hr3 : RowI w.heap.size w3.heap.size w3 v3 l := by simpa using hr3
  have hb3' := hb3 w w.heap.size (Nat.le_refl _) ((Below.refl _ _).alloc (Nat.le_refl _) _)
  have HB3 := Lib.hid hb3'
  have hs3 := hb3'.size
  have HR3 := Lib.hid hr3
  have HR' := Lib.hid (HR.out.below hb3' hB')
  clear hb3 hz3 hr3 hb3'
  go_wp2_with (at_builtin; go_must (refine append_intsA HR3.out hs3 HR'.out (by rw [HLN.out, HLN'.out]; exact H2.out) rfl rfl rfl rfl ?_))
  intro v4 w4 hr4 hb4 hz4
  have HR4 := Lib.hid hr4
  have HB4 := Lib.hid (hb4 w w.heap.size (Nat.le_refl _) HB3.out)
  clear hb4 hz4 hr4
  go_wp2_with fail
  go_ret
  exact ⟨_, rfl, ⟨HR4.out, Nat.le_refl _⟩, HB4.out⟩

theorem rev_take {l : List Int} {k : Nat} (h : k < l.length) : (l.drop (k + 1)).reverse ++ [l.getD k 0] = (l.drop k).reverse := by
  rw [List.drop_eq_getElem_cons h, List.reverse_cons]; simp [List.getD, h]
set_option maxHeartbeats 2000000 in
set_option maxRecDepth 100000 in
theorem revs_any (B : Nat) (v : Value) (l : List Int) (w : World) (h : RowB B w v l) (hB : B ≤ w.heap.size) (hl : l.length ≤ 1048576) :
    Calls Tryz.prog 49 #[v] w (MakesS w l.reverse) := by
  obtain ⟨a, cap, rfl⟩ := h.slice
  have HL := Lib.hid h; clear h
  have HST := Lib.hid (fun k (hk : k < l.length) => rev_take hk)
  have HD := Lib.hid (show ∀ k, ((l.drop k).reverse).length ≤ 4194304 from fun k => by simp; omega)
  have H0 := Lib.hid (show (l.drop 0).reverse = l.reverse from rfl)
  have HE := Lib.hid (show ∀ k, l.length ≤ k → (l.drop k).reverse = [] from fun k hk => by rw [List.drop_eq_nil_of_le hk]; rfl)
  generalize hln : l.length = n at *
  have HLN := Lib.hid hln; clear hln
  go_enter Tryz.func49, Tryz.ntmps49
  go_wp2_with fail
  go_loopw [3, 4] (fun o i wr => ∃ (k : Nat) (wq : World), wq = wr ∧ k ≤ n ∧ i = .int .i64 ((k : Int) - 1) ∧ RowI w.heap.size wq.heap.size wq o (l.drop k).reverse ∧ Below w.heap.size w wq) (fun _ i _ => (intOf i + 1).toNat)
  case atStart => exact ⟨n, _, rfl, Nat.le_refl _, rfl, by rw [HE.out n (Nat.le_refl _)]; exact row_empty w, (Below.refl _ _).alloc (Nat.le_refl _) _⟩
  case round =>
    obtain ⟨k, wq, rfl, hk, rfl, hM, hb⟩ := hrel
    have HM := Lib.hid hM; clear hM
    have hsq := hb.size
    have HB := Lib.hid hb; clear hb
    by_cases hlt : 0 < k
    · obtain ⟨j, rfl⟩ : ∃ j, k = j + 1 := ⟨k - 1, by omega⟩
      have e1 : ((j + 1 : Nat) : Int) - 1 = (j : Int) := by omega
      rw [e1]
      clear e1
      obtain ⟨b, off, rfl, hb, hc⟩ := (HL.out.below HB.out hB).getD (j := j) (by omega)
      have HS := Lib.hid (HST.out j (by omega))
      have HRL := Lib.hid (HD.out (j + 1))
      generalize l.getD j 0 = x at *
      go_wp2_with (at_builtin; go_must (refine append_int HM.out hsq x rfl rfl rfl rfl HRL.out ?_; intro v' w3 hr3 hb3 hz3))
      rw [HS.out] at hr3
      have HR3 := Lib.hid hr3
      have HB3 := Lib.hid (hb3 w w.heap.size (Nat.le_refl _) HB.out)
      clear hr3 hb3 hz3
      go_wp2_with fail
      exact ⟨⟨j, _, rfl, by omega, rfl, HR3.out, HB3.out⟩, by simp [intOf]⟩
    · obtain rfl : k = 0 := by omega
      go_wp2_with fail
      go_ret
      have hM := HM.out
      rw [H0.out] at hM
      exact ⟨_, rfl, ⟨hM, Nat.le_refl _⟩, HB.out⟩
end Go.Proofs.YtnlbmnielemgiaaGreat
namespace Go.Proofs.YtnlbmnielemgiaaGreat
open Go.RowKit

def SizeOk (m : List (List Int)) : Prop := (1 ≤ m.length ∧ m.length ≤ 4) ∧ ∀ i, i < m.length → (m.getD i []).length = m.length
open Classical in
noncomputable def sizeB (m : List (List Int)) : Bool := decide (SizeOk m)
open Classical in
theorem sizeB_yes {m : List (List Int)} (h : SizeOk m) : sizeB m = true := decide_eq_true h
open Classical in
theorem sizeB_no {m : List (List Int)} (h : ¬ SizeOk m) : sizeB m = false := decide_eq_false h
open Classical in
noncomputable def okB (m : List (List Int)) (i j : Nat) : Bool := decide (okC m i j)
open Classical in
theorem okB_yes {m : List (List Int)} {i j : Nat} (h : okC m i j) : okB m i j = true := decide_eq_true h
open Classical in
theorem okB_no {m : List (List Int)} {i j : Nat} (h : ¬ okC m i j) : okB m i j = false := decide_eq_false h

set_option maxHeartbeats 1000000 in
theorem ics_any (B : Nat) (v : Value) (m : List (List Int)) (w : World) (h : MatB B w v m) (hf : RowsFit m) :
    Calls Tryz.prog 83 #[v] w fun e w' => e = .returned (.bool (sizeB m)) ∧ w = w' := by
  obtain ⟨a, cap, rfl⟩ := h.slice
  have hl := hf.1
  have HR := Lib.hid h; clear h
  have HF := Lib.hid hf; clear hf
  generalize hn : m.length = n at *
  unfold maxLen at hl
  have HN := Lib.hid hn; clear hn
  by_cases h1 : n < 1
  · have hv := sizeB_no (m := m) (fun h => by have := h.1.1; rw [HN.out] at this; omega)
    have HV := Lib.hid hv; clear hv
    have hd : decide (n < 1) = true := decide_eq_true h1
    go_enter Tryz.func83, Tryz.ntmps83
    go_wp2_with fail
    go_ret
    exact ⟨ret_boolean HV.out.symm, rfl⟩
  · by_cases h4 : 4 < n
    · have hv := sizeB_no (m := m) (fun h => by have := h.1.2; rw [HN.out] at this; omega)
      have HV := Lib.hid hv; clear hv
      go_enter Tryz.func83, Tryz.ntmps83
      go_wp2_with fail
      go_ret
      exact ⟨ret_boolean HV.out.symm, rfl⟩
    · go_enter Tryz.func83, Tryz.ntmps83
      go_wp2_with fail
      go_loop [15] (fun i => ∃ k : Nat, k ≤ n ∧ i = .int .i64 k ∧ Rows0 m n k) (fun i => n - (intOf i).toNat)
      case atStart => exact ⟨0, Nat.zero_le _, rfl, fun i hi => by omega⟩
      case round =>
        obtain ⟨k, hk, rfl, hr⟩ := hrel
        have HRW := Lib.hid hr; clear hr
        by_cases hlt : k < n
        · obtain ⟨b, off, hkl, rfl, hb, ra, rcap, hc, hrow⟩ := HR.out.get hlt
          have hrl := HF.out.2 k hkl
          unfold maxLen at hrl
          have hg := getD_row m k hkl
          clear hrow
          by_cases he : m[k].length = n
          · have hst := rows0_step HRW.out (by rw [hg]; exact he)
            have HST := Lib.hid hst; clear hst hg
            generalize m[k].length = r at *
            have hq : ((r : Int) != (n : Int)) = false := by rw [bne_eq_false_iff_eq]; omega
            have hr1 : r ≤ n := by omega
            have hr2 : n ≤ r := by omega
            clear he
            go_wp2_with fail
            go_round
            case rel => exact ⟨k + 1, by omega, by go_num, HST.out⟩
            case measure => simp [intOf]; omega
          · have hv := sizeB_no (m := m) (fun hi => he (by have := hi.2 k (by rw [HN.out]; exact hlt); rw [hg, HN.out] at this; exact this))
            have HV := Lib.hid hv; clear hv hg
            generalize m[k].length = r at *
            have hq : ((r : Int) != (n : Int)) = true := by rw [bne_iff_ne]; omega
            clear he
            go_wp2_with fail
            go_ret
            exact ⟨ret_boolean HV.out.symm, rfl⟩
        · obtain rfl : n = k := by omega
          have hv := sizeB_yes (m := m) ⟨by rw [HN.out]; omega, by rw [HN.out]; exact HRW.out⟩
          have HV := Lib.hid hv; clear hv
          go_wp2_with fail
          go_ret
          exact ⟨ret_boolean HV.out.symm, rfl⟩

set_option maxHeartbeats 4000000 in
set_option maxRecDepth 100000 in
theorem ice_walk {b off rb roff rcap rb' roff' rcap' n cap p r : Nat} {w : World} {x y : Int} {c : Bool}
    (hl : n ≤ 2 ^ 63 - 1) (hp : p < n) (hr : r < n)
    (hc1 : w.cell? ⟨b, off + p, none⟩ = some (.slice (some ⟨rb, roff, none⟩) n rcap)) (hx1 : w.cell? ⟨rb, roff + r, none⟩ = some (.int .i64 x))
    (hc2 : w.cell? ⟨b, off + r, none⟩ = some (.slice (some ⟨rb', roff', none⟩) n rcap')) (hy1 : w.cell? ⟨rb', roff' + p, none⟩ = some (.int .i64 y))
    (hv : (((p : Int) == (r : Int)) = true ∧ (x == 2) = c) ∨ (((p : Int) == (r : Int)) = false ∧ ((¬ -3 ≤ x ∧ c = false) ∨ (-3 ≤ x ∧ ¬ x ≤ 0 ∧ c = false) ∨ (-3 ≤ x ∧ x ≤ 0 ∧ ((x == 0) == (y == 0)) = c)))) :
    Calls Tryz.prog 84 #[.slice (some ⟨b, off, none⟩) n cap, .int .i64 p, .int .i64 r] w fun e w' => e = .returned (.bool c) ∧ ∃ q, w' = w.drewN q := by
  have H0 := Lib.hid hl; clear hl
  have H1 := Lib.hid hc1; clear hc1
  have H2 := Lib.hid hc2; clear hc2
  have H3 := Lib.hid hx1; clear hx1
  have H4 := Lib.hid hy1; clear hy1
  have H5 := Lib.hid hp; clear hp
  have H6 := Lib.hid hr; clear hr
  have HV := Lib.hid hv; clear hv
  go_enter Tryz.func84, Tryz.ntmps84
  go_wp2_with fail
  have hl := H0.out
  have hp := H5.out
  have hr := H6.out
  have hc1 := H1.out
  have hc2 := H2.out
  have hx1 := H3.out
  have hy1 := H4.out
  go_quiet (fail)
  rcases HV.out with ⟨h1, h2⟩ | ⟨h1, ⟨h2, rfl⟩ | ⟨h2, h3, rfl⟩ | ⟨h2, h3, h4⟩⟩
  · go_wp2_with fail
    go_ret
    exact ⟨rfl, _, rfl⟩
  · have h2' : decide (-3 ≤ x) = false := decide_eq_false (by omega)
    go_wp2_with fail
    go_ret
    exact ⟨rfl, _, rfl⟩
  · have h2' : decide (-3 ≤ x) = true := decide_eq_true (by omega)
    have h3' : decide (x ≤ 0) = false := decide_eq_false (by omega)
    go_wp2_with fail
    go_ret
    exact ⟨rfl, _, rfl⟩
  · have h2' : decide (-3 ≤ x) = true := decide_eq_true (by omega)
    have h3' : decide (x ≤ 0) = true := decide_eq_true (by omega)
    have HQ := Lib.hid h4; clear h4
    go_wp2_with fail
    go_ret
    exact ⟨ret_boolean HQ.out, _, rfl⟩

theorem ice_any (B : Nat) (a : Option Addr) (n cap : Nat) (m : List (List Int)) (p r : Nat) (w : World) (h : MatB B w (.slice a n cap) m) (hrows : Rows0 m n n) (hl : n ≤ 2 ^ 63 - 1) (hp : p < n) (hr : r < n) :
    Calls Tryz.prog 84 #[.slice a n cap, .int .i64 p, .int .i64 r] w fun e w' => e = .returned (.bool (okB m p r)) ∧ ∃ q, w' = w.drewN q := by
  obtain ⟨b, off, rb, roff, rcap, rfl, hc1, hx1⟩ := h.entry hrows hp hr
  obtain ⟨b', off', rb', roff', rcap', hab, hc2, hy1⟩ := h.entry hrows hr hp
  injection hab with hab
  injection hab with hab1 hab2
  subst hab1
  subst hab2
  refine ice_walk hl hp hr hc1 hx1 hc2 hy1 ?_
  by_cases hpr : p = r
  · left
    subst hpr
    refine ⟨by simp, ?_⟩
    by_cases h2 : entry m p p = 2
    · rw [okB_yes (Or.inl ⟨rfl, h2⟩)]; simp [h2]
    · rw [okB_no (fun h => by rcases h with h | h; exact h2 h.2; exact h.1 rfl)]; simp [h2]
  · right
    refine ⟨by rw [beq_eq_false_iff_ne]; omega, ?_⟩
    by_cases h1 : -3 ≤ entry m p r
    · by_cases h2 : entry m p r ≤ 0
      · right; right
        refine ⟨h1, h2, ?_⟩
        by_cases h3 : entry m p r = 0 ↔ entry m r p = 0
        · rw [okB_yes (Or.inr ⟨hpr, ⟨h1, h2⟩, h3⟩), beq_iff_eq, Bool.eq_iff_iff, beq_iff_eq, beq_iff_eq]; exact h3
        · rw [okB_no (fun h => by rcases h with h | h; exact hpr h.1; exact h3 h.2.2), beq_eq_false_iff_ne]
          intro e; rw [Bool.eq_iff_iff, beq_iff_eq, beq_iff_eq] at e; exact h3 e
      · right; left
        exact ⟨h1, h2, okB_no (fun h => by rcases h with h | h; exact hpr h.1; exact h2 h.2.1.2)⟩
    · left
      exact ⟨h1, okB_no (fun h => by rcases h with h | h; exact hpr h.1; exact h1 h.2.1.1)⟩

set_option maxHeartbeats 2000000 in
set_option maxRecDepth 100000 in
theorem icm_any (B : Nat) (v : Value) (m : List (List Int)) (w : World) (h : MatB B w v m) (hf : RowsFit m) :
    Calls Tryz.prog 66 #[v] w fun e w' => e = .returned (.bool (isB m)) ∧ ∃ q, w' = w.drewN q := by
  have hz := ics_any B v m w h hf
  have HZ := Lib.hid hz; clear hz
  obtain ⟨a, cap, rfl⟩ := h.slice
  by_cases hs : SizeOk m
  · have hsz := sizeB_yes hs
    rw [hsz] at HZ
    clear hsz
    have hl := hf.1
    have hrows : Rows0 m m.length m.length := hs.2
    have hb4 := hs.1
    have HS := Lib.hid hs; clear hs hf
    have HR := Lib.hid h; clear h
    have HRW := Lib.hid hrows; clear hrows
    generalize hn : m.length = n at *
    unfold maxLen at hl
    have HN := Lib.hid hn; clear hn
    go_enter Tryz.func66, Tryz.ntmps66
    go_wp2_with fail
    refine HZ.out.mono ?_
    rintro e w' ⟨rfl, rfl⟩
    go_wp2_with fail
    go_loopw [10] (fun i wr => ∃ (k q : Nat), k ≤ n ∧ i = .int .i64 k ∧ wr = w.drewN q ∧ Ok0 m n k 0) (fun i _ => n - (intOf i).toNat)
    case atStart => exact ⟨0, 0, Nat.zero_le _, rfl, rfl, fun i c hi _ => by omega, fun c hc => by omega⟩
    case round =>
      obtain ⟨k, q, hk2, rfl, rfl, ho⟩ := hrel
      have HO := Lib.hid ho; clear ho
      by_cases hkn : k < n
      · go_wp2_with fail
        go_loopw [15] (fun i wr => ∃ (j q : Nat), j ≤ n ∧ i = .int .i64 j ∧ wr = w.drewN q ∧ Ok0 m n k j) (fun i _ => n - (intOf i).toNat)
        case atStart => exact ⟨0, q, Nat.zero_le _, rfl, rfl, HO.out⟩
        case round =>
          obtain ⟨j, q2, hj, rfl, rfl, hoj⟩ := hrel
          have HOJ := Lib.hid hoj; clear hoj
          by_cases hjn : j < n
          · have hcon : Calls Tryz.prog 84 #[.slice a n cap, .int .i64 k, .int .i64 j] (w.drewN q2) fun e w' => e = .returned (.bool (okB m k j)) ∧ ∃ q, w' = (w.drewN q2).drewN q :=
              ice_any B a n cap m k j (w.drewN q2) HR.out HRW.out hl hkn hjn
            by_cases hok : okC m k j
            · rw [okB_yes hok] at hcon
              have HST := Lib.hid (ok0_step HOJ.out hok); clear hok
              have HCON := Lib.hid hcon; clear hcon
              go_wp2_with fail
              refine HCON.out.mono ?_
              rintro e w' ⟨rfl, q3, rfl⟩
              go_wp2_with fail
              exact ⟨⟨j + 1, q2 + q3, by omega, by go_num, rfl, HST.out⟩, by simp [intOf]; omega⟩
            · rw [okB_no hok] at hcon
              have HCON := Lib.hid hcon; clear hcon
              have HV := Lib.hid (isB_no (m := m) (fun h => hok (h.2.1 k j (by rw [HN.out]; exact hkn) (by rw [HN.out]; exact hjn)))); clear hok
              go_wp2_with fail
              refine HCON.out.mono ?_
              rintro e w' ⟨rfl, q3, rfl⟩
              go_wp2_with fail
              go_ret
              exact ⟨ret_boolean HV.out.symm, q2 + q3, rfl⟩
          · obtain rfl : n = j := by omega
            go_wp2_with fail
            exact ⟨⟨k + 1, q2, by omega, by go_num, rfl, ok0_row HOJ.out⟩, by simp [intOf]; omega⟩
      · obtain rfl : n = k := by omega
        have HV := Lib.hid (isB_yes (m := m) ⟨HS.out.2, by rw [HN.out]; exact HO.out.1, by rw [HN.out]; exact hb4.1, by rw [HN.out]; exact hb4.2⟩)
        go_wp2_with fail
        go_ret
        exact ⟨ret_boolean HV.out.symm, _, rfl⟩
  · have hsz := sizeB_no hs
    rw [hsz] at HZ
    have HV := Lib.hid (isB_no (m := m) (fun h => hs ⟨h.2.2, h.1⟩))
    clear hsz hs h hf
    generalize m.length = n at *
    go_enter Tryz.func66, Tryz.ntmps66
    go_wp2_with fail
    refine HZ.out.mono ?_
    rintro e w' ⟨rfl, rfl⟩
    go_wp2_with fail
    go_ret
    exact ⟨ret_boolean HV.out.symm, 0, rfl⟩
end Go.Proofs.YtnlbmnielemgiaaGreat
namespace Go.Proofs.YtnlbmnielemgiaaGreat
open Go.RowKit

def colR (m : List (List Int)) (n k : Nat) : List Int := (List.range n).map fun j => entry m j k
def trN (m : List (List Int)) (n : Nat) : List (List Int) := (List.range n).map fun i => colR m n i
noncomputable def trM (m : List (List Int)) : List (List Int) := if isB m = true then trN m m.length else []
theorem trM_yes {m : List (List Int)} (h : IsC m) : trM m = trN m m.length := if_pos (isB_yes h)
theorem trM_no {m : List (List Int)} (h : ¬ IsC m) : trM m = [] := by unfold trM; rw [isB_no h]; rfl
theorem colR_len (m : List (List Int)) (n k : Nat) : (colR m n k).length = n := by simp [colR]
theorem trN_len (m : List (List Int)) (n : Nat) : (trN m n).length = n := by simp [trN]
theorem colR_step (m : List (List Int)) (n k c : Nat) (h : c < n) : (colR m n k).take c ++ [entry m c k] = (colR m n k).take (c + 1) := by
  rw [List.take_succ_eq_append_getElem (by rw [colR_len]; exact h)]; simp [colR]
theorem trN_step (m : List (List Int)) (n k : Nat) (h : k < n) : (trN m n).take k ++ [colR m n k] = (trN m n).take (k + 1) := by
  rw [List.take_succ_eq_append_getElem (by rw [trN_len]; exact h)]; simp [trN]
theorem colR_end (m : List (List Int)) (n k : Nat) : (colR m n k).take n = colR m n k := List.take_of_length_le (by rw [colR_len]; exact Nat.le_refl _)
theorem trN_end (m : List (List Int)) (n : Nat) : (trN m n).take n = trN m n := List.take_of_length_le (by rw [trN_len]; exact Nat.le_refl _)
theorem isc_w (B : Nat) (v : Value) (m : List (List Int)) (c : Bool) (hc : isB m = c) (w : World) (h : MatB B w v m) (hf : RowsFit m) :
    Calls Tryz.prog 38 #[v] w fun e w' => e = .returned (.bool c) ∧ Below w.heap.size w w' :=
  (isc_0 B v m c hc w h hf).mono fun e w' ⟨h1, q, h2⟩ => ⟨h1, by rw [h2]; exact below_drewN q⟩
theorem icm_w (B : Nat) (v : Value) (m : List (List Int)) (c : Bool) (hc : isB m = c) (w : World) (h : MatB B w v m) (hf : RowsFit m) :
    Calls Tryz.prog 66 #[v] w fun e w' => e = .returned (.bool c) ∧ Below w.heap.size w w' :=
  (icm_any B v m w h hf).mono fun e w' ⟨h1, q, h2⟩ => ⟨by rw [h1]; exact ret_boolean hc, by rw [h2]; exact below_drewN q⟩
theorem makesM_nil {w w' : World} {x : Value} {m : List (List Int)} (hm : m = []) (h : MatI w.heap.size w'.heap.size w' x []) (hb : Below w.heap.size w w') : MakesM w m (.returned x) w' :=
  ⟨x, rfl, by rw [hm]; exact ⟨h, Nat.le_refl _⟩, hb⟩

end Go.Proofs.YtnlbmnielemgiaaGreat
namespace Go.Proofs.YtnlbmnielemgiaaGreat
open Go.RowKit

/-- A row of a square matrix: its header and its cells. -/
theorem MatB.line {B : Nat} {w : World} {a : Option Addr} {n cap : Nat} {m : List (List Int)} (h : MatB B w (.slice a n cap) m) (hr : Rows0 m n n) {i : Nat} (hi : i < n) :
    ∃ b off rb roff rcap, a = some ⟨b, off, none⟩ ∧ b < B ∧ rb < B ∧ w.cell? ⟨b, off + i, none⟩ = some (.slice (some ⟨rb, roff, none⟩) n rcap) ∧ ∀ j, j < n → w.cell? ⟨rb, roff + j, none⟩ = some (.int .i64 (Go.Proofs.YtnlbmnielemgiaaGreat.entry m i j)) := by
  obtain ⟨b, off, hil, rfl, hb, ra, rcap, hc, hrow⟩ := h.get hi
  have hg := getD_row m i hil
  have hlen : m[i].length = n := by rw [← hg]; exact hr i hi
  rw [hlen] at hc hrow
  obtain ⟨rb, roff, hjl, rfl, hrb, _⟩ := hrow.get (j := 0) (by omega)
  refine ⟨b, off, rb, roff, rcap, rfl, hb, hrb, hc, fun j hj => ?_⟩
  obtain ⟨rb', roff', hjl', he, _, hcell⟩ := hrow.get hj
  injection he with he
  injection he with he1 he2
  subst he1
  subst he2
  rw [hcell]
  unfold Go.Proofs.YtnlbmnielemgiaaGreat.entry
  rw [hg]
  simp [List.getD, hjl']

end Go.Proofs.YtnlbmnielemgiaaGreat
