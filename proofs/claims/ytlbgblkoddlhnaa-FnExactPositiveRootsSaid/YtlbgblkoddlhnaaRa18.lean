/-
  Roots: what the model's RootsUpTo returns.
-/
import Derived.Deep.QuietTactic
import Derived.Test.YtlbgblkoddlhnaaRa17
namespace Go.Proofs.Ytlbgblkoddlhnaa
open Go.RowKit

def RutOk (m : List (List Int)) (h : Int) : Prop := IsC m ∧ 1 ≤ h ∧ h ≤ 12
open Classical in
noncomputable def rutL (m : List (List Int)) (h : Int) : List (List Int) := if hx : RutOk m h ∧ ∃ L, IsRoots m h L then Classical.choose hx.2 else []
theorem rutL_is {m : List (List Int)} {h : Int} {L : List (List Int)} (hok : RutOk m h) (hL : IsRoots m h L) : rutL m h = L := by
  have hx : RutOk m h ∧ ∃ L, IsRoots m h L := ⟨hok, L, hL⟩
  unfold rutL
  rw [dif_pos hx]
  exact isRoots_same (Classical.choose_spec hx.2) hL
theorem rutL_no {m : List (List Int)} {h : Int} (hok : ¬ RutOk m h) : rutL m h = [] := by
  unfold rutL
  rw [dif_neg (fun hx => hok hx.1)]
theorem isRoots_low {m : List (List Int)} {h : Int} {L : List (List Int)} (hok : RutOk m h) (hL : IsRoots m h L) : ∀ r ∈ L, Low m.length r := fun r hr => asc_low hok.1 hok.2.2 ((hL.2 r).1 hr)
theorem rutL_low (m : List (List Int)) (h : Int) : (rutL m h).length ≤ 28561 ∧ ∀ r ∈ rutL m h, r.length ≤ 4 := by
  by_cases hx : RutOk m h ∧ ∃ L, IsRoots m h L
  · obtain ⟨hok, L, hL⟩ := hx
    rw [rutL_is hok hL]
    have h4 := hok.1.2.2.2
    exact ⟨low_count h4 (ordd_nodup hL.1) (isRoots_low hok hL), fun r hr => by rw [(isRoots_low hok hL r hr).1]; exact h4⟩
  · unfold rutL
    rw [dif_neg hx]
    exact ⟨by simp, fun r hr => absurd hr (by simp)⟩
theorem sum_le_c {c : Nat} : ∀ {L : List (List Int)}, (∀ r ∈ L, r.length ≤ c) → (L.map List.length).sum ≤ c * L.length
  | [], _ => by simp
  | a :: L, h => by
    have h1 := sum_le_c (L := L) (fun r hr => h r (List.mem_cons_of_mem _ hr))
    have h2 := h a (List.mem_cons_self ..)
    simp only [List.map_cons, List.sum_cons, List.length_cons]
    rw [Nat.mul_add, Nat.mul_one]; omega
theorem rutL_small (m : List (List Int)) (h : Int) : szSum (rutL m h) ≤ 1048576 := by
  have h1 := rutL_low m h
  have h2 := sum_le_c h1.2
  unfold szSum
  omega
theorem rtI_mem {m : List (List Int)} {h : Int} {L : List (List Int)} {k i : Nat} (hI : RtI m h L k i) (hk : k < L.length) : Asc m h (L.getD k []) := by
  have e : L.getD k [] = L[k] := by simp [List.getD, hk]
  rw [e]; exact hI.sub _ (List.getElem_mem hk)
theorem rtB_low {m L : List (List Int)} {i : Nat} (h : RtB m L i) (_hi : i ≤ m.length) : ∀ r ∈ L, r.length = m.length := fun r hr => by
  obtain ⟨j, _, e⟩ := (h.2 r).1 hr
  rw [e, unitR_len]

theorem quiet_one {P : Program} {f : FuncId} {args : Array Value} {w : World} {v : Value} (h : ∀ x, Calls P f args (w.drewN x) fun e w' => e = .returned v ∧ ∃ m, w' = (w.drewN x).drewN m) (n : Nat) :
    Calls P f args (w.drewN n) fun e w'' => e = .returned v ∧ ∃ m, w'' = w.drewN m :=
  (h n).mono fun _ _ ⟨he, m, hm⟩ => ⟨he, n + m, by rw [hm, World.drewN_drewN]⟩
theorem hgts_q (B : Nat) (v : Value) (l : List Int) (w : World) (h : RowB B w v l) (hl : l.length ≤ maxLen) (q : Nat) :
    Calls Try.prog 34 #[v] (w.drewN q) fun e w' => e = .returned (.int .i64 (hgtL l)) ∧ ∃ n, w' = (w.drewN q).drewN n :=
  (hgts_any B v l (w.drewN q) (h.drewN q) hl).mono fun _e _w' ⟨h1, h2⟩ => ⟨h1, 0, h2⟩
theorem sgns_q (B : Nat) (v : Value) (l : List Int) (w : World) (h : RowB B w v l) (hl : l.length ≤ maxLen) (q : Nat) :
    Calls Try.prog 36 #[v] (w.drewN q) fun e w' => e = .returned (.int .i64 (sgnL l)) ∧ ∃ n, w' = (w.drewN q).drewN n :=
  (sgns_any B v l (w.drewN q) (h.drewN q) hl).mono fun _e _w' ⟨h1, h2⟩ => ⟨h1, 0, h2⟩
theorem MatB.drewN7 {B : Nat} {w : World} {v : Value} {m : List (List Int)} (h : MatB B w v m) (q : Nat) : MatB B (w.drewN q) v m := h
theorem ins_q (B B' : Nat) (v v' : Value) (L : List (List Int)) (r : List Int) (w : World) (h : MatB B w v L) (h' : RowB B' w v' r) (hf : RowsFit L) (hr : r.length ≤ maxLen) (q : Nat) :
    Calls Try.prog 62 #[v, v'] (w.drewN q) fun e w' => e = .returned (.bool (inRB L r)) ∧ ∃ n, w' = (w.drewN q).drewN n :=
  ins_any B B' v v' L r (w.drewN q) (h.drewN7 q) (h'.drewN q) hf hr

set_option maxHeartbeats 16000000 in
set_option maxRecDepth 100000 in
theorem ruts_yes (B : Nat) (v : Value) (m : List (List Int)) (h : Int) (w : World) (hM : MatB B w v m) (hB : B ≤ w.heap.size) (hf : RowsFit m) (hok : RutOk m h) :
    Calls Try.prog 41 #[v, .int .i64 h] w fun e w' => MakesK w (rutL m h) e w' ∧ IsRoots m h (rutL m h) := by
  have hI := hok.1
  have hn4 := hI.2.2.2
  have h12 := hok.2.2
  have hb0 : Below w.heap.size w (w.alloc (.cells #[] 23)) := (Below.refl _ _).alloc (Nat.le_refl _) _
  have HC := Lib.hid (isc_w B v m true (isB_yes hI) _ (hM.below hb0 hB) hf)
  have HIN := Lib.hid (inB_yes (x := h) (a := 1) (b := 12) hok.2)
  have HSI := Lib.hid (fun (i : Nat) (hi : i < m.length) (wx : World) (hb : Below w.heap.size w wx) => show Calls Try.prog 32 #[v, .int .i64 i] wx (MakesS wx (unitR m.length i)) from by
    have h1 := sims_any B v m i wx (hM.below hb hB) (Nat.le_trans hB hb.size) hf
    rw [simR_yes ⟨hI, by omega, by omega⟩] at h1
    simpa using h1)
  have HPT := Lib.hid (fun (o x : Value) (L : List (List Int)) (r : List Int) (wx : World) (hb : w.heap.size ≤ wx.heap.size) (ho : MatA w.heap.size w.heap.size wx o L) (hx : RowB wx.heap.size wx x r) (hl : L.length ≤ 28561) (hf : ∀ x ∈ L, x.length = m.length) (hr : r.length = m.length) =>
    puts_any w.heap.size wx.heap.size o x L r wx ho hx hb (Nat.le_refl _) (by omega) (fun x hx => by rw [hf x hx]; exact hn4) (by rw [hr]; exact hn4))
  have HRF := Lib.hid (fun (x : Value) (l : List Int) (i : Nat) (wx : World) (hb : Below w.heap.size w wx) (hx : RowB wx.heap.size wx x l) (hl : l.length = m.length) (hi : i < m.length) => l7r_any B wx.heap.size v x m l i wx (hM.below hb hB) hx (Nat.le_trans hB hb.size) (Nat.le_refl _) hI hl hi)
  have HBS := Lib.hid (fun (L : List (List Int)) (i : Nat) (hi : i < m.length) (hb : RtB m L i) => rtB_step hb hi)
  have HBL := Lib.hid (fun (L : List (List Int)) (i : Nat) (hi : i ≤ m.length) (hb : RtB m L i) => (⟨rtB_len hb hi hn4, rtB_low hb hi⟩ : L.length ≤ 28561 ∧ ∀ r ∈ L, r.length = m.length))
  have HBE := Lib.hid (fun (L : List (List Int)) (hb : RtB m L m.length) => rtB_end (h := h) hb)
  have HIL := Lib.hid (fun (L : List (List Int)) (k i : Nat) (hi : RtI m h L k i) => (⟨rtI_count hI h12 hi, fun r hr => (asc_low hI h12 (hi.sub r hr)).1⟩ : L.length ≤ 28561 ∧ ∀ r ∈ L, r.length = m.length))
  have HIT := Lib.hid (fun (L : List (List Int)) (k : Nat) (hi : RtI m h L k m.length) => rtI_turn hi)
  have HIS := Lib.hid (fun (L : List (List Int)) (k i : Nat) (hi : RtI m h L k i) hn => rtI_skip hi hn)
  have HIP := Lib.hid (fun (L : List (List Int)) (k i : Nat) (hi : RtI m h L k i) (hk : k < L.length) (him : i < m.length) h1 h2 h3 h4 => rtI_put hI h12 hi hk him h1 h2 h3 h4)
  have HIE := Lib.hid (fun (L : List (List Int)) (k : Nat) (hi : RtI m h L k 0) (hk : L.length ≤ k) => (⟨rutL_is hok (rtI_end hi hk), rtI_end hi hk⟩ : rutL m h = L ∧ IsRoots m h L))
  have HRL := Lib.hid (fun (l : List Int) (i : Nat) => rflR_len m i l)
  have HUL := Lib.hid (fun (i : Nat) => unitR_len m.length i)
  obtain ⟨a, cap, rfl⟩ := hM.slice
  clear hM hf hok hI hb0
  generalize rutL m h = R at *
  generalize hn : m.length = n at *
  have HN := Lib.hid hn; clear hn
  go_enter Try.func41, Try.ntmps41
  go_wp2_with fail
  refine HC.out.mono ?_
  rintro e w1 ⟨rfl, hb1⟩
  have hba : Below w.heap.size w w1 := ((Below.refl w.heap.size w).alloc (Nat.le_refl _) _).trans (hb1.mono (by simp))
  have HB1 := Lib.hid hba
  have HM1 := Lib.hid ((MatA.empty w.heap.size w).step hb1)
  clear hb1 hba
  go_wp2_with fail
  refine (l1in_c _ _ _ true HIN.out _).mono ?_
  rintro e w' ⟨rfl, rfl⟩
  go_wp2_with fail
  go_loopw [5, 6] (fun o i wr => ∃ (k : Nat) (L : List (List Int)) (wq : World), wq = wr ∧ k ≤ n ∧ i = .int .i64 k ∧ RtB m L k ∧ MatA w.heap.size w.heap.size wq o L ∧ Below w.heap.size w wq) (fun _ i _ => n - (intOf i).toNat)
  case atStart => exact ⟨0, [], _, rfl, Nat.zero_le _, rfl, rtB_zero m, HM1.out, HB1.out⟩
  case round =>
    obtain ⟨k, L, wq, rfl, hk, rfl, hB0, hM, hb⟩ := hrel
    have hsq := hb.size
    have HM := Lib.hid hM; have HB := Lib.hid hb; have HB0 := Lib.hid hB0
    clear hM hb hB0
    by_cases hlt : k < n
    · have hlt' : decide (k < n) = true := decide_eq_true hlt
      have HSK := Lib.hid (HSI.out k hlt wq HB.out)
      go_wp2_with fail
      refine HSK.out.mono ?_
      rintro e w2 ⟨x, rfl, hx, hb2⟩
      have hbl := HBL.out L k (by omega) HB0.out
      have hM2 := HM.out.step hb2
      have HB2 := Lib.hid (HB.out.trans (hb2.mono hsq))
      have hs2 : w.heap.size ≤ w2.heap.size := HB2.out.size
      have HPK := Lib.hid (HPT.out u5 x L (unitR n k) w2 hs2 hM2 hx.rowB hbl.1 hbl.2 (HUL.out k))
      clear hx hb2 hM2 hbl
      go_wp2_with fail
      refine HPK.out.mono ?_
      rintro e w3 ⟨y, rfl, hy, hb3⟩
      have HY := Lib.hid (hy.mono (Nat.le_refl _) hs2)
      have HB3 := Lib.hid (HB2.out.trans (hb3.mono hs2))
      have HST := Lib.hid (HBS.out L k hlt HB0.out)
      clear hy hb3
      go_wp2_with fail
      exact ⟨⟨k + 1, _, _, rfl, by omega, by go_num, HST.out, HY.out, HB3.out⟩, by simp [intOf]; omega⟩
    · obtain rfl : k = n := by omega
      have hlt' : decide (k < k) = false := by simp
      have HI0 := Lib.hid (HBE.out L HB0.out)
      clear HSI HBS HBL HBE HB0 HM1 HB1
      go_wp2_with fail
      go_loopw [5, 7] (fun o i wr => ∃ (k' : Nat) (L : List (List Int)) (wq : World), wq = wr ∧ i = .int .i64 k' ∧ k' ≤ L.length ∧ RtI m h L k' 0 ∧ MatA w.heap.size w.heap.size wq o L ∧ Below w.heap.size w wq) (fun _ i _ => 28562 - (intOf i).toNat)
      case atStart => exact ⟨0, L, _, rfl, rfl, Nat.zero_le _, HI0.out, HM.out, HB.out⟩
      case round =>
        obtain ⟨k', L, wq, rfl, rfl, hk', hI, hM, hb⟩ := hrel
        have hsq := hb.size
        have HM := Lib.hid hM; have HB := Lib.hid hb; have HI := Lib.hid hI
        have hll := (HIL.out L k' 0 hI).1
        obtain ⟨oa, ocap, rfl⟩ := hM.slice
        clear hM hb hI
        by_cases hlt : k' < L.length
        · have HKL := Lib.hid hlt
          generalize hLn : L.length = Ln at *
          have HLN := Lib.hid hLn; clear hLn
          have hlt' : decide (k' < Ln) = true := decide_eq_true hlt
          go_wp2_with fail
          go_loopw [5, 8] (fun o i wr => ∃ (j : Nat) (L : List (List Int)) (wq : World), wq = wr ∧ i = .int .i64 j ∧ j ≤ k ∧ k' < L.length ∧ RtI m h L k' j ∧ MatA w.heap.size w.heap.size wq o L ∧ Below w.heap.size w wq) (fun _ i _ => k - (intOf i).toNat)
          case atStart => exact ⟨0, L, _, rfl, rfl, Nat.zero_le _, by rw [HLN.out]; exact hlt, HI.out, HM.out, HB.out⟩
          case round =>
            obtain ⟨j, L, wq, rfl, rfl, hj, hkl, hI, hM, hb⟩ := hrel
            have hsq := hb.size
            have hill := HIL.out L k' j hI
            have HM := Lib.hid hM; have HB := Lib.hid hb; have HI := Lib.hid hI; have HKL := Lib.hid hkl
            obtain ⟨oa, ocap, rfl⟩ := hM.slice
            clear hM hb hI HLN
            by_cases hlt2 : j < k
            · have hlt2' : decide (j < k) = true := decide_eq_true hlt2
              obtain ⟨g, ra, rcap, _, rfl, hg, hc, hrow⟩ := HM.out.rowA hkl
              have hlk : (L.getD k' []).length = k := by
                have e : L.getD k' [] = L[k'] := by simp [List.getD, hkl]
                rw [e]; exact hill.2 _ (List.getElem_mem hkl)
              have HRR := Lib.hid hrow
              have HLK := Lib.hid hlk
              rw [hlk] at hc hrow
              have HCC := Lib.hid hc
              have HRX := Lib.hid (HRF.out _ (L.getD k' []) j wq HB.out hrow.rowB hlk hlt2)
              have HRLX := Lib.hid ((HRL.out (L.getD k' []) j).trans hlk)
              clear hlk hrow
              generalize hLn : L.length = Ln at *
              have HLN := Lib.hid hLn; clear hLn
              go_wp2_with fail
              refine HRX.out.mono ?_
              rintro e w3 ⟨x, rfl, hx, hb3⟩
              have HX := Lib.hid hx
              have HB3 := Lib.hid (HB.out.trans (hb3.mono hsq))
              have HM3 := Lib.hid (HM.out.step hb3)
              have hs3 : w.heap.size ≤ w3.heap.size := HB3.out.size
              have hc3 := (hb3.cell (p := ⟨g, k', none⟩) hg).trans hc
              have hrl4 : (rflR m j (L.getD k' [])).length ≤ maxLen := by rw [HRLX.out]; unfold maxLen; omega
              have HS := Lib.hid (sgns_q _ x _ w3 hx.rowB hrl4)
              have HH1 := Lib.hid (hgts_q _ x _ w3 hx.rowB hrl4)
              have HH2 := Lib.hid (hgts_q _ _ (L.getD k' []) w3 (HRR.out.step hb3).rowB (by rw [HLK.out]; unfold maxLen; omega))
              have HNI := Lib.hid (ins_q _ _ _ x L (rflR m j (L.getD k' [])) w3 HM3.out.matB hx.rowB ⟨by rw [HLN.out]; unfold maxLen; omega, fun i hi => by rw [hill.2 _ (List.getElem_mem hi)]; unfold maxLen; omega⟩ hrl4)
              have HMEM := Lib.hid (show inRB L (rflR m j (L.getD k' [])) = decide (rflR m j (L.getD k' []) ∈ L) from rfl)
              rw [HLK.out] at HH2
              clear hx hb3 hc hrl4
              generalize hrr : rflR m j (L.getD k' []) = r at *
              have HRR' := Lib.hid hrr; clear hrr
              generalize hss : sgnL r = s at *
              generalize hhr : hgtL r = hr at *
              generalize hhk : hgtL (L.getD k' []) = hk0 at *
              generalize hii : inRB L r = ib at *
              have HSS := Lib.hid hss; have HHR := Lib.hid hhr; have HHK := Lib.hid hhk
              clear hss hhr hhk hii
              by_cases c1 : 0 < s
              · have d1 : decide (0 < s) = true := decide_eq_true c1
                by_cases c2 : hr ≤ h
                · have d2 : decide (hr ≤ h) = true := decide_eq_true c2
                  cases ib with
                  | true =>
                    have HIN' := Lib.hid (of_decide_eq_true HMEM.out.symm)
                    have HSK := Lib.hid (HIS.out L k' j HI.out (by rw [HRR'.out]; exact fun h => h.2.2.1 HIN'.out))
                    clear HIS HIP HPT
                    go_wp2_with fail
                    go_quiet (first | (go_at_call 36; exact quiet_one HS.out _) | (go_at_call 62; exact quiet_one HNI.out _) | (go_at_call 34; first | (with_reducible exact quiet_one HH1.out _) | (with_reducible exact quiet_one HH2.out _)))
                    go_wp2_with fail
                    exact ⟨⟨j + 1, L, _, rfl, by go_num, by omega, by rw [HLN.out]; exact hkl, HSK.out, by have := HM3.out.step (below_drewN nq); exact this, HB3.out.trans ((below_drewN (w := w3) nq).mono HB3.out.size)⟩, by simp [intOf]; omega⟩
                  | false =>
                    have HIN' := Lib.hid (of_decide_eq_false HMEM.out.symm)
                    by_cases c3 : hk0 < hr
                    · have d3 : decide (hk0 < hr) = true := decide_eq_true c3
                      have HNEW := Lib.hid (HIP.out L k' j HI.out (by rw [HLN.out]; exact hkl) hlt2 (by rw [HRR'.out, HSS.out]; exact c1) (by rw [HRR'.out, HHR.out]; exact c2) (by rw [HRR'.out]; exact HIN'.out) (by rw [HRR'.out, HHR.out, HHK.out]; exact c3))
                      rw [HRR'.out] at HNEW
                      clear HIS HIP c1 c2 c3 HMEM
                      go_wp2_with fail
                      go_quiet (first | (go_at_call 36; exact quiet_one HS.out _) | (go_at_call 62; exact quiet_one HNI.out _) | (go_at_call 34; first | (with_reducible exact quiet_one HH1.out _) | (with_reducible exact quiet_one HH2.out _)))
                      have HPX := Lib.hid (HPT.out (.slice (some ⟨g, 0, none⟩) Ln ocap) x L r (w3.drewN nq) hs3 (HM3.out.step (below_drewN nq)) (HX.out.1.step (below_drewN nq)).rowB (by rw [HLN.out]; exact hill.1) hill.2 HRLX.out)
                      have HB4 := Lib.hid (HB3.out.trans ((below_drewN (w := w3) nq).mono hs3))
                      go_wp2_with fail
                      refine HPX.out.mono ?_
                      rintro e w5 ⟨y, rfl, hy, hb5⟩
                      have HY := Lib.hid (hy.mono (Nat.le_refl _) hs3)
                      have HB5 := Lib.hid (HB4.out.trans (hb5.mono hs3))
                      clear hy hb5
                      go_wp2_with fail
                      exact ⟨⟨j + 1, putR L r, _, rfl, by go_num, by omega, by rw [putR_len, HLN.out]; omega, HNEW.out, HY.out, HB5.out⟩, by simp [intOf]; omega⟩
                    · have d3 : decide (hk0 < hr) = false := decide_eq_false c3
                      have HSK := Lib.hid (HIS.out L k' j HI.out (by rw [HRR'.out, HHR.out, HHK.out]; exact fun h => c3 h.2.2.2))
                      clear HIS HIP HPT
                      go_wp2_with fail
                      go_quiet (first | (go_at_call 36; exact quiet_one HS.out _) | (go_at_call 62; exact quiet_one HNI.out _) | (go_at_call 34; first | (with_reducible exact quiet_one HH1.out _) | (with_reducible exact quiet_one HH2.out _)))
                      go_wp2_with fail
                      exact ⟨⟨j + 1, L, _, rfl, by go_num, by omega, by rw [HLN.out]; exact hkl, HSK.out, HM3.out.step (below_drewN nq), HB3.out.trans ((below_drewN (w := w3) nq).mono HB3.out.size)⟩, by simp [intOf]; omega⟩
                · have d2 : decide (hr ≤ h) = false := decide_eq_false c2
                  have HSK := Lib.hid (HIS.out L k' j HI.out (by rw [HRR'.out, HHR.out]; exact fun h => c2 h.2.1))
                  clear HIS HIP HPT
                  go_wp2_with fail
                  go_quiet (first | (go_at_call 36; exact quiet_one HS.out _) | (go_at_call 62; exact quiet_one HNI.out _) | (go_at_call 34; first | (with_reducible exact quiet_one HH1.out _) | (with_reducible exact quiet_one HH2.out _)))
                  go_wp2_with fail
                  exact ⟨⟨j + 1, L, _, rfl, by go_num, by omega, by rw [HLN.out]; exact hkl, HSK.out, HM3.out.step (below_drewN nq), HB3.out.trans ((below_drewN (w := w3) nq).mono HB3.out.size)⟩, by simp [intOf]; omega⟩
              · have d1 : decide (0 < s) = false := decide_eq_false c1
                have HSK := Lib.hid (HIS.out L k' j HI.out (by rw [HRR'.out, HSS.out]; exact fun h => c1 h.1))
                clear HIS HIP HPT
                go_wp2_with fail
                go_quiet (first | (go_at_call 36; exact quiet_one HS.out _) | (go_at_call 62; exact quiet_one HNI.out _) | (go_at_call 34; first | (with_reducible exact quiet_one HH1.out _) | (with_reducible exact quiet_one HH2.out _)))
                go_wp2_with fail
                exact ⟨⟨j + 1, L, _, rfl, by go_num, by omega, by rw [HLN.out]; exact hkl, HSK.out, HM3.out.step (below_drewN nq), HB3.out.trans ((below_drewN (w := w3) nq).mono HB3.out.size)⟩, by simp [intOf]; omega⟩
            · obtain rfl : j = k := by omega
              have hlt2' : decide (j < j) = false := by simp
              have HTN := Lib.hid (HIT.out L k' HI.out)
              go_wp2_with fail
              exact ⟨⟨k' + 1, L, _, rfl, by go_num, by omega, HTN.out, HM.out, HB.out⟩, by simp [intOf]; omega⟩
        · have hd : decide (k' < L.length) = false := decide_eq_false hlt
          have HV := Lib.hid (HIE.out L k' HI.out (by omega))
          clear HIE HIL HIT HIS HIP HPT HRF HRL HUL hk' hll HI
          generalize L.length = Ln at *
          go_wp2_with fail
          go_ret
          exact ⟨⟨_, rfl, by rw [HV.out.1]; exact HM.out.ownR, HB.out⟩, by rw [HV.out.1]; exact HV.out.2⟩
end Go.Proofs.Ytlbgblkoddlhnaa
