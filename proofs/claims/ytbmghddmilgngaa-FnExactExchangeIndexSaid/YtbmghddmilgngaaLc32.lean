/-
  Weights: what the program's RhoOf returns, by the library's Repeat at a list of one number.
  Lengths: what the program's imageOfRho returns.
-/
import Derived.Laws.CopyOwn
import Derived.Test.YtbmghddmilgngaaLc31
namespace Go.Proofs.Ytbmghddmilgngaa
open Go.RowKit

set_option maxRecDepth 100000 in
set_option maxHeartbeats 1000000 in
theorem mul64_c (n : Nat) (h : n = 1 ∨ n = 2 ∨ n = 3 ∨ n = 4) (w : World) :
    Calls Try.prog 102 #[.int .u64 1, .int .u64 n] w fun e w' => e = .returned (.tuple #[.int .u64 0, .int .u64 n]) ∧ w = w' := by
  rcases h with rfl | rfl | rfl | rfl
  all_goals
    go_enter Try.func102, Try.ntmps102
    go_wp2
    go_ret2
    exact ⟨rfl, rfl⟩
set_option maxRecDepth 100000 in
set_option maxHeartbeats 1000000 in
theorem mul_c (n : Nat) (h : n = 1 ∨ n = 2 ∨ n = 3 ∨ n = 4) (w : World) :
    Calls Try.prog 94 #[.int .u64 1, .int .u64 n] w fun e w' => e = .returned (.tuple #[.int .u64 0, .int .u64 n]) ∧ w = w' := by
  have HM := Lib.hid (mul64_c n h w)
  have hn : n ≤ 4 := by omega
  clear h
  go_enter Try.func94, Try.ntmps94
  go_wp2_with fail
  refine HM.out.mono ?_
  rintro e w' ⟨rfl, rfl⟩
  go_wp2_with fail
  go_ret2
  exact ⟨rfl, rfl⟩
def oneS (n k : Nat) : List Int := List.replicate k 1 ++ List.replicate (n - k) 0
theorem oneS_len (n k : Nat) (h : k ≤ n) : (oneS n k).length = n := by simp [oneS]; omega
theorem oneS_zero (n : Nat) : oneS n 0 = zerosR n := by simp [oneS, zerosR]
theorem oneS_end (n : Nat) : oneS n n = onesR n := by simp [oneS, onesR]
theorem oneS_splice (n k c : Nat) (_h : k + c ≤ n) : splice (intsV (oneS n k)) k (intsV (List.replicate c 1)) = intsV (oneS n (k + c)) := by
  have e : n - k = c + (n - (k + c)) := by omega
  unfold splice oneS
  rw [e]
  simp only [intsV, List.map_append, List.map_replicate]
  rw [List.take_left' (by simp), List.length_replicate, ← List.append_assoc]
  rw [show List.drop (k + c) (List.replicate k (Value.int IntKind.i64 1) ++ List.replicate (c + (n - (k + c))) (Value.int IntKind.i64 0)) = List.replicate (n - (k + c)) (Value.int IntKind.i64 0) from by
    rw [List.drop_append, List.drop_of_length_le (by simp), List.nil_append, List.length_replicate, List.drop_replicate]
    rw [show c + (n - (k + c)) - (k + c - k) = n - (k + c) by omega]]
  rw [List.replicate_append_replicate]
theorem oneS_get (n k j : Nat) (hj : j < k) (_h : k ≤ n) : (intsV (oneS n k))[j]? = some (.int .i64 1) := by
  unfold oneS intsV
  rw [List.map_append, List.getElem?_append_left (by simp; omega)]
  simp [hj]
/-- 'copy' into a row of the call's own that is known whole. -/
theorem copy_at {ops : Array Oper} {rest : List Oper} {o : Oper} {a : Act} {Q : Exit → Act → World → Prop} {d s : Operand} {w : World} (g off dLen dCap b boff sLen sCap : Nat) (cur cs : List Value) {cur2 : List Value}
    (hg : w.heap[g]? = some (.cells cur.toArray 3 (0, 0))) (hn : cs.length = Nat.min sLen dLen) (hsrc : ∀ j v, cs[j]? = some v → w.cell? ((⟨b, boff, none⟩ : Addr).add j) = some v) (hfit : off + cs.length ≤ cur.length) (h1 : ∀ v ∈ cs, v.oneCell' = true)
    (h2 : splice cur off cs = cur2) {B : Nat} {w0 : World} (hb : Below B w0 w) (hBg : B ≤ g) (hgd : o.guard = none) (ho : o.op = .call { callee := .builtin .copy, args := #[d, s], argTypes := #[25, 25] })
    (hd : a.eval d = .slice (some ⟨g, off, none⟩) dLen dCap) (hs : a.eval s = .slice (some ⟨b, boff, none⟩) sLen sCap)
    (h : ∀ w', Hid (w'.heap[g]? = some (.cells cur2.toArray 3 (0, 0))) → Below B w0 w' → wpList Try.prog ops Q rest (a.put o.dst (goInt cs.length)) w') : wpList Try.prog ops Q (o :: rest) a w := by
  subst h2
  exact wpList_copy_splice hgd d s 25 25 ho 3 Try.underlying25 (by kernel_rfl) _ _ dLen dCap sLen sCap hd hs g off cur 3 hg cs hn (fun _ => ⟨rfl, _, rfl, hsrc⟩) hfit h1 B w0 hb hBg h
theorem copy_run {w : World} (ty : TypeId) (g off dLen dCap b boff sLen sCap : Nat) (cur cs : List Value) {cur2 : List Value} (c : Nat)
    (hg : w.heap[g]? = some (.cells cur.toArray 3 (0, 0))) (hn : cs.length = Nat.min sLen dLen) (hsrc : ∀ j v, cs[j]? = some v → w.cell? ((⟨b, boff, none⟩ : Addr).add j) = some v) (hfit : off + cs.length ≤ cur.length) (h1 : ∀ v ∈ cs, v.oneCell' = true)
    (h2 : splice cur off cs = cur2) (hc : cs.length = c) {B : Nat} {w0 : World} (hb : Below B w0 w) (hBg : B ≤ g) :
    ∃ w4, (Builtin.copy_ #[25, 25] ty #[.slice (some ⟨g, off, none⟩) dLen dCap, .slice (some ⟨b, boff, none⟩) sLen sCap]).run Try.prog w = .ok (.int .i64 (c : Int)) w4 ∧ w4.heap[g]? = some (.cells cur2.toArray 3 (0, 0)) ∧ Below B w0 w4 := by
  subst h2; subst hc
  refine ⟨_, run_copy_row (P := Try.prog) w 25 25 ty 3 g off dLen dCap ⟨b, boff, none⟩ sLen sCap cur.toArray 3 cs Try.underlying25 (by kernel_rfl) hg hn hsrc (by simpa using hfit) h1, ?_, below_setRow hb hBg _⟩
  simpa [splice] using setRow_heap w g _ _ 3 _ hg
theorem rep_row {n : Nat} {w wq : World} (hq : wq.heap[w.heap.size]? = some (.cells (intsV (oneS n n)).toArray 3 (0, 0))) (he : oneS n n = onesR n) (h4 : n ≤ 4) (_hb : Below w.heap.size w wq) :
    RowI w.heap.size wq.heap.size wq (.slice (some ⟨w.heap.size, 0, none⟩) n n) (onesR n) := by
  have hl : (onesR n).length = n := by simp [onesR]
  rw [he] at hq
  refine ⟨⟨by rw [intsV_len]; simp, Or.inr ⟨w.heap.size, n, (intsV (onesR n)).toArray, by rw [hl], Nat.le_refl _, hq, by omega, by unfold maxLen; omega, by simp [intsV_len, hl], ?_⟩⟩, fun g hg => ?_⟩
  · rw [List.take_of_length_le]; simp [intsV_len]
  · have : w.heap.size = g := by simpa [Value.ownBlock] using hg
    have := (Array.getElem?_eq_some_iff.1 hq).1
    omega
set_option maxRecDepth 100000 in
set_option maxHeartbeats 4000000 in
theorem repi_any (g n : Nat) (h1 : 1 ≤ n) (h4 : n ≤ 4) (w : World) (hg : w.heap[g]? = some (.cells #[.int .i64 1] 3 (0, 0))) :
    Calls Try.prog 87 #[.slice (some ⟨g, 0, none⟩) 1 1, .int .i64 n] w (MakesS w (onesR n)) := by
  have HM := Lib.hid (mul_c n (by omega) w)
  have hmk := makeInts n (by omega) w
  rw [← oneS_zero] at hmk
  have hgl : g < w.heap.size := (Array.getElem?_eq_some_iff.1 hg).1
  have HG := Lib.hid hg
  have HEND := Lib.hid (oneS_end n)
  clear hg
  have hg0 : (w.alloc (.cells (intsV (oneS n 0)).toArray 3)).heap[w.heap.size]? = some (.cells (intsV (oneS n 0)).toArray 3 (0, 0)) := (MapKept.heap_alloc w _).1
  have HG0 := Lib.hid hg0
  have hs : (w.alloc (.cells (intsV (oneS n 0)).toArray 3)).cell? ⟨g, 0, none⟩ = some (.int .i64 1) := by
    rw [World.cell?_alloc_past _ _ _ hgl, cell_of_row w g 0 _ _ _ HG.out]; rfl
  have HSR := Lib.hid (show ∀ j v, [Value.int IntKind.i64 1][j]? = some v → (w.alloc (.cells (intsV (oneS n 0)).toArray 3)).cell? ((⟨g, 0, none⟩ : Addr).add j) = some v from fun j v hj => by
    obtain rfl : j = 0 := by have := (List.getElem?_eq_some_iff.1 hj).1; simp at this; omega
    simp at hj
    subst hj
    exact hs)
  have HB0 := Lib.hid (show Below w.heap.size w (w.alloc (.cells (intsV (oneS n 0)).toArray 3)) from (Below.refl _ _).alloc (Nat.le_refl _) _)
  have HSP0 := Lib.hid (show splice (intsV (oneS n 0)) 0 [Value.int .i64 1] = intsV (oneS n 1) from oneS_splice n 0 1 (by omega))
  have HL0 := Lib.hid (show 0 + [Value.int IntKind.i64 1].length ≤ (intsV (oneS n 0)).length from by rw [intsV_len, oneS_len n 0 (by omega)]; simp; omega)
  have HMIN := Lib.hid (show [Value.int IntKind.i64 1].length = Nat.min 1 n from by show 1 = min 1 n; omega)
  have HSP := Lib.hid (fun k (hk : k < n) => oneS_splice n k (min k (n - k)) (by omega))
  have HOL := Lib.hid (fun k (hk : k ≤ n) => show (intsV (oneS n k)).length = n from by rw [intsV_len, oneS_len n k hk])
  have HOG := Lib.hid (fun k j (hj : j < k) (hk : k ≤ n) => oneS_get n k j hj hk)
  have H11 := Lib.hid (show ∀ v ∈ [Value.int IntKind.i64 1], v.oneCell' = true from fun v hv => by simp at hv; subst hv; rfl)
  have HR1 := Lib.hid (fun c => show ∀ v ∈ intsV (List.replicate c 1), v.oneCell' = true from fun v hv => by obtain ⟨x, _, rfl⟩ := List.mem_map.1 hv; rfl)
  clear hg0 hs
  go_enter Try.func87, Try.ntmps87
  go_wp2_with fail
  refine HM.out.mono ?_
  rintro e w' ⟨rfl, rfl⟩
  clear HM
  go_wp2_with (with_reducible refine copy_at (o := ⟨some 33, _, _, _, _, _⟩) w.heap.size 0 n n g 0 1 1 (intsV (oneS n 0)) [.int .i64 1] HG0.out HMIN.out HSR.out HL0.out H11.out HSP0.out HB0.out (Nat.le_refl _) rfl rfl rfl rfl ?_)
  intro w2 hg2 hb2
  have HG2 := Lib.hid hg2.out
  have HB2 := Lib.hid hb2
  clear hmk hg2 hb2 HG0 HSR HB0 HSP0 HL0 HMIN H11
  go_wp2_with fail
  go_loopw [8] (fun i' wr => ∃ (k : Nat) (wq : World), wq = wr ∧ 1 ≤ k ∧ k ≤ n ∧ i' = .int .i64 k ∧ wq.heap[w.heap.size]? = some (.cells (intsV (oneS n k)).toArray 3 (0, 0)) ∧ Below w.heap.size w wq) (fun i' _ => n - (intOf i').toNat)
  case atStart => exact ⟨1, _, rfl, Nat.le_refl _, h1, rfl, HG2.out, HB2.out⟩
  case round =>
    obtain ⟨k, wq, rfl, hk1, hk, rfl, hq, hb⟩ := hrel
    have HQ := Lib.hid hq; have HB := Lib.hid hb
    clear hq hb
    by_cases hlt : k < n
    · have hd : decide (k < n) = true := decide_eq_true hlt
      obtain ⟨c, hc⟩ : ∃ c, c = min k (n - k) := ⟨_, rfl⟩
      have HSRC := Lib.hid (fun (wx : World) (hwx : wx.heap[w.heap.size]? = some (.cells (intsV (oneS n k)).toArray 3 (0, 0))) => show ∀ j v, (intsV (List.replicate c 1))[j]? = some v → wx.cell? ((⟨w.heap.size, 0, none⟩ : Addr).add j) = some v from fun j v hj => by
        have hjl : j < c := by have := (List.getElem?_eq_some_iff.1 hj).1; rw [intsV_len] at this; simpa using this
        rw [Addr.add_lit, cell_of_row wx _ (0 + j) _ _ _ hwx]
        have h9 := HOG.out k j (by omega) hk
        simp only [Nat.zero_add, List.getElem?_toArray]
        rw [h9, ← hj]
        simp [intsV, hjl])
      have HCL := Lib.hid (show (intsV (List.replicate c 1)).length = Nat.min k (n - k) from by rw [intsV_len, List.length_replicate]; exact hc)
      have HFT := Lib.hid (show k + (intsV (List.replicate c 1)).length ≤ (intsV (oneS n k)).length from by rw [HOL.out k hk, intsV_len, List.length_replicate]; omega)
      have HS := Lib.hid (show splice (intsV (oneS n k)) k (intsV (List.replicate c 1)) = intsV (oneS n (k + c)) from by rw [hc]; exact HSP.out k hlt)
      have HCE := Lib.hid (show (intsV (List.replicate c 1)).length = c from by rw [intsV_len, List.length_replicate])
      have hc1 : 1 ≤ c := by omega
      have hc2 : k + c ≤ n := by omega
      have hnk : (n = 2 ∧ k = 1 ∧ c = 1) ∨ (n = 3 ∧ k = 1 ∧ c = 1) ∨ (n = 3 ∧ k = 2 ∧ c = 1) ∨ (n = 4 ∧ k = 1 ∧ c = 1) ∨ (n = 4 ∧ k = 2 ∧ c = 2) ∨ (n = 4 ∧ k = 3 ∧ c = 1) := by omega
      clear hc hc1 hc2 hlt hk1 hk HSP HOL HOG
      have HQD := Lib.hid (show wq.drew.heap[w.heap.size]? = some (.cells (intsV (oneS n k)).toArray 3 (0, 0)) from HQ.out)
      have HSD := Lib.hid (HSRC.out wq.drew HQD.out)
      have HBD := Lib.hid (HB.out.drew)
      clear HSRC HQ HB
      rcases hnk with ⟨rfl, rfl, rfl⟩ | ⟨rfl, rfl, rfl⟩ | ⟨rfl, rfl, rfl⟩ | ⟨rfl, rfl, rfl⟩ | ⟨rfl, rfl, rfl⟩ | ⟨rfl, rfl, rfl⟩
      · obtain ⟨w4, hcp, hg4, hb4⟩ := copy_run 3 w.heap.size 1 1 1 w.heap.size 0 1 2 _ _ 1 HQD.out HCL.out HSD.out HFT.out (HR1.out 1) HS.out HCE.out HBD.out (Nat.le_refl _)
        have HG4 := Lib.hid hg4
        have HB4 := Lib.hid hb4
        clear hg4 hb4 HCE HCL HFT HS HSD HQD HBD
        go_wp2_with fail
        go_region
        go_wp2_with fail
        exact ⟨⟨2, _, rfl, by omega, by omega, by go_num, HG4.out, HB4.out⟩, by simp [intOf]⟩
      · obtain ⟨w4, hcp, hg4, hb4⟩ := copy_run 3 w.heap.size 1 2 2 w.heap.size 0 1 3 _ _ 1 HQD.out HCL.out HSD.out HFT.out (HR1.out 1) HS.out HCE.out HBD.out (Nat.le_refl _)
        have HG4 := Lib.hid hg4
        have HB4 := Lib.hid hb4
        clear hg4 hb4 HCE HCL HFT HS HSD HQD HBD
        go_wp2_with fail
        go_region
        go_wp2_with fail
        exact ⟨⟨2, _, rfl, by omega, by omega, by go_num, HG4.out, HB4.out⟩, by simp [intOf]⟩
      · obtain ⟨w4, hcp, hg4, hb4⟩ := copy_run 3 w.heap.size 2 1 1 w.heap.size 0 2 3 _ _ 1 HQD.out HCL.out HSD.out HFT.out (HR1.out 1) HS.out HCE.out HBD.out (Nat.le_refl _)
        have HG4 := Lib.hid hg4
        have HB4 := Lib.hid hb4
        clear hg4 hb4 HCE HCL HFT HS HSD HQD HBD
        go_wp2_with fail
        go_region
        go_wp2_with fail
        exact ⟨⟨3, _, rfl, by omega, by omega, by go_num, HG4.out, HB4.out⟩, by simp [intOf]⟩
      · obtain ⟨w4, hcp, hg4, hb4⟩ := copy_run 3 w.heap.size 1 3 3 w.heap.size 0 1 4 _ _ 1 HQD.out HCL.out HSD.out HFT.out (HR1.out 1) HS.out HCE.out HBD.out (Nat.le_refl _)
        have HG4 := Lib.hid hg4
        have HB4 := Lib.hid hb4
        clear hg4 hb4 HCE HCL HFT HS HSD HQD HBD
        go_wp2_with fail
        go_region
        go_wp2_with fail
        exact ⟨⟨2, _, rfl, by omega, by omega, by go_num, HG4.out, HB4.out⟩, by simp [intOf]⟩
      · obtain ⟨w4, hcp, hg4, hb4⟩ := copy_run 3 w.heap.size 2 2 2 w.heap.size 0 2 4 _ _ 2 HQD.out HCL.out HSD.out HFT.out (HR1.out 2) HS.out HCE.out HBD.out (Nat.le_refl _)
        have HG4 := Lib.hid hg4
        have HB4 := Lib.hid hb4
        clear hg4 hb4 HCE HCL HFT HS HSD HQD HBD
        go_wp2_with fail
        go_region
        go_wp2_with fail
        exact ⟨⟨4, _, rfl, by omega, by omega, by go_num, HG4.out, HB4.out⟩, by simp [intOf]⟩
      · obtain ⟨w4, hcp, hg4, hb4⟩ := copy_run 3 w.heap.size 3 1 1 w.heap.size 0 3 4 _ _ 1 HQD.out HCL.out HSD.out HFT.out (HR1.out 1) HS.out HCE.out HBD.out (Nat.le_refl _)
        have HG4 := Lib.hid hg4
        have HB4 := Lib.hid hb4
        clear hg4 hb4 HCE HCL HFT HS HSD HQD HBD
        go_wp2_with fail
        go_region
        go_wp2_with fail
        exact ⟨⟨4, _, rfl, by omega, by omega, by go_num, HG4.out, HB4.out⟩, by simp [intOf]⟩
    · obtain rfl : k = n := by omega
      have hd : decide (k < k) = false := by simp
      go_wp2_with fail
      go_ret
      exact ⟨_, rfl, ⟨rep_row HQ.out HEND.out (by omega) HB.out, Nat.le_refl _⟩, HB.out⟩
set_option maxRecDepth 100000 in
set_option maxHeartbeats 4000000 in
theorem rhoi_any (B : Nat) (v : Value) (m : List (List Int)) (w : World) (h : MatB B w v m) (_hB : B ≤ w.heap.size) (hf : RowsFit m) :
    Calls Try.prog 76 #[v] w (MakesS w (rhoL m)) := by
  have HIS := Lib.hid (fun c (hc : isB m = c) => icm_0 B v m c hc w h hf)
  obtain ⟨a, cap, rfl⟩ := h.slice
  clear h hf
  by_cases hI : IsC m
  · have HC := Lib.hid (HIS.out true (isB_yes hI))
    have HV := Lib.hid (rhoL_yes hI)
    have h1 := hI.2.2.1
    have h4 := hI.2.2.2
    clear HIS hI
    generalize m.length = n at *
    have HRP := Lib.hid (fun (q : Nat) => repi_any (w.drewN q).heap.size n h1 h4 ((w.drewN q).alloc (.cells #[.int .i64 1] 3)) (MapKept.heap_alloc _ _).1)
    go_enter Try.func76, Try.ntmps76
    go_wp2_with fail
    refine HC.out.mono ?_
    rintro e w2 ⟨rfl, q, rfl⟩
    go_wp2_with fail
    refine (HRP.out q).mono ?_
    rintro e w3 ⟨x, rfl, hx, hb⟩
    have HX := Lib.hid (hx.1.mono (A' := w.heap.size) (by simp) (Nat.le_refl _))
    have HB := Lib.hid (((below_drewN q).alloc (Nat.le_refl _) _).trans (hb.mono (by simp)))
    clear hx hb
    go_wp2_with fail
    go_ret
    exact ⟨_, rfl, ⟨by rw [HV.out]; exact HX.out, Nat.le_refl _⟩, HB.out⟩
  · have HC := Lib.hid (HIS.out false (isB_no hI))
    have HV := Lib.hid (rhoL_no hI)
    clear HIS hI
    generalize m.length = n at *
    go_enter Try.func76, Try.ntmps76
    go_wp2_with fail
    refine HC.out.mono ?_
    rintro e w2 ⟨rfl, q, rfl⟩
    go_wp2_with fail
    go_ret
    exact ⟨_, rfl, ⟨by rw [HV.out]; exact RowI.nil' _ _ _, Nat.le_refl _⟩, below_drewN q⟩
end Go.Proofs.Ytbmghddmilgngaa
namespace Go.Proofs.Ytbmghddmilgngaa
open Go.RowKit

/-- The row as an array's value. -/
def imV (l : List Int) : Value := .agg #[.int .i64 (l.getD 0 0), .int .i64 (l.getD 1 0), .int .i64 (l.getD 2 0), .int .i64 (l.getD 3 0)]
theorem imV_parts (l : List Int) : ∃ a b c d, imV l = .agg #[.int .i64 a, .int .i64 b, .int .i64 c, .int .i64 d] ∧ pad4 l = [a, b, c, d] := ⟨_, _, _, _, rfl, rfl⟩
theorem imV_of {l : List Int} {a b c d : Int} (h : pad4 l = [a, b, c, d]) : imV l = .agg #[.int .i64 a, .int .i64 b, .int .i64 c, .int .i64 d] := by
  unfold pad4 at h
  simp only [List.cons.injEq, and_true] at h
  obtain ⟨rfl, rfl, rfl, rfl⟩ := h
  rfl
theorem copy_runT (te : TypeId) {w : World} (ty : TypeId) (g off dLen dCap b boff sLen sCap : Nat) (cur cs : List Value) {cur2 : List Value} (c : Nat)
    (hg : w.heap[g]? = some (.cells cur.toArray te (0, 0))) (hn : cs.length = Nat.min sLen dLen) (hsrc : ∀ j v, cs[j]? = some v → w.cell? ((⟨b, boff, none⟩ : Addr).add j) = some v) (hfit : off + cs.length ≤ cur.length) (h1 : ∀ v ∈ cs, v.oneCell' = true)
    (h2 : splice cur off cs = cur2) (hc : cs.length = c) {B : Nat} {w0 : World} (hb : Below B w0 w) (hBg : B ≤ g) :
    ∃ w4, (Builtin.copy_ #[25, 25] ty #[.slice (some ⟨g, off, none⟩) dLen dCap, .slice (some ⟨b, boff, none⟩) sLen sCap]).run Try.prog w = .ok (.int .i64 (c : Int)) w4 ∧ w4.heap[g]? = some (.cells cur2.toArray te (0, 0)) ∧ Below B w0 w4 := by
  subst h2; subst hc
  refine ⟨_, run_copy_row (P := Try.prog) w 25 25 ty 3 g off dLen dCap ⟨b, boff, none⟩ sLen sCap cur.toArray te cs Try.underlying25 (by kernel_rfl) hg hn hsrc (by simpa using hfit) h1, ?_, below_setRow hb hBg _⟩
  simpa [splice] using setRow_heap w g _ _ te _ hg
theorem grown_setC (w : World) (b i : Nat) (u : Value) : w.grownBy (w.setCell ⟨b, i, none⟩ u) (some b) :=
  ⟨rfl, rfl, rfl, by rw [World.size_setCell]; exact Nat.le_refl _, fun k _ hne => blk_other i u (fun e => hne (by rw [e]))⟩
/-- The four stores of an array's value. -/
theorem im_store {w : World} {S : Nat} {l : List Int} (h : Im4 w S l) (x0 x1 x2 x3 : Int) :
    ((((w.setCell ⟨S, 0, none⟩ (.int .i64 x0)).setCell ⟨S, 1, none⟩ (.int .i64 x1)).setCell ⟨S, 2, none⟩ (.int .i64 x2)).setCell ⟨S, 3, none⟩ (.int .i64 x3)).heap[S]? = some (.cells #[.int .i64 x0, .int .i64 x1, .int .i64 x2, .int .i64 x3] 58 (0, 0)) ∧
    w.grownBy ((((w.setCell ⟨S, 0, none⟩ (.int .i64 x0)).setCell ⟨S, 1, none⟩ (.int .i64 x1)).setCell ⟨S, 2, none⟩ (.int .i64 x2)).setCell ⟨S, 3, none⟩ (.int .i64 x3)) (some S) := by
  have h0 := blk_set h 0 (.int .i64 x0)
  have h1 := blk_set h0 1 (.int .i64 x1)
  have h2 := blk_set h1 2 (.int .i64 x2)
  have h3 := blk_set h2 3 (.int .i64 x3)
  exact ⟨h3, grown_trans (grown_trans (grown_trans (grown_setC _ _ _ _) (grown_setC _ _ _ _)) (grown_setC _ _ _ _)) (grown_setC _ _ _ _)⟩
theorem ones_splice {n : Nat} (h : n ≤ 4) : splice (intsV (pad4 [])) 0 (intsV (onesR n)) = intsV (pad4 (onesR n)) := by
  have hc : n = 0 ∨ n = 1 ∨ n = 2 ∨ n = 3 ∨ n = 4 := by omega
  rcases hc with e | e | e | e | e <;> subst e <;> rfl
theorem onesR_len (n : Nat) : (onesR n).length = n := by simp [onesR]
theorem copy_ones {w w3 : World} {S n A B : Nat} {x : Value} (hI : Im4 w3 (S + 1) []) (hJ : Im4 w3 S []) (hx : RowI A B w3 x (onesR n)) (h1 : 1 ≤ n) (h4 : n ≤ 4) (hb : Below S w w3) :
    ∃ b xc w4, x = .slice (some ⟨b, 0, none⟩) n xc ∧ (Builtin.copy_ #[25, 25] 3 #[.slice (some ⟨S + 1, 0, none⟩) 4 4, .slice (some ⟨b, 0, none⟩) n xc]).run Try.prog w3 = .ok (.int .i64 (n : Int)) w4 ∧ Im4 w4 (S + 1) (onesR n) ∧ Im4 w4 S [] ∧ Below S w w4 := by
  obtain ⟨b, xc, rfl, _, _⟩ := hx.at' (by rw [onesR_len]; exact h1)
  have hx1 := hx.1
  rw [onesR_len] at hx1 ⊢
  have hl : (intsV (onesR n)).length = n := by rw [intsV_len, onesR_len]
  obtain ⟨w4, q1, q2, q3⟩ := copy_runT 58 (w := w3) 3 (S + 1) 0 4 4 b 0 n xc (intsV (pad4 [])) (intsV (onesR n)) n hI (by rw [hl]; show n = min n 4; omega) (fun j v hj => by
    rw [Addr.add_lit, Nat.zero_add, hx1.cellAt j (by have := (List.getElem?_eq_some_iff.1 hj).1; omega)]; exact hj) (by rw [hl, intsV_len]; exact (by show 0 + n ≤ 4; omega)) (fun v hv => by obtain ⟨x, _, rfl⟩ := List.mem_map.1 hv; rfl) (ones_splice h4) hl (Below.refl (S + 1) w3) (Nat.le_refl _)
  exact ⟨b, xc, w4, rfl, q1, q2, hJ.below q3 (Nat.lt_succ_self S), hb.trans (q3.mono (Nat.le_succ S))⟩
set_option maxHeartbeats 4000000 in
set_option maxRecDepth 100000 in
theorem iorho_any (B B' : Nat) (v v1 : Value) (m : List (List Int)) (ws : List Int) (w : World) (h : MatB B w v m) (h1 : RowB B' w v1 ws) (hB : B ≤ w.heap.size) (hB' : B' ≤ w.heap.size) (hf : RowsFit m) (hI : IsC m) (hW : LetTo m.length ws ws.length) (hws : ws.length ≤ 1048576) :
    Calls Try.prog 50 #[v, v1] w fun e w' => e = .returned (imV (imgW m ws)) ∧ Below w.heap.size w w' := by
  have hn1 := hI.2.2.1
  have hn4 := hI.2.2.2
  obtain ⟨S, hS⟩ : ∃ S, S = w.heap.size := ⟨_, rfl⟩
  obtain ⟨w0, hw0⟩ : ∃ w0, w0 = (w.alloc (.cells #[.int .i64 0, .int .i64 0, .int .i64 0, .int .i64 0] 58)).alloc (.cells #[.int .i64 0, .int .i64 0, .int .i64 0, .int .i64 0] 58) := ⟨_, rfl⟩
  have hb0 : Below S w w0 := by rw [hw0, hS]; exact ((Below.refl _ _).alloc (Nat.le_refl _) _).alloc (by simp) _
  have hi0 : Im4 w0 (S + 1) [] := by
    have := Im4.new (w := w.alloc (.cells #[.int .i64 0, .int .i64 0, .int .i64 0, .int .i64 0] 58)) (l := []) (a0 := 0) (a1 := 0) (a2 := 0) (a3 := 0) rfl
    rw [World.size_alloc, ← hS, ← hw0] at this
    exact this
  have hj0 : Im4 w0 S [] := by
    have h2 := Im4.new (w := w) (l := []) (a0 := 0) (a1 := 0) (a2 := 0) (a3 := 0) rfl
    rw [← hS] at h2
    rw [hw0]
    exact h2.kept (World.grownBy_alloc _ _ none) (by simp)
  have hs0 : S + 2 ≤ w0.heap.size := by rw [hw0, hS]; simp
  have HB0 := Lib.hid hb0; have HI0 := Lib.hid hi0; have HJ0 := Lib.hid hj0
  have HRH := Lib.hid (fun (wx : World) (hb : Below (S + 2) w0 wx) => (rhoi_any B v m wx (h.below (by rw [← hS]; exact hb0.trans (hb.mono (by omega))) hB) (Nat.le_trans (by omega) hb.size) hf).mono (R' := fun e w' => ∃ b xc w4, e = .returned (.slice (some ⟨b, 0, none⟩) m.length xc) ∧ (Builtin.copy_ #[25, 25] 3 #[.slice (some ⟨S + 1, 0, none⟩) 4 4, .slice (some ⟨b, 0, none⟩) m.length xc]).run Try.prog w' = .ok (.int .i64 (m.length : Int)) w4 ∧ Im4 w4 (S + 1) (onesR m.length) ∧ Im4 w4 S [] ∧ Below S w w4) fun e w' ⟨x, he, hx, hb'⟩ => by
    rw [rhoL_yes hI] at hx
    have hsz := hb.size
    obtain ⟨b, xc, w4, rfl, q1, q2, q3, q4⟩ := copy_ones (w := w) ((hi0.below hb (by omega)).below hb' (by omega)) ((hj0.below hb (by omega)).below hb' (by omega)) hx.1 hn1 hn4 (hb0.trans ((hb.mono (by omega)).trans (hb'.mono (by omega))))
    exact ⟨b, xc, w4, he, q1, q2, q3, q4⟩)
  have HAC := Lib.hid (fun (wx : World) (hb : Below S w wx) (hx : Im4 wx (S + 1) (onesR m.length)) => acim_any B (S + 1) v v1 m ws (onesR m.length) wx (h.below (by rw [← hS]; exact hb) hB) (RowN.of (h1.below (by rw [← hS]; exact hb) hB') (by omega) (Nat.le_trans hB' hb.size)) hx (by omega) hI hW hws (onesR_len _))
  have HIM := Lib.hid (show actW m ws (onesR m.length) = imgW m ws from rfl)
  have hsl := fun wx => slice_im_all (S + 1) wx
  obtain ⟨a, cap, rfl⟩ := h.slice
  obtain ⟨a1, cap1, rfl⟩ := h1.slice
  have HS := Lib.hid hS
  have HW0 := Lib.hid hw0
  clear h h1 hf hI hW hb0 hi0 hj0 hw0
  rw [← hS] at hB hB' ⊢
  clear hS
  generalize imgW m ws = R at *
  generalize m.length = n at *
  generalize ws.length = L at *
  go_enter Try.func50, Try.ntmps50
  go_wp2_with fail
  rw [← HW0.out, ← HS.out]
  clear HW0
  go_region_with (go_at_call 76; refine (HRH.out _ ((below_drewN (w := w0) 1).mono hs0)).mono ?_; rintro e w3 ⟨b, xc, w4, rfl, hcp, hi4, hj4, hb4⟩)
  all_goals
    have HC := Lib.hid (HAC.out w4 hb4 hi4)
    have HB4 := Lib.hid hb4
    have HJ4 := Lib.hid hj4
    clear hcp hi4 hb4 hj4
    go_wp2_with fail
    refine HC.out.mono ?_
    rintro e w5 ⟨rfl, q1, q2⟩
    rw [HIM.out] at q1
    have hz4 := HB4.out.size
    have HB5 := Lib.hid (HB4.out.grown q2 (by have := HS.out; omega) (fun j hj => by have := Option.some.inj hj; omega))
    obtain ⟨x0, x1, x2, x3, hv, hp⟩ := imV_parts R
    obtain ⟨c0, c1, c2, c3⟩ := q1.cell hp
    have HV := Lib.hid hv
    have hj5 : Im4 w5 S [] := HJ4.out.kept q2 (fun e => by have := Option.some.inj e; omega)
    obtain ⟨d0, d1, d2, d3⟩ := hj5.cell (a0 := 0) (a1 := 0) (a2 := 0) (a3 := 0) rfl
    obtain ⟨hst, hgs⟩ := im_store hj5 x0 x1 x2 x3
    have HST := Lib.hid hst
    have HB6 := Lib.hid (HB5.out.grown hgs (by have := HS.out; have := HB5.out.size; omega) (fun j hj => by have := Option.some.inj hj; have := HS.out; omega))
    clear hst hgs
    have f0 := hj5.frozen 0; have f1 := hj5.frozen 1; have f2 := hj5.frozen 2; have f3 := hj5.frozen 3
    clear q1 q2 hv hp HC hj5
    go_wp2_with fail
    have hst := HST.out
    generalize (((w5.setCell ⟨S, 0, none⟩ (.int .i64 x0)).setCell ⟨S, 1, none⟩ (.int .i64 x1)).setCell ⟨S, 2, none⟩ (.int .i64 x2)).setCell ⟨S, 3, none⟩ (.int .i64 x3) = w6 at *
    have q0 : w6.cell? ⟨S, 0, none⟩ = some (.int .i64 x0) := by rw [cell_of_row w6 S 0 _ _ _ hst]; rfl
    have q1 : w6.cell? ⟨S, 1, none⟩ = some (.int .i64 x1) := by rw [cell_of_row w6 S 1 _ _ _ hst]; rfl
    have q2 : w6.cell? ⟨S, 2, none⟩ = some (.int .i64 x2) := by rw [cell_of_row w6 S 2 _ _ _ hst]; rfl
    have q3 : w6.cell? ⟨S, 3, none⟩ = some (.int .i64 x3) := by rw [cell_of_row w6 S 3 _ _ _ hst]; rfl
    refine bodyPost_ret (v := .agg #[.int .i64 x0, .int .i64 x1, .int .i64 x2, .int .i64 x3]) (by simp [results, Try.f50, go_sem, q0, q1, q2, q3]) rfl ⟨by rw [HV.out], HB6.out⟩
end Go.Proofs.Ytbmghddmilgngaa
