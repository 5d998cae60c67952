/-
  BondOf of the model and of the program: what each call returns.
  Weights: what the program's reflection in place returns.
  Roots: what the model's reflection, height and sign return.
-/
import Derived.Test.YtlbgblkoddlhnaaRa13
import Derived.Test.YtlbgblkoddlhnaaRa10
import Derived.Deep.RegionLaw
import Derived.Test.YtlbgblkoddlhnaaRa04
import Derived.Test.YtlbgblkoddlhnaaRa12
import Derived.Test.YtlbgblkoddlhnaaRa08
namespace Go.Proofs.Ytlbgblkoddlhnaa
open Go.RowKit

theorem wrap_prod {x y : Int} (hx : -3 ≤ x ∧ x ≤ 0) (hy : -3 ≤ y ∧ y ≤ 0) : wrap64 (x * y) = x * y := by
  have h : 0 ≤ x * y ∧ x * y ≤ 9 := by
    have hx' : x = 0 ∨ x = -1 ∨ x = -2 ∨ x = -3 := four hx
    rcases hx' with rfl | rfl | rfl | rfl <;> omega
  exact IntWalk.wrap64_in _ ⟨by omega, by omega⟩
def ptB (i : Int) (n : Nat) : Bool := decide (0 ≤ i ∧ i ≤ (n : Int) - 1)
theorem ptB_yes {i : Int} {n : Nat} (h : 0 ≤ i ∧ i ≤ (n : Int) - 1) : ptB i n = true := decide_eq_true h
theorem ptB_no {i : Int} {n : Nat} (h : ¬ (0 ≤ i ∧ i ≤ (n : Int) - 1)) : ptB i n = false := decide_eq_false h
set_option maxHeartbeats 400000 in
theorem pt_any (a : Option Addr) (n cap : Nat) (i : Int) (w : World) (_hl : n ≤ 2 ^ 63 - 1) :
    Calls Try.prog 58 #[.slice a n cap, .int .i64 i] w fun e w' => e = .returned (.bool (ptB i n)) ∧ w = w' := by
  by_cases h : 0 ≤ i
  · have h1 : decide (0 ≤ i) = true := decide_eq_true h
    by_cases h2 : i ≤ (n : Int) - 1
    · have HV := Lib.hid (ptB_yes ⟨h, h2⟩)
      have h3 : decide (i < (n : Int)) = true := decide_eq_true (by omega)
      go_enter Try.func58, Try.ntmps58
      go_wp2_with fail
      go_ret
      exact ⟨ret_boolean HV.out.symm, rfl⟩
    · have HV := Lib.hid (ptB_no (i := i) (n := n) (fun x => h2 x.2))
      have h3 : decide (i < (n : Int)) = false := decide_eq_false (by omega)
      go_enter Try.func58, Try.ntmps58
      go_wp2_with fail
      go_ret
      exact ⟨ret_boolean HV.out.symm, rfl⟩
  · have HV := Lib.hid (ptB_no (i := i) (n := n) (fun x => h x.1))
    have h1 : decide (0 ≤ i) = false := decide_eq_false h
    go_enter Try.func58, Try.ntmps58
    go_wp2_with fail
    go_ret
    exact ⟨ret_boolean HV.out.symm, rfl⟩
theorem pt_c (a : Option Addr) (n cap : Nat) (i : Int) (c : Bool) (hc : ptB i n = c) (w : World) (hl : n ≤ 2 ^ 63 - 1) :
    Calls Try.prog 58 #[.slice a n cap, .int .i64 i] w fun e w' => e = .returned (.bool c) ∧ w = w' :=
  (pt_any a n cap i w hl).mono fun e w' ⟨he, hw⟩ => ⟨by rw [he]; exact ret_boolean hc, hw⟩
theorem icm_0 (B : Nat) (v : Value) (m : List (List Int)) (c : Bool) (hc : isB m = c) (w : World) (h : MatB B w v m) (hf : RowsFit m) :
    Calls Try.prog 57 #[v] w fun e w' => e = .returned (.bool c) ∧ ∃ m, w' = w.drewN m :=
  (icm_any B v m w h hf).mono fun e w' ⟨he, hw⟩ => ⟨by rw [he]; exact ret_boolean hc, hw⟩

end Go.Proofs.Ytlbgblkoddlhnaa
namespace Go.Proofs.Ytlbgblkoddlhnaa
open Go.RowKit

theorem RowI.at' {A B : Nat} {w : World} {v : Value} {l : List Int} (h : RowI A B w v l) (h0 : 0 < l.length) : ∃ g cap, v = .slice (some ⟨g, 0, none⟩) l.length cap ∧ A ≤ g ∧ g < B := by
  rcases h.1.2 with ⟨_, h'⟩ | ⟨g, cap, _, h', hA, _⟩
  · omega
  · exact ⟨g, cap, h', hA, h.2 g (by rw [h']; rfl)⟩

set_option maxHeartbeats 4000000 in
set_option maxRecDepth 100000 in
theorem rip_any (A B : Nat) (v v' : Value) (m : List (List Int)) (l : List Int) (i : Nat) (w : World) (h : MatB B w v m) (h' : RowI A w.heap.size w v' l) (hBA : B ≤ A) (hI : Rows0 m m.length m.length) (hll : l.length = m.length) (hi : i < m.length) (hn : m.length ≤ 1048576) :
    Calls Try.prog 50 #[v, .int .i64 i, v'] w fun e w' => e = .returned (.tuple #[]) ∧ RowI A w'.heap.size w' v' (reflL m i l) ∧ w.grownBy w' v'.ownBlock ∧ w'.heap.size = w.heap.size := by
  obtain ⟨a, cap, rfl⟩ := h.slice
  obtain ⟨g, cap', rfl, hAg, hg⟩ := h'.at' (by omega)
  have HR := Lib.hid h
  have HRW := Lib.hid hI
  have hx0 : w.cell? ⟨g, i, none⟩ = some (.int .i64 (l.getD i 0)) := by
    have := h'.1.cellAt i (by omega)
    rw [this]; simp [intsV, List.getD, show i < l.length by omega]
  have h1 : w.ownsRow A 3 1 (.slice (some ⟨g, 0, none⟩) l.length cap') l.length (intsV (rflS m i l 0)) := by rw [rflS_zero]; exact h'.1
  have H1 := Lib.hid h1
  have HSTP := Lib.hid (fun k (hk : k < m.length) => rflS_step m i l k (by omega))
  have HLN := Lib.hid (fun k (hk : k ≤ m.length) => rflS_len m i l k (by omega))
  have HGT := Lib.hid (fun k (hk : k < m.length) => rflS_get m i l k (by omega))
  have HEND := Lib.hid (show rflS m i l m.length = reflL m i l from by rw [← hll]; exact rflS_end m i l)
  have HRL := Lib.hid (show (reflL m i l).length = m.length from by rw [reflL_len]; exact hll)
  have HEQ := Lib.hid (fun k => show reflE m i l k = subW (l.getD k 0) (mulW (l.getD i 0) (entry m k i)) from rfl)
  clear h h' hI h1
  rw [hll] at H1 ⊢
  rw [hll] at HLN
  generalize l.getD i 0 = z at *
  generalize m.length = n at *
  clear hll
  go_enter Try.func50, Try.ntmps50
  go_wp2_with fail
  clear hx0
  go_loopw [14] (fun i' wr => ∃ (k : Nat) (wq : World), wq = wr ∧ k ≤ n ∧ i' = .int .i64 k ∧ wq.ownsRow A 3 1 (.slice (some ⟨g, 0, none⟩) n cap') n (intsV (rflS m i l k)) ∧ w.grownBy wq (some g) ∧ wq.heap.size = w.heap.size) (fun i' _ => n - (intOf i').toNat)
  case atStart => exact ⟨0, _, rfl, Nat.zero_le _, rfl, H1.out, World.grownBy.refl _ _, rfl⟩
  case round =>
    obtain ⟨k, wq, rfl, hk, rfl, hown, hgr, hsz⟩ := hrel
    have HO := Lib.hid hown; have HG := Lib.hid hgr; have HSZ := Lib.hid hsz
    by_cases hlt : k < n
    · have hcell : wq.cell? ⟨g, k, none⟩ = some (.int .i64 (l.getD k 0)) := by
        rw [hown.cellAt k (by omega)]
        have := HGT.out k hlt
        simp [intsV, this]
      have hfz : wq.frozen? ⟨g, k, none⟩ = false := hown.frozenAt k
      have hbl : ∀ b, b < A → wq.heap[b]? = w.heap[b]? := fun b hb => hgr.block b (by omega) (fun e => by have := Option.some.inj e; omega)
      have hbw : Below A w wq := (Below.refl A w).grown hgr (by omega) (fun j hj => by have := Option.some.inj hj; omega)
      obtain ⟨b, off, rb, roff, rcap, rfl, hc1, hx⟩ := (HR.out.below hbw hBA).entry HRW.out hlt hi
      obtain ⟨hst, hgs⟩ := hown.stored k (.int .i64 (reflE m i l k))
      rw [intsV_set, HSTP.out k hlt] at hst
      have HST := Lib.hid hst
      have HGS := Lib.hid (grown_trans hgr hgs)
      have HE := Lib.hid (HEQ.out k)
      clear hst hgs hown hgr hsz hbl hbw
      generalize reflE m i l k = E at *
      generalize l.getD k 0 = x at *
      generalize entry m k i = y at *
      obtain ⟨pr, hpr⟩ : ∃ pr, pr = mulW z y := ⟨_, rfl⟩
      have h1 : IntKind.i64.wrap (z * y) = pr := by rw [hpr, wrapk]; rfl
      have h2 : wrap64 (z * y) = pr := by rw [hpr]; rfl
      have h3 : IntKind.i64.wrap (x - pr) = E := by rw [HE.out, hpr, wrapk]; rfl
      have h4 : wrap64 (x - pr) = E := by rw [HE.out, hpr]; rfl
      clear hpr HE
      go_wp2_with fail
      go_region
      go_wp2_with fail
      exact ⟨⟨k + 1, _, rfl, by omega, by go_num, HST.out.drew, grown_trans HGS.out ⟨rfl, rfl, rfl, Nat.le_refl _, fun _ _ _ => rfl⟩, by show (World.setCell _ _ _).heap.size = _; rw [World.size_setCell]; exact HSZ.out⟩, by simp [intOf]; omega⟩
    · obtain rfl : k = n := by omega
      have hd : decide (k < k) = false := by simp
      go_wp2_with fail
      go_end0
      have hfin : RowI A wq.heap.size wq (.slice (some ⟨g, 0, none⟩) k cap') (reflL m i l) := by
        refine ⟨?_, fun g' hg' => ?_⟩
        · rw [HRL.out, ← HEND.out]; exact HO.out
        · have : g = g' := by simpa [Value.ownBlock] using hg'
          have := HSZ.out; omega
      exact ⟨rfl, hfin, HG.out, HSZ.out⟩

end Go.Proofs.Ytlbgblkoddlhnaa
namespace Go.Proofs.Ytlbgblkoddlhnaa
open Go.RowKit

set_option maxHeartbeats 4000000 in
set_option maxRecDepth 100000 in
theorem l7r_any (B B' : Nat) (v v' : Value) (m : List (List Int)) (l : List Int) (i : Nat) (w : World) (h : MatB B w v m) (h' : RowB B' w v' l) (hB : B ≤ w.heap.size) (hB' : B' ≤ w.heap.size) (hI : IsC m) (hll : l.length = m.length) (hi : i < m.length) :
    Calls Try.prog 55 #[v, .int .i64 i, v'] w (MakesS w (rflR m i l)) := by
  obtain ⟨a, cap, rfl⟩ := h.slice
  obtain ⟨a', cap', rfl⟩ := h'.slice
  have hb0 : Below w.heap.size w (w.alloc (.cells #[] 3)) := (Below.refl _ _).alloc (Nat.le_refl _) _
  have HR := Lib.hid h; have HL := Lib.hid h'
  have HL0 := Lib.hid (h'.below hb0 hB')
  have hs0 : w.heap.size ≤ (w.alloc (.cells #[] 3)).heap.size := by simp
  have hn4 := hI.2.2.2
  have HRW := Lib.hid (show Rows0 m m.length m.length from hI.1)
  have HLL := Lib.hid (show ([] : List Int).length + l.length ≤ 4194304 by simp; omega)
  have HST := Lib.hid (fun k => show prK m i l (k + 1) = addW (prK m i l k) (mulW (entry m i k) (l.getD k 0)) from rfl)
  have HEN := Lib.hid (show rflR m i l = l.set i (subW (l.getD i 0) (prK m i l m.length)) from by unfold rflR; rw [hll])
  have H0 := Lib.hid (show (0 : Int) = prK m i l 0 from rfl)
  clear h h' hI hb0
  rw [hll] at HL HL0 ⊢
  have HLN := Lib.hid hll
  generalize hn : m.length = n at *
  have HN := Lib.hid hn
  clear hn hll
  go_enter Try.func55, Try.ntmps55
  go_wp2_with (at_builtin; go_must (refine append_intsA (row_empty w) hs0 HL0.out HLL.out rfl rfl rfl rfl ?_))
  intro v3 w3 hr3 hb3 hz3
  have hr3 : RowI w.heap.size w3.heap.size w3 v3 l := by simpa using hr3
  obtain ⟨g, xc, rfl, hg1, hg2⟩ : ∃ g xc, v3 = .slice (some ⟨g, 0, none⟩) n xc ∧ w.heap.size ≤ g ∧ g < w3.heap.size := by
    obtain ⟨g, xc, h1, h2, h3⟩ := hr3.at' (by rw [HLN.out]; omega)
    exact ⟨g, xc, by rw [h1, HLN.out], h2, h3⟩
  have HR3 := Lib.hid hr3
  have HB3 := Lib.hid (hb3 w w.heap.size (Nat.le_refl _) ((Below.refl _ _).alloc (Nat.le_refl _) _))
  clear hb3 hz3 hr3 HL0 hs0 HLL
  go_wp2_with fail
  go_loopw [8, 9] (fun s i' wr => ∃ (k q : Nat), wr = w3.drewN q ∧ k ≤ n ∧ i' = .int .i64 k ∧ s = .int .i64 (prK m i l k)) (fun _ i' _ => n - (intOf i').toNat)
  case atStart => exact ⟨0, 0, rfl, Nat.zero_le _, rfl, rfl⟩
  case round =>
    obtain ⟨k, q, rfl, hk, rfl, rfl⟩ := hrel
    by_cases hlt : k < n
    · have hlt' : decide (k < n) = true := decide_eq_true hlt
      obtain ⟨b, off, rb, roff, rcap, rfl, hc1, hx⟩ := (HR.out.below HB3.out hB).entry HRW.out hi hlt
      obtain ⟨b', off', rfl, hbb, hy⟩ := (HL.out.below HB3.out hB').getD hlt
      have HE := Lib.hid (HST.out k)
      clear hbb
      generalize hE : prK m i l (k + 1) = E at *
      have HQ := Lib.hid hE; clear hE
      generalize prK m i l k = s at *
      generalize l.getD k 0 = x at *
      generalize entry m i k = y at *
      obtain ⟨pr, hpr⟩ : ∃ pr, pr = mulW y x := ⟨_, rfl⟩
      have h1 : IntKind.i64.wrap (y * x) = pr := by rw [hpr, wrapk]; rfl
      have h2 : wrap64 (y * x) = pr := by rw [hpr]; rfl
      have h3 : IntKind.i64.wrap (s + pr) = E := by rw [HE.out, hpr, wrapk]; rfl
      have h4 : wrap64 (s + pr) = E := by rw [HE.out, hpr]; rfl
      clear hpr HE
      go_wp2_with fail
      go_quiet (fail)
      go_wp2_with fail
      exact ⟨⟨k + 1, q + nq, by first | rfl | exact World.drewN_drewN _ _ _, by omega, by go_num, by rw [HQ.out]⟩, by simp [intOf]; omega⟩
    · obtain rfl : k = n := by omega
      have hlt' : decide (k < k) = false := by simp
      have hr3 := HR3.out.same (SameIn.of_below (below_drewN q) (Nat.le_refl _))
      have hown : (w3.drewN q).ownsRow w.heap.size 3 1 (.slice (some ⟨g, 0, none⟩) k xc) k (intsV l) := by have := hr3.1; rw [HLN.out] at this; exact this
      obtain ⟨b', off', he, hbb, hy⟩ := (HL.out.below (HB3.out.trans ((below_drewN q).mono HB3.out.size)) hB').getD hi
      subst he
      have hcell : (w3.drewN q).cell? ⟨g, i, none⟩ = some (.int .i64 (l.getD i 0)) := by
        have := hown.cellAt i (by omega)
        rw [this]; simp [intsV, List.getD, show i < l.length by rw [HLN.out]; exact hi]
      have hfz : (w3.drewN q).frozen? ⟨g, i, none⟩ = false := hown.frozenAt i
      obtain ⟨hst, hgs⟩ := hown.stored i (.int .i64 (subW (l.getD i 0) (prK m i l k)))
      rw [intsV_set, ← HEN.out] at hst
      have HST' := Lib.hid hst
      have HGS := Lib.hid hgs
      have HLR := Lib.hid (show (rflR m i l).length = k by rw [rflR_len, HLN.out])
      have HE := Lib.hid (show subW (l.getD i 0) (prK m i l k) = wrap64 (l.getD i 0 - prK m i l k) from rfl)
      have HBQ := Lib.hid ((HB3.out.trans ((below_drewN q).mono HB3.out.size)).grown hgs (by show w.heap.size ≤ w3.heap.size; omega) (fun j hj => by have := Option.some.inj hj; omega))
      clear hst hgs hown hr3 hbb
      generalize subW (l.getD i 0) (prK m i l k) = E at *
      generalize prK m i l k = s at *
      generalize l.getD i 0 = x at *
      have h3 : IntKind.i64.wrap (x - s) = E := by rw [HE.out, wrapk]
      have h4 : wrap64 (x - s) = E := by rw [HE.out]
      clear HE
      go_wp2_with fail
      go_ret
      refine ⟨_, rfl, ⟨⟨?_, fun g' hg' => ?_⟩, Nat.le_refl _⟩, HBQ.out⟩
      · rw [HLR.out]; exact HST'.out
      · have : g = g' := by simpa [Value.ownBlock] using hg'
        rw [World.size_setCell]; show g' < w3.heap.size; omega
set_option maxHeartbeats 2000000 in
set_option maxRecDepth 100000 in
theorem hgts_any (B : Nat) (v : Value) (l : List Int) (w : World) (h : RowB B w v l) (hl : l.length ≤ maxLen) :
    Calls Try.prog 34 #[v] w fun e w' => e = .returned (.int .i64 (hgtL l)) ∧ w' = w := by
  obtain ⟨a, cap, rfl⟩ := h.slice
  have HL := Lib.hid h
  unfold maxLen at hl
  have HST := Lib.hid (fun k (hk : k < l.length) => hgtK_step hk)
  have HEN := Lib.hid (hgtK_all l)
  clear h
  generalize hgtL l = R at *
  generalize hln : l.length = L at *
  have HLN := Lib.hid hln; clear hln
  go_enter Try.func34, Try.ntmps34
  go_wp2_with fail
  go_loop [3, 4] (fun s i => ∃ (k : Nat), k ≤ L ∧ i = .int .i64 k ∧ s = .int .i64 (hgtK l k)) (fun _ i => L - (intOf i).toNat)
  case atStart => exact ⟨0, Nat.zero_le _, rfl, rfl⟩
  case round =>
    obtain ⟨k, hk, rfl, rfl⟩ := hrel
    by_cases hlt : k < L
    · obtain ⟨b, off, rfl, hb, hc⟩ := HL.out.getD hlt
      have HE := Lib.hid (HST.out k hlt)
      generalize hE : hgtK l (k + 1) = E at *
      have HQ := Lib.hid hE; clear hE
      generalize hgtK l k = s at *
      generalize l.getD k 0 = x at *
      have h3 : IntKind.i64.wrap (s + x) = E := by rw [HE.out, wrapk]; rfl
      have h4 : wrap64 (s + x) = E := by rw [HE.out]; rfl
      clear HE
      go_wp2_with fail
      exact ⟨⟨k + 1, by omega, by go_num, by rw [HQ.out]⟩, by simp [intOf]; omega⟩
    · obtain rfl : k = L := by omega
      rw [HEN.out]
      go_wp2_with fail
      go_ret
      exact ⟨rfl, rfl⟩
set_option maxHeartbeats 2000000 in
set_option maxRecDepth 100000 in
theorem sgns_any (B : Nat) (v : Value) (l : List Int) (w : World) (h : RowB B w v l) (hl : l.length ≤ maxLen) :
    Calls Try.prog 36 #[v] w fun e w' => e = .returned (.int .i64 (sgnL l)) ∧ w' = w := by
  obtain ⟨a, cap, rfl⟩ := h.slice
  have HL := Lib.hid h
  unfold maxLen at hl
  have HU := Lib.hid (fun k (hk : k < l.length) => upK_step hk)
  have HD := Lib.hid (fun k (hk : k < l.length) => downK_step hk)
  have HUE := Lib.hid (upK_all l); have HDE := Lib.hid (downK_all l)
  have HSG := Lib.hid (show sgnL l = if upL l = downL l then 0 else if upL l = true then 1 else -1 from rfl)
  clear h
  generalize sgnL l = R at *
  generalize hln : l.length = L at *
  have HLN := Lib.hid hln; clear hln
  go_enter Try.func36, Try.ntmps36
  go_wp2_with fail
  go_loop [3, 4, 5] (fun u d i => ∃ (k : Nat), k ≤ L ∧ i = .int .i64 k ∧ u = .bool (upK l k) ∧ d = .bool (downK l k)) (fun _ _ i => L - (intOf i).toNat)
  case atStart => exact ⟨0, Nat.zero_le _, rfl, rfl, rfl⟩
  case round =>
    obtain ⟨k, hk, rfl, rfl, rfl⟩ := hrel
    by_cases hlt : k < L
    · obtain ⟨b, off, rfl, hb, hc⟩ := HL.out.getD hlt
      have HE := Lib.hid (HU.out k hlt)
      have HF := Lib.hid (HD.out k hlt)
      generalize upK l k = u at *
      generalize downK l k = d at *
      generalize l.getD k 0 = x at *
      cases u <;> cases d <;> (go_wp2_with fail) <;> exact ⟨⟨k + 1, by omega, by go_num, by rw [HE.out]; simp, by rw [HF.out]; simp⟩, by simp [intOf]; omega⟩
    · obtain rfl : k = L := by omega
      rw [HUE.out, HDE.out]
      generalize upL l = u at *
      generalize downL l = d at *
      cases u <;> cases d <;> (go_wp2_with fail) <;> go_ret <;> exact ⟨by rw [HSG.out]; rfl, rfl⟩
end Go.Proofs.Ytlbgblkoddlhnaa
