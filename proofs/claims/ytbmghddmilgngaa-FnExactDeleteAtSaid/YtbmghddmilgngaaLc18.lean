/-
  Lengths: what the model's LeftDescents, RightDescents and AreSame return.
  Lengths: letters in front and behind, braid moves, the least word: what the law on lengths asks of the mathematics (no walk here).
  Lengths: what the model's AreSame and SignOf return.
  TransposeCartan of the program: what the call returns.
  BondOf of the model and of the program: what each call returns.
  NeighboursOf of the model and of the program: what each call returns.
-/
import Derived.Test.YtbmghddmilgngaaLc17
import Derived.Test.YtbmghddmilgngaaLc09
import Derived.Test.YtbmghddmilgngaaLc11
import Derived.Test.YtbmghddmilgngaaLc16
import Derived.Test.YtbmghddmilgngaaLc13
import Derived.Test.YtbmghddmilgngaaLc15
namespace Go.Proofs.Ytbmghddmilgngaa
open Go.RowKit

noncomputable def ldsL (m : List (List Int)) (ws : List Int) : List Int := if wordB m ws = true then dnsK (imgW m ws) m.length else []
theorem ldsL_yes {m : List (List Int)} {ws : List Int} (h : IsW m ws) : ldsL m ws = dnsK (imgW m ws) m.length := if_pos (wordB_yes h)
theorem ldsL_no {m : List (List Int)} {ws : List Int} (h : ¬ IsW m ws) : ldsL m ws = [] := by unfold ldsL; rw [wordB_no h]; rfl
theorem ldsL_len (m : List (List Int)) (ws : List Int) : (ldsL m ws).length ≤ 4 := by
  by_cases h : IsW m ws
  · rw [ldsL_yes h]; have := dnsK_len (imgW m ws) m.length; have := h.2.1.2.2.2; omega
  · rw [ldsL_no h]; simp
set_option maxHeartbeats 4000000 in
set_option maxRecDepth 100000 in
theorem ldss_any (B B' : Nat) (v v' : Value) (m : List (List Int)) (ws : List Int) (w : World) (h : MatB B w v m) (h' : RowB B' w v' ws) (hB : B ≤ w.heap.size) (hB' : B' ≤ w.heap.size) (hf : RowsFit m) (hw : ws.length ≤ 1048576) :
    Calls Try.prog 15 #[v, v'] w (MakesS w (ldsL m ws)) := by
  have hb0 : Below w.heap.size w (w.alloc (.cells #[] 3)) := (Below.refl _ _).alloc (Nat.le_refl _) _
  have HB0 := Lib.hid hb0
  have HIW := Lib.hid (isws_any B B' v v' m ws (w.alloc (.cells #[] 3)) (h.below hb0 hB) (h'.below hb0 hB') hf (by unfold maxLen; omega))
  have HM0 := Lib.hid (row_empty w)
  by_cases hW : IsW m ws
  · have HV := Lib.hid (ldsL_yes hW)
    have HWB := Lib.hid (wordB_yes hW)
    have HIM := Lib.hid (fun (wx : World) (hb : Below w.heap.size w wx) => img8_any B B' v v' m ws wx (h.below hb hB) (h'.below hb hB') (Nat.le_trans hB hb.size) (Nat.le_trans hB' hb.size) hf hW.2.1 hW.1 hw)
    have hn1 := hW.2.1.2.2.1
    have hn4 := hW.2.1.2.2.2
    have HLI := Lib.hid (imgW_len m ws)
    have HDY := Lib.hid (fun k h => dnsK_yes (l := imgW m ws) (k := k) h)
    have HDN := Lib.hid (fun k h => dnsK_no (l := imgW m ws) (k := k) h)
    have HDL := Lib.hid (fun k => dnsK_len (imgW m ws) k)
    rw [HWB.out] at HIW
    clear h h' hf hW HWB hb0
    rw [HV.out]
    clear HV
    generalize imgW m ws = im at *
    generalize hn : m.length = n at *
    clear hn
    have hsa : w.heap.size ≤ (w.alloc (.cells #[] 3)).heap.size := by simp
    go_enter Try.func15, Try.ntmps15
    go_wp2_with fail
    refine HIW.out.mono ?_
    rintro e w1 ⟨rfl, q, rfl⟩
    have HB1 := Lib.hid (HB0.out.trans ((below_drewN (w := w.alloc (.cells #[] 3)) q).mono hsa))
    have HM1 := Lib.hid (HM0.out.step (below_drewN q))
    have HC := Lib.hid (HIM.out _ HB1.out)
    clear HIW HIM HM0 HB0
    go_wp2_with fail
    refine HC.out.mono ?_
    rintro e w2 ⟨x, rfl, hx, hb2⟩
    have HX2 := Lib.hid (CurR.new (o := .slice (some ⟨w.heap.size, 0, none⟩) 0 0) hx.1 (by rw [HLI.out]; omega) (Nat.le_refl _) (fun g hg => (HM1.out.1.lt g hg).2))
    have HM2 := Lib.hid (HM1.out.step hb2)
    have HB2 := Lib.hid (HB1.out.trans (hb2.mono HB1.out.size))
    obtain ⟨xa, xcap, rfl⟩ := hx.1.slice
    clear hx hb2 HC
    rw [HLI.out] at HX2 ⊢
    go_wp2_with fail
    go_loopw [5, 7] (fun o i wr => ∃ (k : Nat) (wq : World), wq = wr ∧ k ≤ n ∧ i = .int .i64 k ∧ RowI w.heap.size wq.heap.size wq o (dnsK im k) ∧ CurR wq o (.slice xa n xcap) im ∧ Below w.heap.size w wq) (fun _ i _ => n - (intOf i).toNat)
    case atStart => exact ⟨0, _, rfl, Nat.zero_le _, rfl, HM2.out, HX2.out, HB2.out⟩
    case round =>
      obtain ⟨k, wq, rfl, hk, rfl, hM, hC, hb⟩ := hrel
      have HM := Lib.hid hM; have HB := Lib.hid hb; have HX := Lib.hid hC
      have hsq := hb.size
      have HCB := Lib.hid hC.rowB
      clear hM hb hC
      by_cases hlt : k < n
      · have hd : decide (k < n) = true := decide_eq_true hlt
        obtain ⟨b, off, rfl, hbb, hx⟩ := HCB.out.getD hlt
        by_cases hp : im.getD k 0 < 0
        · have hd2 : decide (im.getD k 0 < 0) = true := decide_eq_true hp
          have HS := Lib.hid (HDY.out k hp)
          have HRL := Lib.hid (show (dnsK im k).length ≤ 4194304 from by have := HDL.out k; omega)
          generalize im.getD k 0 = y at *
          go_wp2_with (at_builtin; go_must (refine append_intP HM.out hsq rfl (k : Int) rfl rfl rfl rfl HRL.out ?_; intro v6 w6 hr6 hg6 hl6))
          rw [HS.out] at hr6
          have HC6 := Lib.hid (HX.out.grown hg6 hl6)
          have HM6 := Lib.hid hr6
          have HB6 := Lib.hid (HB.out.grown hg6 hsq (fun j hj => (HM.out.1.lt j hj).1))
          clear hr6 hg6 hl6
          go_wp2_with fail
          exact ⟨⟨k + 1, _, rfl, by omega, by go_num, HM6.out, HC6.out, HB6.out⟩, by simp [intOf]; omega⟩
        · have hd2 : decide (im.getD k 0 < 0) = false := decide_eq_false hp
          have hs := HDN.out k (by omega)
          have HMS := Lib.hid (show RowI w.heap.size wq.heap.size wq _ (dnsK im (k + 1)) from hs ▸ HM.out)
          clear hs
          generalize im.getD k 0 = y at *
          go_wp2_with fail
          exact ⟨⟨k + 1, _, rfl, by omega, by go_num, HMS.out, HX.out, HB.out⟩, by simp [intOf]; omega⟩
      · obtain rfl : k = n := by omega
        have hd : decide (k < k) = false := by simp
        go_wp2_with fail
        go_ret
        exact ⟨_, rfl, ⟨HM.out, Nat.le_refl _⟩, HB.out⟩
  · have HV := Lib.hid (ldsL_no hW)
    have HWB := Lib.hid (wordB_no hW)
    rw [HWB.out] at HIW
    rw [HV.out]
    clear h h' hf hW HWB hb0 HV
    have hsa : w.heap.size ≤ (w.alloc (.cells #[] 3)).heap.size := by simp
    go_enter Try.func15, Try.ntmps15
    go_wp2_with fail
    refine HIW.out.mono ?_
    rintro e w1 ⟨rfl, q, rfl⟩
    have HB1 := Lib.hid (HB0.out.trans ((below_drewN (w := w.alloc (.cells #[] 3)) q).mono hsa))
    have HM1 := Lib.hid (HM0.out.step (below_drewN q))
    go_wp2_with fail
    go_ret
    exact ⟨_, rfl, ⟨HM1.out, Nat.le_refl _⟩, HB1.out⟩
end Go.Proofs.Ytbmghddmilgngaa
namespace Go.Proofs.Ytbmghddmilgngaa
open Go.RowKit

/-- The length of a word's element, with its map. -/
theorem nrm_len {m : List (List Int)} {ws : List Int} (hW : IsW m ws) : Len m.length (entry m) (natsW ws) (nrmL m ws).length := by
  obtain ⟨L, h1, h2, _⟩ := img_dn hW.2.1 hW.1 (by have := hW.2.2; omega)
  have hf := frm_of hW.2.1 (imgW_len m ws) (by have := hW.2.2; omega) h1
  have hv := (imgN_vec hW.2.1 (natsW ws) (natsW_in hW.1) (by rw [natsW_len]; have := hW.2.2; omega)).1
  rw [← imgW_nats] at hv
  rw [nrmL_yes hW, hf.1]
  unfold Len
  have e : mapN (entry m) (natsW ws) onesV = vecW (imgW m ws) := hv.symm
  rw [e]; exact h1
theorem img_at {m : List (List Int)} {ws : List Int} (hW : IsW m ws) {i : Nat} (hi : i < m.length) : (imgW m ws).getD i 0 = mapN (entry m) (natsW ws) onesV i := by
  have hv := (imgN_vec hW.2.1 (natsW ws) (natsW_in hW.1) (by rw [natsW_len]; have := hW.2.2; omega)).1
  rw [← imgW_nats] at hv
  rw [← vecW_in (by rw [imgW_len]; exact hi), hv]; rfl
theorem dnsK_mem {l : List Int} {k i : Nat} : (i : Int) ∈ dnsK l k ↔ i < k ∧ l.getD i 0 < 0 := by
  unfold dnsK
  rw [List.mem_map]
  constructor
  · rintro ⟨j, hj, e⟩
    rw [List.mem_filter, List.mem_range] at hj
    have : j = i := by omega
    subst this
    exact ⟨hj.1, of_decide_eq_true hj.2⟩
  · rintro ⟨h1, h2⟩
    exact ⟨i, by rw [List.mem_filter, List.mem_range]; exact ⟨h1, decide_eq_true h2⟩, rfl⟩
theorem isW_cons {m : List (List Int)} {ws : List Int} (hW : IsW m ws) (h15 : ws.length < 15) {i : Nat} (hi : i < m.length) : IsW m ((i : Int) :: ws) := by
  refine ⟨fun j hj => ?_, hW.2.1, by simp; omega⟩
  cases j with
  | zero => simp; omega
  | succ j => have := hW.1 j (by simpa using hj); simpa using this
theorem letTo_snoc {n : Nat} {a : List Int} (ha : LetTo n a a.length) {i : Nat} (hi : i < n) : LetTo n (a ++ [(i : Int)]) (a ++ [(i : Int)]).length := by
  intro j hj
  rw [List.length_append, List.length_singleton] at hj
  rcases Nat.lt_or_ge j a.length with h | h
  · have := ha j h
    have e : (a ++ [(i : Int)]).getD j 0 = a.getD j 0 := by rw [List.getD_eq_getElem?_getD, List.getD_eq_getElem?_getD, List.getElem?_append_left h]
    rw [e]; exact this
  · obtain rfl : j = a.length := by omega
    simp; omega
theorem isW_snoc {m : List (List Int)} {ws : List Int} (hW : IsW m ws) (h15 : ws.length < 15) {i : Nat} (hi : i < m.length) : IsW m (ws ++ [(i : Int)]) :=
  ⟨letTo_snoc hW.1 hi, hW.2.1, by rw [List.length_append]; simp; omega⟩
theorem isW_rev {m : List (List Int)} {ws : List Int} (hW : IsW m ws) : IsW m ws.reverse := by
  refine ⟨fun j hj => ?_, hW.2.1, by rw [List.length_reverse]; exact hW.2.2⟩
  rw [List.length_reverse] at hj
  have h := hW.1 (ws.length - 1 - j) (by omega)
  have e : ws.reverse.getD j 0 = ws.getD (ws.length - 1 - j) 0 := by
    rw [List.getD_eq_getElem?_getD, List.getD_eq_getElem?_getD, List.getElem?_reverse hj]
  rw [e]; exact h
/-- One letter in front. -/
theorem front_law {m : List (List Int)} {ws : List Int} (hW : IsW m ws) (h15 : ws.length < 15) {i : Nat} (hi : i < m.length) :
    ((nrmL m ((i : Int) :: ws)).length = (nrmL m ws).length + 1 ∨ (nrmL m ws).length = (nrmL m ((i : Int) :: ws)).length + 1) ∧ ((nrmL m ((i : Int) :: ws)).length < (nrmL m ws).length ↔ (i : Int) ∈ ldsL m ws) := by
  have g := gcm_of hW.2.1
  have h1 := nrm_len hW
  have h2 := nrm_len (isW_cons hW h15 hi)
  have e : natsW ((i : Int) :: ws) = i :: natsW ws := by simp [natsW]
  rw [e] at h2
  have hf := len_front g hi h1 h2
  rw [ldsL_yes hW, dnsK_mem, img_at hW hi]
  generalize (nrmL m ((i : Int) :: ws)).length = K at *
  generalize (nrmL m ws).length = N at *
  rcases Int.lt_or_gt_of_ne hf.1 with h | h
  · have := hf.2.2 h
    exact ⟨Or.inr this, ⟨fun _ => ⟨hi, h⟩, fun _ => by omega⟩⟩
  · have := hf.2.1 h
    exact ⟨Or.inl this, ⟨fun hh => by omega, fun hh => by omega⟩⟩
theorem natsW_rev (ws : List Int) : natsW ws.reverse = (natsW ws).reverse := by simp [natsW]
/-- One letter behind. -/
theorem back_law {m : List (List Int)} {ws : List Int} (hW : IsW m ws) (h15 : ws.length < 15) {i : Nat} (hi : i < m.length) :
    ((nrmL m (ws ++ [(i : Int)])).length < (nrmL m ws).length ↔ (i : Int) ∈ ldsL m ws.reverse) := by
  have g := gcm_of hW.2.1
  have h1 := nrm_len hW
  have h2 := nrm_len (isW_snoc hW h15 hi)
  have e : natsW (ws ++ [(i : Int)]) = natsW ws ++ [i] := by simp [natsW]
  rw [e] at h2
  have hf := len_back g (natsW_in hW.1) hi h1 h2
  rw [ldsL_yes (isW_rev hW), dnsK_mem, img_at (isW_rev hW) hi, natsW_rev]
  generalize (nrmL m (ws ++ [(i : Int)])).length = K at *
  generalize (nrmL m ws).length = N at *
  rcases Int.lt_or_gt_of_ne hf.1 with h | h
  · have := hf.2.2 h
    exact ⟨fun _ => ⟨hi, h⟩, fun _ => by omega⟩
  · have := hf.2.1 h
    exact ⟨fun hh => by omega, fun hh => by omega⟩
theorem nrm_nrm {m : List (List Int)} {ws : List Int} (hW : IsW m ws) : nrmL m (nrmL m ws) = nrmL m ws := by
  rw [nrmL_yes (nrm_word hW), nrm_img hW, ← nrmL_yes hW]
/-! ### Braid moves keep the map -/
theorem braid_map {n : Nat} {A : Nat → Nat → Int} (g : Gcm n A) {i k : Nat} (hi : i < n) (hk : k < n) (hik : i ≠ k) {p : Nat} (h : relN (A i k * A k i) p) (z : Nat → Int) : mapN A (altN i k p) z = mapN A (altN k i p) z := by
  have b := brd_map g
  have ti : ∀ z, rfC A i (rfC A i z) = z := rfC_twice (g.diag i hi)
  have tk : ∀ z, rfC A k (rfC A k z) = z := rfC_twice (g.diag k hk)
  have h1 := g.off i k hi hk hik
  have h2 := g.off k i hk hi (fun e => hik e.symm)
  have hz := g.zero i k hi hk
  have hz2 := g.zero k i hk hi
  generalize hd : A i k = d at *
  generalize he : A k i = e at *
  have c1 : d = -3 ∨ d = -2 ∨ d = -1 ∨ d = 0 := by omega
  have c2 : e = -3 ∨ e = -2 ∨ e = -1 ∨ e = 0 := by omega
  rcases h with ⟨hp, rfl⟩ | ⟨hp, rfl⟩ | ⟨hp, rfl⟩ | ⟨hp, rfl⟩
  · have e0 : d = 0 ∧ e = 0 := by
      rcases c1 with rfl | rfl | rfl | rfl <;> rcases c2 with rfl | rfl | rfl | rfl <;> first | exact ⟨rfl, rfl⟩ | exact absurd (hz rfl) (by decide) | exact absurd (hz2 rfl) (by decide) | exact absurd hp (by decide)
    obtain ⟨rfl, rfl⟩ := e0
    have hb := congrFun (b.b00 i k hi hk hd he id) z
    show rfC A i (rfC A k z) = rfC A k (rfC A i z)
    have hb' : rfC A k (rfC A i (rfC A k z)) = rfC A i z := hb
    rw [← hb', tk]
  · have e0 : d = -1 ∧ e = -1 := by
      rcases c1 with rfl | rfl | rfl | rfl <;> rcases c2 with rfl | rfl | rfl | rfl <;> simp at hp ⊢
    obtain ⟨rfl, rfl⟩ := e0
    have hb' : rfC A k (rfC A i (rfC A k (rfC A i (rfC A k z)))) = rfC A i z := congrFun (b.b11 i k hi hk hd he id) z
    show rfC A i (rfC A k (rfC A i z)) = rfC A k (rfC A i (rfC A k z))
    rw [← hb', tk, ti]
  · have e0 : (d = -1 ∧ e = -2) ∨ (d = -2 ∧ e = -1) := by
      rcases c1 with rfl | rfl | rfl | rfl <;> rcases c2 with rfl | rfl | rfl | rfl <;> simp at hp ⊢
    have hb' : rfC A k (rfC A i (rfC A k (rfC A i (rfC A k (rfC A i (rfC A k z)))))) = rfC A i z := by
      rcases e0 with ⟨rfl, rfl⟩ | ⟨rfl, rfl⟩
      · exact congrFun (b.b12 i k hi hk hd he id) z
      · exact congrFun (b.b21 i k hi hk hd he id) z
    show rfC A i (rfC A k (rfC A i (rfC A k z))) = rfC A k (rfC A i (rfC A k (rfC A i z)))
    rw [← hb', tk, ti, tk]
  · have e0 : (d = -1 ∧ e = -3) ∨ (d = -3 ∧ e = -1) := by
      rcases c1 with rfl | rfl | rfl | rfl <;> rcases c2 with rfl | rfl | rfl | rfl <;> simp at hp ⊢
    have hb' : rfC A k (rfC A i (rfC A k (rfC A i (rfC A k (rfC A i (rfC A k (rfC A i (rfC A k (rfC A i (rfC A k z)))))))))) = rfC A i z := by
      rcases e0 with ⟨rfl, rfl⟩ | ⟨rfl, rfl⟩
      · exact congrFun (b.b13 i k hi hk hd he id) z
      · exact congrFun (b.b31 i k hi hk hd he id) z
    show rfC A i (rfC A k (rfC A i (rfC A k (rfC A i (rfC A k z))))) = rfC A k (rfC A i (rfC A k (rfC A i (rfC A k (rfC A i z)))))
    rw [← hb', tk, ti, tk, ti, tk]
end Go.Proofs.Ytbmghddmilgngaa
namespace Go.Proofs.Ytbmghddmilgngaa
open Go.RowKit

noncomputable def samB (m : List (List Int)) (a b : List Int) : Bool := wordB m a && wordB m b && eqwB (imgW m a) (imgW m b)
def sgn8 (n : Nat) : Int := if n % 2 = 0 then 1 else -1
end Go.Proofs.Ytbmghddmilgngaa
namespace Go.Proofs.Ytbmghddmilgngaa
open Go.RowKit

def zerosR (n : Nat) : List Int := List.replicate n 0
def zeros (n : Nat) : List (List Int) := List.replicate n (zerosR n)
theorem zeros_len (n : Nat) : (zeros n).length = n := by simp [zeros]
theorem zeros_get (n k : Nat) (h : k < (zeros n).length) : (zeros n)[k] = zerosR n := by simp [zeros]
theorem zerosR_len (n : Nat) : (zerosR n).length = n := by simp [zerosR]
theorem zeros_small (n : Nat) (h : n ≤ 1048576) : Small (zeros n) := ⟨by rw [zeros_len]; exact h, fun j hj => by rw [zeros_get, zerosR_len]; exact h⟩

theorem makeInts (n : Nat) (hn : n ≤ 1048576) (w : World) : (Instr.makeSlice 25 (.int .i64 n) (.int .i64 n)).run Try.prog w = .ok (.slice (some ⟨w.heap.size, 0, none⟩) n n) (w.alloc (.cells (intsV (zerosR n)).toArray 3)) := by
  obtain ⟨i0, hi, hz0, hz1, hz2⟩ := info_parts Try.infoInt
  have h := run_make (P := Try.prog) w 25 3 i0 (.int .i64 0) Try.underlying25 hi hz0 .i64 .i64 (n : Int) (n : Int) (by omega) (Int.le_refl _) (by rw [hz2]; omega) (by omega)
  rw [h, hz1, Nat.mul_one, Int.toNat_natCast]
  unfold zerosR
  rw [← madeI64]
theorem makeRows (n : Nat) (hn : n ≤ 1048576) (w : World) (m : List (List Int)) (hm : m.length = n) : (Instr.makeSlice 24 (.int .i64 n) (.int .i64 n)).run Try.prog w = .ok (.slice (some ⟨w.heap.size, 0, none⟩) n n) (w.alloc (.cells (hdrSt w.heap.size m 0).toArray 25)) := by
  obtain ⟨i0, hi, hz0, hz1, hz2⟩ := info_parts Try.infoRow
  have h := run_make (P := Try.prog) w 24 25 i0 (.slice none 0 0) Try.underlying24 hi hz0 .i64 .i64 (n : Int) (n : Int) (by omega) (Int.le_refl _) (by rw [hz2]; omega) (by omega)
  rw [h, hz1, Nat.mul_one, hdrSt_zero, hm, ← madeRows, Int.toNat_natCast]

/-! ### Entries set column by column -/
def stR (m : List (List Int)) (n k j r : Nat) : List Int := (List.range n).map fun c => if c < k ∨ (c = k ∧ r < j) then entry m c r else 0
def stM (m : List (List Int)) (n k j : Nat) : List (List Int) := (List.range n).map fun r => stR m n k j r
theorem stM_len (m : List (List Int)) (n k j : Nat) : (stM m n k j).length = n := by simp [stM]
theorem stR_len (m : List (List Int)) (n k j r : Nat) : (stR m n k j r).length = n := by simp [stR]
theorem stM_get (m : List (List Int)) (n k j r : Nat) (h : r < n) : (stM m n k j).getD r [] = stR m n k j r := by simp [stM, List.getD, h]
theorem stM_zero (m : List (List Int)) (n : Nat) : stM m n 0 0 = zeros n := by
  apply List.ext_getElem
  · simp [stM, zeros]
  · intro i h1 h2
    simp only [stM, zeros, zerosR, List.getElem_map, List.getElem_range, List.getElem_replicate, stR]
    apply List.ext_getElem
    · simp
    · intro c h3 h4; simp
theorem stM_next (m : List (List Int)) (n k : Nat) : stM m n k n = stM m n (k + 1) 0 := by
  apply List.ext_getElem
  · simp [stM]
  · intro i h1 h2
    have hi : i < n := by simpa [stM] using h1
    simp only [stM, List.getElem_map, List.getElem_range, stR]
    apply List.ext_getElem
    · simp
    · intro c h3 h4
      simp only [List.getElem_map, List.getElem_range]
      by_cases hc : c ≤ k
      · rw [if_pos (by omega), if_pos (by omega)]
      · rw [if_neg (by omega), if_neg (by omega)]
theorem stM_end (m : List (List Int)) (n : Nat) : stM m n n 0 = trN m n := by
  apply List.ext_getElem
  · simp [stM, trN]
  · intro i h1 h2
    simp only [stM, trN, List.getElem_map, List.getElem_range, stR, colR]
    apply List.ext_getElem
    · simp
    · intro c h3 h4
      have hc : c < n := by simpa using h3
      simp [hc]
theorem stM_step (m : List (List Int)) (n k j : Nat) (_hk : k < n) (hj : j < n) : set2 (stM m n k j) j k (entry m k j) = stM m n k (j + 1) := by
  apply List.ext_getElem
  · simp [stM, set2]
  · intro i h1 h2
    have hi : i < n := by simpa [stM] using h2
    by_cases hij : i = j
    · subst hij
      rw [set2_at, stM_get m n k i i hi]
      simp only [stM, List.getElem_map, List.getElem_range, stR]
      apply List.ext_getElem
      · simp
      · intro c h3 h4
        rw [List.getElem_set]
        simp only [List.getElem_map, List.getElem_range]
        by_cases hc : k = c
        · subst hc
          rw [if_pos rfl, if_pos (by omega)]
        · rw [if_neg hc]
          by_cases hlt : c < k
          · rw [if_pos (by omega), if_pos (by omega)]
          · rw [if_neg (by omega), if_neg (by omega)]
    · rw [set2_ne _ _ _ _ _ _ (by rw [stM_len]; exact hi) hij]
      simp only [stM, List.getElem_map, List.getElem_range, stR]
      apply List.ext_getElem
      · simp
      · intro c h3 h4
        simp only [List.getElem_map, List.getElem_range]
        by_cases hc : c < k ∨ (c = k ∧ i < j)
        · rw [if_pos hc, if_pos (by omega)]
        · rw [if_neg hc, if_neg (by omega)]

theorem trM_small (m : List (List Int)) : szSum (trM m) ≤ 1048576 := by
  by_cases hI : IsC m
  · rw [trM_yes hI]
    have h4 := hI.2.2.2
    have : ∀ n k, ((List.range k).map fun i => colR m n i).map List.length = List.replicate k n := by
      intro n k
      apply List.ext_getElem
      · simp
      · intro i h1 h2; simp [colR]
    unfold szSum
    rw [trN_len]
    unfold trN
    rw [this, List.sum_replicate_nat]
    have : m.length * m.length ≤ 4 * 4 := Nat.mul_le_mul h4 h4
    omega
  · rw [trM_no hI]; decide
end Go.Proofs.Ytbmghddmilgngaa
namespace Go.Proofs.Ytbmghddmilgngaa
open Go.RowKit

theorem wrap_prod {x y : Int} (hx : -3 ≤ x ∧ x ≤ 0) (hy : -3 ≤ y ∧ y ≤ 0) : wrap64 (x * y) = x * y := by
  have h : 0 ≤ x * y ∧ x * y ≤ 9 := by
    have hx' : x = 0 ∨ x = -1 ∨ x = -2 ∨ x = -3 := four hx
    rcases hx' with rfl | rfl | rfl | rfl <;> omega
  exact IntWalk.wrap64_in _ ⟨by omega, by omega⟩
def ptB (i : Int) (n : Nat) : Bool := decide (0 ≤ i ∧ i ≤ (n : Int) - 1)
theorem ptB_yes {i : Int} {n : Nat} (h : 0 ≤ i ∧ i ≤ (n : Int) - 1) : ptB i n = true := decide_eq_true h
theorem ptB_no {i : Int} {n : Nat} (h : ¬ (0 ≤ i ∧ i ≤ (n : Int) - 1)) : ptB i n = false := decide_eq_false h
set_option maxHeartbeats 400000 in
theorem pt_any (a : Option Addr) (n cap : Nat) (i : Int) (w : World) (_hl : n ≤ 2 ^ 63 - 1) :
    Calls Try.prog 86 #[.slice a n cap, .int .i64 i] w fun e w' => e = .returned (.bool (ptB i n)) ∧ w = w' := by
  by_cases h : 0 ≤ i
  · have h1 : decide (0 ≤ i) = true := decide_eq_true h
    by_cases h2 : i ≤ (n : Int) - 1
    · have HV := Lib.hid (ptB_yes ⟨h, h2⟩)
      have h3 : decide (i < (n : Int)) = true := decide_eq_true (by omega)
      go_enter Try.func86, Try.ntmps86
      go_wp2_with fail
      go_ret
      exact ⟨ret_boolean HV.out.symm, rfl⟩
    · have HV := Lib.hid (ptB_no (i := i) (n := n) (fun x => h2 x.2))
      have h3 : decide (i < (n : Int)) = false := decide_eq_false (by omega)
      go_enter Try.func86, Try.ntmps86
      go_wp2_with fail
      go_ret
      exact ⟨ret_boolean HV.out.symm, rfl⟩
  · have HV := Lib.hid (ptB_no (i := i) (n := n) (fun x => h x.1))
    have h1 : decide (0 ≤ i) = false := decide_eq_false h
    go_enter Try.func86, Try.ntmps86
    go_wp2_with fail
    go_ret
    exact ⟨ret_boolean HV.out.symm, rfl⟩
theorem pt_c (a : Option Addr) (n cap : Nat) (i : Int) (c : Bool) (hc : ptB i n = c) (w : World) (hl : n ≤ 2 ^ 63 - 1) :
    Calls Try.prog 86 #[.slice a n cap, .int .i64 i] w fun e w' => e = .returned (.bool c) ∧ w = w' :=
  (pt_any a n cap i w hl).mono fun e w' ⟨he, hw⟩ => ⟨by rw [he]; exact ret_boolean hc, hw⟩
theorem icm_0 (B : Nat) (v : Value) (m : List (List Int)) (c : Bool) (hc : isB m = c) (w : World) (h : MatB B w v m) (hf : RowsFit m) :
    Calls Try.prog 74 #[v] w fun e w' => e = .returned (.bool c) ∧ ∃ m, w' = w.drewN m :=
  (icm_any B v m w h hf).mono fun e w' ⟨he, hw⟩ => ⟨by rw [he]; exact ret_boolean hc, hw⟩

end Go.Proofs.Ytbmghddmilgngaa
namespace Go.Proofs.Ytbmghddmilgngaa
open Go.RowKit

def nbF (m : List (List Int)) (i j : Nat) : Bool := decide (j ≠ i ∧ entry m i j ≠ 0)
def nbK (m : List (List Int)) (i k : Nat) : List Int := ((List.range k).filter (nbF m i)).map fun (j : Nat) => (j : Int)
theorem nbK_yes {m : List (List Int)} {i k : Nat} (h1 : k ≠ i) (h2 : entry m i k ≠ 0) : nbK m i k ++ [(k : Int)] = nbK m i (k + 1) := by
  have h : nbF m i k = true := decide_eq_true ⟨h1, h2⟩
  unfold nbK
  rw [List.range_succ, List.filter_append, List.map_append]
  simp [h]
theorem nbK_no {m : List (List Int)} {i k : Nat} (h' : ¬ (k ≠ i ∧ entry m i k ≠ 0)) : nbK m i k = nbK m i (k + 1) := by
  have h : nbF m i k = false := decide_eq_false h'
  unfold nbK
  rw [List.range_succ, List.filter_append, List.map_append]
  simp [h]
theorem nbK_len (m : List (List Int)) (i k : Nat) : (nbK m i k).length ≤ k := by
  unfold nbK
  rw [List.length_map]
  exact Nat.le_trans (List.length_filter_le _ _) (by simp)
/-- What NeighboursOf returns. -/
def NbOk (m : List (List Int)) (i : Int) : Prop := IsC m ∧ (0 ≤ i ∧ i ≤ (m.length : Int) - 1)
open Classical in
noncomputable def nbs (m : List (List Int)) (i : Int) : List Int := if NbOk m i then nbK m i.toNat m.length else []
theorem nbs_yes {m : List (List Int)} {i : Int} (h : NbOk m i) : nbs m i = nbK m i.toNat m.length := if_pos h
theorem nbs_no {m : List (List Int)} {i : Int} (h : ¬ NbOk m i) : nbs m i = [] := if_neg h
theorem nbs_len (m : List (List Int)) (i : Int) : (nbs m i).length ≤ 4 := by
  by_cases h : NbOk m i
  · rw [nbs_yes h]; exact Nat.le_trans (nbK_len _ _ _) h.1.2.2.2
  · rw [nbs_no h]; simp
theorem makesS_nil {w w' : World} {x : Value} {l : List Int} (hl : l = []) (h : RowI w.heap.size w'.heap.size w' x []) (hb : Below w.heap.size w w') : MakesS w l (.returned x) w' :=
  ⟨x, rfl, by rw [hl]; exact ⟨h, Nat.le_refl _⟩, hb⟩
theorem RowI.nil (A B : Nat) (w : World) : RowI A B w (.slice none 0 0) [] := ⟨World.ownsRow_nil _ _ _ _, fun g h => by simp [Value.ownBlock] at h⟩

end Go.Proofs.Ytbmghddmilgngaa
