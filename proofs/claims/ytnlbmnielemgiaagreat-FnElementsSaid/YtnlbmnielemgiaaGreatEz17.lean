/-
  Lengths: what the model's NormalForm, LengthOf, IsReduced and SignOf return.
  Lengths: what the model's LeftDescents, RightDescents and AreSame return.
  Lengths: letters in front and behind, braid moves, the least word: what the law on lengths asks of the mathematics (no walk here).
  Lengths: what the model's AreSame and SignOf return.
  TransposeCartan of the program: what the call returns.
-/
import Derived.Test.YtnlbmnielemgiaaGreatEz16
import Derived.Test.YtnlbmnielemgiaaGreatEz11
import Derived.Test.YtnlbmnielemgiaaGreatEz08
import Derived.Test.YtnlbmnielemgiaaGreatEz10
import Derived.Test.YtnlbmnielemgiaaGreatEz15
namespace Go.Proofs.YtnlbmnielemgiaaGreat
open Go.RowKit

set_option maxHeartbeats 4000000 in
set_option maxRecDepth 100000 in
theorem nrm8_any (B B' : Nat) (v v' : Value) (m : List (List Int)) (ws : List Int) (w : World) (h : MatB B w v m) (h' : RowB B' w v' ws) (hB : B ≤ w.heap.size) (hB' : B' ≤ w.heap.size) (hf : RowsFit m) (hI : IsC m) (hW : LetTo m.length ws ws.length) (hw : ws.length ≤ 1048576) :
    Calls Tryz.prog 61 #[v, v'] w (MakesS w (frmI m 31 (imgW m ws))) := by
  have HIM := Lib.hid (img8_any B B' v v' m ws w h h' hB hB' hf hI hW hw)
  have HFM := Lib.hid (fun (x : Value) (wx : World) (hb : Below w.heap.size w wx) (hx : RowB wx.heap.size wx x (imgW m ws)) => frm8_any B wx.heap.size v x m (imgW m ws) wx (h.below hb hB) hx (Nat.le_trans hB hb.size) (Nat.le_refl _) hI (imgW_len m ws))
  clear h h' hf hI hW
  generalize imgW m ws = im at *
  generalize frmI m 31 im = R at *
  go_enter Tryz.func61, Tryz.ntmps61
  go_wp2_with fail
  refine HIM.out.mono ?_
  rintro e w1 ⟨x, rfl, hx, hb1⟩
  have HB1 := Lib.hid hb1
  have HC := Lib.hid (HFM.out x w1 hb1 hx.1.rowB)
  clear hx hb1
  go_wp2_with fail
  refine HC.out.mono ?_
  rintro e w2 ⟨y, rfl, hy, hb2⟩
  have HY := Lib.hid (hy.1.mono HB1.out.size (Nat.le_refl _))
  have HB2 := Lib.hid (HB1.out.trans (hb2.mono HB1.out.size))
  clear hy hb2
  go_wp2_with fail
  go_ret
  exact ⟨_, rfl, ⟨HY.out, Nat.le_refl _⟩, HB2.out⟩
set_option maxHeartbeats 4000000 in
set_option maxRecDepth 100000 in
theorem nrms_any (B B' : Nat) (v v' : Value) (m : List (List Int)) (ws : List Int) (w : World) (h : MatB B w v m) (h' : RowB B' w v' ws) (hB : B ≤ w.heap.size) (hB' : B' ≤ w.heap.size) (hf : RowsFit m) (hw : ws.length ≤ 1048576) :
    Calls Tryz.prog 48 #[v, v'] w (MakesS2 w (nrmL m ws) (.bool (wordB m ws))) := by
  have HIW := Lib.hid (isws_any B B' v v' m ws w h h' hf (by unfold maxLen; omega))
  by_cases hW : IsW m ws
  · have HV := Lib.hid (nrmL_yes hW)
    have HB := Lib.hid (wordB_yes hW)
    have HNR := Lib.hid (fun (wx : World) (hb : Below w.heap.size w wx) => nrm8_any B B' v v' m ws wx (h.below hb hB) (h'.below hb hB') (Nat.le_trans hB hb.size) (Nat.le_trans hB' hb.size) hf hW.2.1 hW.1 hw)
    rw [HB.out] at HIW ⊢
    clear h h' hf hW HB
    generalize nrmL m ws = R at *
    rw [← HV.out] at HNR
    clear HV
    go_enter Tryz.func48, Tryz.ntmps48
    go_wp2_with fail
    refine HIW.out.mono ?_
    rintro e w1 ⟨rfl, q, rfl⟩
    have HB1 := Lib.hid (below_drewN (w := w) q)
    have HC := Lib.hid (HNR.out _ HB1.out)
    clear HIW HNR
    go_wp2_with fail
    refine HC.out.mono ?_
    rintro e w2 ⟨y, rfl, hy, hb2⟩
    have HY := Lib.hid (hy.1.mono HB1.out.size (Nat.le_refl _))
    have HB2 := Lib.hid (HB1.out.trans (hb2.mono HB1.out.size))
    clear hy hb2
    go_wp2_with fail
    go_ret2
    exact ⟨_, rfl, ⟨HY.out, Nat.le_refl _⟩, HB2.out⟩
  · have HV := Lib.hid (nrmL_no hW)
    have HB := Lib.hid (wordB_no hW)
    rw [HB.out] at HIW ⊢
    rw [HV.out]
    clear h h' hf hW HB HV
    go_enter Tryz.func48, Tryz.ntmps48
    go_wp2_with fail
    refine HIW.out.mono ?_
    rintro e w1 ⟨rfl, q, rfl⟩
    have HB1 := Lib.hid (below_drewN (w := w) q)
    clear HIW
    go_wp2_with fail
    go_ret2
    exact ⟨_, rfl, ⟨(row_empty (w.drewN q)).mono HB1.out.size (Nat.le_refl _), Nat.le_refl _⟩, HB1.out.alloc HB1.out.size _⟩
noncomputable def lenI (m : List (List Int)) (ws : List Int) : Int := if wordB m ws = true then ((nrmL m ws).length : Int) else -1
set_option maxHeartbeats 4000000 in
set_option maxRecDepth 100000 in
theorem lens_any (B B' : Nat) (v v' : Value) (m : List (List Int)) (ws : List Int) (w : World) (h : MatB B w v m) (h' : RowB B' w v' ws) (hB : B ≤ w.heap.size) (hB' : B' ≤ w.heap.size) (hf : RowsFit m) (hw : ws.length ≤ 1048576) :
    Calls Tryz.prog 54 #[v, v'] w fun e w' => e = .returned (.int .i64 (lenI m ws)) ∧ Below w.heap.size w w' := by
  have HN := Lib.hid (nrms_any B B' v v' m ws w h h' hB hB' hf hw)
  have HV := Lib.hid (show lenI m ws = if wordB m ws = true then ((nrmL m ws).length : Int) else -1 from rfl)
  clear h h' hf
  generalize lenI m ws = R at *
  generalize nrmL m ws = nl at *
  generalize wordB m ws = wb at *
  cases wb with
  | true =>
    have hv := HV.out
    rw [if_pos rfl] at hv
    subst hv
    go_enter Tryz.func54, Tryz.ntmps54
    go_wp2_with fail
    refine HN.out.mono ?_
    rintro e w1 ⟨x, rfl, hx, hb1⟩
    have HB1 := Lib.hid hb1
    obtain ⟨xa, xcap, rfl⟩ := hx.1.slice
    clear hx hb1
    go_wp2_with fail
    go_ret
    exact ⟨rfl, HB1.out⟩
  | false =>
    have hv := HV.out
    rw [if_neg (by simp)] at hv
    subst hv
    go_enter Tryz.func54, Tryz.ntmps54
    go_wp2_with fail
    refine HN.out.mono ?_
    rintro e w1 ⟨x, rfl, hx, hb1⟩
    have HB1 := Lib.hid hb1
    obtain ⟨xa, xcap, rfl⟩ := hx.1.slice
    clear hx hb1
    go_wp2_with fail
    go_ret
    exact ⟨rfl, HB1.out⟩
end Go.Proofs.YtnlbmnielemgiaaGreat
namespace Go.Proofs.YtnlbmnielemgiaaGreat
open Go.RowKit

noncomputable def ldsL (m : List (List Int)) (ws : List Int) : List Int := if wordB m ws = true then dnsK (imgW m ws) m.length else []
theorem ldsL_yes {m : List (List Int)} {ws : List Int} (h : IsW m ws) : ldsL m ws = dnsK (imgW m ws) m.length := if_pos (wordB_yes h)
theorem ldsL_no {m : List (List Int)} {ws : List Int} (h : ¬ IsW m ws) : ldsL m ws = [] := by unfold ldsL; rw [wordB_no h]; rfl
theorem ldsL_len (m : List (List Int)) (ws : List Int) : (ldsL m ws).length ≤ 4 := by
  by_cases h : IsW m ws
  · rw [ldsL_yes h]; have := dnsK_len (imgW m ws) m.length; have := h.2.1.2.2.2; omega
  · rw [ldsL_no h]; simp
end Go.Proofs.YtnlbmnielemgiaaGreat
namespace Go.Proofs.YtnlbmnielemgiaaGreat
open Go.RowKit

/-- The length of a word's element, with its map. -/
theorem nrm_len {m : List (List Int)} {ws : List Int} (hW : IsW m ws) : Len m.length (entry m) (natsW ws) (nrmL m ws).length := by
  obtain ⟨L, h1, h2, _⟩ := img_dn hW.2.1 hW.1 (by have := hW.2.2; omega)
  have hf := frm_of hW.2.1 (imgW_len m ws) (by have := hW.2.2; omega) h1
  have hv := (imgN_vec hW.2.1 (natsW ws) (natsW_in hW.1) (by rw [natsW_len]; have := hW.2.2; omega)).1
  rw [← imgW_nats] at hv
  rw [nrmL_yes hW, hf.1]
  unfold Len
  have e : mapN (entry m) (natsW ws) onesV = vecW (imgW m ws) := hv.symm
  rw [e]; exact h1
theorem img_at {m : List (List Int)} {ws : List Int} (hW : IsW m ws) {i : Nat} (hi : i < m.length) : (imgW m ws).getD i 0 = mapN (entry m) (natsW ws) onesV i := by
  have hv := (imgN_vec hW.2.1 (natsW ws) (natsW_in hW.1) (by rw [natsW_len]; have := hW.2.2; omega)).1
  rw [← imgW_nats] at hv
  rw [← vecW_in (by rw [imgW_len]; exact hi), hv]; rfl
theorem dnsK_mem {l : List Int} {k i : Nat} : (i : Int) ∈ dnsK l k ↔ i < k ∧ l.getD i 0 < 0 := by
  unfold dnsK
  rw [List.mem_map]
  constructor
  · rintro ⟨j, hj, e⟩
    rw [List.mem_filter, List.mem_range] at hj
    have : j = i := by omega
    subst this
    exact ⟨hj.1, of_decide_eq_true hj.2⟩
  · rintro ⟨h1, h2⟩
    exact ⟨i, by rw [List.mem_filter, List.mem_range]; exact ⟨h1, decide_eq_true h2⟩, rfl⟩
theorem isW_cons {m : List (List Int)} {ws : List Int} (hW : IsW m ws) (h15 : ws.length < 15) {i : Nat} (hi : i < m.length) : IsW m ((i : Int) :: ws) := by
  refine ⟨fun j hj => ?_, hW.2.1, by simp; omega⟩
  cases j with
  | zero => simp; omega
  | succ j => have := hW.1 j (by simpa using hj); simpa using this
theorem letTo_snoc {n : Nat} {a : List Int} (ha : LetTo n a a.length) {i : Nat} (hi : i < n) : LetTo n (a ++ [(i : Int)]) (a ++ [(i : Int)]).length := by
  intro j hj
  rw [List.length_append, List.length_singleton] at hj
  rcases Nat.lt_or_ge j a.length with h | h
  · have := ha j h
    have e : (a ++ [(i : Int)]).getD j 0 = a.getD j 0 := by rw [List.getD_eq_getElem?_getD, List.getD_eq_getElem?_getD, List.getElem?_append_left h]
    rw [e]; exact this
  · obtain rfl : j = a.length := by omega
    simp; omega
theorem isW_snoc {m : List (List Int)} {ws : List Int} (hW : IsW m ws) (h15 : ws.length < 15) {i : Nat} (hi : i < m.length) : IsW m (ws ++ [(i : Int)]) :=
  ⟨letTo_snoc hW.1 hi, hW.2.1, by rw [List.length_append]; simp; omega⟩
theorem isW_rev {m : List (List Int)} {ws : List Int} (hW : IsW m ws) : IsW m ws.reverse := by
  refine ⟨fun j hj => ?_, hW.2.1, by rw [List.length_reverse]; exact hW.2.2⟩
  rw [List.length_reverse] at hj
  have h := hW.1 (ws.length - 1 - j) (by omega)
  have e : ws.reverse.getD j 0 = ws.getD (ws.length - 1 - j) 0 := by
    rw [List.getD_eq_getElem?_getD, List.getD_eq_getElem?_getD, List.getElem?_reverse hj]
  rw [e]; exact h
/-- One letter in front. -/
theorem front_law {m : List (List Int)} {ws : List Int} (hW : IsW m ws) (h15 : ws.length < 15) {i : Nat} (hi : i < m.length) :
    ((nrmL m ((i : Int) :: ws)).length = (nrmL m ws).length + 1 ∨ (nrmL m ws).length = (nrmL m ((i : Int) :: ws)).length + 1) ∧ ((nrmL m ((i : Int) :: ws)).length < (nrmL m ws).length ↔ (i : Int) ∈ ldsL m ws) := by
  have g := gcm_of hW.2.1
  have h1 := nrm_len hW
  have h2 := nrm_len (isW_cons hW h15 hi)
  have e : natsW ((i : Int) :: ws) = i :: natsW ws := by simp [natsW]
  rw [e] at h2
  have hf := len_front g hi h1 h2
  rw [ldsL_yes hW, dnsK_mem, img_at hW hi]
  generalize (nrmL m ((i : Int) :: ws)).length = K at *
  generalize (nrmL m ws).length = N at *
  rcases Int.lt_or_gt_of_ne hf.1 with h | h
  · have := hf.2.2 h
    exact ⟨Or.inr this, ⟨fun _ => ⟨hi, h⟩, fun _ => by omega⟩⟩
  · have := hf.2.1 h
    exact ⟨Or.inl this, ⟨fun hh => by omega, fun hh => by omega⟩⟩
theorem natsW_rev (ws : List Int) : natsW ws.reverse = (natsW ws).reverse := by simp [natsW]
/-- One letter behind. -/
theorem back_law {m : List (List Int)} {ws : List Int} (hW : IsW m ws) (h15 : ws.length < 15) {i : Nat} (hi : i < m.length) :
    ((nrmL m (ws ++ [(i : Int)])).length < (nrmL m ws).length ↔ (i : Int) ∈ ldsL m ws.reverse) := by
  have g := gcm_of hW.2.1
  have h1 := nrm_len hW
  have h2 := nrm_len (isW_snoc hW h15 hi)
  have e : natsW (ws ++ [(i : Int)]) = natsW ws ++ [i] := by simp [natsW]
  rw [e] at h2
  have hf := len_back g (natsW_in hW.1) hi h1 h2
  rw [ldsL_yes (isW_rev hW), dnsK_mem, img_at (isW_rev hW) hi, natsW_rev]
  generalize (nrmL m (ws ++ [(i : Int)])).length = K at *
  generalize (nrmL m ws).length = N at *
  rcases Int.lt_or_gt_of_ne hf.1 with h | h
  · have := hf.2.2 h
    exact ⟨fun _ => ⟨hi, h⟩, fun _ => by omega⟩
  · have := hf.2.1 h
    exact ⟨fun hh => by omega, fun hh => by omega⟩
theorem nrm_nrm {m : List (List Int)} {ws : List Int} (hW : IsW m ws) : nrmL m (nrmL m ws) = nrmL m ws := by
  rw [nrmL_yes (nrm_word hW), nrm_img hW, ← nrmL_yes hW]
/-! ### Braid moves keep the map -/
theorem braid_map {n : Nat} {A : Nat → Nat → Int} (g : Gcm n A) {i k : Nat} (hi : i < n) (hk : k < n) (hik : i ≠ k) {p : Nat} (h : relN (A i k * A k i) p) (z : Nat → Int) : mapN A (altN i k p) z = mapN A (altN k i p) z := by
  have b := brd_map g
  have ti : ∀ z, rfC A i (rfC A i z) = z := rfC_twice (g.diag i hi)
  have tk : ∀ z, rfC A k (rfC A k z) = z := rfC_twice (g.diag k hk)
  have h1 := g.off i k hi hk hik
  have h2 := g.off k i hk hi (fun e => hik e.symm)
  have hz := g.zero i k hi hk
  have hz2 := g.zero k i hk hi
  generalize hd : A i k = d at *
  generalize he : A k i = e at *
  have c1 : d = -3 ∨ d = -2 ∨ d = -1 ∨ d = 0 := by omega
  have c2 : e = -3 ∨ e = -2 ∨ e = -1 ∨ e = 0 := by omega
  rcases h with ⟨hp, rfl⟩ | ⟨hp, rfl⟩ | ⟨hp, rfl⟩ | ⟨hp, rfl⟩
  · have e0 : d = 0 ∧ e = 0 := by
      rcases c1 with rfl | rfl | rfl | rfl <;> rcases c2 with rfl | rfl | rfl | rfl <;> first | exact ⟨rfl, rfl⟩ | exact absurd (hz rfl) (by decide) | exact absurd (hz2 rfl) (by decide) | exact absurd hp (by decide)
    obtain ⟨rfl, rfl⟩ := e0
    have hb := congrFun (b.b00 i k hi hk hd he id) z
    show rfC A i (rfC A k z) = rfC A k (rfC A i z)
    have hb' : rfC A k (rfC A i (rfC A k z)) = rfC A i z := hb
    rw [← hb', tk]
  · have e0 : d = -1 ∧ e = -1 := by
      rcases c1 with rfl | rfl | rfl | rfl <;> rcases c2 with rfl | rfl | rfl | rfl <;> simp at hp ⊢
    obtain ⟨rfl, rfl⟩ := e0
    have hb' : rfC A k (rfC A i (rfC A k (rfC A i (rfC A k z)))) = rfC A i z := congrFun (b.b11 i k hi hk hd he id) z
    show rfC A i (rfC A k (rfC A i z)) = rfC A k (rfC A i (rfC A k z))
    rw [← hb', tk, ti]
  · have e0 : (d = -1 ∧ e = -2) ∨ (d = -2 ∧ e = -1) := by
      rcases c1 with rfl | rfl | rfl | rfl <;> rcases c2 with rfl | rfl | rfl | rfl <;> simp at hp ⊢
    have hb' : rfC A k (rfC A i (rfC A k (rfC A i (rfC A k (rfC A i (rfC A k z)))))) = rfC A i z := by
      rcases e0 with ⟨rfl, rfl⟩ | ⟨rfl, rfl⟩
      · exact congrFun (b.b12 i k hi hk hd he id) z
      · exact congrFun (b.b21 i k hi hk hd he id) z
    show rfC A i (rfC A k (rfC A i (rfC A k z))) = rfC A k (rfC A i (rfC A k (rfC A i z)))
    rw [← hb', tk, ti, tk]
  · have e0 : (d = -1 ∧ e = -3) ∨ (d = -3 ∧ e = -1) := by
      rcases c1 with rfl | rfl | rfl | rfl <;> rcases c2 with rfl | rfl | rfl | rfl <;> simp at hp ⊢
    have hb' : rfC A k (rfC A i (rfC A k (rfC A i (rfC A k (rfC A i (rfC A k (rfC A i (rfC A k (rfC A i (rfC A k z)))))))))) = rfC A i z := by
      rcases e0 with ⟨rfl, rfl⟩ | ⟨rfl, rfl⟩
      · exact congrFun (b.b13 i k hi hk hd he id) z
      · exact congrFun (b.b31 i k hi hk hd he id) z
    show rfC A i (rfC A k (rfC A i (rfC A k (rfC A i (rfC A k z))))) = rfC A k (rfC A i (rfC A k (rfC A i (rfC A k (rfC A i z)))))
    rw [← hb', tk, ti, tk, ti, tk]
end Go.Proofs.YtnlbmnielemgiaaGreat
namespace Go.Proofs.YtnlbmnielemgiaaGreat
open Go.RowKit

noncomputable def samB (m : List (List Int)) (a b : List Int) : Bool := wordB m a && wordB m b && eqwB (imgW m a) (imgW m b)
set_option maxHeartbeats 4000000 in
set_option maxRecDepth 100000 in
theorem sams_any (B B' B'' : Nat) (v v' v'' : Value) (m : List (List Int)) (xs ys : List Int) (w : World) (h : MatB B w v m) (h' : RowB B' w v' xs) (h'' : RowB B'' w v'' ys) (hB : B ≤ w.heap.size) (hB' : B' ≤ w.heap.size) (hB'' : B'' ≤ w.heap.size) (hf : RowsFit m) (hx : xs.length ≤ 1048576) (hy : ys.length ≤ 1048576) :
    Calls Tryz.prog 55 #[v, v', v''] w fun e w' => e = .returned (.bool (samB m xs ys)) ∧ Below w.heap.size w w' := by
  have HI1 := Lib.hid (isws_any B B' v v' m xs w h h' hf (by unfold maxLen; omega))
  have HI2 := Lib.hid (fun (wx : World) (hb : Below w.heap.size w wx) => isws_any B B'' v v'' m ys wx (h.below hb hB) (h''.below hb hB'') hf (by unfold maxLen; omega))
  have HD := Lib.hid (show samB m xs ys = (wordB m xs && wordB m ys && eqwB (imgW m xs) (imgW m ys)) from rfl)
  by_cases h1 : IsW m xs
  · have HW1 := Lib.hid (wordB_yes h1)
    by_cases h2 : IsW m ys
    · have HW2 := Lib.hid (wordB_yes h2)
      have HM1 := Lib.hid (fun (wx : World) (hb : Below w.heap.size w wx) => img8_any B B' v v' m xs wx (h.below hb hB) (h'.below hb hB') (Nat.le_trans hB hb.size) (Nat.le_trans hB' hb.size) hf h1.2.1 h1.1 hx)
      have HM2 := Lib.hid (fun (wx : World) (hb : Below w.heap.size w wx) => img8_any B B'' v v'' m ys wx (h.below hb hB) (h''.below hb hB'') (Nat.le_trans hB hb.size) (Nat.le_trans hB'' hb.size) hf h1.2.1 h2.1 hy)
      have HL1 := Lib.hid (show (imgW m xs).length ≤ maxLen from by rw [imgW_len]; have := h1.2.1.2.2.2; unfold maxLen; omega)
      have HL2 := Lib.hid (show (imgW m ys).length ≤ maxLen from by rw [imgW_len]; have := h1.2.1.2.2.2; unfold maxLen; omega)
      have hD := HD.out
      rw [HW1.out, HW2.out, Bool.true_and, Bool.true_and] at hD
      rw [hD]
      rw [HW1.out] at HI1; rw [HW2.out] at HI2
      clear h h' h'' hf h1 h2 HW1 HW2 HD hD
      generalize imgW m xs = im1 at *
      generalize imgW m ys = im2 at *
      go_enter Tryz.func55, Tryz.ntmps55
      go_wp2_with fail
      refine HI1.out.mono ?_
      rintro e w1 ⟨rfl, q, rfl⟩
      have HB1 := Lib.hid (below_drewN (w := w) q)
      have HC2 := Lib.hid (HI2.out _ HB1.out)
      clear HI1 HI2
      go_wp2_with fail
      refine HC2.out.mono ?_
      rintro e w2 ⟨rfl, q2, rfl⟩
      have HB2 := Lib.hid (below_drewN (w := w) (q + q2))
      have HC3 := Lib.hid (HM1.out _ HB2.out)
      clear HC2 HM1
      go_wp2_with fail
      refine HC3.out.mono ?_
      rintro e w3 ⟨x, rfl, hx3, hb3⟩
      have HB3 := Lib.hid (HB2.out.trans (hb3.mono HB2.out.size))
      have HX3 := Lib.hid hx3.1.rowB
      have HC4 := Lib.hid (HM2.out _ HB3.out)
      clear hx3 hb3 HC3 HM2
      go_wp2_with fail
      refine HC4.out.mono ?_
      rintro e w4 ⟨y, rfl, hy4, hb4⟩
      have HB4 := Lib.hid (HB3.out.trans (hb4.mono HB3.out.size))
      have HC5 := Lib.hid (eqws_any w4.heap.size x y im1 im2 w4 ((HX3.out.below hb4 (Nat.le_refl _)).mono hb4.size) hy4.1.rowB HL1.out HL2.out)
      clear hy4 hb4 HC4
      go_wp2_with fail
      refine HC5.out.mono ?_
      rintro e w5 ⟨rfl, q5, rfl⟩
      have HB5 := Lib.hid (HB4.out.trans ((below_drewN (w := w4) q5).mono HB4.out.size))
      go_wp2_with fail
      go_ret
      exact ⟨rfl, HB5.out⟩
    · have HW2 := Lib.hid (wordB_no h2)
      have hD := HD.out
      rw [HW1.out, HW2.out, Bool.and_false, Bool.false_and] at hD
      rw [hD]
      rw [HW1.out] at HI1; rw [HW2.out] at HI2
      clear h h' h'' hf h1 h2 HW1 HW2 HD hD
      go_enter Tryz.func55, Tryz.ntmps55
      go_wp2_with fail
      refine HI1.out.mono ?_
      rintro e w1 ⟨rfl, q, rfl⟩
      have HB1 := Lib.hid (below_drewN (w := w) q)
      have HC2 := Lib.hid (HI2.out _ HB1.out)
      clear HI1 HI2
      go_wp2_with fail
      refine HC2.out.mono ?_
      rintro e w2 ⟨rfl, q2, rfl⟩
      have HB2 := Lib.hid (below_drewN (w := w) (q + q2))
      go_wp2_with fail
      go_ret
      exact ⟨rfl, HB2.out⟩
  · have HW1 := Lib.hid (wordB_no h1)
    have hD := HD.out
    rw [HW1.out, Bool.false_and, Bool.false_and] at hD
    rw [hD]
    rw [HW1.out] at HI1
    clear h h' h'' hf h1 HW1 HD hD HI2
    go_enter Tryz.func55, Tryz.ntmps55
    go_wp2_with fail
    refine HI1.out.mono ?_
    rintro e w1 ⟨rfl, q, rfl⟩
    have HB1 := Lib.hid (below_drewN (w := w) q)
    go_wp2_with fail
    go_ret
    exact ⟨rfl, HB1.out⟩
def sgn8 (n : Nat) : Int := if n % 2 = 0 then 1 else -1
end Go.Proofs.YtnlbmnielemgiaaGreat
namespace Go.Proofs.YtnlbmnielemgiaaGreat
open Go.RowKit

def zerosR (n : Nat) : List Int := List.replicate n 0
def zeros (n : Nat) : List (List Int) := List.replicate n (zerosR n)
theorem zeros_len (n : Nat) : (zeros n).length = n := by simp [zeros]
theorem zeros_get (n k : Nat) (h : k < (zeros n).length) : (zeros n)[k] = zerosR n := by simp [zeros]
theorem zerosR_len (n : Nat) : (zerosR n).length = n := by simp [zerosR]
theorem zeros_small (n : Nat) (h : n ≤ 1048576) : Small (zeros n) := ⟨by rw [zeros_len]; exact h, fun j hj => by rw [zeros_get, zerosR_len]; exact h⟩

theorem makeInts (n : Nat) (hn : n ≤ 1048576) (w : World) : (Instr.makeSlice 25 (.int .i64 n) (.int .i64 n)).run Tryz.prog w = .ok (.slice (some ⟨w.heap.size, 0, none⟩) n n) (w.alloc (.cells (intsV (zerosR n)).toArray 3)) := by
  obtain ⟨i0, hi, hz0, hz1, hz2⟩ := info_parts Tryz.infoInt
  have h := run_make (P := Tryz.prog) w 25 3 i0 (.int .i64 0) Tryz.underlying25 hi hz0 .i64 .i64 (n : Int) (n : Int) (by omega) (Int.le_refl _) (by rw [hz2]; omega) (by omega)
  rw [h, hz1, Nat.mul_one, Int.toNat_natCast]
  unfold zerosR
  rw [← madeI64]
theorem makeRows (n : Nat) (hn : n ≤ 1048576) (w : World) (m : List (List Int)) (hm : m.length = n) : (Instr.makeSlice 24 (.int .i64 n) (.int .i64 n)).run Tryz.prog w = .ok (.slice (some ⟨w.heap.size, 0, none⟩) n n) (w.alloc (.cells (hdrSt w.heap.size m 0).toArray 25)) := by
  obtain ⟨i0, hi, hz0, hz1, hz2⟩ := info_parts Tryz.infoRow
  have h := run_make (P := Tryz.prog) w 24 25 i0 (.slice none 0 0) Tryz.underlying24 hi hz0 .i64 .i64 (n : Int) (n : Int) (by omega) (Int.le_refl _) (by rw [hz2]; omega) (by omega)
  rw [h, hz1, Nat.mul_one, hdrSt_zero, hm, ← madeRows, Int.toNat_natCast]

set_option maxHeartbeats 1000000 in
set_option maxRecDepth 100000 in
theorem zm_any (n : Nat) (w : World) (hn : n ≤ 1048576) :
    Calls Tryz.prog 109 #[.int .i64 n] w (MakesM w (zeros n)) := by
  have hmk := makeRows n hn w (zeros n) (zeros_len n)
  go_enter Tryz.func109, Tryz.ntmps109
  go_wp2_with fail
  clear hmk
  go_loopw [9] (fun i wr => ∃ (k : Nat) (wq : World), wq = wr ∧ k ≤ n ∧ i = .int .i64 k ∧ CopySt w.heap.size (zeros n) k wq ∧ Below w.heap.size w wq) (fun i _ => n - (intOf i).toNat)
  case atStart => exact ⟨0, _, rfl, Nat.zero_le _, rfl, ⟨(MapKept.heap_alloc w _).1, by simp, fun j _ hj => by omega⟩, (Below.refl _ _).alloc (Nat.le_refl _) _⟩
  case round =>
    obtain ⟨k, wr, rfl, hk, rfl, hcp, hb⟩ := hrel
    have HC := Lib.hid hcp; clear hcp
    have HB := Lib.hid hb; clear hb
    by_cases hlt : k < n
    · have hkl : k < (zeros n).length := by rw [zeros_len]; exact hlt
      have hsz := HC.out.2.1
      have HSZ := Lib.hid hsz
      have hst := copy_step HC.out hkl
      have hhd := hdr_eq w.heap.size (zeros n) k hkl
      rw [hhd, zeros_get, zerosR_len] at hst
      have HST := Lib.hid hst; clear hst hhd
      have hbs : Below w.heap.size w ((wr.alloc (.cells (intsV (zerosR n)).toArray 3)).setCell ⟨w.heap.size, k, none⟩ (.slice (some ⟨w.heap.size + 1 + k, 0, none⟩) n n)) :=
        (HB.out.alloc (by omega) _).setCell (Nat.le_refl _) _
      have HBS := Lib.hid hbs; clear hbs
      have hmk := makeInts n hn wr
      rw [hsz] at hmk
      obtain ⟨hO, _, _⟩ := HC.out
      have hO2 : (wr.alloc (.cells (intsV (zerosR n)).toArray 3)).heap[w.heap.size]? = some (.cells (hdrSt w.heap.size (zeros n) k).toArray 25 (0, 0)) := by
        rw [(MapKept.heap_alloc wr _).2 _ (by omega)]; exact hO
      have hold : (wr.alloc (.cells (intsV (zerosR n)).toArray 3)).cell? ⟨w.heap.size, k, none⟩ = some (.slice none 0 0) := by
        rw [cell_of_row _ _ k _ _ _ hO2]
        have := hdrSt_old w.heap.size (zeros n) k hkl
        simpa using this
      have hfz : (wr.alloc (.cells (intsV (zerosR n)).toArray 3)).frozen? ⟨w.heap.size, k, none⟩ = false := frozen_of_row _ _ k _ _ hO2
      clear hO hO2 hsz
      generalize hw1 : wr.alloc (.cells (intsV (zerosR n)).toArray 3) = w1 at *
      have HW1 := Lib.hid hw1; clear hw1
      go_wp2_with fail
      exact ⟨⟨k + 1, _, rfl, by omega, by go_num, HST.out, HBS.out⟩, by simp [intOf]; omega⟩
    · obtain rfl : k = n := by omega
      go_wp2_with fail
      go_ret
      have hc : CopySt w.heap.size (zeros k) (zeros k).length wr := by rw [zeros_len]; exact HC.out
      have h1 := hc.matI (zeros_small k hn)
      have h2 := hc.2.1
      rw [zeros_len] at h1 h2
      exact ⟨_, rfl, ⟨h1.mono (Nat.le_refl _) (by omega), Nat.le_refl _⟩, HB.out⟩

/-! ### Entries set column by column -/
def stR (m : List (List Int)) (n k j r : Nat) : List Int := (List.range n).map fun c => if c < k ∨ (c = k ∧ r < j) then entry m c r else 0
def stM (m : List (List Int)) (n k j : Nat) : List (List Int) := (List.range n).map fun r => stR m n k j r
theorem stM_len (m : List (List Int)) (n k j : Nat) : (stM m n k j).length = n := by simp [stM]
theorem stR_len (m : List (List Int)) (n k j r : Nat) : (stR m n k j r).length = n := by simp [stR]
theorem stM_get (m : List (List Int)) (n k j r : Nat) (h : r < n) : (stM m n k j).getD r [] = stR m n k j r := by simp [stM, List.getD, h]
theorem stM_zero (m : List (List Int)) (n : Nat) : stM m n 0 0 = zeros n := by
  apply List.ext_getElem
  · simp [stM, zeros]
  · intro i h1 h2
    simp only [stM, zeros, zerosR, List.getElem_map, List.getElem_range, List.getElem_replicate, stR]
    apply List.ext_getElem
    · simp
    · intro c h3 h4; simp
theorem stM_next (m : List (List Int)) (n k : Nat) : stM m n k n = stM m n (k + 1) 0 := by
  apply List.ext_getElem
  · simp [stM]
  · intro i h1 h2
    have hi : i < n := by simpa [stM] using h1
    simp only [stM, List.getElem_map, List.getElem_range, stR]
    apply List.ext_getElem
    · simp
    · intro c h3 h4
      simp only [List.getElem_map, List.getElem_range]
      by_cases hc : c ≤ k
      · rw [if_pos (by omega), if_pos (by omega)]
      · rw [if_neg (by omega), if_neg (by omega)]
theorem stM_end (m : List (List Int)) (n : Nat) : stM m n n 0 = trN m n := by
  apply List.ext_getElem
  · simp [stM, trN]
  · intro i h1 h2
    simp only [stM, trN, List.getElem_map, List.getElem_range, stR, colR]
    apply List.ext_getElem
    · simp
    · intro c h3 h4
      have hc : c < n := by simpa using h3
      simp [hc]
theorem stM_step (m : List (List Int)) (n k j : Nat) (_hk : k < n) (hj : j < n) : set2 (stM m n k j) j k (entry m k j) = stM m n k (j + 1) := by
  apply List.ext_getElem
  · simp [stM, set2]
  · intro i h1 h2
    have hi : i < n := by simpa [stM] using h2
    by_cases hij : i = j
    · subst hij
      rw [set2_at, stM_get m n k i i hi]
      simp only [stM, List.getElem_map, List.getElem_range, stR]
      apply List.ext_getElem
      · simp
      · intro c h3 h4
        rw [List.getElem_set]
        simp only [List.getElem_map, List.getElem_range]
        by_cases hc : k = c
        · subst hc
          rw [if_pos rfl, if_pos (by omega)]
        · rw [if_neg hc]
          by_cases hlt : c < k
          · rw [if_pos (by omega), if_pos (by omega)]
          · rw [if_neg (by omega), if_neg (by omega)]
    · rw [set2_ne _ _ _ _ _ _ (by rw [stM_len]; exact hi) hij]
      simp only [stM, List.getElem_map, List.getElem_range, stR]
      apply List.ext_getElem
      · simp
      · intro c h3 h4
        simp only [List.getElem_map, List.getElem_range]
        by_cases hc : c < k ∨ (c = k ∧ i < j)
        · rw [if_pos hc, if_pos (by omega)]
        · rw [if_neg hc, if_neg (by omega)]

theorem trM_small (m : List (List Int)) : szSum (trM m) ≤ 1048576 := by
  by_cases hI : IsC m
  · rw [trM_yes hI]
    have h4 := hI.2.2.2
    have : ∀ n k, ((List.range k).map fun i => colR m n i).map List.length = List.replicate k n := by
      intro n k
      apply List.ext_getElem
      · simp
      · intro i h1 h2; simp [colR]
    unfold szSum
    rw [trN_len]
    unfold trN
    rw [this, List.sum_replicate_nat]
    have : m.length * m.length ≤ 4 * 4 := Nat.mul_le_mul h4 h4
    omega
  · rw [trM_no hI]; decide
end Go.Proofs.YtnlbmnielemgiaaGreat
