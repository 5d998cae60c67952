/-
  Lengths: what the program's AreSame and SignOf return.
  The contract of the library function slices.Reverse at the program's type word, laid at this program by its own numbers.
-/
import Derived.DeepKeys
import Derived.Test.YtbmghddmilgngaaEz27
import Derived.Test.YtbmghddmilgngaaEz18
import Derived.Shelf.SlicesG.Reverse
import Derived.Test.YtbmghddmilgngaaProg
namespace Go.Proofs.Ytbmghddmilgngaa
open Go.RowKit

set_option maxRecDepth 100000 in
theorem eq_im (x0 x1 x2 x3 y0 y1 y2 y3 : Int) (w : World) : (binOp .eql 58 (.agg #[.int .i64 x0, .int .i64 x1, .int .i64 x2, .int .i64 x3]) (.agg #[.int .i64 y0, .int .i64 y1, .int .i64 y2, .int .i64 y3])).run Try.prog w = .ok (.bool (x0 == y0 && (x1 == y1 && (x2 == y2 && x3 == y3)))) w := by
  obtain ⟨i0, hi, _, _, _⟩ := info_parts Try.infoInt
  have hc : Try.prog.cellsOf 3 = 1 := by kernel_rfl
  have h1 : ∀ a b, (Op.equalIn 9999 3 (.int .i64 a) (.int .i64 b)).run Try.prog w = .ok (a == b) w := fun a b => run_equalIn_int w 9998 3 .i64 .i64 a b Try.underlying3
  have p0 : ∀ a b c d, (part 3 #[.int .i64 a, .int .i64 b, .int .i64 c, .int .i64 d] (0 * 1)).run Try.prog w = .ok (.int .i64 a) w := fun _ _ _ _ => by rfl
  have p1 : ∀ a b c d, (part 3 #[.int .i64 a, .int .i64 b, .int .i64 c, .int .i64 d] (1 * 1)).run Try.prog w = .ok (.int .i64 b) w := fun _ _ _ _ => by rfl
  have p2 : ∀ a b c d, (part 3 #[.int .i64 a, .int .i64 b, .int .i64 c, .int .i64 d] (2 * 1)).run Try.prog w = .ok (.int .i64 c) w := fun _ _ _ _ => by rfl
  have p3 : ∀ a b c d, (part 3 #[.int .i64 a, .int .i64 b, .int .i64 c, .int .i64 d] (3 * 1)).run Try.prog w = .ok (.int .i64 d) w := fun _ _ _ _ => by rfl
  rw [run_eql_struct w, show (10000 : Nat) = 9999 + 1 from rfl, run_equalIn_array w 9999 _ _ Try.underlying58 hi, hc, show List.range 4 = [0, 1, 2, 3] from rfl]
  simp only [Op.eqItems, Sem.run_bind, p0, p1, p2, p3, h1, Result.andThen_ok, Sem.run_ite]
  cases x0 == y0 <;> cases x1 == y1 <;> cases x2 == y2 <;> cases x3 == y3 <;> rfl
theorem eq_pad {a b : List Int} (hl : a.length = b.length) (h4 : a.length ≤ 4) : (a.getD 0 0 == b.getD 0 0 && (a.getD 1 0 == b.getD 1 0 && (a.getD 2 0 == b.getD 2 0 && a.getD 3 0 == b.getD 3 0))) = eqwB a b := by
  rw [Bool.eq_iff_iff]
  unfold eqwB
  rw [decide_eq_true_iff, cmpW_zero]
  simp only [Bool.and_eq_true, beq_iff_eq]
  constructor
  · rintro ⟨h0, h1, h2, h3⟩
    refine pad4_inj h4 hl ?_
    unfold pad4; rw [h0, h1, h2, h3]
  · rintro rfl; exact ⟨rfl, rfl, rfl, rfl⟩
set_option maxHeartbeats 4000000 in
set_option maxRecDepth 100000 in
theorem sami_any (B B' B'' : Nat) (v v' v'' : Value) (m : List (List Int)) (xs ys : List Int) (w : World) (h : MatB B w v m) (h' : RowB B' w v' xs) (h'' : RowB B'' w v'' ys) (hB : B ≤ w.heap.size) (hB' : B' ≤ w.heap.size) (hB'' : B'' ≤ w.heap.size) (hf : RowsFit m) (hx : xs.length ≤ 1048576) (hy : ys.length ≤ 1048576) :
    Calls Try.prog 16 #[v, v', v''] w fun e w' => e = .returned (.bool (samB m xs ys)) ∧ Below w.heap.size w w' := by
  have HI1 := Lib.hid (iswi_any B B' v v' m xs w h h' hf (by unfold maxLen; omega))
  have HI2 := Lib.hid (fun (wx : World) (hb : Below w.heap.size w wx) => iswi_any B B'' v v'' m ys wx (h.below hb hB) (h''.below hb hB'') hf (by unfold maxLen; omega))
  have HD := Lib.hid (show samB m xs ys = (wordB m xs && wordB m ys && eqwB (imgW m xs) (imgW m ys)) from rfl)
  by_cases h1 : IsW m xs
  · have HW1 := Lib.hid (wordB_yes h1)
    by_cases h2 : IsW m ys
    · have HW2 := Lib.hid (wordB_yes h2)
      have HM1 := Lib.hid (fun (wx : World) (hb : Below w.heap.size w wx) => iorho_any B B' v v' m xs wx (h.below hb hB) (h'.below hb hB') (Nat.le_trans hB hb.size) (Nat.le_trans hB' hb.size) hf h1.2.1 h1.1 hx)
      have HM2 := Lib.hid (fun (wx : World) (hb : Below w.heap.size w wx) => iorho_any B B'' v v'' m ys wx (h.below hb hB) (h''.below hb hB'') (Nat.le_trans hB hb.size) (Nat.le_trans hB'' hb.size) hf h1.2.1 h2.1 hy)
      have HEQ := Lib.hid (eq_pad (a := imgW m xs) (b := imgW m ys) (by rw [imgW_len, imgW_len]) (by rw [imgW_len]; exact h1.2.1.2.2.2))
      have hD := HD.out
      rw [HW1.out, HW2.out, Bool.true_and, Bool.true_and, ← HEQ.out] at hD
      rw [hD]
      rw [HW1.out] at HI1; rw [HW2.out] at HI2
      have e1 : imV (imgW m xs) = .agg #[.int .i64 ((imgW m xs).getD 0 0), .int .i64 ((imgW m xs).getD 1 0), .int .i64 ((imgW m xs).getD 2 0), .int .i64 ((imgW m xs).getD 3 0)] := rfl
      have e2 : imV (imgW m ys) = .agg #[.int .i64 ((imgW m ys).getD 0 0), .int .i64 ((imgW m ys).getD 1 0), .int .i64 ((imgW m ys).getD 2 0), .int .i64 ((imgW m ys).getD 3 0)] := rfl
      rw [e1] at HM1; rw [e2] at HM2
      clear e1 e2 HEQ
      clear h h' h'' hf h1 h2 HW1 HW2 HD hD
      generalize (imgW m xs).getD 0 0 = x0 at *
      generalize (imgW m xs).getD 1 0 = x1 at *
      generalize (imgW m xs).getD 2 0 = x2 at *
      generalize (imgW m xs).getD 3 0 = x3 at *
      generalize (imgW m ys).getD 0 0 = y0 at *
      generalize (imgW m ys).getD 1 0 = y1 at *
      generalize (imgW m ys).getD 2 0 = y2 at *
      generalize (imgW m ys).getD 3 0 = y3 at *
      have heq := fun wx => eq_im x0 x1 x2 x3 y0 y1 y2 y3 wx
      generalize (x0 == y0 && (x1 == y1 && (x2 == y2 && x3 == y3))) = r at *
      go_enter Try.func16, Try.ntmps16
      go_wp2_with fail
      refine HI1.out.mono ?_
      rintro e w1 ⟨rfl, q, rfl⟩
      have HB1 := Lib.hid (below_drewN (w := w) q)
      have HC2 := Lib.hid (HI2.out _ HB1.out)
      clear HI1 HI2
      go_wp2_with fail
      refine HC2.out.mono ?_
      rintro e w2 ⟨rfl, q2, rfl⟩
      have HB2 := Lib.hid (below_drewN (w := w) (q + q2))
      have HC3 := Lib.hid (HM1.out _ HB2.out)
      clear HC2 HM1
      go_wp2_with fail
      refine HC3.out.mono ?_
      rintro e w3 ⟨rfl, hb3⟩
      have HB3 := Lib.hid (HB2.out.trans (hb3.mono HB2.out.size))
      have HC4 := Lib.hid (HM2.out _ HB3.out)
      clear hb3 HC3 HM2
      go_wp2_with fail
      refine HC4.out.mono ?_
      rintro e w4 ⟨rfl, hb4⟩
      have HB4 := Lib.hid (HB3.out.trans (hb4.mono HB3.out.size))
      clear hb4 HC4
      go_wp2_with fail
      go_ret
      exact ⟨rfl, HB4.out⟩
    · have HW2 := Lib.hid (wordB_no h2)
      have hD := HD.out
      rw [HW1.out, HW2.out, Bool.and_false, Bool.false_and] at hD
      rw [hD]
      rw [HW1.out] at HI1; rw [HW2.out] at HI2
      clear h h' h'' hf h1 h2 HW1 HW2 HD hD
      go_enter Try.func16, Try.ntmps16
      go_wp2_with fail
      refine HI1.out.mono ?_
      rintro e w1 ⟨rfl, q, rfl⟩
      have HB1 := Lib.hid (below_drewN (w := w) q)
      have HC2 := Lib.hid (HI2.out _ HB1.out)
      clear HI1 HI2
      go_wp2_with fail
      refine HC2.out.mono ?_
      rintro e w2 ⟨rfl, q2, rfl⟩
      have HB2 := Lib.hid (below_drewN (w := w) (q + q2))
      go_wp2_with fail
      go_ret
      exact ⟨rfl, HB2.out⟩
  · have HW1 := Lib.hid (wordB_no h1)
    have hD := HD.out
    rw [HW1.out, Bool.false_and, Bool.false_and] at hD
    rw [hD]
    rw [HW1.out] at HI1
    clear h h' h'' hf h1 HW1 HD hD HI2
    go_enter Try.func16, Try.ntmps16
    go_wp2_with fail
    refine HI1.out.mono ?_
    rintro e w1 ⟨rfl, q, rfl⟩
    have HB1 := Lib.hid (below_drewN (w := w) q)
    go_wp2_with fail
    go_ret
    exact ⟨rfl, HB1.out⟩
end Go.Proofs.Ytbmghddmilgngaa
namespace Go.Proofs
open Go.Shelf
end Go.Proofs
