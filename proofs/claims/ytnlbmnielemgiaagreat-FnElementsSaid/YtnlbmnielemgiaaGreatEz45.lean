/-
  What the law on elements asks besides: lists at the world at hand, letters out of the code.
-/
import Derived.Test.YtnlbmnielemgiaaGreatEz34
import Derived.Test.YtnlbmnielemgiaaGreatEz37
import Derived.Test.YtnlbmnielemgiaaGreatEz44
namespace Go.Proofs.YtnlbmnielemgiaaGreat
open Go.RowKit

/-- What the law keeps all along: the matrix, the two words and their product. -/
structure El4 (w wx : World) (x va vb y : Value) (m : List (List Int)) (la lb Y : List Int) : Prop where
  mx : MatB wx.heap.size wx x m
  ra : RowB wx.heap.size wx va la
  rb : RowB wx.heap.size wx vb lb
  ry : RowB wx.heap.size wx y Y
  bl : Below w.heap.size w wx
theorem El4.up {w wx wy : World} {x va vb y : Value} {m : List (List Int)} {la lb Y : List Int} (h : El4 w wx x va vb y m la lb Y) (hb : Below wx.heap.size wx wy) : El4 w wy x va vb y m la lb Y :=
  ⟨h.mx.upE hb, h.ra.upE hb, h.rb.upE hb, h.ry.upE hb, h.bl.trans (hb.mono h.bl.size)⟩
theorem smE_w (v v' : Value) (l : List Int) (w : World) (h : RowB w.heap.size w v l) (h' : RowB w.heap.size w v' l) (hl : l.length ≤ maxLen) :
    Calls Tryz.prog 8 #[v, v'] w fun e w' => e = .returned (.bool true) ∧ Below w.heap.size w w' :=
  (smS_any _ v v' l l w h h' hl hl).mono fun e w' ⟨h1, q, h2⟩ => ⟨by rw [h1, eqL_yes rfl], by rw [h2]; exact below_drewN q⟩
theorem bigE_w (w : World) (a : Option Addr) (len cap : Nat) (_hl : len ≤ 9223372036854775807) :
    Calls Tryz.prog 4 #[.slice a len cap] w fun e w' => e = .returned (.bool (decide (1048576 < (len : Int)))) ∧ w = w' := by
  go_enter Tryz.func4, Tryz.ntmps4
  go_wp2
  go_ret
  exact ⟨rfl, rfl⟩
set_option maxRecDepth 100000 in
theorem at9_any (B : Nat) (w : World) (a : Option Addr) (len cap : Nat) (hl : len ≤ 1048576) (hc : CodeB B w (.slice a len cap) len) (i : Nat) (hi : i ≤ 100) :
    Calls Tryz.prog 39 #[.slice a len cap, .int .i64 i] w fun e w' => ∃ r : Nat, r < 256 ∧ e = .returned (.int .i64 r) ∧ w = w' := by
  by_cases h : i < len
  · have hd : decide (i < len) = true := decide_eq_true h
    rcases hc with ⟨⟨a', cap', h1⟩, h0⟩ | ⟨b, off, cap', h1, hb, h3⟩
    · omega
    · injection h1 with e1 e2 e3
      subst e1
      obtain ⟨u, hu⟩ := h3 i h
      have hul := u.toNat_lt
      go_enter Tryz.func39, Tryz.ntmps39
      go_wp2
      go_ret
      exact ⟨u.toNat, by omega, rfl, rfl⟩
  · have hd : decide (i < len) = false := decide_eq_false h
    clear hc
    go_enter Tryz.func39, Tryz.ntmps39
    go_wp2
    go_ret
    refine ⟨(i * 37 + len * 11) % 256, Nat.mod_lt _ (by omega), ?_, rfl⟩
    show Ending.returned (Value.int IntKind.i64 (((i : Int) * 37 + (len : Int) * 11) % 256)) = _
    exact ret_int (by omega)
set_option maxHeartbeats 4000000 in
set_option maxRecDepth 100000 in
theorem lets9_any (B f : Nat) (w : World) (a : Option Addr) (len cap : Nat) (hl : len ≤ 1048576) (hc : CodeB B w (.slice a len cap) len) (hB : B ≤ w.heap.size) (hf : f ≤ 80) (xa : Option Addr) (n xcap : Nat) (hn1 : 1 ≤ n) (hn : n ≤ 4) :
    Calls Tryz.prog 11 #[.slice a len cap, .int .i64 f, .slice xa n xcap, .int .i64 4] w fun e w' => ∃ x l, e = .returned x ∧ OwnS w.heap.size w'.heap.size w' x l ∧ Below w.heap.size w w' ∧ l.length ≤ 4 ∧ LetTo n l l.length := by
  have HC := Lib.hid hc; clear hc
  have HAT := Lib.hid (fun (wx : World) (hb : Below w.heap.size w wx) => at9_any B wx a len cap hl (HC.out.below (hb.mono hB)) f (by omega))
  have HAI := Lib.hid (fun (i : Nat) (hi : i ≤ 4) (wx : World) (hb : Below w.heap.size w wx) => show Calls Tryz.prog 39 #[.slice a len cap, .int .i64 ((f : Int) + 1 + (i : Int))] wx fun e w' => ∃ r : Nat, r < 256 ∧ e = .returned (.int .i64 r) ∧ wx = w' from by
    have := at9_any B wx a len cap hl (HC.out.below (hb.mono hB)) (f + 1 + i) (by omega)
    rwa [show ((f + 1 + i : Nat) : Int) = (f : Int) + 1 + (i : Int) by omega] at this)
  have hb0 : Below w.heap.size w (w.alloc (.cells #[] 3)) := (Below.refl _ _).alloc (Nat.le_refl _) _
  have HB0 := Lib.hid hb0
  have HR0 := Lib.hid (row_empty w)
  have HL0 := Lib.hid (show LetTo n ([] : List Int) ([] : List Int).length from fun j hj => absurd hj (Nat.not_lt_zero _))
  clear hb0 HC
  go_enter Tryz.func11, Tryz.ntmps11
  go_wp2_with fail
  go_loopw [9, 10] (fun o i wr => ∃ (t : Nat) (l : List Int) (wq : World), wq = wr ∧ t ≤ 4 ∧ i = .int .i64 t ∧ RowI w.heap.size wq.heap.size wq o l ∧ l.length = t ∧ Below w.heap.size w wq ∧ Hid (LetTo n l l.length)) (fun _ i _ => 4 - (RowKit.intOf i).toNat)
  case atStart => exact ⟨0, [], _, rfl, by omega, rfl, HR0.out, rfl, HB0.out, HL0⟩
  case round =>
    obtain ⟨t, l, wq, rfl, ht, rfl, hr, hll, hb, HLT⟩ := hrel
    have HR := Lib.hid hr; have HB := Lib.hid hb; have HLL := Lib.hid hll
    have hsq := hb.size
    clear hr hb hll HB0 HR0 HL0
    have hw1 : IntKind.i64.wrap ((f : Int) + 1 + (t : Int)) = (f : Int) + 1 + (t : Int) := by rw [IntKind.wrap_i64]; omega
    have hw2 : IntKind.i64.wrap ((f : Int) + 1) = (f : Int) + 1 := by rw [IntKind.wrap_i64]; omega
    go_wp2_with fail
    refine (HAT.out wq HB.out).mono ?_
    rintro e w3 ⟨r, hr, rfl, rfl⟩
    obtain ⟨q, hq, hm⟩ : ∃ q : Nat, q < 5 ∧ (r : Int).tmod 5 = (q : Int) := ⟨r % 5, Nat.mod_lt _ (by omega), by rw [Int.tmod_eq_emod_of_nonneg (by omega)]; omega⟩
    have hm2 : (r : Int) % 5 = (q : Int) := by rw [← hm, Int.tmod_eq_emod_of_nonneg (by omega)]
    by_cases hlt : t < q
    · have hd : decide ((t : Int) < (q : Int)) = true := decide_eq_true (by omega)
      have hd' : decide (t < q) = true := decide_eq_true hlt
      go_wp2_with fail
      refine (HAI.out t ht wq HB.out).mono ?_
      rintro e w3 ⟨r2, hr2, rfl, rfl⟩
      obtain ⟨p, hp, hm3⟩ : ∃ p : Nat, p < n ∧ (r2 : Int).tmod (n : Int) = (p : Int) := ⟨r2 % n, Nat.mod_lt _ (by omega), by rw [Int.tmod_eq_emod_of_nonneg (by omega)]; omega⟩
      have hm4 : (r2 : Int) % (n : Int) = (p : Int) := by rw [← hm3, Int.tmod_eq_emod_of_nonneg (by omega)]
      have hwp : IntKind.i64.wrap (p : Int) = (p : Int) := by rw [IntKind.wrap_i64]; omega
      have hn0 : ((n : Int) == 0) = false := by rw [beq_eq_false_iff_ne]; omega
      have hn00 : (n == 0) = false := by rw [beq_eq_false_iff_ne]; omega
      have HL4 := Lib.hid (show l.length ≤ 4194304 by have := HLL.out; omega)
      have HNX := Lib.hid (letTo_snoc HLT.out hp)
      have HLX := Lib.hid (show (l ++ [(p : Int)]).length = t + 1 by rw [List.length_append, HLL.out]; rfl)
      clear HAT HAI HLT HLL
      go_wp2_with (at_builtin; go_must (refine append_intP HR.out hsq rfl (p : Int) rfl rfl rfl rfl HL4.out ?_; intro v6 w6 hr6 hg6 hl6))
      have HR6 := Lib.hid hr6
      have HB6 := Lib.hid (HB.out.grown hg6 hsq (fun j hj => (HR.out.1.lt j hj).1))
      clear hr6 hg6 hl6
      go_wp2_with fail
      exact ⟨⟨t + 1, _, _, rfl, by omega, by go_num, HR6.out, HLX.out, HB6.out, HNX⟩, by simp [RowKit.intOf]; omega⟩
    · have hd : decide ((t : Int) < (q : Int)) = false := decide_eq_false (by omega)
      have hd' : decide (t < q) = false := decide_eq_false hlt
      clear HAI
      go_wp2_with fail
      go_ret
      exact ⟨_, l, rfl, ⟨HR.out, Nat.le_refl _⟩, HB.out, by rw [HLL.out]; omega, HLT.out⟩
end Go.Proofs.YtnlbmnielemgiaaGreat
