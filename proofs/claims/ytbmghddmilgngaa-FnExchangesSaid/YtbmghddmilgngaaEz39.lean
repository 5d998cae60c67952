/-
  The draws of chapter 8: a matrix and two words, and what the law's 'has' returns.
  The draws of chapter 9.
  The law's comparisons of lists and of lists of lists: what the calls return.
  What the law on elements asks besides: lists at the world at hand, letters out of the code.
-/
import Derived.Test.YtbmghddmilgngaaEz38
import Derived.Test.YtbmghddmilgngaaEz17
import Derived.Test.YtbmghddmilgngaaEz22
import Derived.Test.YtbmghddmilgngaaEz02
import Derived.Test.YtbmghddmilgngaaEz32
namespace Go.Proofs.Ytbmghddmilgngaa
open Go.RowKit

def DrawnMWW (w : World) (e : Ending) (w' : World) : Prop :=
  ∃ x y z m a b, e = .returned (.tuple #[x, y, z]) ∧ Below w.heap.size w w' ∧ OwnK w.heap.size w'.heap.size w' x m ∧ AnyM m ∧ OwnS w.heap.size w'.heap.size w' y a ∧ a.length ≤ 12 ∧ OwnS w.heap.size w'.heap.size w' z b ∧ b.length ≤ 31
set_option maxHeartbeats 4000000 in
set_option maxRecDepth 100000 in
theorem l8t_any (B : Nat) (w : World) (cv : Value) (len : Nat) (hl : len ≤ 1048576) (hc : CodeB B w cv len) (hB : B ≤ w.heap.size) :
    Calls Try.prog 41 #[cv] w (DrawnMWW w) := by
  have HN := Lib.hid (new_any B w cv len hl hB hc)
  clear hc
  go_enter Try.func41, Try.ntmps41
  go_wp2_with fail
  refine HN.out.mono ?_
  rintro e w1 ⟨rfl, hd, hg⟩
  have HG := Lib.hid hg
  have hs1 := hg.size
  have hC1 := hd.lt
  have HA := Lib.hid (any_any B w.heap.size w1 cv len hd)
  clear hd hg HN
  go_wp2_with fail
  refine HA.out.mono ?_
  rintro e w2 ⟨x, a, rfl, hd2, hx, ha⟩
  have HD2 := Lib.hid hd2
  have HX := Lib.hid hx
  have HAM := Lib.hid ha
  have hs2 := hd2.2.size
  obtain ⟨xa, xcap, rfl⟩ := hx.mat.slice
  have hn5 := ha.1
  clear hd2 hx ha HA
  generalize hn : a.length = n at *
  have HLN := Lib.hid hn; clear hn
  have HW := Lib.hid (l5w_any B w.heap.size w2 cv len HD2.out.1 xa n xcap (by omega) 7 (by omega))
  go_wp2_with fail
  refine HW.out.mono ?_
  rintro e w3 ⟨y, l, rfl, hd3, hy, hll⟩
  have HD3 := Lib.hid (HD2.out.trans hd3)
  have HX3 := Lib.hid (HX.out.drawn hC1 hd3)
  have HY := Lib.hid hy
  have hs3 := hd3.2.size
  clear hd3 hy HW HX HD2
  have HW2 := Lib.hid (l5w_any B w.heap.size w3 cv len HD3.out.1 xa n xcap (by omega) 7 (by omega))
  go_wp2_with fail
  refine HW2.out.mono ?_
  rintro e w4 ⟨z, l', rfl, hd4, hz, hll'⟩
  have HD4 := Lib.hid (HD3.out.trans hd4)
  have HX4 := Lib.hid (HX3.out.drawn hC1 hd4)
  have HY4 := Lib.hid ((HY.out.1).drawn (C := w.heap.size) (by omega) hd4)
  have HZ := Lib.hid hz
  have hs4 := hd4.2.size
  clear hd4 hz HW2 HX3 HD3 HY
  go_wp2_with fail
  refine (once_any B w.heap.size _ cv len 3 (by omega) (by omega) HD4.out.1).mono ?_
  rintro e w5 ⟨q, rfl, hd5⟩
  have HD5 := Lib.hid (HD4.out.trans hd5)
  have HX5 := Lib.hid (HX4.out.drawn hC1 hd5)
  have HY5 := Lib.hid (HY4.out.drawn (C := w.heap.size) (by omega) hd5)
  have HZ5 := Lib.hid ((HZ.out.1).drawn (C := w.heap.size) (by omega) hd5)
  have hs5 := hd5.2.size
  have HB5 := Lib.hid (draw_below HG.out HD5.out)
  clear hd5 HX4 HY4 HZ HD4
  obtain ⟨ya, ycap, rfl⟩ := HY5.out.slice
  have HLL := Lib.hid hll
  generalize hyn : l.length = yn at *
  have HYN := Lib.hid hyn; clear hyn
  cases q with
  | false =>
    go_wp2_with fail
    go_ret3
    exact ⟨_, _, z, a, l, l', rfl, HB5.out, HX5.out.grow.wide (by omega), HAM.out, ⟨HY5.out.mono (by omega) (Nat.le_refl _), Nat.le_refl _⟩, by have := HYN.out; have := HLL.out; omega, ⟨HZ5.out.mono (by omega) (Nat.le_refl _), Nat.le_refl _⟩, by omega⟩
  | true =>
    have HIW := Lib.hid (isws_any w5.heap.size w5.heap.size (.slice xa n xcap) (.slice ya yn ycap) a l w5 HX5.out.grow.mat HY5.out.rowB HAM.out.fit (by have := HYN.out; have := HLL.out; unfold maxLen; omega))
    by_cases hW : IsW a l
    · have HWB := Lib.hid (wordB_yes hW)
      rw [HWB.out] at HIW
      have HNR := Lib.hid (fun (wx : World) (hb : Below w5.heap.size w5 wx) => nrm8_any w5.heap.size w5.heap.size (.slice xa n xcap) (.slice ya yn ycap) a l wx (HX5.out.grow.mat.below hb (Nat.le_refl _)) (HY5.out.rowB.below hb (Nat.le_refl _)) hb.size hb.size HAM.out.fit hW.2.1 hW.1 (by have := HYN.out; have := HLL.out; omega))
      have HFL := Lib.hid (frmI_len a 31 (imgW a l))
      clear hW HWB
      generalize frmI a 31 (imgW a l) = R at *
      go_wp2_with fail
      refine HIW.out.mono ?_
      rintro e w6 ⟨rfl, q6, rfl⟩
      have hb6 : Below w5.heap.size w5 (w5.drewN q6) := below_drewN q6
      have HC6 := Lib.hid (HNR.out _ hb6)
      have HB6 := Lib.hid hb6
      clear HIW HNR hb6
      go_wp2_with fail
      refine HC6.out.mono ?_
      rintro e w7 ⟨z7, rfl, ⟨hz7, _⟩, hb7⟩
      have hb57 : Below w5.heap.size w5 w7 := HB6.out.trans hb7
      have HZ7 := Lib.hid hz7
      have HB7 := Lib.hid (HB5.out.trans (hb57.mono HB5.out.size))
      have HX7 := Lib.hid ((HX5.out.grow.same (SameIn.of_below hb57 (Nat.le_refl _)) hb57.size).grow)
      have HY7 := Lib.hid (HY5.out.step hb57)
      have hs7 := hb57.size
      clear hz7 hb7 hb57 HC6
      go_wp2_with fail
      go_ret3
      exact ⟨_, _, z7, a, l, R, rfl, HB7.out, HX7.out.wide (by omega), HAM.out, ⟨HY7.out.mono (by omega) (Nat.le_refl _), Nat.le_refl _⟩, by have := HYN.out; have := HLL.out; omega, ⟨HZ7.out.mono HB5.out.size (Nat.le_refl _), Nat.le_refl _⟩, HFL.out⟩
    · have HWB := Lib.hid (wordB_no hW)
      rw [HWB.out] at HIW
      clear hW HWB
      go_wp2_with fail
      refine HIW.out.mono ?_
      rintro e w6 ⟨rfl, q6, rfl⟩
      have hb6 : Below w5.heap.size w5 (w5.drewN q6) := below_drewN q6
      have HB6 := Lib.hid (HB5.out.trans (hb6.mono HB5.out.size))
      have HX6 := Lib.hid ((HX5.out.grow.same (SameIn.of_below hb6 (Nat.le_refl _)) hb6.size).grow)
      have HY6 := Lib.hid (HY5.out.step hb6)
      have HZ6 := Lib.hid (HZ5.out.step hb6)
      clear hb6 HIW
      go_wp2_with fail
      go_ret3
      exact ⟨_, _, z, a, l, l', rfl, HB6.out, HX6.out.wide (by omega), HAM.out, ⟨HY6.out.mono (by omega) (Nat.le_refl _), Nat.le_refl _⟩, by have := HYN.out; have := HLL.out; omega, ⟨HZ6.out.mono (by omega) (Nat.le_refl _), Nat.le_refl _⟩, by omega⟩
/-! ### Is a number in a list? -/
def HasTo (l : List Int) (x : Int) (k : Nat) : Prop := ∀ j, j < k → l.getD j 0 ≠ x
set_option maxHeartbeats 1000000 in
set_option maxRecDepth 100000 in
theorem has_any (B : Nat) (v : Value) (l : List Int) (x : Int) (w : World) (h : RowB B w v l) (hl : l.length ≤ maxLen) :
    Calls Try.prog 14 #[v, .int .i64 x] w fun e w' => e = .returned (.bool (decide (x ∈ l))) ∧ ∃ q, w' = w.drewN q := by
  have HL := Lib.hid h
  obtain ⟨a, cap, rfl⟩ := h.slice
  unfold maxLen at hl
  have HNO := Lib.hid (fun (h : HasTo l x l.length) => show decide (x ∈ l) = false from decide_eq_false fun hm => by
    obtain ⟨j, hj, e⟩ := List.getElem_of_mem hm
    exact h j hj (by simp [List.getD, hj, e]))
  have HYES := Lib.hid (fun (k : Nat) (hk : k < l.length) (h : l.getD k 0 = x) => show decide (x ∈ l) = true from decide_eq_true (by
    have e : l.getD k 0 = l[k] := by simp [List.getD, hk]
    rw [← h, e]; exact List.getElem_mem hk))
  clear h
  generalize decide (x ∈ l) = R at *
  generalize hn : l.length = n at *
  clear hn
  go_enter Try.func14, Try.ntmps14
  go_wp2_with fail
  go_loopw [5] (fun i wr => ∃ (k q : Nat), k ≤ n ∧ i = .int .i64 k ∧ wr = w.drewN q ∧ Hid (HasTo l x k)) (fun i _ => n - (RowKit.intOf i).toNat)
  case atStart => exact ⟨0, 0, Nat.zero_le _, rfl, rfl, Lib.hid (fun j hj => absurd hj (Nat.not_lt_zero _))⟩
  case round =>
    obtain ⟨k, q, hk, rfl, rfl, hs⟩ := hrel
    by_cases hlt : k < n
    · have hd1 : decide (k < n) = true := decide_eq_true hlt
      obtain ⟨b, off, rfl, hb, hc⟩ := (HL.out.drewN q).getD hlt
      have HY := Lib.hid (HYES.out k hlt)
      by_cases he : l.getD k 0 = x
      · have HV := Lib.hid (HY.out he)
        have heq : (l.getD k 0 == x) = true := by rw [beq_iff_eq]; exact he
        clear HY hs he hb
        generalize l.getD k 0 = y at *
        go_wp2_with fail
        go_ret
        exact ⟨ret_boolean HV.out.symm, q, rfl⟩
      · have heq : (l.getD k 0 == x) = false := by rw [beq_eq_false_iff_ne]; exact he
        have HS : Hid (HasTo l x (k + 1)) := Lib.hid fun j hj => by
          rcases Nat.lt_or_ge j k with h | h
          · exact hs.out j h
          · obtain rfl : j = k := by omega
            exact he
        clear HY hs he hb
        generalize l.getD k 0 = y at *
        go_wp2_with fail
        exact ⟨⟨k + 1, q, by omega, by go_num, by first | rfl | exact World.drewN_drewN _ _ _, HS⟩, by simp [RowKit.intOf]; omega⟩
    · obtain rfl : k = n := by omega
      have hd : decide (k < k) = false := by simp
      have HV := Lib.hid (HNO.out hs.out)
      clear hs
      go_wp2_with fail
      go_ret
      exact ⟨ret_boolean HV.out.symm, q, rfl⟩
end Go.Proofs.Ytbmghddmilgngaa
namespace Go.Proofs.Ytbmghddmilgngaa
open Go.RowKit

theorem lit_row (w : World) (k : Nat) : RowB (w.alloc (.cells #[.int .i64 (k : Int)] 3)).heap.size (w.alloc (.cells #[.int .i64 (k : Int)] 3)) (.slice (some ⟨w.heap.size, 0, none⟩) 1 1) [(k : Int)] := by
  refine Or.inr ⟨w.heap.size, 0, 1, rfl, by simp, fun j hj => ?_⟩
  obtain rfl : j = 0 := by simp at hj; omega
  rw [Nat.zero_add, cell_of_row _ w.heap.size 0 _ _ _ (MapKept.heap_alloc w _).1]
  rfl
/-- A matrix and a word of at most 31 letters. -/
def DrawnML (w : World) (e : Ending) (w' : World) : Prop :=
  ∃ x y a l, e = .returned (.tuple #[x, y]) ∧ Below w.heap.size w w' ∧ OwnK w.heap.size w'.heap.size w' x a ∧ AnyM a ∧ OwnS w.heap.size w'.heap.size w' y l ∧ l.length ≤ 31
/-- A matrix, a word and a number. -/
def DrawnMN (w : World) (e : Ending) (w' : World) : Prop :=
  ∃ x y z a l, e = .returned (.tuple #[x, y, .int .i64 z]) ∧ Below w.heap.size w w' ∧ OwnK w.heap.size w'.heap.size w' x a ∧ AnyM a ∧ OwnS w.heap.size w'.heap.size w' y l ∧ l.length ≤ 12
end Go.Proofs.Ytbmghddmilgngaa
namespace Go.Proofs.Ytbmghddmilgngaa
open Go.RowKit

set_option maxHeartbeats 1000000 in
theorem smS_any (B : Nat) (v v' : Value) (l l' : List Int) (w : World) (h : RowB B w v l) (h' : RowB B w v' l') (hl : l.length ≤ maxLen) (hl' : l'.length ≤ maxLen) :
    Calls Try.prog 31 #[v, v'] w fun e w' => e = .returned (.bool (eqL l l')) ∧ ∃ q, w' = w.drewN q := by
  obtain ⟨a, cap, rfl⟩ := h.slice
  obtain ⟨a', cap', rfl⟩ := h'.slice
  have HR := Lib.hid h; clear h
  have HR' := Lib.hid h'; clear h'
  generalize hn : l.length = n at *
  generalize hn' : l'.length = n' at *
  unfold maxLen at hl hl'
  have HN := Lib.hid hn; clear hn
  have HN' := Lib.hid hn'; clear hn'
  by_cases hlen : n = n'
  · subst hlen
    go_enter Try.func31, Try.ntmps31
    go_wp2_with fail
    go_loopw [5] (fun i wr => ∃ (k q : Nat), k ≤ n ∧ i = .int .i64 k ∧ wr = w.drewN q ∧ Pre l l' k) (fun i _ => n - (RowKit.intOf i).toNat)
    case atStart => exact ⟨0, 0, Nat.zero_le _, rfl, rfl, rfl⟩
    case round =>
      obtain ⟨k, q, hk, rfl, rfl, hp⟩ := hrel
      have HP := Lib.hid hp; clear hp
      by_cases hlt : k < n
      · obtain ⟨b, off, hkl, rfl, hb, hc⟩ := HR.out.get hlt
        obtain ⟨b', off', hkl', rfl, hb', hc'⟩ := HR'.out.get hlt
        by_cases he : l[k] = l'[k]
        · have hst := pre_step hkl hkl' HP.out he
          have HST := Lib.hid hst; clear hst
          rw [← he] at hc'
          clear he
          generalize l[k] = x at *
          go_wp2_with fail
          go_quiet (fail)
          go_wp2_with fail
          exact ⟨⟨k + 1, q + nq, by omega, by go_num, rfl, HST.out⟩, by simp [RowKit.intOf]; omega⟩
        · have hne : ¬ l = l' := fun e => he (by subst e; rfl)
          have hv := eqL_no hne
          have HV := Lib.hid hv; clear hv hne
          generalize hx : l[k] = x at *
          generalize hy : l'[k] = y at *
          have hxy : (x != y) = true := by rw [bne_iff_ne]; exact he
          have hxy' : (x == y) = false := by rw [beq_eq_false_iff_ne]; exact he
          clear hx hy he
          go_wp2_with fail
          go_quiet (fail)
          go_wp2_with fail
          go_ret
          exact ⟨ret_boolean HV.out.symm, q + nq, World.drewN_drewN _ _ _⟩
      · obtain rfl : k = n := by omega
        have heq : l = l' := by
          have h1 := HP.out
          unfold Pre at h1
          rw [List.take_of_length_le (by rw [HN.out]; exact Nat.le_refl _), List.take_of_length_le (by rw [HN'.out]; exact Nat.le_refl _)] at h1
          exact h1
        have hv := eqL_yes heq
        have HV := Lib.hid hv; clear hv heq
        go_wp2_with fail
        go_ret
        exact ⟨ret_boolean HV.out.symm, _, rfl⟩
  · have hne : ¬ l = l' := fun e => hlen (by rw [← HN.out, ← HN'.out, e])
    have hv := eqL_no hne
    have HV := Lib.hid hv; clear hv hne
    have hq : ((n : Int) != (n' : Int)) = true := by rw [bne_iff_ne]; omega
    clear hlen
    go_enter Try.func31, Try.ntmps31
    go_wp2_with fail
    all_goals go_ret
    all_goals exact ⟨ret_boolean HV.out.symm, 0, rfl⟩

/-! ### inList -/
def inB2 (T : List (List Int)) (p : List Int) : Bool := decide (p ∈ T)
end Go.Proofs.Ytbmghddmilgngaa
namespace Go.Proofs.Ytbmghddmilgngaa
open Go.RowKit

/-- What the law keeps all along: the matrix, the two words and their product. -/
structure El4 (w wx : World) (x va vb y : Value) (m : List (List Int)) (la lb Y : List Int) : Prop where
  mx : MatB wx.heap.size wx x m
  ra : RowB wx.heap.size wx va la
  rb : RowB wx.heap.size wx vb lb
  ry : RowB wx.heap.size wx y Y
  bl : Below w.heap.size w wx
theorem El4.up {w wx wy : World} {x va vb y : Value} {m : List (List Int)} {la lb Y : List Int} (h : El4 w wx x va vb y m la lb Y) (hb : Below wx.heap.size wx wy) : El4 w wy x va vb y m la lb Y :=
  ⟨h.mx.upE hb, h.ra.upE hb, h.rb.upE hb, h.ry.upE hb, h.bl.trans (hb.mono h.bl.size)⟩
theorem smE_w (v v' : Value) (l : List Int) (w : World) (h : RowB w.heap.size w v l) (h' : RowB w.heap.size w v' l) (hl : l.length ≤ maxLen) :
    Calls Try.prog 31 #[v, v'] w fun e w' => e = .returned (.bool true) ∧ Below w.heap.size w w' :=
  (smS_any _ v v' l l w h h' hl hl).mono fun e w' ⟨h1, q, h2⟩ => ⟨by rw [h1, eqL_yes rfl], by rw [h2]; exact below_drewN q⟩
theorem bigE_w (w : World) (a : Option Addr) (len cap : Nat) (_hl : len ≤ 9223372036854775807) :
    Calls Try.prog 9 #[.slice a len cap] w fun e w' => e = .returned (.bool (decide (1048576 < (len : Int)))) ∧ w = w' := by
  go_enter Try.func9, Try.ntmps9
  go_wp2
  go_ret
  exact ⟨rfl, rfl⟩
end Go.Proofs.Ytbmghddmilgngaa
