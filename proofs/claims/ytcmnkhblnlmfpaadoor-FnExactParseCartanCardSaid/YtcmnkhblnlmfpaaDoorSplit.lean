/-
  strings.SplitSeq's iterator: what it owes where the separator is one byte: the pieces, one by one; its string lies in a cell of its own.
-/
import Derived.Test.YtcmnkhblnlmfpaaDoorCut
import Derived.Test.YtcmnkhblnlmfpaaDoorRange
import Derived.Test.YtcmnkhblnlmfpaaDoorShelfD
import Derived.Test.YtcmnkhblnlmfpaaDoorShelfJ
namespace Go.Proofs.YtcmnkhblnlmfpaaDoor
open Go.RowKit Go.Shelf
attribute [local go_sem] Oper.semAt_some

theorem idx_find (c : UInt8) : ∀ (l : List UInt8), (Lib.indexByte l c = -1 ∧ c ∉ l) ∨ ∃ a b, l = a ++ c :: b ∧ c ∉ a ∧ Lib.indexByte l c = (a.length : Int)
  | [] => .inl ⟨rfl, by simp⟩
  | x :: l => by
    unfold Lib.indexByte
    by_cases hx : x = c
    · exact .inr ⟨[], l, by simp [hx], by simp, by simp [hx]⟩
    · rcases idx_find c l with ⟨h, hn⟩ | ⟨a, b, h, hn, hi⟩
      · exact .inl ⟨by simp [hx, h], by simp [hn, Ne.symm hx]⟩
      · exact .inr ⟨x :: a, b, by simp [h], by simp [hn, Ne.symm hx], by rw [hi]; simp [hx]⟩

/-- The bytes of a list as a string's value. -/
def strL (l : List UInt8) : Value := .string ⟨l.toArray⟩
/-- The iterator's cells, before piece k is handed over. -/
def SplitR (c : UInt8) (l : List UInt8) (B : Nat) (k : Nat) (W : World) : Prop :=
  ∃ rest : List UInt8, Boxed W B 9 (strL rest) ∧ Boxed W (B + 1) 9 (strL [c]) ∧ Boxed W (B + 2) 3 (.int .i64 0) ∧ (cutLD c l).drop k = cutLD c rest ∧ rest.length ≤ l.length
/-- The iterator's own step. -/
def SplitAb (B : Nat) (W W' : World) : Prop := ∃ v, W' = W.setCell ⟨B, 0, none⟩ v
/-- How long the string in the iterator's cell is. -/
def cellLen (B : Nat) (W : World) : Nat := match W.cell? ⟨B, 0, none⟩ with | some (.string s) => s.size | _ => 0
theorem cellLen_eq {B : Nat} {W : World} {rest : List UInt8} {t : TypeId} (h : Boxed W B t (strL rest)) : cellLen B W = rest.length := by
  unfold cellLen; rw [h.cell]; simp [strL, ByteArray.size]
theorem SplitR.start {c : UInt8} {l : List UInt8} {B : Nat} {W : World} (h1 : Boxed W B 9 (strL l)) (h2 : Boxed W (B + 1) 9 (strL [c])) (h3 : Boxed W (B + 2) 3 (.int .i64 0)) : SplitR c l B 0 W :=
  ⟨l, h1, h2, h3, by simp, Nat.le_refl _⟩
theorem SplitR.mono {c : UInt8} {l : List UInt8} {B k : Nat} {W W' : World} (h : SplitR c l B k W) (hk : ∀ b t v, B ≤ b → b ≤ B + 2 → Boxed W b t v → Boxed W' b t v) : SplitR c l B k W' := by
  obtain ⟨rest, h1, h2, h3, h4, h5⟩ := h
  exact ⟨rest, hk _ _ _ (by omega) (by omega) h1, hk _ _ _ (by omega) (by omega) h2, hk _ _ _ (by omega) (by omega) h3, h4, h5⟩

theorem cutL_inj {c : UInt8} {a b : List UInt8} (h : cutLD c a = cutLD c b) : a = b := by
  have := cutL_join c a
  rw [h, cutL_join] at this
  exact this.symm
theorem SplitR.get {c : UInt8} {l rest : List UInt8} {B k : Nat} {W : World} (h : SplitR c l B k W) (hd : (cutLD c l).drop k = cutLD c rest) :
    Boxed W B 9 (strL rest) ∧ Boxed W (B + 1) 9 (strL [c]) ∧ Boxed W (B + 2) 3 (.int .i64 0) := by
  obtain ⟨r', h1, h2, h3, h4, _⟩ := h
  obtain rfl : r' = rest := cutL_inj (h4.symm.trans hd)
  exact ⟨h1, h2, h3⟩
theorem drop_head {α : Type} {xs ys : List α} {k : Nat} {x : α} (h : xs.drop k = x :: ys) : ∃ hk : k < xs.length, xs[k] = x ∧ xs.drop (k + 1) = ys := by
  have hk : k < xs.length := by
    rcases Nat.lt_or_ge k xs.length with h' | h'
    · exact h'
    · rw [List.drop_eq_nil_of_le h'] at h; cases h
  rw [List.drop_eq_getElem_cons hk] at h
  cases h
  exact ⟨hk, rfl, rfl⟩

set_option maxRecDepth 100000 in
set_option maxHeartbeats 1000000 in
theorem split_gives (n : Nat) (hn : 1 ≤ n) (c : UInt8) (l : List UInt8) (hl : l.length ≤ 1048576) (B : Nat) :
    GivesB Fence.wide n Tryd.prog 53 #[.pointer (some ⟨B + 1, 0, none⟩), .pointer (some ⟨B, 0, none⟩), .pointer (some ⟨B + 2, 0, none⟩)] ((cutLD c l).map fun x => #[strL x]) (SplitR c l B) (SplitAb B) := by
  intro lp J Jx W hJ hY h0 hR0
  have hlen : ((cutLD c l).map fun x => #[strL x]).length = (cutLD c l).length := by simp
  refine callsIn_of_wp Tryd.func53 rfl trivial ?_ rfl
  simp only [Tryd.ntmps53, List.size_toArray, List.length_cons, List.length_nil, Nat.reduceAdd, Nat.reduceSub, Array.replicate_succ, Array.replicate_zero, List.push_toArray, List.append_toArray, List.nil_append, List.cons_append]
  obtain ⟨r0, b1, b2, b3, hd0, hr0⟩ := hR0
  have hc2 : W.cell? ⟨B + 1, 0, none⟩ = some (.string ⟨#[c]⟩) := b2.cell
  have hz2 : (⟨#[c]⟩ : ByteArray).size = 1 := rfl
  gi_wp2
  gi_loopw [] (fun W' => ∃ k, SplitR c l B k W' ∧ J k W') (fun W' => cellLen B W')
  case atStart => exact ⟨0, ⟨r0, b1, b2, b3, hd0, hr0⟩, h0⟩
  case round =>
    obtain ⟨k, ⟨rest, c1, c2, c3, hd, hr⟩, hj⟩ := hrel
    have e1 : wr.cell? ⟨B, 0, none⟩ = some (.string ⟨rest.toArray⟩) := c1.cell
    have e2 : wr.cell? ⟨B + 1, 0, none⟩ = some (.string ⟨#[c]⟩) := c2.cell
    have e3 := c3.cell
    have e4 := c1.frozen
    have hkl : k < (cutLD c l).length := by
      rcases Nat.lt_or_ge k (cutLD c l).length with h | h
      · exact h
      · rw [List.drop_eq_nil_of_le h] at hd; exact absurd hd.symm (cutL_neD c rest)
    have hlen0 : cellLen B wr = rest.length := cellLen_eq c1
    have hix := Tryd.strings_Index_one ⟨rest.toArray⟩ c wr
    simp only at hix
    rcases idx_find c rest with ⟨hi, hn0⟩ | ⟨a, b, hab, hna, hi⟩
    · rw [hi] at hix
      rw [cutL_freeD c rest hn0] at hd
      obtain ⟨hk, hx, hd1⟩ := drop_head hd
      have hlast : k + 1 = (cutLD c l).length := by
        have := congrArg List.length hd1; simp at this; omega
      have hy1 := hY k (by rw [hlen]; exact hk) wr hj ⟨rest, c1, c2, c3, by rw [hd, cutL_freeD c rest hn0], hr⟩
      rw [List.getElem_map, hx] at hy1
      obtain ⟨fn, tmps, assign, body, hy, hR⟩ := hy1
      dsimp only [strL] at hy
      clear hY hJ
      gi_wp2_with (refine ⟨trivial, ?_⟩; gi_at_call 55; refine (callsIn_wide.2 hix).mono ?_; rintro e w' ⟨rfl, rfl⟩)
      refine hR.mono ?_
      rintro e W3 (⟨rfl, hJ3, -⟩ | ⟨rfl, hJx3⟩)
      · gi_wp2
        go_end0
        exact ⟨⟨_, rfl⟩, .inl (by rw [hlen, ← hlast]; exact hJ3)⟩
      · gi_wp2
        go_end0
        exact ⟨⟨_, rfl⟩, .inr hJx3⟩
    · rw [hi] at hix
      have hdr := hd
      rw [hab, cutL_atD c a b hna] at hd
      obtain ⟨hk, hx, hd1⟩ := drop_head hd
      have hal : a.length + 1 ≤ rest.length := by rw [hab]; simp
      have hbl : b.length + (a.length + 1) = rest.length := by rw [hab]; simp; omega
      have hy1 := hY k (by rw [hlen]; exact hk) wr hj ⟨rest, c1, c2, c3, hdr, hr⟩
      rw [List.getElem_map, hx] at hy1
      obtain ⟨fn, tmps, assign, body, hy, hR⟩ := hy1
      dsimp only [strL] at hy
      clear hY
      have hsz : (⟨rest.toArray⟩ : ByteArray).size = rest.length := by simp [ByteArray.size]
      have hal64 : a.length ≤ 1048576 := by omega
      have hs1 : ∀ (w : World), (Instr.slice 9 (.string ⟨rest.toArray⟩) none (some (.int .i64 (a.length : Int))) none).run Tryd.prog w = .ok (.string ⟨a.toArray⟩) w := by
        intro w
        have := run_slice_string_h (P := Tryd.prog) w 9 ⟨rest.toArray⟩ Tryd.underlying9 .i64 (a.length : Int) (by omega) (by rw [hsz]; omega)
        rw [this, ByteArray.extract_mk, hab]
        simp
      have hdm : rest.drop (a.length + 1) = b := by rw [hab, show a ++ c :: b = (a ++ [c]) ++ b by simp, show a.length + 1 = (a ++ [c]).length by simp, List.drop_left]
      have hs2 : ∀ (w : World), (Instr.slice 9 (.string ⟨rest.toArray⟩) (some (.int .i64 ((a.length : Int) + 1))) none none).run Tryd.prog w = .ok (.string ⟨b.toArray⟩) w := by
        intro w
        have := run_slice_string_l (P := Tryd.prog) w 9 ⟨rest.toArray⟩ Tryd.underlying9 .i64 ((a.length : Int) + 1) (by omega) (by rw [hsz]; omega)
        rw [this, ByteArray.extract_mk, hsz, show ((a.length : Int) + 1).toNat = a.length + 1 by omega, hdm, List.take_of_length_le (by omega)]
      generalize hA : (⟨a.toArray⟩ : ByteArray) = sa at *
      generalize hB : (⟨b.toArray⟩ : ByteArray) = sb at *
      generalize hS : (⟨rest.toArray⟩ : ByteArray) = sr at *
      have HD := Lib.hid hd; have HDR := Lib.hid hdr; have HD1 := Lib.hid hd1; have HAB := Lib.hid hab
      clear hd hdr hd1 hab hdm
      gi_wp2_with (refine ⟨trivial, ?_⟩; gi_at_call 55; refine (callsIn_wide.2 hix).mono ?_; rintro e w' ⟨rfl, rfl⟩)
      refine hR.mono ?_
      rintro e W3 (⟨rfl, hJ3, hR3⟩ | ⟨rfl, hJx3⟩)
      · obtain ⟨d1, d2, d3⟩ := hR3.get HDR.out
        have f1 : W3.cell? ⟨B, 0, none⟩ = some (.string sr) := by rw [← hS]; exact d1.cell
        have f2 : W3.cell? ⟨B + 1, 0, none⟩ = some (.string ⟨#[c]⟩) := d2.cell
        have f4 := d1.frozen
        gi_wp2
        go_roundw
        case rel =>
          refine ⟨k + 1, ⟨b, ?_, d2.other (by omega) _, d3.other (by omega) _, by rw [HD1.out], by omega⟩, hJ _ _ _ hJ3 ⟨_, rfl⟩⟩
          rw [← hB]
          exact d1.set _
        case measure =>
          rw [hlen0, cellLen_eq (rest := b) (by unfold strL; rw [hB]; exact d1.set _)]
          omega
      · gi_wp2
        refine bodyPost_ret (results_none rfl _ _ _) rfl ?_
        exact ⟨⟨_, rfl⟩, .inr hJx3⟩
end Go.Proofs.YtcmnkhblnlmfpaaDoor
