/-
  Plain facts on varints, as lists of bytes: which prefix of a text is a number's own varint.
  The draws of chapter 1: what DrawEncodeVarint, DrawEncodeHex and DrawEncodeFixed return.
  'copy' into a row of a matrix of the call's own.
  JoinCartans of the program: what the call returns.
-/
import Derived.WalkKit
import Derived.Test.YtbmghddmilgngaaEz33
import Derived.Laws.CopyOwn
import Derived.Test.YtbmghddmilgngaaEz15
import Derived.Test.YtbmghddmilgngaaEz19
namespace Go.Proofs.Ytbmghddmilgngaa

def vb (n : Nat) : List UInt8 := if n < 128 then [UInt8.ofNat n] else UInt8.ofNat (128 + n % 128) :: vb (n / 128)
  decreasing_by omega
theorem vb_small {n : Nat} (h : n < 128) : vb n = [UInt8.ofNat n] := by rw [vb, if_pos h]
theorem vb_big {n : Nat} (h : ¬ n < 128) : vb n = UInt8.ofNat (128 + n % 128) :: vb (n / 128) := by rw [vb, if_neg h]
theorem vb_len (k : Nat) : ∀ n, n < 128 ^ (k + 1) → (vb n).length ≤ k + 1 := by
  induction k with
  | zero => intro n h; rw [vb_small (by simpa using h)]; simp
  | succ k ih =>
    intro n h
    by_cases h' : n < 128
    · rw [vb_small h']; simp
    · rw [vb_big h']
      have := ih (n / 128) (by rw [Nat.pow_succ] at h; omega)
      simp only [List.length_cons]; omega
theorem vb_len7 {n : Nat} (h : n ≤ 562949953421311) : (vb n).length ≤ 7 := vb_len 6 n (by
  have : 128 ^ (6 + 1) = 562949953421312 := by decide
  omega)
theorem vb_pos (n : Nat) : 1 ≤ (vb n).length := by rw [vb]; split <;> simp

theorem u8_nat (n : Nat) (h : n < 256) : ((UInt8.ofNat n).toNat : Int) = n := by
  rw [UInt8.toNat_ofNat']; omega
theorem u8_natN (n : Nat) (h : n < 256) : (UInt8.ofNat n).toNat = n := by
  rw [UInt8.toNat_ofNat']; omega
theorem u8_ext {a b : UInt8} : a = b ↔ a.toNat = b.toNat := ⟨fun h => by rw [h], UInt8.toNat.inj⟩

def vval : List UInt8 → Nat
  | [] => 0
  | b :: r => b.toNat % 128 + 128 * vval r

theorem vval_lt : ∀ l, vval l < 128 ^ l.length
  | [] => by simp [vval]
  | b :: r => by
    have := vval_lt r
    simp only [vval, List.length_cons, Nat.pow_succ]
    omega

theorem vval_zero : ∀ (l : List UInt8), vval l = 0 → ∀ i, i < l.length → (l.getD i 0).toNat % 128 = 0
  | [], _, i, hi => by simp at hi
  | b :: r, h, 0, _ => by simp only [vval] at h; simp; omega
  | b :: r, h, i + 1, hi => by
    simp only [vval] at h
    have := vval_zero r (by omega) i (by simpa using hi)
    simpa using this

theorem vval_snoc : ∀ (l : List UInt8) (c : UInt8), vval (l ++ [c]) = vval l + 128 ^ l.length * (c.toNat % 128)
  | [], c => by simp [vval]
  | b :: r, c => by
    have := vval_snoc r c
    simp only [List.cons_append, vval, this, List.length_cons, Nat.pow_succ]
    rw [Nat.mul_comm (128 ^ r.length) 128, Nat.mul_assoc]
    omega

/-- The first k bytes of l are a number's own varint. -/
def Good (l : List UInt8) (k : Nat) : Prop :=
  1 ≤ k ∧ k ≤ l.length ∧ (∀ i, i + 1 < k → 128 ≤ (l.getD i 0).toNat) ∧ (l.getD (k - 1) 0).toNat < 128 ∧ (k = 1 ∨ (l.getD (k - 1) 0).toNat ≠ 0)

theorem good_one {l : List UInt8} {k k' : Nat} (h : Good l k) (h' : Good l k') : k = k' := by
  obtain ⟨a1, a2, a3, a4, _⟩ := h
  obtain ⟨b1, b2, b3, b4, _⟩ := h'
  rcases Nat.lt_trichotomy k k' with h | h | h
  · have := b3 (k - 1) (by omega); omega
  · exact h
  · have := a3 (k' - 1) (by omega); omega

theorem vb_good : ∀ (k : Nat) (l : List UInt8), 1 ≤ k → k ≤ l.length → (vb (vval (l.take k)) = l.take k ↔ Good l k)
  | 0, _, h, _ => by omega
  | 1, [], _, h => by simp at h
  | 1, b :: r, _, _ => by
    have hb := b.toNat_lt
    simp only [List.take_succ_cons, List.take_zero, vval]
    rw [vb_small (by omega)]
    simp only [List.cons.injEq, and_true, u8_ext, u8_natN _ (show b.toNat % 128 + 128 * 0 < 256 by omega)]
    constructor
    · intro h
      refine ⟨Nat.le_refl _, by simp, fun i hi => by omega, ?_, Or.inl rfl⟩
      simp; omega
    · rintro ⟨_, _, _, h, _⟩
      simp at h; omega
  | k + 2, [], _, h => by simp at h
  | k + 2, b :: r, _, h => by
    have hb := b.toNat_lt
    have hl : k + 1 ≤ r.length := by simpa using h
    have ih := vb_good (k + 1) r (by omega) hl
    have htl : (r.take (k + 1)).length = k + 1 := by rw [List.length_take]; omega
    simp only [List.take_succ_cons, vval]
    by_cases hv : vval (r.take (k + 1)) = 0
    · constructor
      · intro e
        rw [hv, vb_small (by omega)] at e
        have := congrArg List.length e
        simp only [List.length_cons, List.length_nil, htl] at this
        omega
      · rintro ⟨_, _, _, h4, h5⟩
        have hz := vval_zero _ hv k (by omega)
        have e1 : (r.take (k + 1)).getD k 0 = r.getD k 0 := by
          simp [List.getD, List.getElem?_take_of_lt (show k < k + 1 by omega)]
        rw [e1] at hz
        simp at h4 h5
        simp at hz
        omega
    · rw [vb_big (by omega), show (b.toNat % 128 + 128 * vval (r.take (k + 1))) / 128 = vval (r.take (k + 1)) by omega,
        show 128 + (b.toNat % 128 + 128 * vval (r.take (k + 1))) % 128 = 128 + b.toNat % 128 by omega]
      simp only [List.cons.injEq, u8_ext, u8_natN _ (show 128 + b.toNat % 128 < 256 by omega), ih]
      constructor
      · rintro ⟨h1, g1, g2, g3, g4, g5⟩
        refine ⟨by omega, by simpa using h, ?_, by simpa using g4, Or.inr ?_⟩
        · intro i hi
          match i, hi with
          | 0, _ => simp; omega
          | i + 1, hi => simpa using g3 i (by omega)
        · simp only [Nat.add_sub_cancel] at g4 g5 ⊢
          have e : (b :: r).getD (k + 1) 0 = r.getD k 0 := by simp
          rw [show k + 2 - 1 = k + 1 by omega, e]
          rcases g5 with g5 | g5
          · have hk : k = 0 := by omega
            subst hk
            match r, hl, hv with
            | c :: r', _, hv =>
              simp [vval] at hv
              simp
              intro hc
              rw [hc] at hv
              simp at hv
          · exact g5
      · rintro ⟨_, _, g3, g4, g5⟩
        have h0 := g3 0 (by omega)
        simp only [List.getD_cons_zero] at h0
        refine ⟨by omega, by omega, hl, ?_, by simpa using g4, Or.inr ?_⟩
        · intro i hi
          simpa using g3 (i + 1) (by omega)
        · rcases g5 with g5 | g5
          · omega
          · simpa using g5
end Go.Proofs.Ytbmghddmilgngaa
namespace Go.Proofs.Ytbmghddmilgngaa
open Go.RowKit

def numVals : List Int := [-1, 0, 127, 128, 255, 256, 16383, 16384, 65535, 65536, 562949953421311, 562949953421312, 999999999, 1000000000, -999999999, 9223372036854775807, -9223372036854775808]
theorem numVals_in : ∀ v, v ∈ numVals → isI64 v := by unfold numVals isI64; decide

theorem new_cur (B : Nat) (w : World) (cv : Value) (len : Nat) (h : Int) (hl : len ≤ 1048576) (hB : B ≤ w.heap.size) (hcode : CodeB B w cv len) : Dr B w.heap.size cv len (w.alloc (.cells #[cv, .int .i64 0, .int .i64 h] 80)) := by
  refine ⟨hl, ?_, hB, 0, h, Nat.zero_le _, (MapKept.heap_alloc _ _).1⟩
  rcases hcode with h | ⟨b, off, cap, h1, h2, h3⟩
  · exact Or.inl h
  · refine Or.inr ⟨b, off, cap, h1, h2, fun j hj => ?_⟩
    obtain ⟨u, hu⟩ := h3 j hj
    exact ⟨u, (World.grownBy_alloc w _ none).cell hu (by simp)⟩

set_option maxHeartbeats 1000000 in
set_option maxRecDepth 100000 in
theorem new_nil (w : World) (a : Option Addr) (cap : Nat) :
    Calls Try.prog 57 #[.slice a 0 cap] w fun e w' => ∃ h : Int, e = .returned (.pointer (some ⟨w.heap.size, 0, none⟩)) ∧ w' = w.alloc (.cells #[.slice a 0 cap, .int .i64 0, .int .i64 h] 80) := by
  go_enter Try.func57, Try.ntmps57
  go_wp2_with fail
  refine wp_loop_rounds 1 ?_
  rw [rounds_succ]
  go_wp2_with fail
  go_ret
  exact ⟨_, rfl, rfl⟩

set_option maxHeartbeats 1000000 in
set_option maxRecDepth 100000 in
theorem new_some (w : World) (b off cap len : Nat) (hl : len ≤ 1048576) (hc : ∀ j, j < len → ∃ u : UInt8, w.cell? ⟨b, off + j, none⟩ = some (.int .u8 (u.toNat : Int))) :
    Calls Try.prog 57 #[.slice (some ⟨b, off, none⟩) len cap] w fun e w' => ∃ h : Int, e = .returned (.pointer (some ⟨w.heap.size, 0, none⟩)) ∧ w' = w.alloc (.cells #[.slice (some ⟨b, off, none⟩) len cap, .int .i64 0, .int .i64 h] 80) := by
  have HC := Lib.hid hc; clear hc
  go_enter Try.func57, Try.ntmps57
  go_wp2_with fail
  go_loop [3, 4] (fun h i => ∃ (k : Nat) (x : Int), k ≤ len ∧ k ≤ 4000 ∧ i = .int .i64 k ∧ h = .int .i64 x) (fun _ i => 4000 - (RowKit.intOf i).toNat)
  case atStart => exact ⟨0, _, Nat.zero_le _, Nat.zero_le _, rfl, rfl⟩
  case round =>
    obtain ⟨k, x, hk, hk4, rfl, rfl⟩ := hrel
    by_cases hlt : k < len ∧ k < 4000
    · obtain ⟨h1, h2⟩ := hlt
      obtain ⟨u, hu⟩ := HC.out k h1
      go_wp2_with fail
      go_round
      case rel => exact ⟨k + 1, _, by omega, by omega, by go_num, rfl⟩
      case measure => simp [RowKit.intOf]; omega
    · by_cases h1 : k < len
      · have h2 : 4000 ≤ k := by omega
        clear hlt
        go_wp2_with fail
        go_ret
        exact ⟨rfl, x, rfl⟩
      · clear hlt
        go_wp2_with fail
        go_ret
        exact ⟨rfl, x, rfl⟩

theorem new_any (B : Nat) (w : World) (cv : Value) (len : Nat) (hl : len ≤ 1048576) (hB : B ≤ w.heap.size) (hcode : CodeB B w cv len) :
    Calls Try.prog 57 #[cv] w fun e w' => e = .returned (.pointer (some ⟨w.heap.size, 0, none⟩)) ∧ Dr B w.heap.size cv len w' ∧ w.grownBy w' none := by
  have hcode0 := hcode
  rcases hcode with ⟨⟨a, cap, rfl⟩, rfl⟩ | ⟨b, off, cap, rfl, hb, hc⟩
  · exact (new_nil w a cap).mono fun e w' ⟨h, he, hw⟩ => ⟨he, by rw [hw]; exact new_cur B w _ _ h hl hB hcode0, by rw [hw]; exact World.grownBy_alloc _ _ _⟩
  · exact (new_some w b off cap len hl hc).mono fun e w' ⟨h, he, hw⟩ => ⟨he, by rw [hw]; exact new_cur B w _ _ h hl hB hcode0, by rw [hw]; exact World.grownBy_alloc _ _ _⟩

/-- Behind a draw with a new cursor: what was there stands. -/
theorem draw_below {B : Nat} {cv : Value} {len : Nat} {w w1 w2 : World} (h1 : w.grownBy w1 none) (h2 : DrTo B w.heap.size cv len w1 w2) : Below w.heap.size w w2 :=
  ((Below.refl _ _).grown h1 (Nat.le_refl _) (fun k hk => by cases hk)).grown h2.2 h1.size (fun k hk => by cases hk; exact Nat.le_refl _)

/-- What the text loop keeps. -/
def TRel (B C : Nat) (cv : Value) (len : Nat) (w wr : World) (v : Value) (xs : List UInt8) (k most : Nat) : Prop :=
  Dr B C cv len wr ∧ OwnB wr w.heap.size v xs ∧ w.grownBy wr (some C) ∧ w.heap.size ≤ wr.heap.size ∧ xs.length + k ≤ most ∧ C < w.heap.size
theorem trel_byte {B C : Nat} {cv : Value} {len : Nat} {w wr w1 : World} {v : Value} {xs : List UInt8} {k most : Nat} (h : TRel B C cv len w wr v xs k most) (hd : DrTo B C cv len wr w1) : TRel B C cv len w w1 v xs k most := by
  obtain ⟨h1, h2, h3, h4, h5, h6⟩ := h
  refine ⟨hd.1, ?_, h3.trans hd.2, Nat.le_trans h4 hd.2.size, h5, h6⟩
  refine World.ownsRow.kept h2 hd.2 ?_
  cases hv : v.ownBlock with
  | none => exact Or.inl rfl
  | some g =>
    have := World.ownsRow.lt h2 g hv
    refine Or.inr ?_
    simp; omega
theorem trel_app {B C : Nat} {cv : Value} {len : Nat} {w wr w1 : World} {v v' : Value} {xs : List UInt8} {k most : Nat} {b : UInt8} (hk : 0 < k) (h : TRel B C cv len w wr v xs k most) (hown : OwnB w1 w.heap.size v' (xs ++ [b]))
    (hb : ∀ W, Below w.heap.size W wr → Below w.heap.size W w1) (hz : w.heap.size ≤ w1.heap.size) : TRel B C cv len w w1 v' (xs ++ [b]) (k - 1) most := by
  obtain ⟨h1, h2, h3, h4, h5, h6⟩ := h
  have hbw := hb wr (Below.refl _ _)
  refine ⟨h1.below hbw h6, hown, ?_, hz, by simp only [List.length_append, List.length_singleton]; omega, h6⟩
  exact ⟨hbw.os.trans h3.os, hbw.tape.trans h3.tape, hbw.output.trans h3.output, hz, fun i hi hne => (hbw.block i hi).trans (h3.block i hi hne)⟩

end Go.Proofs.Ytbmghddmilgngaa
namespace Go.Proofs.Ytbmghddmilgngaa
open Go.RowKit

def spl (l : List Int) (c : Nat) (l2 : List Int) : List Int := l.take c ++ l2 ++ l.drop (c + l2.length)
theorem spl_len (l : List Int) (c : Nat) (l2 : List Int) (h : c + l2.length ≤ l.length) : (spl l c l2).length = l.length := by simp [spl]; omega
theorem spl_take {α : Type} (cur : List α) (n c : Nat) (cs : List α) (hn : n ≤ cur.length) (hc : c + cs.length ≤ n) :
    (cur.take c ++ cs ++ cur.drop (c + cs.length)).take n = (cur.take n).take c ++ cs ++ (cur.take n).drop (c + cs.length) := by
  have h1 : (cur.take n).take c = cur.take c := by rw [List.take_take, Nat.min_eq_left (by omega)]
  rw [h1, List.take_append, List.take_of_length_le (by simp; omega)]
  congr 1
  rw [List.drop_take]
  congr 1
  simp
  omega

/-- What is known of the block of row j, for a copy into it. -/
def CopyTo (A B : Nat) (w : World) (v : Value) (m : List (List Int)) (j r : Nat) : Prop :=
  ∃ rcur : Array Value, w.heap[r]? = some (.cells rcur 3 (0, 0)) ∧ (m.getD j []).length ≤ rcur.size ∧
    ∀ (c : Nat) (l2 : List Int), c + l2.length ≤ (m.getD j []).length → MatI A B (w.setRow r (rcur.toList.take c ++ intsV l2 ++ rcur.toList.drop (c + l2.length)).toArray) v (m.set j (spl (m.getD j []) c l2))

theorem MatI.copyTo {A B : Nat} {w : World} {a : Option Addr} {n cap : Nat} {m : List (List Int)} (h : MatI A B w (.slice a n cap) m) {j : Nat} (hj : j < m.length) (h0 : 0 < (m.getD j []).length) :
    ∃ g r rcap, a = some ⟨g, 0, none⟩ ∧ w.cell? ⟨g, j, none⟩ = some (.slice (some ⟨r, 0, none⟩) (m.getD j []).length rcap) ∧ (m.getD j []).length ≤ rcap ∧ A ≤ r ∧ CopyTo A B w (.slice a n cap) m j r := by
  obtain ⟨hs, h1, h2, h3, h4⟩ := h
  have hgd : m.getD j [] = m[j] := by simp [List.getD, hj]
  unfold CopyTo
  rw [hgd] at h0 ⊢
  obtain ⟨hv, h5, h6⟩ := h3 j hj
  rcases h1.2 with ⟨hnil, hz⟩ | ⟨g, cap', cur, hval, hA, hg, _⟩
  · omega
  have ha : a = some ⟨g, 0, none⟩ := by injection hval
  have hn : n = m.length := by injection hval
  subst ha
  subst hn
  rcases h6.1.2 with ⟨_, hz⟩ | ⟨r, rcap, rcur, rfl, hrA, hrg, hrn, hrm, hrs, hrt⟩
  · omega
  simp only [Nat.mul_one] at hrs hrt
  refine ⟨g, r, rcap, rfl, by rw [h1.cellAt j (by omega)]; exact h5, hrn, hrA, rcur, hrg, by omega, fun c l2 hc => ?_⟩
  have hgr : w.grownBy (w.setRow r (rcur.toList.take c ++ intsV l2 ++ rcur.toList.drop (c + l2.length)).toArray) (some r) := ⟨rfl, rfl, rfl, by simp, fun k _ hk => setRow_other w r k _ (fun e => hk (by simp [e]))⟩
  have hrow : RowI A B (w.setRow r (rcur.toList.take c ++ intsV l2 ++ rcur.toList.drop (c + l2.length)).toArray) (.slice (some ⟨r, 0, none⟩) m[j].length rcap) (spl m[j] c l2) := by
    have hl := spl_len m[j] c l2 hc
    refine ⟨?_, h6.2⟩
    rw [hl]
    refine ⟨by rw [intsV_len, hl]; omega, Or.inr ⟨r, rcap, _, rfl, hrA, setRow_heap w r rcur _ 3 _ hrg, hrn, hrm, ?_, ?_⟩⟩
    · have hcl : c + l2.length ≤ rcur.size := by omega
      simp [intsV_len]; omega
    · rw [Nat.mul_one]
      have hcc : c + (intsV l2).length ≤ m[j].length := by rw [intsV_len]; exact hc
      have hst := spl_take rcur.toList m[j].length c (intsV l2) (by simp; omega) hcc
      rw [intsV_len] at hst
      rw [hst, hrt]
      simp [spl, intsV, List.map_take, List.map_drop]
  have hl := show (m.set j (spl m[j] c l2)).length = m.length by simp
  have h7 := mat_row (m' := m.set j (spl m[j] c l2)) h1 h3 h4 h5 hgr hl (by rw [hgd]; exact h6.1) (fun hj' => by
    rw [List.getElem_set_self]; exact hrow) (fun i hi hne => ⟨by rw [hl]; exact hi, by rw [List.getElem_set_ne (fun e => hne e.symm)]⟩)
  exact ⟨hs, h7.1, h2, h7.2, h4⟩

theorem copy_row {ops : Array Oper} {rest : List Oper} {o : Oper} {a : Act} {Q : Exit → Act → World → Prop} {d s : Operand} {A B B' : Nat} {w : World} {v xv : Value} {m : List (List Int)} {j r : Nat} {l2 : List Int}
    (hC : CopyTo A B w v m j r) (hA : A ≤ r) (hr : RowB B' w xv l2) (h0 : l2 ≠ []) (c dLen dCap : Nat) (hc : c + l2.length ≤ (m.getD j []).length) (hm : l2.length ≤ dLen) {m2 : List (List Int)} (h2 : m.set j (spl (m.getD j []) c l2) = m2) (hgd : o.guard = none)
    (ho : o.op = .call { callee := .builtin .copy, args := #[d, s], argTypes := #[25, 25] }) (hd : a.eval d = .slice (some ⟨r, c, none⟩) dLen dCap) (hs : a.eval s = xv)
    (h : ∀ w', MatI A B w' v m2 → (∀ W C, C ≤ A → Below C W w → Below C W w') → w'.heap.size = w.heap.size → wpList Try.prog ops Q rest (a.put o.dst (goInt l2.length)) w') :
    wpList Try.prog ops Q (o :: rest) a w := by
  subst h2
  obtain ⟨rcur, h1, h2, h3⟩ := hC
  rcases hr with ⟨h', _⟩ | ⟨b, off, cap, rfl, hb, hcell⟩
  · exact absurd h' h0
  have hcs : (intsV l2).length = l2.length := intsV_len l2
  refine wpList_copy_own hgd d s 25 25 ho 3 Try.underlying25 (by kernel_rfl) r c dLen dCap ⟨b, off, none⟩ l2.length cap hd hs rcur 3 h1 (intsV l2) (by rw [hcs]; exact (Nat.min_eq_left hm).symm) (fun k u hu => ?_) (by rw [hcs]; omega) (fun u hu => ?_) ?_
  · have hk : k < l2.length := by have := (List.getElem?_eq_some_iff.1 hu).1; rwa [hcs] at this
    rw [Addr.add_lit, hcell k hk, ← hu]
    simp [intsV, hk]
  · obtain ⟨n, _, rfl⟩ := List.mem_map.1 hu
    rfl
  · rw [hcs]
    have h4 := h3 c l2 hc
    rw [List.append_assoc] at h4
    exact h _ h4 (fun W C hC hb => below_setRow hb (by omega) _) (by simp)
end Go.Proofs.Ytbmghddmilgngaa
namespace Go.Proofs.Ytbmghddmilgngaa
open Go.RowKit

/-- The first k rows are laid, the others are zeros. -/
def stJ (J : List (List Int)) (N k : Nat) : List (List Int) := J.take k ++ List.replicate (N - k) (zerosR N)
theorem stJ_len {J : List (List Int)} {N k : Nat} (hJ : J.length = N) (hk : k ≤ N) : (stJ J N k).length = N := by simp [stJ, hJ]; omega
theorem stJ_get {J : List (List Int)} {N k : Nat} (hJ : J.length = N) (hk : k < N) : (stJ J N k).getD k [] = zerosR N := by
  have h : (J.take k).length = k := by simp [hJ]; omega
  unfold stJ List.getD
  rw [List.getElem?_append_right (by omega), h, Nat.sub_self, List.getElem?_replicate, if_pos (by omega)]
  rfl
theorem stJ_step {J : List (List Int)} {N k : Nat} {row : List Int} (hJ : J.length = N) (hk : k < N) (hrow : J.take k ++ [row] = J.take (k + 1)) : (stJ J N k).set k row = stJ J N (k + 1) := by
  have h : (J.take k).length = k := by simp [hJ]; omega
  unfold stJ
  rw [← hrow, List.set_append_right _ _ (by omega), h, Nat.sub_self]
  obtain ⟨d, hd⟩ : ∃ d, N - k = d + 1 := ⟨N - k - 1, by omega⟩
  rw [hd, show N - (k + 1) = d by omega, List.replicate_succ, List.set_cons_zero]
  simp
theorem stJ_zero (J : List (List Int)) (N : Nat) : stJ J N 0 = zeros N := by simp [stJ, zeros]
theorem stJ_end {J : List (List Int)} {N : Nat} (hJ : J.length = N) : stJ J N N = J := by simp [stJ, ← hJ]
theorem spl_zeros_top (N : Nat) (r : List Int) (n n' : Nat) (hr : r.length = n) (hN : N = n + n') : spl (zerosR N) 0 r = r ++ List.replicate n' 0 := by
  subst hN; simp [spl, zerosR, hr]
theorem spl_zeros_low (N : Nat) (r : List Int) (n n' : Nat) (hr : r.length = n') (hN : N = n + n') : spl (zerosR N) n r = List.replicate n 0 ++ r := by
  subst hN; simp [spl, zerosR, hr, List.take_replicate]

theorem sum_map_le (l : List (List Int)) (N : Nat) (h : ∀ r ∈ l, r.length ≤ N) : (l.map List.length).sum ≤ l.length * N := by
  induction l with
  | nil => simp
  | cons r l ih =>
    simp only [List.map_cons, List.sum_cons, List.length_cons]
    have h1 := h r (by simp)
    have h2 := ih (fun x hx => h x (by simp [hx]))
    rw [Nat.add_mul]; omega
theorem joinM_small (a b : List (List Int)) : szSum (joinM a b) ≤ 1048576 := by
  by_cases hj : JoinOk a b
  · rw [joinM_yes hj]
    have hl := joinL_len a b
    obtain ⟨h1, h2, h3⟩ := hj
    have : ((joinL a b).map List.length).sum ≤ (joinL a b).length * 4 := sum_map_le _ 4 (fun r hr => by
      unfold joinL at hr
      rcases List.mem_append.1 hr with hr | hr
      · obtain ⟨x, hx, rfl⟩ := List.mem_map.1 hr
        obtain ⟨k, hk, rfl⟩ := List.getElem_of_mem hx
        have := isC_row h1 hk
        rw [getD_row a k hk] at this
        simp; omega
      · obtain ⟨x, hx, rfl⟩ := List.mem_map.1 hr
        obtain ⟨k, hk, rfl⟩ := List.getElem_of_mem hx
        have := isC_row h2 hk
        rw [getD_row b k hk] at this
        simp; omega)
    unfold szSum
    omega
  · rw [joinM_no hj]; decide
end Go.Proofs.Ytbmghddmilgngaa
