/-
  The draws of chapter 1: what DrawEncodeVarint, DrawEncodeHex and DrawEncodeFixed return.
  'copy' into a row of a matrix of the call's own.
  JoinCartans of the program: what the call returns.
  Chains, copies and changed entries: what the helpers of TypeCartan leave, in the model and in the program.
-/
import Derived.Test.YtnlbmnielemgiaaFl39
import Derived.Laws.CopyOwn
import Derived.Test.YtnlbmnielemgiaaFl09
import Derived.Test.YtnlbmnielemgiaaFl25
namespace Go.Proofs.Ytnlbmnielemgiaa
open Go.RowKit

def numVals : List Int := [-1, 0, 127, 128, 255, 256, 16383, 16384, 65535, 65536, 562949953421311, 562949953421312, 999999999, 1000000000, -999999999, 9223372036854775807, -9223372036854775808]
theorem numVals_in : ∀ v, v ∈ numVals → isI64 v := by unfold numVals isI64; decide

theorem new_cur (B : Nat) (w : World) (cv : Value) (len : Nat) (h : Int) (hl : len ≤ 1048576) (hB : B ≤ w.heap.size) (hcode : CodeB B w cv len) : Dr B w.heap.size cv len (w.alloc (.cells #[cv, .int .i64 0, .int .i64 h] 81)) := by
  refine ⟨hl, ?_, hB, 0, h, Nat.zero_le _, (MapKept.heap_alloc _ _).1⟩
  rcases hcode with h | ⟨b, off, cap, h1, h2, h3⟩
  · exact Or.inl h
  · refine Or.inr ⟨b, off, cap, h1, h2, fun j hj => ?_⟩
    obtain ⟨u, hu⟩ := h3 j hj
    exact ⟨u, (World.grownBy_alloc w _ none).cell hu (by simp)⟩

set_option maxHeartbeats 1000000 in
set_option maxRecDepth 100000 in
theorem new_nil (w : World) (a : Option Addr) (cap : Nat) :
    Calls Try.prog 89 #[.slice a 0 cap] w fun e w' => ∃ h : Int, e = .returned (.pointer (some ⟨w.heap.size, 0, none⟩)) ∧ w' = w.alloc (.cells #[.slice a 0 cap, .int .i64 0, .int .i64 h] 81) := by
  go_enter Try.func89, Try.ntmps89
  go_wp2_with fail
  refine wp_loop_rounds 1 ?_
  rw [rounds_succ]
  go_wp2_with fail
  go_ret
  exact ⟨_, rfl, rfl⟩

set_option maxHeartbeats 1000000 in
set_option maxRecDepth 100000 in
theorem new_some (w : World) (b off cap len : Nat) (hl : len ≤ 1048576) (hc : ∀ j, j < len → ∃ u : UInt8, w.cell? ⟨b, off + j, none⟩ = some (.int .u8 (u.toNat : Int))) :
    Calls Try.prog 89 #[.slice (some ⟨b, off, none⟩) len cap] w fun e w' => ∃ h : Int, e = .returned (.pointer (some ⟨w.heap.size, 0, none⟩)) ∧ w' = w.alloc (.cells #[.slice (some ⟨b, off, none⟩) len cap, .int .i64 0, .int .i64 h] 81) := by
  have HC := Lib.hid hc; clear hc
  go_enter Try.func89, Try.ntmps89
  go_wp2_with fail
  go_loop [3, 4] (fun h i => ∃ (k : Nat) (x : Int), k ≤ len ∧ k ≤ 4000 ∧ i = .int .i64 k ∧ h = .int .i64 x) (fun _ i => 4000 - (intOf i).toNat)
  case atStart => exact ⟨0, _, Nat.zero_le _, Nat.zero_le _, rfl, rfl⟩
  case round =>
    obtain ⟨k, x, hk, hk4, rfl, rfl⟩ := hrel
    by_cases hlt : k < len ∧ k < 4000
    · obtain ⟨h1, h2⟩ := hlt
      obtain ⟨u, hu⟩ := HC.out k h1
      go_wp2_with fail
      go_round
      case rel => exact ⟨k + 1, _, by omega, by omega, by go_num, rfl⟩
      case measure => simp [intOf]; omega
    · by_cases h1 : k < len
      · have h2 : 4000 ≤ k := by omega
        clear hlt
        go_wp2_with fail
        go_ret
        exact ⟨rfl, x, rfl⟩
      · clear hlt
        go_wp2_with fail
        go_ret
        exact ⟨rfl, x, rfl⟩

theorem new_any (B : Nat) (w : World) (cv : Value) (len : Nat) (hl : len ≤ 1048576) (hB : B ≤ w.heap.size) (hcode : CodeB B w cv len) :
    Calls Try.prog 89 #[cv] w fun e w' => e = .returned (.pointer (some ⟨w.heap.size, 0, none⟩)) ∧ Dr B w.heap.size cv len w' ∧ w.grownBy w' none := by
  have hcode0 := hcode
  rcases hcode with ⟨⟨a, cap, rfl⟩, rfl⟩ | ⟨b, off, cap, rfl, hb, hc⟩
  · exact (new_nil w a cap).mono fun e w' ⟨h, he, hw⟩ => ⟨he, by rw [hw]; exact new_cur B w _ _ h hl hB hcode0, by rw [hw]; exact World.grownBy_alloc _ _ _⟩
  · exact (new_some w b off cap len hl hc).mono fun e w' ⟨h, he, hw⟩ => ⟨he, by rw [hw]; exact new_cur B w _ _ h hl hB hcode0, by rw [hw]; exact World.grownBy_alloc _ _ _⟩

/-- Behind a draw with a new cursor: what was there stands. -/
theorem draw_below {B : Nat} {cv : Value} {len : Nat} {w w1 w2 : World} (h1 : w.grownBy w1 none) (h2 : DrTo B w.heap.size cv len w1 w2) : Below w.heap.size w w2 :=
  ((Below.refl _ _).grown h1 (Nat.le_refl _) (fun k hk => by cases hk)).grown h2.2 h1.size (fun k hk => by cases hk; exact Nat.le_refl _)

/-- What the text loop keeps. -/
def TRel (B C : Nat) (cv : Value) (len : Nat) (w wr : World) (v : Value) (xs : List UInt8) (k most : Nat) : Prop :=
  Dr B C cv len wr ∧ OwnB wr w.heap.size v xs ∧ w.grownBy wr (some C) ∧ w.heap.size ≤ wr.heap.size ∧ xs.length + k ≤ most ∧ C < w.heap.size
theorem trel_byte {B C : Nat} {cv : Value} {len : Nat} {w wr w1 : World} {v : Value} {xs : List UInt8} {k most : Nat} (h : TRel B C cv len w wr v xs k most) (hd : DrTo B C cv len wr w1) : TRel B C cv len w w1 v xs k most := by
  obtain ⟨h1, h2, h3, h4, h5, h6⟩ := h
  refine ⟨hd.1, ?_, h3.trans hd.2, Nat.le_trans h4 hd.2.size, h5, h6⟩
  refine World.ownsRow.kept h2 hd.2 ?_
  cases hv : v.ownBlock with
  | none => exact Or.inl rfl
  | some g =>
    have := World.ownsRow.lt h2 g hv
    refine Or.inr ?_
    simp; omega
theorem trel_app {B C : Nat} {cv : Value} {len : Nat} {w wr w1 : World} {v v' : Value} {xs : List UInt8} {k most : Nat} {b : UInt8} (hk : 0 < k) (h : TRel B C cv len w wr v xs k most) (hown : OwnB w1 w.heap.size v' (xs ++ [b]))
    (hb : ∀ W, Below w.heap.size W wr → Below w.heap.size W w1) (hz : w.heap.size ≤ w1.heap.size) : TRel B C cv len w w1 v' (xs ++ [b]) (k - 1) most := by
  obtain ⟨h1, h2, h3, h4, h5, h6⟩ := h
  have hbw := hb wr (Below.refl _ _)
  refine ⟨h1.below hbw h6, hown, ?_, hz, by simp only [List.length_append, List.length_singleton]; omega, h6⟩
  exact ⟨hbw.os.trans h3.os, hbw.tape.trans h3.tape, hbw.output.trans h3.output, hz, fun i hi hne => (hbw.block i hi).trans (h3.block i hi hne)⟩

end Go.Proofs.Ytnlbmnielemgiaa
namespace Go.Proofs.Ytnlbmnielemgiaa
open Go.RowKit

def spl (l : List Int) (c : Nat) (l2 : List Int) : List Int := l.take c ++ l2 ++ l.drop (c + l2.length)
theorem spl_len (l : List Int) (c : Nat) (l2 : List Int) (h : c + l2.length ≤ l.length) : (spl l c l2).length = l.length := by simp [spl]; omega
theorem spl_take {α : Type} (cur : List α) (n c : Nat) (cs : List α) (hn : n ≤ cur.length) (hc : c + cs.length ≤ n) :
    (cur.take c ++ cs ++ cur.drop (c + cs.length)).take n = (cur.take n).take c ++ cs ++ (cur.take n).drop (c + cs.length) := by
  have h1 : (cur.take n).take c = cur.take c := by rw [List.take_take, Nat.min_eq_left (by omega)]
  rw [h1, List.take_append, List.take_of_length_le (by simp; omega)]
  congr 1
  rw [List.drop_take]
  congr 1
  simp
  omega

/-- What is known of the block of row j, for a copy into it. -/
def CopyTo (A B : Nat) (w : World) (v : Value) (m : List (List Int)) (j r : Nat) : Prop :=
  ∃ rcur : Array Value, w.heap[r]? = some (.cells rcur 3 (0, 0)) ∧ (m.getD j []).length ≤ rcur.size ∧
    ∀ (c : Nat) (l2 : List Int), c + l2.length ≤ (m.getD j []).length → MatI A B (w.setRow r (rcur.toList.take c ++ intsV l2 ++ rcur.toList.drop (c + l2.length)).toArray) v (m.set j (spl (m.getD j []) c l2))

theorem MatI.copyTo {A B : Nat} {w : World} {a : Option Addr} {n cap : Nat} {m : List (List Int)} (h : MatI A B w (.slice a n cap) m) {j : Nat} (hj : j < m.length) (h0 : 0 < (m.getD j []).length) :
    ∃ g r rcap, a = some ⟨g, 0, none⟩ ∧ w.cell? ⟨g, j, none⟩ = some (.slice (some ⟨r, 0, none⟩) (m.getD j []).length rcap) ∧ (m.getD j []).length ≤ rcap ∧ A ≤ r ∧ CopyTo A B w (.slice a n cap) m j r := by
  obtain ⟨hs, h1, h2, h3, h4⟩ := h
  have hgd : m.getD j [] = m[j] := by simp [List.getD, hj]
  unfold CopyTo
  rw [hgd] at h0 ⊢
  obtain ⟨hv, h5, h6⟩ := h3 j hj
  rcases h1.2 with ⟨hnil, hz⟩ | ⟨g, cap', cur, hval, hA, hg, _⟩
  · omega
  have ha : a = some ⟨g, 0, none⟩ := by injection hval
  have hn : n = m.length := by injection hval
  subst ha
  subst hn
  rcases h6.1.2 with ⟨_, hz⟩ | ⟨r, rcap, rcur, rfl, hrA, hrg, hrn, hrm, hrs, hrt⟩
  · omega
  simp only [Nat.mul_one] at hrs hrt
  refine ⟨g, r, rcap, rfl, by rw [h1.cellAt j (by omega)]; exact h5, hrn, hrA, rcur, hrg, by omega, fun c l2 hc => ?_⟩
  have hgr : w.grownBy (w.setRow r (rcur.toList.take c ++ intsV l2 ++ rcur.toList.drop (c + l2.length)).toArray) (some r) := ⟨rfl, rfl, rfl, by simp, fun k _ hk => setRow_other w r k _ (fun e => hk (by simp [e]))⟩
  have hrow : RowI A B (w.setRow r (rcur.toList.take c ++ intsV l2 ++ rcur.toList.drop (c + l2.length)).toArray) (.slice (some ⟨r, 0, none⟩) m[j].length rcap) (spl m[j] c l2) := by
    have hl := spl_len m[j] c l2 hc
    refine ⟨?_, h6.2⟩
    rw [hl]
    refine ⟨by rw [intsV_len, hl]; omega, Or.inr ⟨r, rcap, _, rfl, hrA, setRow_heap w r rcur _ 3 _ hrg, hrn, hrm, ?_, ?_⟩⟩
    · have hcl : c + l2.length ≤ rcur.size := by omega
      simp [intsV_len]; omega
    · rw [Nat.mul_one]
      have hcc : c + (intsV l2).length ≤ m[j].length := by rw [intsV_len]; exact hc
      have hst := spl_take rcur.toList m[j].length c (intsV l2) (by simp; omega) hcc
      rw [intsV_len] at hst
      rw [hst, hrt]
      simp [spl, intsV, List.map_take, List.map_drop]
  have hl := show (m.set j (spl m[j] c l2)).length = m.length by simp
  have h7 := mat_row (m' := m.set j (spl m[j] c l2)) h1 h3 h4 h5 hgr hl (by rw [hgd]; exact h6.1) (fun hj' => by
    rw [List.getElem_set_self]; exact hrow) (fun i hi hne => ⟨by rw [hl]; exact hi, by rw [List.getElem_set_ne (fun e => hne e.symm)]⟩)
  exact ⟨hs, h7.1, h2, h7.2, h4⟩

theorem copy_row {ops : Array Oper} {rest : List Oper} {o : Oper} {a : Act} {Q : Exit → Act → World → Prop} {d s : Operand} {A B B' : Nat} {w : World} {v xv : Value} {m : List (List Int)} {j r : Nat} {l2 : List Int}
    (hC : CopyTo A B w v m j r) (hA : A ≤ r) (hr : RowB B' w xv l2) (h0 : l2 ≠ []) (c dLen dCap : Nat) (hc : c + l2.length ≤ (m.getD j []).length) (hm : l2.length ≤ dLen) {m2 : List (List Int)} (h2 : m.set j (spl (m.getD j []) c l2) = m2) (hgd : o.guard = none)
    (ho : o.op = .call { callee := .builtin .copy, args := #[d, s], argTypes := #[25, 25] }) (hd : a.eval d = .slice (some ⟨r, c, none⟩) dLen dCap) (hs : a.eval s = xv)
    (h : ∀ w', MatI A B w' v m2 → (∀ W C, C ≤ A → Below C W w → Below C W w') → w'.heap.size = w.heap.size → wpList Try.prog ops Q rest (a.put o.dst (goInt l2.length)) w') :
    wpList Try.prog ops Q (o :: rest) a w := by
  subst h2
  obtain ⟨rcur, h1, h2, h3⟩ := hC
  rcases hr with ⟨h', _⟩ | ⟨b, off, cap, rfl, hb, hcell⟩
  · exact absurd h' h0
  have hcs : (intsV l2).length = l2.length := intsV_len l2
  refine wpList_copy_own hgd d s 25 25 ho 3 Try.underlying25 (by kernel_rfl) r c dLen dCap ⟨b, off, none⟩ l2.length cap hd hs rcur 3 h1 (intsV l2) (by rw [hcs]; exact (Nat.min_eq_left hm).symm) (fun k u hu => ?_) (by rw [hcs]; omega) (fun u hu => ?_) ?_
  · have hk : k < l2.length := by have := (List.getElem?_eq_some_iff.1 hu).1; rwa [hcs] at this
    rw [Addr.add_lit, hcell k hk, ← hu]
    simp [intsV, hk]
  · obtain ⟨n, _, rfl⟩ := List.mem_map.1 hu
    rfl
  · rw [hcs]
    have h4 := h3 c l2 hc
    rw [List.append_assoc] at h4
    exact h _ h4 (fun W C hC hb => below_setRow hb (by omega) _) (by simp)
end Go.Proofs.Ytnlbmnielemgiaa
namespace Go.Proofs.Ytnlbmnielemgiaa
open Go.RowKit

/-- The first k rows are laid, the others are zeros. -/
def stJ (J : List (List Int)) (N k : Nat) : List (List Int) := J.take k ++ List.replicate (N - k) (zerosR N)
theorem stJ_len {J : List (List Int)} {N k : Nat} (hJ : J.length = N) (hk : k ≤ N) : (stJ J N k).length = N := by simp [stJ, hJ]; omega
theorem stJ_get {J : List (List Int)} {N k : Nat} (hJ : J.length = N) (hk : k < N) : (stJ J N k).getD k [] = zerosR N := by
  have h : (J.take k).length = k := by simp [hJ]; omega
  unfold stJ List.getD
  rw [List.getElem?_append_right (by omega), h, Nat.sub_self, List.getElem?_replicate, if_pos (by omega)]
  rfl
theorem stJ_step {J : List (List Int)} {N k : Nat} {row : List Int} (hJ : J.length = N) (hk : k < N) (hrow : J.take k ++ [row] = J.take (k + 1)) : (stJ J N k).set k row = stJ J N (k + 1) := by
  have h : (J.take k).length = k := by simp [hJ]; omega
  unfold stJ
  rw [← hrow, List.set_append_right _ _ (by omega), h, Nat.sub_self]
  obtain ⟨d, hd⟩ : ∃ d, N - k = d + 1 := ⟨N - k - 1, by omega⟩
  rw [hd, show N - (k + 1) = d by omega, List.replicate_succ, List.set_cons_zero]
  simp
theorem stJ_zero (J : List (List Int)) (N : Nat) : stJ J N 0 = zeros N := by simp [stJ, zeros]
theorem stJ_end {J : List (List Int)} {N : Nat} (hJ : J.length = N) : stJ J N N = J := by simp [stJ, ← hJ]
theorem spl_zeros_top (N : Nat) (r : List Int) (n n' : Nat) (hr : r.length = n) (hN : N = n + n') : spl (zerosR N) 0 r = r ++ List.replicate n' 0 := by
  subst hN; simp [spl, zerosR, hr]
theorem spl_zeros_low (N : Nat) (r : List Int) (n n' : Nat) (hr : r.length = n') (hN : N = n + n') : spl (zerosR N) n r = List.replicate n 0 ++ r := by
  subst hN; simp [spl, zerosR, hr, List.take_replicate]

theorem sum_map_le (l : List (List Int)) (N : Nat) (h : ∀ r ∈ l, r.length ≤ N) : (l.map List.length).sum ≤ l.length * N := by
  induction l with
  | nil => simp
  | cons r l ih =>
    simp only [List.map_cons, List.sum_cons, List.length_cons]
    have h1 := h r (by simp)
    have h2 := ih (fun x hx => h x (by simp [hx]))
    rw [Nat.add_mul]; omega
theorem joinM_small (a b : List (List Int)) : szSum (joinM a b) ≤ 1048576 := by
  by_cases hj : JoinOk a b
  · rw [joinM_yes hj]
    have hl := joinL_len a b
    obtain ⟨h1, h2, h3⟩ := hj
    have : ((joinL a b).map List.length).sum ≤ (joinL a b).length * 4 := sum_map_le _ 4 (fun r hr => by
      unfold joinL at hr
      rcases List.mem_append.1 hr with hr | hr
      · obtain ⟨x, hx, rfl⟩ := List.mem_map.1 hr
        obtain ⟨k, hk, rfl⟩ := List.getElem_of_mem hx
        have := isC_row h1 hk
        rw [getD_row a k hk] at this
        simp; omega
      · obtain ⟨x, hx, rfl⟩ := List.mem_map.1 hr
        obtain ⟨k, hk, rfl⟩ := List.getElem_of_mem hx
        have := isC_row h2 hk
        rw [getD_row b k hk] at this
        simp; omega)
    unfold szSum
    omega
  · rw [joinM_no hj]; decide
end Go.Proofs.Ytnlbmnielemgiaa
namespace Go.Proofs.Ytnlbmnielemgiaa
open Go.RowKit

theorem RowI.put {A B : Nat} {w : World} {g n cap : Nat} {l : List Int} (h : RowI A B w (.slice (some ⟨g, 0, none⟩) n cap) l) {i : Nat} (hi : i < l.length) (x : Int) :
    ∃ W', w.setCell ⟨g, i, none⟩ (.int .i64 x) = W' ∧ RowI A B W' (.slice (some ⟨g, 0, none⟩) n cap) (l.set i x) ∧ (∃ c, w.cell? ⟨g, i, none⟩ = some c) ∧ w.frozen? ⟨g, i, none⟩ = false ∧
      (∀ W C, C ≤ A → Below C W w → Below C W W') ∧ W'.heap.size = w.heap.size := by
  obtain ⟨h1, h2⟩ := h
  have hn : n = l.length := by
    rcases h1.2 with ⟨h, _⟩ | ⟨g', c', cur, h, _⟩
    · simp at h
    · injection h
  subst hn
  obtain ⟨ho, _⟩ := h1.stored i (.int .i64 x)
  rw [intsV_set] at ho
  refine ⟨_, rfl, ⟨by rw [List.length_set]; exact ho, h2⟩, ⟨_, (h1.cellAt i (by omega)).trans (List.getElem?_eq_getElem (by rw [intsV_len]; exact hi))⟩, h1.frozenAt i, fun W C hC hb => hb.setCell (p := ⟨g, i, none⟩) (Nat.le_trans hC (h1.lt g rfl).1) _, by simp⟩
theorem MatI.put2 {A B : Nat} {w : World} {g n cap : Nat} {m : List (List Int)} (h : MatI A B w (.slice (some ⟨g, 0, none⟩) n cap) m) {j c : Nat} (hj : j < m.length) (hc : c < (m.getD j []).length) (x : Int) :
    ∃ r rcap W', w.cell? ⟨g, j, none⟩ = some (.slice (some ⟨r, 0, none⟩) (m.getD j []).length rcap) ∧ (∃ y, w.cell? ⟨r, c, none⟩ = some y) ∧ w.frozen? ⟨r, c, none⟩ = false ∧ w.setCell ⟨r, c, none⟩ (.int .i64 x) = W' ∧
      MatI A B W' (.slice (some ⟨g, 0, none⟩) n cap) (set2 m j c x) ∧ (∀ W C, C ≤ A → Below C W w → Below C W W') ∧ W'.heap.size = w.heap.size := by
  obtain ⟨g', r, rcap, hg, h1, h2, h3, h4, h5, h6⟩ := h.put hj hc
  injection hg with hg
  injection hg with hg
  subst hg
  exact ⟨r, rcap, _, h1, ⟨_, h2⟩, h3, rfl, h6 x, fun W C hC hb => hb.setCell (p := ⟨r, c, none⟩) (Nat.le_trans hC h4) _, by simp⟩
theorem make_row (n : Nat) (hn : n ≤ 1048576) (w : World) : ∃ w1, (Instr.makeSlice 25 (.int .i64 n) (.int .i64 n)).run Try.prog w = .ok (.slice (some ⟨w.heap.size, 0, none⟩) n n) w1 ∧
    RowI w.heap.size w1.heap.size w1 (.slice (some ⟨w.heap.size, 0, none⟩) n n) (zerosR n) ∧ (∀ W C, C ≤ w.heap.size → Below C W w → Below C W w1) := by
  refine ⟨_, makeInts n hn w, row_made w n hn, fun W C hC hb => hb.alloc hC _⟩

def chainE (i j : Nat) : Int := if i = j then 2 else if i = j + 1 ∨ j = i + 1 then -1 else 0
def chainR (n i : Nat) : List Int := (List.range n).map fun j => chainE i j
def chainL (n : Nat) : List (List Int) := (List.range n).map fun i => chainR n i
theorem chainR_eq : ∀ n, n < 5 → ∀ i, i < n → chainR n i = (if i + 1 < n then (if 0 < i then ((zerosR n).set i 2).set (i - 1) (-1) else (zerosR n).set i 2).set (i + 1) (-1) else (if 0 < i then ((zerosR n).set i 2).set (i - 1) (-1) else (zerosR n).set i 2)) := by decide
theorem chainL_len (n : Nat) : (chainL n).length = n := by simp [chainL]
theorem chainL_step (n k : Nat) (h : k < n) : (chainL n).take k ++ [chainR n k] = (chainL n).take (k + 1) := by
  rw [List.take_succ_eq_append_getElem (by rw [chainL_len]; exact h)]; simp [chainL]
theorem chainL_end (n : Nat) : (chainL n).take n = chainL n := List.take_of_length_le (by rw [chainL_len]; exact Nat.le_refl _)

set_option maxHeartbeats 2000000 in
set_option maxRecDepth 100000 in
theorem chs_any (n : Nat) (w : World) (hn : n < 5) :
    Calls Try.prog 148 #[.int .i64 n] w (MakesM w (chainL n)) := by
  go_enter Try.func148, Try.ntmps148
  go_wp2_with fail
  go_loopw [3, 4] (fun o i wr => ∃ (k : Nat) (wq : World), wq = wr ∧ k ≤ n ∧ i = .int .i64 k ∧ MatI w.heap.size wq.heap.size wq o ((chainL n).take k) ∧ Below w.heap.size w wq) (fun _ i _ => n - (intOf i).toNat)
  case atStart => exact ⟨0, _, rfl, Nat.zero_le _, rfl, mat_empty w, (Below.refl _ _).alloc (Nat.le_refl _) _⟩
  case round =>
    obtain ⟨k, wq, rfl, hk, rfl, hM, hb⟩ := hrel
    have HM := Lib.hid hM; clear hM
    have hsq := hb.size
    have HB := Lib.hid hb; clear hb
    by_cases hlt : k < n
    · have hcr := chainR_eq n hn k hlt
      have HCR := Lib.hid hcr; clear hcr
      have HST := Lib.hid (chainL_step n k hlt)
      obtain ⟨w1, hmk, hr1, hb1⟩ := make_row n (by omega) wq
      obtain ⟨W1, he1, hr2, ⟨c1, hc1⟩, hf1, hb2, hz2⟩ := hr1.put (i := k) (by rw [zerosR_len]; exact hlt) 2
      have hlk : ((chainL n).take k).length ≤ 1048576 := by rw [List.length_take]; omega
      have HLK := Lib.hid hlk; clear hlk
      have hbW1 := hb2 wq wq.heap.size (Nat.le_refl _) (hb1 wq wq.heap.size (Nat.le_refl _) (Below.refl _ _))
      have hz1 : W1.heap.size = w1.heap.size := hz2
      clear hr1 hb1 hb2 hz2
      by_cases h0 : 0 < k
      · have HK0 : Hid (decide (0 < k) = true) := Lib.hid (decide_eq_true h0)
        obtain ⟨W2, he2, hr3, ⟨c2, hc2⟩, hf2, hb3, hz3⟩ := hr2.put (i := k - 1) (by rw [List.length_set, zerosR_len]; omega) (-1)
        have hbW2 := hb3 wq wq.heap.size (Nat.le_refl _) hbW1
        clear hb3 hbW1 hr2
        by_cases hk1 : k + 1 < n
        · obtain ⟨W3, he3, hr4, ⟨c3, hc3⟩, hf3, hb4, hz4⟩ := hr3.put (i := k + 1) (by rw [List.length_set, List.length_set, zerosR_len]; omega) (-1)
          have hbW3 := hb4 wq wq.heap.size (Nat.le_refl _) hbW2
          have hM3 := HM.out.same (SameIn.of_below hbW3 (Nat.le_refl _))
          have hrow : RowI wq.heap.size W3.heap.size W3 (.slice (some ⟨wq.heap.size, 0, none⟩) n n) (chainR n k) := by
            have := HCR.out; rw [if_pos hk1, if_pos h0] at this; rw [this, hz4, hz3, hz1]; exact hr4
          have hs3 := hbW3.size
          have HM3 := Lib.hid hM3
          have HR3 := Lib.hid hrow
          have HB3 := Lib.hid hbW3
          clear hM3 hrow hbW3 hbW2 hr3 hr4 hb4 hz1 hz3 hz4
          go_wp2_with (at_builtin; go_must (refine append_row HM3.out HR3.out hsq hs3 rfl rfl rfl rfl HLK.out ?_))
          intro v5 w5 hm5 hb5 hz5
          rw [HST.out] at hm5
          have HM5 := Lib.hid hm5
          have HB5 := Lib.hid (hb5 w w.heap.size (Nat.le_refl _) (HB.out.trans (HB3.out.mono hsq)))
          clear hb5 hz5 hm5
          go_wp2_with fail
          exact ⟨⟨k + 1, _, rfl, by omega, by go_num, HM5.out, HB5.out⟩, by simp [intOf]; omega⟩
        · have hM3 := HM.out.same (SameIn.of_below hbW2 (Nat.le_refl _))
          have hrow : RowI wq.heap.size W2.heap.size W2 (.slice (some ⟨wq.heap.size, 0, none⟩) n n) (chainR n k) := by
            have := HCR.out; rw [if_neg hk1, if_pos h0] at this; rw [this, hz3, hz1]; exact hr3
          have hs3 := hbW2.size
          have HM3 := Lib.hid hM3
          have HR3 := Lib.hid hrow
          have HB3 := Lib.hid hbW2
          clear hM3 hrow hbW2 hr3 hz1 hz3
          go_wp2_with (at_builtin; go_must (refine append_row HM3.out HR3.out hsq hs3 rfl rfl rfl rfl HLK.out ?_))
          intro v5 w5 hm5 hb5 hz5
          rw [HST.out] at hm5
          have HM5 := Lib.hid hm5
          have HB5 := Lib.hid (hb5 w w.heap.size (Nat.le_refl _) (HB.out.trans (HB3.out.mono hsq)))
          clear hb5 hz5 hm5
          go_wp2_with fail
          exact ⟨⟨k + 1, _, rfl, by omega, by go_num, HM5.out, HB5.out⟩, by simp [intOf]; omega⟩
      · obtain rfl : k = 0 := by omega
        by_cases hk1 : 0 + 1 < n
        · obtain ⟨W3, he3, hr4, ⟨c3, hc3⟩, hf3, hb4, hz4⟩ := hr2.put (i := 1) (by rw [List.length_set, zerosR_len]; omega) (-1)
          have hbW3 := hb4 wq wq.heap.size (Nat.le_refl _) hbW1
          have hM3 := HM.out.same (SameIn.of_below hbW3 (Nat.le_refl _))
          have hrow : RowI wq.heap.size W3.heap.size W3 (.slice (some ⟨wq.heap.size, 0, none⟩) n n) (chainR n 0) := by
            have := HCR.out; rw [if_pos hk1, if_neg h0] at this; rw [this, hz4, hz1]; exact hr4
          have hs3 := hbW3.size
          have HM3 := Lib.hid hM3
          have HR3 := Lib.hid hrow
          have HB3 := Lib.hid hbW3
          clear hM3 hrow hbW3 hbW1 hr2 hr4 hb4 hz1 hz4
          go_wp2_with (at_builtin; go_must (refine append_row HM3.out HR3.out hsq hs3 rfl rfl rfl rfl HLK.out ?_))
          intro v5 w5 hm5 hb5 hz5
          have hm6 : MatI w.heap.size w5.heap.size w5 v5 ((chainL n).take (0 + 1)) := by rw [← HST.out]; exact hm5
          have HM5 := Lib.hid hm6
          clear hm6
          have HB5 := Lib.hid (hb5 w w.heap.size (Nat.le_refl _) (HB.out.trans (HB3.out.mono hsq)))
          clear hb5 hz5 hm5
          go_wp2_with fail
          exact ⟨⟨0 + 1, _, rfl, by omega, by go_num, HM5.out, HB5.out⟩, by simp [intOf]; omega⟩
        · have hM3 := HM.out.same (SameIn.of_below hbW1 (Nat.le_refl _))
          have hrow : RowI wq.heap.size W1.heap.size W1 (.slice (some ⟨wq.heap.size, 0, none⟩) n n) (chainR n 0) := by
            have := HCR.out; rw [if_neg hk1, if_neg h0] at this; rw [this, hz1]; exact hr2
          have hs3 := hbW1.size
          have HM3 := Lib.hid hM3
          have HR3 := Lib.hid hrow
          have HB3 := Lib.hid hbW1
          clear hM3 hrow hbW1 hr2 hz1
          go_wp2_with (at_builtin; go_must (refine append_row HM3.out HR3.out hsq hs3 rfl rfl rfl rfl HLK.out ?_))
          intro v5 w5 hm5 hb5 hz5
          have hm6 : MatI w.heap.size w5.heap.size w5 v5 ((chainL n).take (0 + 1)) := by rw [← HST.out]; exact hm5
          have HM5 := Lib.hid hm6
          clear hm6
          have HB5 := Lib.hid (hb5 w w.heap.size (Nat.le_refl _) (HB.out.trans (HB3.out.mono hsq)))
          clear hb5 hz5 hm5
          go_wp2_with fail
          exact ⟨⟨0 + 1, _, rfl, by omega, by go_num, HM5.out, HB5.out⟩, by simp [intOf]; omega⟩
    · obtain rfl : k = n := by omega
      go_wp2_with fail
      go_ret
      have hM := HM.out
      rw [chainL_end] at hM
      exact ⟨_, rfl, ⟨hM, Nat.le_refl _⟩, HB.out⟩

/-! ### A copy, and two entries changed -/
theorem take_snocL (m : List (List Int)) (k : Nat) (h : k < m.length) : m.take k ++ [m.getD k []] = m.take (k + 1) := by
  rw [getD_row m k h, List.take_succ_eq_append_getElem h]

set_option maxHeartbeats 2000000 in
set_option maxRecDepth 100000 in
theorem cps_any (B : Nat) (v : Value) (m : List (List Int)) (w : World) (h : MatB B w v m) (hB : B ≤ w.heap.size) (hs : Small m) (hne : ∀ k, k < m.length → m.getD k [] ≠ []) :
    Calls Try.prog 149 #[v] w (MakesM w m) := by
  obtain ⟨a, cap, rfl⟩ := h.slice
  have HR := Lib.hid h; clear h
  have hl := hs.1
  have HSM := Lib.hid hs; clear hs
  have HNE := Lib.hid hne; clear hne
  have HALL := Lib.hid (List.take_length (l := m))
  have HSN := Lib.hid (take_snocL m)
  generalize hn : m.length = n at *
  have HN := Lib.hid hn; clear hn
  go_enter Try.func149, Try.ntmps149
  go_wp2_with fail
  go_loopw [3, 4] (fun o i wr => ∃ (k : Nat) (wq : World), wq = wr ∧ k ≤ n ∧ i = .int .i64 k ∧ MatI w.heap.size wq.heap.size wq o (m.take k) ∧ Below w.heap.size w wq) (fun _ i _ => n - (intOf i).toNat)
  case atStart => exact ⟨0, _, rfl, Nat.zero_le _, rfl, mat_empty w, (Below.refl _ _).alloc (Nat.le_refl _) _⟩
  case round =>
    obtain ⟨k, wq, rfl, hk, rfl, hM, hb⟩ := hrel
    have HM := Lib.hid hM; clear hM
    have HB := Lib.hid hb
    have hsq := hb.size
    clear hb
    by_cases hlt : k < n
    · have hkl : k < m.length := by rw [HN.out]; exact hlt
      obtain ⟨b, off, ra, rcap, rfl, hbB, hcell, hrow⟩ := (HR.out.below HB.out hB).rowAt hlt hkl
      have hTK := HSN.out k hlt
      have hne := HNE.out k hlt
      have hlk : (m.take k).length ≤ 1048576 := by rw [List.length_take]; omega
      have hrl : (m.getD k []).length ≤ 1048576 := by rw [getD_row m k hkl]; exact HSM.out.2 k hkl
      generalize m.getD k [] = r at *
      have HTK := Lib.hid hTK
      have HNER := Lib.hid hne
      have HLK := Lib.hid hlk
      have hrow1 : RowB B (wq.alloc (.cells #[] 3)) (.slice ra r.length rcap) r := hrow.below ((Below.refl w.heap.size wq).alloc hsq _) hB
      have HROW1 := Lib.hid hrow1
      have hq1 : wq.heap.size ≤ (wq.alloc (.cells #[] 3)).heap.size := by simp
      have hcell' : (wq.alloc (.cells #[] 3)).cell? ⟨b, off + k, none⟩ = some (.slice ra r.length rcap) := by
        rw [World.cell?_alloc_past _ _ _ (by show b < _; omega)]; exact hcell
      clear hTK hne hlk hrow1 hrow
      generalize hrn : r.length = rn at *
      have HRN := Lib.hid hrn; clear hrn
      have hlen2 : ([] : List Int).length + r.length ≤ 4194304 := by rw [HRN.out]; simp; omega
      have HLEN2 := Lib.hid hlen2
      clear hlen2 hrl
      go_wp2_with (at_builtin; go_must (refine append_ints (row_empty wq) hq1 HROW1.out HNER.out HLEN2.out rfl rfl rfl rfl ?_))
      intro v3 w3 hr3 hb3 hz3
      have hr3 : RowI wq.heap.size w3.heap.size w3 v3 r := by simpa using hr3
      have hb3' := hb3 wq wq.heap.size (Nat.le_refl _) ((Below.refl _ _).alloc (Nat.le_refl _) _)
      have HB3 := Lib.hid hb3'
      have hs3 := hb3'.size
      obtain ⟨xa, xn, xc, rfl⟩ := hr3.slice3
      have HR3 := Lib.hid hr3
      have HM3 := Lib.hid ((HM.out.same (SameIn.of_below hb3' (Nat.le_refl _))))
      clear hb3 hz3 hr3 hb3' hcell hcell'
      go_wp2_with (at_builtin; go_must (refine append_row HM3.out HR3.out hsq hs3 rfl rfl rfl rfl HLK.out ?_))
      intro v5 w5 hm5 hb5 hz5
      have hm6 : MatI w.heap.size w5.heap.size w5 v5 (m.take (k + 1)) := by rw [← HTK.out]; exact hm5
      have HM5 := Lib.hid hm6
      have HB5 := Lib.hid (hb5 w w.heap.size (Nat.le_refl _) (HB.out.trans (HB3.out.mono hsq)))
      clear hb5 hz5 hm5 hm6
      go_wp2_with fail
      exact ⟨⟨k + 1, _, rfl, by omega, by go_num, HM5.out, HB5.out⟩, by simp [intOf]; omega⟩
    · obtain rfl : k = n := by omega
      go_wp2_with fail
      go_ret
      have hM := HM.out
      rw [HALL.out] at hM
      exact ⟨_, rfl, ⟨hM, Nat.le_refl _⟩, HB.out⟩

theorem set2_getLen (m : List (List Int)) (j c : Nat) (x : Int) (i : Nat) : ((set2 m j c x).getD i []).length = (m.getD i []).length := by
  unfold set2 List.getD
  by_cases h : j = i
  · subst h
    by_cases hj : j < m.length
    · simp [hj]
    · rw [List.set_eq_of_length_le (by omega)]
  · rw [List.getElem?_set, if_neg h]

set_option maxHeartbeats 2000000 in
set_option maxRecDepth 100000 in
theorem sets_any (B : Nat) (v : Value) (m : List (List Int)) (i j : Nat) (x y : Int) (w : World) (h : MatB B w v m) (hB : B ≤ w.heap.size) (hs : Small m) (hrows : Rows0 m m.length m.length) (hi : i < m.length) (hj : j < m.length) :
    Calls Try.prog 141 #[v, .int .i64 i, .int .i64 j, .int .i64 x, .int .i64 y] w (MakesM w (set2 (set2 m i j x) j i y)) := by
  have hne : ∀ k, k < m.length → m.getD k [] ≠ [] := fun k hk => ne_nil_of_len (by rw [hrows k hk]; omega)
  have HC := Lib.hid (cps_any B v m w h hB hs hne)
  have hl := hs.1
  obtain ⟨a, cap, rfl⟩ := h.slice
  clear h hne
  have HRW := Lib.hid hrows; clear hrows
  generalize hn : m.length = n at *
  go_enter Try.func141, Try.ntmps141
  have HN := Lib.hid hn; clear hn
  go_wp2_with fail
  refine HC.out.mono ?_
  rintro e w1 ⟨x1, rfl, ⟨hm1, _⟩, hb1⟩
  obtain ⟨ra, rn, rcap0, rfl⟩ : ∃ ra rn rcap, x1 = .slice ra rn rcap := by obtain ⟨ra, rc, h⟩ := hm1.slice; exact ⟨ra, _, rc, h⟩
  have hrn : rn = n := by
    obtain ⟨ra', rc', h⟩ := hm1.slice
    injection h with _ h _
    rw [h]; exact HN.out
  subst hrn
  obtain ⟨g, rfl⟩ : ∃ g, ra = some ⟨g, 0, none⟩ := by
    obtain ⟨g, _, _, h, _⟩ := hm1.put (j := i) (c := j) (by rw [HN.out]; exact hi) (by rw [HRW.out i hi]; exact hj)
    exact ⟨g, h⟩
  obtain ⟨r1, rc1, W1, c1, ⟨y1, c2⟩, f1, e1, hm2, hb2, hz2⟩ := hm1.put2 (j := i) (c := j) (by rw [HN.out]; exact hi) (by rw [HRW.out i hi]; exact hj) x
  obtain ⟨r2, rc2, W2, c3, ⟨y2, c4⟩, f2, e2, hm3, hb3, hz3⟩ := hm2.put2 (j := j) (c := i) (by rw [set2_len, HN.out]; exact hj) (by rw [set2_getLen, HRW.out j hj]; exact hi) y
  rw [HRW.out i hi] at c1
  rw [set2_getLen, HRW.out j hj] at c3
  have hbW := hb3 w w.heap.size (Nat.le_refl _) (hb2 w w.heap.size (Nat.le_refl _) hb1)
  have hM : MatI w.heap.size W2.heap.size W2 (.slice (some ⟨g, 0, none⟩) rn rcap0) (set2 (set2 m i j x) j i y) := by rw [hz3, hz2]; exact hm3
  have HM := Lib.hid hM
  have HB := Lib.hid hbW
  clear hM hbW hb3 hb2 hb1 hm1 hm2 hm3 hz2 hz3
  go_wp2_with fail
  go_ret
  exact ⟨_, rfl, ⟨HM.out, Nat.le_refl _⟩, HB.out⟩

/-! ### The program's chain -/
def chS (n k : Nat) : List (List Int) := (List.range n).map fun r => (List.range n).map fun c => if r < k ∧ c < k then chainE r c else 0
theorem chS_zero : ∀ n, n < 5 → chS n 0 = zeros n := by decide
theorem chS_end : ∀ n, n < 5 → chS n n = chainL n := by decide
theorem chS_first : ∀ n, n < 5 → 0 < n → set2 (chS n 0) 0 0 2 = chS n 1 := by decide
theorem chS_next : ∀ n, n < 5 → ∀ k, k < n → 0 < k → set2 (set2 (set2 (chS n k) k k 2) k (k - 1) (-1)) (k - 1) k (-1) = chS n (k + 1) := by decide
theorem chS_len (n k : Nat) : (chS n k).length = n := by simp [chS]
theorem chS_row (n k i : Nat) (h : i < n) : ((chS n k).getD i []).length = n := by simp [chS, List.getD, h]

end Go.Proofs.Ytnlbmnielemgiaa
