/-
  The model's cut of a string at a byte: what the call returns.
-/
import Derived.Test.YtgpcacgafbhhdaaDoorGrow
import Derived.Test.YtgpcacgafbhhdaaDoorFrm
import Derived.Laws.Strings2
namespace Go.Proofs.YtgpcacgafbhhdaaDoor
open Go.RowKit

theorem Tryd.infoStr4 : (Tryd.prog.info? 9).map (fun i => (i.zero, i.size, i.bytes)) = some (some (.string ⟨#[]⟩), 1, 16) := by kernel_rfl
theorem str_app4 (a b : ByteArray) : (a ++ b).data.toList = a.data.toList ++ b.data.toList := by
  cases a; cases b
  rw [ByteArray.mk_append_mk]
theorem ba_app_size4 (a b : ByteArray) : (a ++ b).size = a.size + b.size := ByteArray.size_append
def strsV (l : List ByteArray) : List Value := l.map Value.string
theorem strsV_len (l : List ByteArray) : (strsV l).length = l.length := by simp [strsV]
/-! ### Cutting a list at a byte -/
def cutStep (c : UInt8) (st : List (List UInt8) × List UInt8) (b : UInt8) : List (List UInt8) × List UInt8 := if b = c then (st.1 ++ [st.2], []) else (st.1, st.2 ++ [b])
def cutF (c : UInt8) (l : List UInt8) : List (List UInt8) × List UInt8 := l.foldl (cutStep c) ([], [])
def cutL (c : UInt8) (l : List UInt8) : List (List UInt8) := (cutF c l).1 ++ [(cutF c l).2]
theorem cutF_snoc (c : UInt8) (l : List UInt8) (b : UInt8) : cutF c (l ++ [b]) = cutStep c (cutF c l) b := by simp [cutF]
theorem list_snoc_ind {α : Type} {P : List α → Prop} (h0 : P []) (h1 : ∀ l c, P l → P (l ++ [c])) (l : List α) : P l := by
  have h : ∀ (n : Nat) (l : List α), l.length = n → P l := by
    intro n
    induction n with
    | zero => intro l hl; rw [List.eq_nil_of_length_eq_zero hl]; exact h0
    | succ n ih =>
      intro l hl
      have hne : l ≠ [] := by intro e; rw [e] at hl; simp at hl
      rw [← List.dropLast_concat_getLast hne]
      exact h1 _ _ (ih _ (by rw [List.length_dropLast]; omega))
  exact h _ l rfl
theorem cutF_free (c : UInt8) (a : List UInt8) (h : c ∉ a) (st : List (List UInt8) × List UInt8) : a.foldl (cutStep c) st = (st.1, st.2 ++ a) := by
  induction a generalizing st with
  | nil => simp
  | cons x a ih =>
    have hx : ¬ x = c := fun e => h (by simp [e])
    rw [List.foldl_cons, ih (fun hm => h (by simp [hm]))]
    simp [cutStep, hx]
theorem cutF_front (c : UInt8) (l : List UInt8) (o : List (List UInt8)) : l.foldl (cutStep c) (o, []) = (o ++ (cutF c l).1, (cutF c l).2) := by
  have h : ∀ (l : List UInt8) (o o' : List (List UInt8)) (p : List UInt8), l.foldl (cutStep c) (o ++ o', p) = (o ++ (l.foldl (cutStep c) (o', p)).1, (l.foldl (cutStep c) (o', p)).2) := by
    intro l
    induction l with
    | nil => intro o o' p; rfl
    | cons b l ih =>
      intro o o' p
      rw [List.foldl_cons, List.foldl_cons]
      unfold cutStep
      by_cases hb : b = c
      · simp only [if_pos hb]
        rw [List.append_assoc]
        exact ih o (o' ++ [p]) []
      · simp only [if_neg hb]
        exact ih o o' (p ++ [b])
  have := h l o [] []
  rw [List.append_nil] at this
  exact this
theorem cutL_free (c : UInt8) (a : List UInt8) (h : c ∉ a) : cutL c a = [a] := by
  unfold cutL cutF
  rw [cutF_free c a h]; rfl
theorem cutL_at (c : UInt8) (a b : List UInt8) (h : c ∉ a) : cutL c (a ++ c :: b) = a :: cutL c b := by
  unfold cutL
  have e : cutF c (a ++ c :: b) = ([a] ++ (cutF c b).1, (cutF c b).2) := by
    unfold cutF
    rw [List.foldl_append, cutF_free c a h, List.foldl_cons]
    have : cutStep c (([] : List (List UInt8)), [] ++ a) c = ([a], []) := by simp [cutStep]
    rw [this]
    exact cutF_front c b [a]
  rw [e]; simp
theorem cutL_ne (c : UInt8) (l : List UInt8) : cutL c l ≠ [] := by simp [cutL]
theorem cutF_len (c : UInt8) (l : List UInt8) : (cutF c l).1.length ≤ l.length ∧ (cutF c l).2.length ≤ l.length := by
  refine list_snoc_ind (P := fun l => (cutF c l).1.length ≤ l.length ∧ (cutF c l).2.length ≤ l.length) (by simp [cutF]) ?_ l
  intro l b ih
  rw [cutF_snoc]
  unfold cutStep
  by_cases hb : b = c
  · simp [if_pos hb]; exact ih.1
  · simp [if_neg hb]; omega
theorem cutL_len (c : UInt8) (l : List UInt8) : (cutL c l).length ≤ l.length + 1 := by have := (cutF_len c l).1; simp [cutL]; omega
/-! ### Slices of strings of the call's own -/
def RowT (A B : Nat) (w : World) (v : Value) (L : List ByteArray) : Prop := w.ownsRow A 9 1 v L.length (strsV L) ∧ ∀ g, v.ownBlock = some g → g < B
theorem RowT.same {A B : Nat} {w w' : World} {v : Value} {L : List ByteArray} (h : RowT A B w v L) (hs : SameIn A B w w') : RowT A B w' v L := ⟨ownsRow_same h.1 h.2 hs, h.2⟩
theorem RowT.step {A : Nat} {w w' : World} {v : Value} {L : List ByteArray} (h : RowT A w.heap.size w v L) (hb : Below w.heap.size w w') : RowT A w'.heap.size w' v L :=
  ⟨(h.same (SameIn.of_below hb (Nat.le_refl _))).1, fun g hg => Nat.lt_of_lt_of_le (h.2 g hg) hb.size⟩
theorem RowT.slice {A B : Nat} {w : World} {v : Value} {L : List ByteArray} (h : RowT A B w v L) : ∃ a cap, v = .slice a L.length cap := by
  rcases h.1.2 with ⟨rfl, h0⟩ | ⟨g, cap, cur, rfl, _⟩
  · exact ⟨none, 0, by rw [h0]⟩
  · exact ⟨_, cap, rfl⟩
theorem RowT.get {A B : Nat} {w : World} {a : Option Addr} {n cap : Nat} {L : List ByteArray} (h : RowT A B w (.slice a n cap) L) {j : Nat} (hj : j < L.length) :
    ∃ g, a = some ⟨g, 0, none⟩ ∧ g < B ∧ w.cell? ⟨g, j, none⟩ = some (.string L[j]) := by
  rcases h.1.2 with ⟨_, h0⟩ | ⟨g, cap', cur, hv, _⟩
  · omega
  · have ha : a = some ⟨g, 0, none⟩ := by injection hv
    have hn : n = L.length := by injection hv
    subst ha
    subst hn
    refine ⟨g, rfl, h.2 g rfl, ?_⟩
    rw [h.1.cellAt j (by omega)]
    simp [strsV, hj]
theorem rowT_empty (w : World) : RowT w.heap.size (w.alloc (.cells #[] 9)).heap.size (w.alloc (.cells #[] 9)) (.slice (some ⟨w.heap.size, 0, none⟩) 0 0) [] :=
  ⟨World.ownsRow_lit w #[] 0 (Nat.le_refl _) (by unfold maxLen; omega) rfl, fun g hg => by
    have : w.heap.size = g := by simpa [Value.ownBlock] using hg
    simp; omega⟩
/-- 'out = append(out, s)'. -/
theorem append_str {ops : Array Oper} {rest : List Oper} {o : Oper} {a : Act} {Q : Exit → Act → World → Prop} {s x : Operand} {A : Nat} {v : Value} {L : List ByteArray} {wr : World}
    (hM : RowT A wr.heap.size wr v L) (hA : A ≤ wr.heap.size) (t : ByteArray) {L2 : List ByteArray} (h2 : L ++ [t] = L2) (hgd : o.guard = none)
    (ho : o.op = .call { callee := .builtin .append, args := #[s, x], argTypes := #[32, 32] }) (hs : a.eval s = v)
    (hx : a.eval x = .slice (some ⟨wr.heap.size, 0, none⟩) 1 1) (hlen : L.length ≤ 4194304)
    (h : ∀ v' w', RowT A w'.heap.size w' v' L2 → (∀ W C, C ≤ A → Below C W wr → Below C W w') → wr.heap.size ≤ w'.heap.size → wpList Tryd.prog ops Q rest (a.put o.dst v') w') :
    wpList Tryd.prog ops Q (o :: rest) a (wr.alloc (.cells #[.string t] 9)) := by
  subst h2
  obtain ⟨h1, h2⟩ := hM
  obtain ⟨i0, hi, hz0, hz1, hz2⟩ := info_parts Tryd.infoStr4
  have h1' : wr.ownsRow A 9 1 v (strsV L).length (strsV L) := by rw [strsV_len]; exact h1
  refine append_hdr hgd _ _ 32 ho A 9 i0 (.string ⟨#[]⟩) 16 Tryd.underlying32 hi hz0 hz1 hz2 rfl v (strsV L) (.string t) rfl wr hs h1' hx (by rw [strsV_len]; omega) (by omega) hA ?_
  intro v' w' ho' hg
  refine h v' w' ⟨?_, fun g hgg => (ho'.lt g hgg).2⟩ (fun W C hC hb => ?_) hg.size
  · have e : strsV L ++ [.string t] = strsV (L ++ [t]) := by simp [strsV]
    rw [e, strsV_len] at ho'
    exact ho'
  · exact hb.grown hg (by omega) (fun k hk => by have := (h1.lt k hk).1; omega)

/-- Blocks of different element types are different. -/
theorem own_types {w : World} {A A' : Nat} {e e' : TypeId} (he : e ≠ e') {u v : Value} {n n' : Nat} {xs ys : List Value} (h : w.ownsRow A e 1 u n xs) (h' : w.ownsRow A' e' 1 v n' ys) : v.ownBlock = none ∨ v.ownBlock ≠ u.ownBlock := by
  rcases h'.2 with ⟨rfl, _⟩ | ⟨g', cap', cur', rfl, _, hg', _⟩
  · exact Or.inl rfl
  · right
    rcases h.2 with ⟨rfl, _⟩ | ⟨g, cap, cur, rfl, _, hg, _⟩
    · simp [Value.ownBlock]
    · intro e2
      have e3 : g' = g := by simpa [Value.ownBlock] using e2
      subst e3
      rw [hg] at hg'
      have := Option.some.inj hg'
      injection this with _ h5 _
      exact he h5
theorem RowT.grown {A B : Nat} {w w' : World} {v : Value} {L : List ByteArray} {S : Option Nat} (h : RowT A B w v L) (hg : w.grownBy w' S) (hne : v.ownBlock = none ∨ v.ownBlock ≠ S) : RowT A B w' v L := ⟨h.1.kept hg hne, h.2⟩
theorem RowT.mono {A B B' : Nat} {w : World} {v : Value} {L : List ByteArray} (h : RowT A B w v L) (hB : B ≤ B') : RowT A B' w v L := ⟨h.1, fun g hg => Nat.lt_of_lt_of_le (h.2 g hg) hB⟩

/-- 'row = append(row, x)', and what of the strings about is kept. -/
def toB (xs : List (List UInt8)) : List ByteArray := xs.map fun l => ⟨l.toArray⟩
def cutB (c : UInt8) (s : ByteArray) : List ByteArray := toB (cutL c s.data.toList)
def MakesT (w : World) (L : List ByteArray) (e : Ending) (w' : World) : Prop := ∃ x, e = .returned x ∧ RowT w.heap.size w'.heap.size w' x L ∧ Below w.heap.size w w'
theorem take_byte' (s : ByteArray) (k : Nat) (h : k < s.size) : s.data.toList.take (k + 1) = s.data.toList.take k ++ [s[k]] := by
  rw [List.take_succ_eq_append_getElem (by simpa using h)]; rfl

set_option maxHeartbeats 2000000 in
set_option maxRecDepth 100000 in
theorem cut_any (c : UInt8) (s : ByteArray) (w : World) (hs : s.size ≤ 1048576) :
    Calls Tryd.prog 30 #[.string s, .int .u8 (c.toNat : Int)] w (MakesT w (cutB c s)) := by
  have HALL : Hid (s.data.toList.take s.size = s.data.toList) := Lib.hid (List.take_of_length_le (by simp))
  go_enter Tryd.func30, Tryd.ntmps30
  go_wp2_with fail
  go_loopw [5, 6, 7] (fun o pv i wr => ∃ (k : Nat) (p : ByteArray) (wq : World), wq = wr ∧ k ≤ s.size ∧ i = .int .i64 k ∧ pv = .string p ∧ Hid (p.data.toList = (cutF c (s.data.toList.take k)).2) ∧ p.size ≤ k ∧ RowT w.heap.size wq.heap.size wq o (toB (cutF c (s.data.toList.take k)).1) ∧ Below w.heap.size w wq) (fun _ _ i _ => s.size - (intOf i).toNat)
  case atStart => exact ⟨0, ⟨#[]⟩, _, rfl, Nat.zero_le _, rfl, rfl, by show Hid _; unfold Hid; simp [cutF], Nat.le_refl _, rowT_empty w, (Below.refl _ _).alloc (Nat.le_refl _) _⟩
  case round =>
    obtain ⟨k, p, wq, rfl, hk, rfl, rfl, HP, hps, hr, hb⟩ := hrel
    have HR := Lib.hid hr; clear hr
    have hsq := hb.size
    have HB := Lib.hid hb; clear hb
    by_cases hlt : k < s.size
    · have htk := take_byte' s k hlt
      have hsn := cutF_snoc c (s.data.toList.take k) s[k]
      rw [← htk] at hsn
      by_cases hc : s[k] = c
      · have hbc : (((s[k]'hlt).toNat : Int) == (c.toNat : Int)) = true := by rw [beq_iff_eq, hc]
        unfold cutStep at hsn
        rw [if_pos hc] at hsn
        have h2 : toB (cutF c (s.data.toList.take k)).1 ++ [p] = toB (cutF c (s.data.toList.take (k + 1))).1 := by
          rw [hsn]; simp [toB, ← HP.out]
        have h3 : ([] : List UInt8) = (cutF c (s.data.toList.take (k + 1))).2 := by rw [hsn]
        have H2 := Lib.hid h2
        have H3 := Lib.hid h3
        have hll : (toB (cutF c (s.data.toList.take k)).1).length ≤ 4194304 := by
          have := (cutF_len c (s.data.toList.take k)).1
          rw [List.length_take] at this
          simp [toB]; omega
        have HLL := Lib.hid hll
        clear hsn htk h2 h3 hll hc
        go_wp2_with (at_builtin; go_must (refine append_str HR.out hsq p H2.out rfl rfl rfl rfl HLL.out ?_))
        intro v' w3 hr3 hb3 hz3
        have HR3 := Lib.hid hr3
        have HB3 := Lib.hid (hb3 w w.heap.size (Nat.le_refl _) HB.out)
        clear hr3 hb3 hz3
        go_wp2_with fail
        exact ⟨⟨k + 1, ⟨#[]⟩, _, rfl, by omega, by go_num, rfl, H3.out, Nat.zero_le _, HR3.out, HB3.out⟩, by simp [intOf]; omega⟩
      · have hbc : (((s[k]'hlt).toNat : Int) == (c.toNat : Int)) = false := by
          rw [beq_eq_false_iff_ne]; intro e; exact hc (UInt8.toNat_inj.1 (by omega))
        unfold cutStep at hsn
        rw [if_neg hc] at hsn
        have hex : (s.extract k (k + 1)).data.toList = [s[k]] := by
          rw [ByteArray.data_extract, Array.toList_extract]
          rw [List.extract_eq_take_drop, show k + 1 - k = 1 by omega, List.drop_eq_getElem_cons (by simpa using hlt)]
          rfl
        have h3 : (p ++ s.extract k (k + 1)).data.toList = (cutF c (s.data.toList.take (k + 1))).2 := by
          rw [hsn, str_app4, HP.out, hex]
        have h4 : (p ++ s.extract k (k + 1)).size ≤ k + 1 := by
          rw [ba_app_size4, ByteArray.size_extract]; omega
        have h5 := HR.out
        rw [← (show (cutF c (s.data.toList.take (k + 1))).1 = (cutF c (s.data.toList.take k)).1 from by rw [hsn])] at h5
        have hsl : (Instr.slice 9 (.string s) (some (.int .i64 (k : Int))) (some (.int .i64 ((k : Int) + 1))) none).run Tryd.prog wq = .ok (.string (s.extract k (k + 1))) wq := by
          have := run_slice_string (P := Tryd.prog) wq 9 s .i64 .i64 (k : Int) ((k : Int) + 1) Tryd.underlying9 (by omega) (by omega) (by omega)
          rw [show ((k : Int) + 1).toNat = k + 1 by omega, Int.toNat_natCast] at this
          exact this
        have H3 := Lib.hid h3
        have H4 := Lib.hid h4
        have H5 := Lib.hid h5
        have hes : (s.extract k (k + 1)).size ≤ 1 := by rw [ByteArray.size_extract]; omega
        clear hsn htk h3 h4 h5 hc hex
        generalize s.extract k (k + 1) = y at *
        go_wp2_with fail
        exact ⟨⟨k + 1, _, _, rfl, by omega, by go_num, rfl, H3.out, H4.out, H5.out, HB.out⟩, by simp [intOf]; omega⟩
    · obtain rfl : k = s.size := by omega
      have h2 : toB (cutF c (s.data.toList.take s.size)).1 ++ [p] = cutB c s := by
        unfold cutB cutL
        rw [HALL.out]
        have hp := HP.out
        rw [HALL.out] at hp
        simp [toB, ← hp]
      have H2 := Lib.hid h2
      have hll : (toB (cutF c (s.data.toList.take s.size)).1).length ≤ 4194304 := by
        have := (cutF_len c (s.data.toList.take s.size)).1
        rw [List.length_take] at this
        simp [toB]; omega
      have HLL := Lib.hid hll
      clear h2 hll
      go_wp2_with (at_builtin; go_must (refine append_str HR.out hsq p H2.out rfl rfl rfl rfl HLL.out ?_))
      intro v' w3 hr3 hb3 hz3
      have HR3 := Lib.hid hr3
      have HB3 := Lib.hid (hb3 w w.heap.size (Nat.le_refl _) HB.out)
      clear hr3 hb3 hz3
      go_wp2_with fail
      go_ret
      exact ⟨_, rfl, HR3.out, HB3.out⟩
end Go.Proofs.YtgpcacgafbhhdaaDoor
