/-
  The model's cut of a string at a byte: what the call returns.
-/
import Derived.Laws.Strings2
import Derived.Test.YtfjeghalkmkgoaaGreatDoorFW19
import Derived.Test.YtfjeghalkmkgoaaGreatDoorFW07
namespace Go.Proofs.YtfjeghalkmkgoaaGreatDoor
open Go.RowKit

/-! ### Cutting a list at a byte -/
def cutStepD (c : UInt8) (st : List (List UInt8) × List UInt8) (b : UInt8) : List (List UInt8) × List UInt8 := if b = c then (st.1 ++ [st.2], []) else (st.1, st.2 ++ [b])
def cutFD (c : UInt8) (l : List UInt8) : List (List UInt8) × List UInt8 := l.foldl (cutStepD c) ([], [])
def cutLD (c : UInt8) (l : List UInt8) : List (List UInt8) := (cutFD c l).1 ++ [(cutFD c l).2]
theorem cutF_snocD (c : UInt8) (l : List UInt8) (b : UInt8) : cutFD c (l ++ [b]) = cutStepD c (cutFD c l) b := by simp [cutFD]
theorem list_snoc_indD {α : Type} {P : List α → Prop} (h0 : P []) (h1 : ∀ l c, P l → P (l ++ [c])) (l : List α) : P l := by
  have h : ∀ (n : Nat) (l : List α), l.length = n → P l := by
    intro n
    induction n with
    | zero => intro l hl; rw [List.eq_nil_of_length_eq_zero hl]; exact h0
    | succ n ih =>
      intro l hl
      have hne : l ≠ [] := by intro e; rw [e] at hl; simp at hl
      rw [← List.dropLast_concat_getLast hne]
      exact h1 _ _ (ih _ (by rw [List.length_dropLast]; omega))
  exact h _ l rfl
theorem join_last (o : List (List UInt8)) (p : List UInt8) (sep : List UInt8) (b : UInt8) : Lib.join (o ++ [p ++ [b]]) sep = Lib.join (o ++ [p]) sep ++ [b] := by
  by_cases h : o = []
  · subst h; simp [Lib.join_one]
  · rw [join_snoc _ _ _ h, join_snoc _ _ _ h]; simp
theorem cutL_join (c : UInt8) (l : List UInt8) : Lib.join (cutLD c l) [c] = l := by
  refine list_snoc_indD (P := fun l => Lib.join (cutLD c l) [c] = l) (by simp [cutLD, cutFD, Lib.join_one]) ?_ l
  intro l b ih
  unfold cutLD at ih ⊢
  rw [cutF_snocD]
  unfold cutStepD
  by_cases hb : b = c
  · subst hb
    rw [if_pos rfl, join_snoc _ _ _ (by simp), ih]; simp
  · rw [if_neg hb, join_last, ih]
theorem cutF_freeD (c : UInt8) (a : List UInt8) (h : c ∉ a) (st : List (List UInt8) × List UInt8) : a.foldl (cutStepD c) st = (st.1, st.2 ++ a) := by
  induction a generalizing st with
  | nil => simp
  | cons x a ih =>
    have hx : ¬ x = c := fun e => h (by simp [e])
    rw [List.foldl_cons, ih (fun hm => h (by simp [hm]))]
    simp [cutStepD, hx]
theorem cutF_frontD (c : UInt8) (l : List UInt8) (o : List (List UInt8)) : l.foldl (cutStepD c) (o, []) = (o ++ (cutFD c l).1, (cutFD c l).2) := by
  have h : ∀ (l : List UInt8) (o o' : List (List UInt8)) (p : List UInt8), l.foldl (cutStepD c) (o ++ o', p) = (o ++ (l.foldl (cutStepD c) (o', p)).1, (l.foldl (cutStepD c) (o', p)).2) := by
    intro l
    induction l with
    | nil => intro o o' p; rfl
    | cons b l ih =>
      intro o o' p
      rw [List.foldl_cons, List.foldl_cons]
      unfold cutStepD
      by_cases hb : b = c
      · simp only [if_pos hb]
        rw [List.append_assoc]
        exact ih o (o' ++ [p]) []
      · simp only [if_neg hb]
        exact ih o o' (p ++ [b])
  have := h l o [] []
  rw [List.append_nil] at this
  exact this
theorem cutL_freeD (c : UInt8) (a : List UInt8) (h : c ∉ a) : cutLD c a = [a] := by
  unfold cutLD cutFD
  rw [cutF_freeD c a h]; rfl
theorem cutL_atD (c : UInt8) (a b : List UInt8) (h : c ∉ a) : cutLD c (a ++ c :: b) = a :: cutLD c b := by
  unfold cutLD
  have e : cutFD c (a ++ c :: b) = ([a] ++ (cutFD c b).1, (cutFD c b).2) := by
    unfold cutFD
    rw [List.foldl_append, cutF_freeD c a h, List.foldl_cons]
    have : cutStepD c (([] : List (List UInt8)), [] ++ a) c = ([a], []) := by simp [cutStepD]
    rw [this]
    exact cutF_frontD c b [a]
  rw [e]; simp
theorem cutL_neD (c : UInt8) (l : List UInt8) : cutLD c l ≠ [] := by simp [cutLD]
theorem cutF_lenD (c : UInt8) (l : List UInt8) : (cutFD c l).1.length ≤ l.length ∧ (cutFD c l).2.length ≤ l.length := by
  refine list_snoc_indD (P := fun l => (cutFD c l).1.length ≤ l.length ∧ (cutFD c l).2.length ≤ l.length) (by simp [cutFD]) ?_ l
  intro l b ih
  rw [cutF_snocD]
  unfold cutStepD
  by_cases hb : b = c
  · simp [if_pos hb]; exact ih.1
  · simp [if_neg hb]; omega
theorem cutL_lenD (c : UInt8) (l : List UInt8) : (cutLD c l).length ≤ l.length + 1 := by have := (cutF_lenD c l).1; simp [cutLD]; omega
theorem join_mem_len (sep : List UInt8) : ∀ (xs : List (List UInt8)) (x : List UInt8), x ∈ xs → x.length ≤ (Lib.join xs sep).length
  | [], x, h => by simp at h
  | y :: r, x, h => by
    rw [Lib.join_cons, List.length_append]
    rcases List.mem_cons.1 h with rfl | h
    · omega
    · have ht : ∀ r : List (List UInt8), x ∈ r → x.length ≤ (Lib.joinTail sep r).length := by
        intro r
        induction r with
        | nil => intro h; simp at h
        | cons z r ih =>
          intro h
          have e : Lib.joinTail sep (z :: r) = sep ++ z ++ Lib.joinTail sep r := by simp [Lib.joinTail]
          rw [e, List.length_append, List.length_append]
          rcases List.mem_cons.1 h with rfl | h
          · omega
          · have := ih h; omega
      have := ht r h; omega
theorem cutL_mem_len (c : UInt8) (l x : List UInt8) (h : x ∈ cutLD c l) : x.length ≤ l.length := by
  have := join_mem_len [c] (cutLD c l) x h
  rwa [cutL_join] at this

/-! ### Slices of strings of the call's own -/
def RowTD (A B : Nat) (w : World) (v : Value) (L : List ByteArray) : Prop := w.ownsRow A 9 1 v L.length (strVD L) ∧ ∀ g, v.ownBlock = some g → g < B
theorem RowTD.same {A B : Nat} {w w' : World} {v : Value} {L : List ByteArray} (h : RowTD A B w v L) (hs : SameIn A B w w') : RowTD A B w' v L := ⟨ownsRow_same h.1 h.2 hs, h.2⟩
theorem RowTD.step {A : Nat} {w w' : World} {v : Value} {L : List ByteArray} (h : RowTD A w.heap.size w v L) (hb : Below w.heap.size w w') : RowTD A w'.heap.size w' v L :=
  ⟨(h.same (SameIn.of_below hb (Nat.le_refl _))).1, fun g hg => Nat.lt_of_lt_of_le (h.2 g hg) hb.size⟩
theorem RowTD.slice {A B : Nat} {w : World} {v : Value} {L : List ByteArray} (h : RowTD A B w v L) : ∃ a cap, v = .slice a L.length cap := by
  rcases h.1.2 with ⟨rfl, h0⟩ | ⟨g, cap, cur, rfl, _⟩
  · exact ⟨none, 0, by rw [h0]⟩
  · exact ⟨_, cap, rfl⟩
theorem RowTD.get {A B : Nat} {w : World} {a : Option Addr} {n cap : Nat} {L : List ByteArray} (h : RowTD A B w (.slice a n cap) L) {j : Nat} (hj : j < L.length) :
    ∃ g, a = some ⟨g, 0, none⟩ ∧ g < B ∧ w.cell? ⟨g, j, none⟩ = some (.string L[j]) := by
  rcases h.1.2 with ⟨_, h0⟩ | ⟨g, cap', cur, hv, _⟩
  · omega
  · have ha : a = some ⟨g, 0, none⟩ := by injection hv
    have hn : n = L.length := by injection hv
    subst ha
    subst hn
    refine ⟨g, rfl, h.2 g rfl, ?_⟩
    rw [h.1.cellAt j (by omega)]
    simp [strVD, hj]
theorem rowT_emptyD (w : World) : RowTD w.heap.size (w.alloc (.cells #[] 9)).heap.size (w.alloc (.cells #[] 9)) (.slice (some ⟨w.heap.size, 0, none⟩) 0 0) [] :=
  ⟨World.ownsRow_lit w #[] 0 (Nat.le_refl _) (by unfold maxLen; omega) rfl, fun g hg => by
    have : w.heap.size = g := by simpa [Value.ownBlock] using hg
    simp; omega⟩
/-- 'out = append(out, s)'. -/
theorem append_strD {ops : Array Oper} {rest : List Oper} {o : Oper} {a : Act} {Q : Exit → Act → World → Prop} {s x : Operand} {A : Nat} {v : Value} {L : List ByteArray} {wr : World}
    (hM : RowTD A wr.heap.size wr v L) (hA : A ≤ wr.heap.size) (t : ByteArray) {L2 : List ByteArray} (h2 : L ++ [t] = L2) (hgd : o.guard = none)
    (ho : o.op = .call { callee := .builtin .append, args := #[s, x], argTypes := #[64, 64] }) (hs : a.eval s = v)
    (hx : a.eval x = .slice (some ⟨wr.heap.size, 0, none⟩) 1 1) (hlen : L.length ≤ 4194304)
    (h : ∀ v' w', RowTD A w'.heap.size w' v' L2 → (∀ W C, C ≤ A → Below C W wr → Below C W w') → wr.heap.size ≤ w'.heap.size → wpList Tryz.prog ops Q rest (a.put o.dst v') w') :
    wpList Tryz.prog ops Q (o :: rest) a (wr.alloc (.cells #[.string t] 9)) := by
  subst h2
  obtain ⟨h1, h2⟩ := hM
  obtain ⟨i0, hi, hz0, hz1, hz2⟩ := info_parts Tryz.infoStr
  have h1' : wr.ownsRow A 9 1 v (strVD L).length (strVD L) := by rw [strV_len]; exact h1
  refine append_hdr hgd _ _ 64 ho A 9 i0 (.string ⟨#[]⟩) 16 Tryz.underlying64 hi hz0 hz1 hz2 rfl v (strVD L) (.string t) rfl wr hs h1' hx (by rw [strV_len]; omega) (by omega) hA ?_
  intro v' w' ho' hg
  refine h v' w' ⟨?_, fun g hgg => (ho'.lt g hgg).2⟩ (fun W C hC hb => ?_) hg.size
  · have e : strVD L ++ [.string t] = strVD (L ++ [t]) := by simp [strVD]
    rw [e, strV_len] at ho'
    exact ho'
  · exact hb.grown hg (by omega) (fun k hk => by have := (h1.lt k hk).1; omega)

/-- Blocks of different element types are different. -/
theorem own_typesD {w : World} {A A' : Nat} {e e' : TypeId} (he : e ≠ e') {u v : Value} {n n' : Nat} {xs ys : List Value} (h : w.ownsRow A e 1 u n xs) (h' : w.ownsRow A' e' 1 v n' ys) : v.ownBlock = none ∨ v.ownBlock ≠ u.ownBlock := by
  rcases h'.2 with ⟨rfl, _⟩ | ⟨g', cap', cur', rfl, _, hg', _⟩
  · exact Or.inl rfl
  · right
    rcases h.2 with ⟨rfl, _⟩ | ⟨g, cap, cur, rfl, _, hg, _⟩
    · simp [Value.ownBlock]
    · intro e2
      have e3 : g' = g := by simpa [Value.ownBlock] using e2
      subst e3
      rw [hg] at hg'
      have := Option.some.inj hg'
      injection this with _ h5 _
      exact he h5
theorem RowTD.grown {A B : Nat} {w w' : World} {v : Value} {L : List ByteArray} {S : Option Nat} (h : RowTD A B w v L) (hg : w.grownBy w' S) (hne : v.ownBlock = none ∨ v.ownBlock ≠ S) : RowTD A B w' v L := ⟨h.1.kept hg hne, h.2⟩
theorem RowTD.mono {A B B' : Nat} {w : World} {v : Value} {L : List ByteArray} (h : RowTD A B w v L) (hB : B ≤ B') : RowTD A B' w v L := ⟨h.1, fun g hg => Nat.lt_of_lt_of_le (h.2 g hg) hB⟩

/-- 'row = append(row, x)', and what of the strings about is kept. -/
theorem append_intGD {ops : Array Oper} {rest : List Oper} {o : Oper} {a : Act} {Q : Exit → Act → World → Prop} {s x : Operand} {A : Nat} {v : Value} {l : List Int} {wr : World}
    (hM : RowI A wr.heap.size wr v l) (hA : A ≤ wr.heap.size) (n : Int) {l2 : List Int} (h2 : l ++ [n] = l2) (hgd : o.guard = none)
    (ho : o.op = .call { callee := .builtin .append, args := #[s, x], argTypes := #[25, 25] }) (hs : a.eval s = v)
    (hx : a.eval x = .slice (some ⟨wr.heap.size, 0, none⟩) 1 1) (hlen : l.length ≤ 4194304)
    (h : ∀ v' w', RowI A w'.heap.size w' v' l2 → (∀ W C, C ≤ A → Below C W wr → Below C W w') → wr.heap.size ≤ w'.heap.size → (∀ A' B' u L, RowTD A' B' wr u L → RowTD A' B' w' u L) → wpList Tryz.prog ops Q rest (a.put o.dst v') w') :
    wpList Tryz.prog ops Q (o :: rest) a (wr.alloc (.cells #[.int .i64 n] 3)) := by
  subst h2
  obtain ⟨h1, h2⟩ := hM
  obtain ⟨i0, hi, hz0, hz1, hz2⟩ := info_parts Tryz.infoInt
  have h1' : wr.ownsRow A 3 1 v (intsV l).length (intsV l) := by rw [intsV_len]; exact h1
  refine append_hdr hgd _ _ 25 ho A 3 i0 (.int .i64 0) 8 Tryz.underlying25 hi hz0 hz1 hz2 rfl v (intsV l) (.int .i64 n) rfl wr hs h1' hx (by rw [intsV_len]; omega) (by omega) hA ?_
  intro v' w' ho' hg
  refine h v' w' ⟨?_, fun g hgg => (ho'.lt g hgg).2⟩ (fun W C hC hb => ?_) hg.size (fun A' B' u L hr => hr.grown hg (own_typesD (by decide) h1 hr.1))
  · have e : intsV l ++ [.int .i64 n] = intsV (l ++ [n]) := by simp [intsV]
    rw [e, intsV_len] at ho'
    exact ho'
  · exact hb.grown hg (by omega) (fun k hk => by have := (h1.lt k hk).1; omega)
theorem append_rowG {ops : Array Oper} {rest : List Oper} {o : Oper} {a : Act} {Q : Exit → Act → World → Prop} {s x : Operand} {A B : Nat} {v rv : Value} {m : List (List Int)} {l : List Int} {wr : World}
    (hM : MatI A B wr v m) (hr : RowI B wr.heap.size wr rv l) (hAB : A ≤ B) (hBw : B ≤ wr.heap.size) {m2 : List (List Int)} (hm2 : m ++ [l] = m2) (hgd : o.guard = none)
    (ho : o.op = .call { callee := .builtin .append, args := #[s, x], argTypes := #[24, 24] }) (hs : a.eval s = v)
    (hx : a.eval x = .slice (some ⟨wr.heap.size, 0, none⟩) 1 1) (hlen : m.length ≤ 1048577)
    (h : ∀ v' w', MatI A w'.heap.size w' v' m2 → (∀ W C, C ≤ A → Below C W wr → Below C W w') → wr.heap.size ≤ w'.heap.size → (∀ A' B' u L, RowTD A' B' wr u L → RowTD A' B' w' u L) → wpList Tryz.prog ops Q rest (a.put o.dst v') w') :
    wpList Tryz.prog ops Q (o :: rest) a (wr.alloc (.cells #[rv] 25)) := by
  subst hm2
  obtain ⟨hh, h1, h2, h3, h4⟩ := hM
  have hll : hh.length = m.length := by have := h1.1; omega
  obtain ⟨i0, hi, hz0, hz1, hz2⟩ := info_parts Tryz.infoRow
  have h1' : wr.ownsRow A 25 1 v hh.length hh := by rw [hll]; exact h1
  have hone : rv.oneCell' = true := by
    obtain ⟨ra, rcap, rfl⟩ := hr.slice
    rfl
  refine append_hdr hgd _ _ 24 ho A 25 i0 (.slice none 0 0) 24 Tryz.underlying24 hi hz0 hz1 hz2 rfl v hh rv hone wr hs h1' hx (by omega) (by omega) (by omega) ?_
  intro v' w' ho' hg
  refine h v' w' (mat_snoc h1 h2 h3 h4 hr hAB hBw ho' hg) (fun W C hC hb => ?_) hg.size (fun A' B' u L hr => hr.grown hg (own_typesD (by decide) h1 hr.1))
  exact hb.grown hg (by omega) (fun k hk => by have := (h1.lt k hk).1; omega)

def toBD (xs : List (List UInt8)) : List ByteArray := xs.map fun l => ⟨l.toArray⟩
def cutBD (c : UInt8) (s : ByteArray) : List ByteArray := toBD (cutLD c s.data.toList)
def MakesTD (w : World) (L : List ByteArray) (e : Ending) (w' : World) : Prop := ∃ x, e = .returned x ∧ RowTD w.heap.size w'.heap.size w' x L ∧ Below w.heap.size w w'
theorem take_byteD (s : ByteArray) (k : Nat) (h : k < s.size) : s.data.toList.take (k + 1) = s.data.toList.take k ++ [s[k]] := by
  rw [List.take_succ_eq_append_getElem (by simpa using h)]; rfl

set_option maxHeartbeats 2000000 in
set_option maxRecDepth 100000 in
theorem cut_anyD (c : UInt8) (s : ByteArray) (w : World) (hs : s.size ≤ 1048576) :
    Calls Tryz.prog 46 #[.string s, .int .u8 (c.toNat : Int)] w (MakesTD w (cutBD c s)) := by
  have HALL : Hid (s.data.toList.take s.size = s.data.toList) := Lib.hid (List.take_of_length_le (by simp))
  go_enter Tryz.func46, Tryz.ntmps46
  go_wp2_with fail
  go_loopw [5, 6, 7] (fun o pv i wr => ∃ (k : Nat) (p : ByteArray) (wq : World), wq = wr ∧ k ≤ s.size ∧ i = .int .i64 k ∧ pv = .string p ∧ Hid (p.data.toList = (cutFD c (s.data.toList.take k)).2) ∧ p.size ≤ k ∧ RowTD w.heap.size wq.heap.size wq o (toBD (cutFD c (s.data.toList.take k)).1) ∧ Below w.heap.size w wq) (fun _ _ i _ => s.size - (intOf i).toNat)
  case atStart => exact ⟨0, ⟨#[]⟩, _, rfl, Nat.zero_le _, rfl, rfl, by show Hid _; unfold Hid; simp [cutFD], Nat.le_refl _, rowT_emptyD w, (Below.refl _ _).alloc (Nat.le_refl _) _⟩
  case round =>
    obtain ⟨k, p, wq, rfl, hk, rfl, rfl, HP, hps, hr, hb⟩ := hrel
    have HR := Lib.hid hr; clear hr
    have hsq := hb.size
    have HB := Lib.hid hb; clear hb
    by_cases hlt : k < s.size
    · have htk := take_byteD s k hlt
      have hsn := cutF_snocD c (s.data.toList.take k) s[k]
      rw [← htk] at hsn
      by_cases hc : s[k] = c
      · have hbc : (((s[k]'hlt).toNat : Int) == (c.toNat : Int)) = true := by rw [beq_iff_eq, hc]
        unfold cutStepD at hsn
        rw [if_pos hc] at hsn
        have h2 : toBD (cutFD c (s.data.toList.take k)).1 ++ [p] = toBD (cutFD c (s.data.toList.take (k + 1))).1 := by
          rw [hsn]; simp [toBD, ← HP.out]
        have h3 : ([] : List UInt8) = (cutFD c (s.data.toList.take (k + 1))).2 := by rw [hsn]
        have H2 := Lib.hid h2
        have H3 := Lib.hid h3
        have hll : (toBD (cutFD c (s.data.toList.take k)).1).length ≤ 4194304 := by
          have := (cutF_lenD c (s.data.toList.take k)).1
          rw [List.length_take] at this
          simp [toBD]; omega
        have HLL := Lib.hid hll
        clear hsn htk h2 h3 hll hc
        go_wp2_with (at_builtin; go_must (refine append_strD HR.out hsq p H2.out rfl rfl rfl rfl HLL.out ?_))
        intro v' w3 hr3 hb3 hz3
        have HR3 := Lib.hid hr3
        have HB3 := Lib.hid (hb3 w w.heap.size (Nat.le_refl _) HB.out)
        clear hr3 hb3 hz3
        go_wp2_with fail
        exact ⟨⟨k + 1, ⟨#[]⟩, _, rfl, by omega, by go_num, rfl, H3.out, Nat.zero_le _, HR3.out, HB3.out⟩, by simp [intOf]; omega⟩
      · have hbc : (((s[k]'hlt).toNat : Int) == (c.toNat : Int)) = false := by
          rw [beq_eq_false_iff_ne]; intro e; exact hc (UInt8.toNat_inj.1 (by omega))
        unfold cutStepD at hsn
        rw [if_neg hc] at hsn
        have hex : (s.extract k (k + 1)).data.toList = [s[k]] := by
          rw [ByteArray.data_extract, Array.toList_extract]
          rw [List.extract_eq_take_drop, show k + 1 - k = 1 by omega, List.drop_eq_getElem_cons (by simpa using hlt)]
          rfl
        have h3 : (p ++ s.extract k (k + 1)).data.toList = (cutFD c (s.data.toList.take (k + 1))).2 := by
          rw [hsn, str_app, HP.out, hex]
        have h4 : (p ++ s.extract k (k + 1)).size ≤ k + 1 := by
          rw [ba_app_size, ByteArray.size_extract]; omega
        have h5 := HR.out
        rw [← (show (cutFD c (s.data.toList.take (k + 1))).1 = (cutFD c (s.data.toList.take k)).1 from by rw [hsn])] at h5
        have hsl : (Instr.slice 9 (.string s) (some (.int .i64 (k : Int))) (some (.int .i64 ((k : Int) + 1))) none).run Tryz.prog wq = .ok (.string (s.extract k (k + 1))) wq := by
          have := run_slice_string (P := Tryz.prog) wq 9 s .i64 .i64 (k : Int) ((k : Int) + 1) Tryz.underlying9 (by omega) (by omega) (by omega)
          rw [show ((k : Int) + 1).toNat = k + 1 by omega, Int.toNat_natCast] at this
          exact this
        have H3 := Lib.hid h3
        have H4 := Lib.hid h4
        have H5 := Lib.hid h5
        have hes : (s.extract k (k + 1)).size ≤ 1 := by rw [ByteArray.size_extract]; omega
        clear hsn htk h3 h4 h5 hc hex
        generalize s.extract k (k + 1) = y at *
        go_wp2_with fail
        exact ⟨⟨k + 1, _, _, rfl, by omega, by go_num, rfl, H3.out, H4.out, H5.out, HB.out⟩, by simp [intOf]; omega⟩
    · obtain rfl : k = s.size := by omega
      have h2 : toBD (cutFD c (s.data.toList.take s.size)).1 ++ [p] = cutBD c s := by
        unfold cutBD cutLD
        rw [HALL.out]
        have hp := HP.out
        rw [HALL.out] at hp
        simp [toBD, ← hp]
      have H2 := Lib.hid h2
      have hll : (toBD (cutFD c (s.data.toList.take s.size)).1).length ≤ 4194304 := by
        have := (cutF_lenD c (s.data.toList.take s.size)).1
        rw [List.length_take] at this
        simp [toBD]; omega
      have HLL := Lib.hid hll
      clear h2 hll
      go_wp2_with (at_builtin; go_must (refine append_strD HR.out hsq p H2.out rfl rfl rfl rfl HLL.out ?_))
      intro v' w3 hr3 hb3 hz3
      have HR3 := Lib.hid hr3
      have HB3 := Lib.hid (hb3 w w.heap.size (Nat.le_refl _) HB.out)
      clear hr3 hb3 hz3
      go_wp2_with fail
      go_ret
      exact ⟨_, rfl, HR3.out, HB3.out⟩
end Go.Proofs.YtfjeghalkmkgoaaGreatDoor
