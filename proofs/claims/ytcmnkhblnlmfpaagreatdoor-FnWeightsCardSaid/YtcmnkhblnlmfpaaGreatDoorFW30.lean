/-
  NameOfPart of the program: what the call returns.
  The model's cut of a string at a byte: what the call returns.
  NameOf of the program: what the call returns.
-/
import Derived.Test.YtcmnkhblnlmfpaaGreatDoorFW28
import Derived.Test.YtcmnkhblnlmfpaaGreatDoorFW29
import Derived.Laws.Strings2
import Derived.Test.YtcmnkhblnlmfpaaGreatDoorFW05
import Derived.Test.YtcmnkhblnlmfpaaGreatDoorFW04
import Derived.Test.YtcmnkhblnlmfpaaGreatDoorShelfJ
namespace Go.Proofs.YtcmnkhblnlmfpaaGreatDoor
open Go.RowKit

theorem names_cell {w : World} (h : NamesIs w namesL) (t : Nat) (ht : t < 17) : w.cell? ⟨0, t, none⟩ = some (strV (namesL.getD t [])) := by
  have hg : Tryz.prog.globalNamed "loop.example/g02076/impl.partNames" = some 0 := by kernel_rfl
  have h1 := World.var?_cell hg h t
  have h2 := namesV_get t ht
  rw [h1]
  exact h2

set_option maxRecDepth 100000 in
theorem idx_names (arr : Array Value) (t : Nat) (ht : t < 17) (s : ByteArray) (h : arr[t]? = some (.string s)) (w : World) :
    (Instr.index 129 (.agg arr) (.int .i64 t)).run Tryz.prog w = .ok (.string s) w := by
  have hu : Tryz.prog.underlying 129 = some (.array 17 9) := by kernel_rfl
  have hs : ∀ w, (sizeOf 9).run Tryz.prog w = .ok 1 w := fun w => by rfl
  have h1 : (0 : Int) ≤ (t : Int) ∧ (t : Int) < 17 := by omega
  simp [Instr.index, run_underlying hu, asIntOf, h1, hs, part, go_sem, h]
  intro h2; omega
set_option maxHeartbeats 2000000 in
set_option maxRecDepth 100000 in
theorem nmpi_any (B : Nat) (v : Value) (m : List (List Int)) (w : World) (h : MatB B w v m) (hB : B ≤ w.heap.size) (hf : RowsFit m) (hN : NamesIs w namesL) :
    Calls Tryz.prog 91 #[v] w fun e w' => e = .returned (strV (nameP m)) ∧ Below w.heap.size w w' := by
  have HCELL := Lib.hid (fun (w1 : World) (hb : Below w.heap.size w w1) t ht => names_cell (NamesIs.below hN hb) t ht)
  have HCO := Lib.hid (fun w1 (hb : Below w.heap.size w w1) => coni_any B v m w1 (h.below hb hB) (Nat.le_trans hB hb.size) hf)
  have HAI := Lib.hid (fun (B' : Nat) (v' : Value) (m' : List (List Int)) (w1 : World) (hb : Below w.heap.size w w1) (h' : MatB B' w1 v' m') (hB' : B' ≤ w1.heap.size) (hf' : RowsFit m') => aii_any B B' v v' m m' w1 (h.below hb hB) h' (Nat.le_trans hB hb.size) hB' hf hf')
  have HHIT := Lib.hid (fun t (h : nameT m 17 = some t) => nameP_hit h)
  have HNO := Lib.hid (fun (h : nameT m 17 = none) => nameP_no h)
  have hc0 : w.cell? ⟨0, 0, none⟩ = some (.string ⟨#[65, 49]⟩) := names_cell hN 0 (by decide)
  have hc1 : w.cell? ⟨0, 1, none⟩ = some (.string ⟨#[65, 50]⟩) := names_cell hN 1 (by decide)
  have hc2 : w.cell? ⟨0, 2, none⟩ = some (.string ⟨#[65, 51]⟩) := names_cell hN 2 (by decide)
  have hc3 : w.cell? ⟨0, 3, none⟩ = some (.string ⟨#[65, 52]⟩) := names_cell hN 3 (by decide)
  have hc4 : w.cell? ⟨0, 4, none⟩ = some (.string ⟨#[66, 50]⟩) := names_cell hN 4 (by decide)
  have hc5 : w.cell? ⟨0, 5, none⟩ = some (.string ⟨#[66, 51]⟩) := names_cell hN 5 (by decide)
  have hc6 : w.cell? ⟨0, 6, none⟩ = some (.string ⟨#[66, 52]⟩) := names_cell hN 6 (by decide)
  have hc7 : w.cell? ⟨0, 7, none⟩ = some (.string ⟨#[67, 51]⟩) := names_cell hN 7 (by decide)
  have hc8 : w.cell? ⟨0, 8, none⟩ = some (.string ⟨#[67, 52]⟩) := names_cell hN 8 (by decide)
  have hc9 : w.cell? ⟨0, 9, none⟩ = some (.string ⟨#[68, 52]⟩) := names_cell hN 9 (by decide)
  have hc10 : w.cell? ⟨0, 10, none⟩ = some (.string ⟨#[70, 52]⟩) := names_cell hN 10 (by decide)
  have hc11 : w.cell? ⟨0, 11, none⟩ = some (.string ⟨#[71, 50]⟩) := names_cell hN 11 (by decide)
  have hc12 : w.cell? ⟨0, 12, none⟩ = some (.string ⟨#[65, 49, 126]⟩) := names_cell hN 12 (by decide)
  have hc13 : w.cell? ⟨0, 13, none⟩ = some (.string ⟨#[65, 50, 126]⟩) := names_cell hN 13 (by decide)
  have hc14 : w.cell? ⟨0, 14, none⟩ = some (.string ⟨#[65, 51, 126]⟩) := names_cell hN 14 (by decide)
  have hc15 : w.cell? ⟨0, 15, none⟩ = some (.string ⟨#[67, 50, 126]⟩) := names_cell hN 15 (by decide)
  have hc16 : w.cell? ⟨0, 16, none⟩ = some (.string ⟨#[71, 50, 126]⟩) := names_cell hN 16 (by decide)
  have hget : ∀ t, t < 17 → (#[Value.string ⟨#[65, 49]⟩, Value.string ⟨#[65, 50]⟩, Value.string ⟨#[65, 51]⟩, Value.string ⟨#[65, 52]⟩, Value.string ⟨#[66, 50]⟩, Value.string ⟨#[66, 51]⟩, Value.string ⟨#[66, 52]⟩, Value.string ⟨#[67, 51]⟩, Value.string ⟨#[67, 52]⟩, Value.string ⟨#[68, 52]⟩, Value.string ⟨#[70, 52]⟩, Value.string ⟨#[71, 50]⟩, Value.string ⟨#[65, 49, 126]⟩, Value.string ⟨#[65, 50, 126]⟩, Value.string ⟨#[65, 51, 126]⟩, Value.string ⟨#[67, 50, 126]⟩, Value.string ⟨#[71, 50, 126]⟩] : Array Value)[t]? = some (strV (namesL.getD t [])) := namesV_get
  clear h hN
  generalize nameP m = R at *
  go_enter Tryz.func91, Tryz.ntmps91
  go_wp2_with fail
  clear hc0 hc1 hc2 hc3 hc4 hc5 hc6 hc7 hc8 hc9 hc10 hc11 hc12 hc13 hc14 hc15 hc16
  generalize (#[Value.string ⟨#[65, 49]⟩, Value.string ⟨#[65, 50]⟩, Value.string ⟨#[65, 51]⟩, Value.string ⟨#[65, 52]⟩, Value.string ⟨#[66, 50]⟩, Value.string ⟨#[66, 51]⟩, Value.string ⟨#[66, 52]⟩, Value.string ⟨#[67, 51]⟩, Value.string ⟨#[67, 52]⟩, Value.string ⟨#[68, 52]⟩, Value.string ⟨#[70, 52]⟩, Value.string ⟨#[71, 50]⟩, Value.string ⟨#[65, 49, 126]⟩, Value.string ⟨#[65, 50, 126]⟩, Value.string ⟨#[65, 51, 126]⟩, Value.string ⟨#[67, 50, 126]⟩, Value.string ⟨#[71, 50, 126]⟩] : Array Value) = arr at *
  have HGET := Lib.hid hget; clear hget
  go_loopw [10] (fun i wr => ∃ (t : Nat) (wq : World), wq = wr ∧ t ≤ 17 ∧ i = .int .i64 t ∧ Hid (nameT m t = none) ∧ Below w.heap.size w wq) (fun i _ => 17 - (intOf i).toNat)
  case atStart => exact ⟨0, _, rfl, Nat.zero_le _, rfl, Lib.hid rfl, Below.refl _ _⟩
  case round =>
    obtain ⟨t, wq, rfl, ht, rfl, hse, hbq⟩ := hrel
    have HBQ := Lib.hid hbq
    have hsq := hbq.size
    clear hbq
    by_cases hlt : t < 17
    · have hlt' : decide (t < 17) = true := decide_eq_true hlt
      have hg := HGET.out t hlt
      have HTY := Lib.hid (fun w2 => tyi_any ⟨(namesL.getD t []).toArray⟩ w2)
      have HSM := Lib.hid (fit_of_small (small_of (typeP_small (namesL.getD t []))))
      have HYES := Lib.hid (fun (h : isoB m (typeM (namesL.getD t [])) = true) => HHIT.out t (nameT_hit hse.out h 17 hlt))
      have HNOT := Lib.hid (fun (h : isoB m (typeM (namesL.getD t [])) = false) => nameT_no hse.out h)
      simp only [List.toList_toArray] at HTY
      unfold strV at hg
      generalize namesL.getD t [] = nm at *
      have hix := idx_names arr t hlt _ hg wq
      go_wp2_with fail
      refine (HTY.out wq).mono ?_
      rintro e w4 ⟨y, rfl, hy, hb4⟩
      have HY := Lib.hid hy
      have HB4 := Lib.hid (HBQ.out.trans (hb4.mono hsq))
      have hs4 := hb4.size
      clear hy hb4
      generalize typeB nm = tb at *
      go_wp2_with fail
      refine (HAI.out _ y (typeM nm) w4 HB4.out HY.out.matB (Nat.le_refl _) HSM.out).mono ?_
      rintro e w5 ⟨z, rfl, hz, hb5⟩
      have HB5 := Lib.hid (HB4.out.trans (hb5.mono (by omega)))
      clear hz hb5
      by_cases hiso : isoB m (typeM nm) = true
      · have HQ := Lib.hid (HYES.out hiso)
        rw [hiso]
        clear hiso
        go_wp2_with fail
        go_ret
        exact ⟨by rw [HQ.out]; rfl, HB5.out⟩
      · have hiso' : isoB m (typeM nm) = false := by simpa using hiso
        have HST := Lib.hid (HNOT.out hiso')
        rw [hiso']
        clear hiso hiso'
        go_wp2_with fail
        exact ⟨⟨t + 1, _, rfl, by omega, by go_num, HST, HB5.out⟩, by simp [intOf]; omega⟩
    · obtain rfl : t = 17 := by omega
      have HQ := Lib.hid (HNO.out hse.out)
      go_wp2_with fail
      refine (HCO.out wq HBQ.out).mono ?_
      rintro e w5 ⟨rfl, hb5⟩
      have HB5 := Lib.hid (HBQ.out.trans (hb5.mono HBQ.out.size))
      clear hb5
      by_cases hc : connB (partsV m).length = true
      · rw [hc] at HQ ⊢
        clear hc
        go_wp2_with fail
        go_ret
        exact ⟨by rw [HQ.out]; rfl, HB5.out⟩
      · have hc' : connB (partsV m).length = false := by simpa using hc
        rw [hc'] at HQ ⊢
        clear hc hc'
        go_wp2_with fail
        go_ret
        exact ⟨by rw [HQ.out]; rfl, HB5.out⟩
end Go.Proofs.YtcmnkhblnlmfpaaGreatDoor
namespace Go.Proofs.YtcmnkhblnlmfpaaGreatDoor
open Go.RowKit

theorem Tryz.infoStr4 : (Tryz.prog.info? 9).map (fun i => (i.zero, i.size, i.bytes)) = some (some (.string ⟨#[]⟩), 1, 16) := by kernel_rfl
theorem str_app4 (a b : ByteArray) : (a ++ b).data.toList = a.data.toList ++ b.data.toList := by
  cases a; cases b
  rw [ByteArray.mk_append_mk]
theorem ba_app_size4 (a b : ByteArray) : (a ++ b).size = a.size + b.size := ByteArray.size_append
def strsV (l : List ByteArray) : List Value := l.map Value.string
theorem strsV_len (l : List ByteArray) : (strsV l).length = l.length := by simp [strsV]
/-! ### Cutting a list at a byte -/
def cutStep (c : UInt8) (st : List (List UInt8) × List UInt8) (b : UInt8) : List (List UInt8) × List UInt8 := if b = c then (st.1 ++ [st.2], []) else (st.1, st.2 ++ [b])
def cutF (c : UInt8) (l : List UInt8) : List (List UInt8) × List UInt8 := l.foldl (cutStep c) ([], [])
def cutL (c : UInt8) (l : List UInt8) : List (List UInt8) := (cutF c l).1 ++ [(cutF c l).2]
theorem cutF_snoc (c : UInt8) (l : List UInt8) (b : UInt8) : cutF c (l ++ [b]) = cutStep c (cutF c l) b := by simp [cutF]
theorem list_snoc_ind {α : Type} {P : List α → Prop} (h0 : P []) (h1 : ∀ l c, P l → P (l ++ [c])) (l : List α) : P l := by
  have h : ∀ (n : Nat) (l : List α), l.length = n → P l := by
    intro n
    induction n with
    | zero => intro l hl; rw [List.eq_nil_of_length_eq_zero hl]; exact h0
    | succ n ih =>
      intro l hl
      have hne : l ≠ [] := by intro e; rw [e] at hl; simp at hl
      rw [← List.dropLast_concat_getLast hne]
      exact h1 _ _ (ih _ (by rw [List.length_dropLast]; omega))
  exact h _ l rfl
theorem cutF_free (c : UInt8) (a : List UInt8) (h : c ∉ a) (st : List (List UInt8) × List UInt8) : a.foldl (cutStep c) st = (st.1, st.2 ++ a) := by
  induction a generalizing st with
  | nil => simp
  | cons x a ih =>
    have hx : ¬ x = c := fun e => h (by simp [e])
    rw [List.foldl_cons, ih (fun hm => h (by simp [hm]))]
    simp [cutStep, hx]
theorem cutF_front (c : UInt8) (l : List UInt8) (o : List (List UInt8)) : l.foldl (cutStep c) (o, []) = (o ++ (cutF c l).1, (cutF c l).2) := by
  have h : ∀ (l : List UInt8) (o o' : List (List UInt8)) (p : List UInt8), l.foldl (cutStep c) (o ++ o', p) = (o ++ (l.foldl (cutStep c) (o', p)).1, (l.foldl (cutStep c) (o', p)).2) := by
    intro l
    induction l with
    | nil => intro o o' p; rfl
    | cons b l ih =>
      intro o o' p
      rw [List.foldl_cons, List.foldl_cons]
      unfold cutStep
      by_cases hb : b = c
      · simp only [if_pos hb]
        rw [List.append_assoc]
        exact ih o (o' ++ [p]) []
      · simp only [if_neg hb]
        exact ih o o' (p ++ [b])
  have := h l o [] []
  rw [List.append_nil] at this
  exact this
theorem cutL_free (c : UInt8) (a : List UInt8) (h : c ∉ a) : cutL c a = [a] := by
  unfold cutL cutF
  rw [cutF_free c a h]; rfl
theorem cutL_at (c : UInt8) (a b : List UInt8) (h : c ∉ a) : cutL c (a ++ c :: b) = a :: cutL c b := by
  unfold cutL
  have e : cutF c (a ++ c :: b) = ([a] ++ (cutF c b).1, (cutF c b).2) := by
    unfold cutF
    rw [List.foldl_append, cutF_free c a h, List.foldl_cons]
    have : cutStep c (([] : List (List UInt8)), [] ++ a) c = ([a], []) := by simp [cutStep]
    rw [this]
    exact cutF_front c b [a]
  rw [e]; simp
theorem cutL_ne (c : UInt8) (l : List UInt8) : cutL c l ≠ [] := by simp [cutL]
theorem cutF_len (c : UInt8) (l : List UInt8) : (cutF c l).1.length ≤ l.length ∧ (cutF c l).2.length ≤ l.length := by
  refine list_snoc_ind (P := fun l => (cutF c l).1.length ≤ l.length ∧ (cutF c l).2.length ≤ l.length) (by simp [cutF]) ?_ l
  intro l b ih
  rw [cutF_snoc]
  unfold cutStep
  by_cases hb : b = c
  · simp [if_pos hb]; exact ih.1
  · simp [if_neg hb]; omega
theorem cutL_len (c : UInt8) (l : List UInt8) : (cutL c l).length ≤ l.length + 1 := by have := (cutF_len c l).1; simp [cutL]; omega
/-! ### Slices of strings of the call's own -/
def RowT (A B : Nat) (w : World) (v : Value) (L : List ByteArray) : Prop := w.ownsRow A 9 1 v L.length (strsV L) ∧ ∀ g, v.ownBlock = some g → g < B
theorem RowT.same {A B : Nat} {w w' : World} {v : Value} {L : List ByteArray} (h : RowT A B w v L) (hs : SameIn A B w w') : RowT A B w' v L := ⟨ownsRow_same h.1 h.2 hs, h.2⟩
theorem RowT.step {A : Nat} {w w' : World} {v : Value} {L : List ByteArray} (h : RowT A w.heap.size w v L) (hb : Below w.heap.size w w') : RowT A w'.heap.size w' v L :=
  ⟨(h.same (SameIn.of_below hb (Nat.le_refl _))).1, fun g hg => Nat.lt_of_lt_of_le (h.2 g hg) hb.size⟩
theorem RowT.slice {A B : Nat} {w : World} {v : Value} {L : List ByteArray} (h : RowT A B w v L) : ∃ a cap, v = .slice a L.length cap := by
  rcases h.1.2 with ⟨rfl, h0⟩ | ⟨g, cap, cur, rfl, _⟩
  · exact ⟨none, 0, by rw [h0]⟩
  · exact ⟨_, cap, rfl⟩
theorem RowT.get {A B : Nat} {w : World} {a : Option Addr} {n cap : Nat} {L : List ByteArray} (h : RowT A B w (.slice a n cap) L) {j : Nat} (hj : j < L.length) :
    ∃ g, a = some ⟨g, 0, none⟩ ∧ g < B ∧ w.cell? ⟨g, j, none⟩ = some (.string L[j]) := by
  rcases h.1.2 with ⟨_, h0⟩ | ⟨g, cap', cur, hv, _⟩
  · omega
  · have ha : a = some ⟨g, 0, none⟩ := by injection hv
    have hn : n = L.length := by injection hv
    subst ha
    subst hn
    refine ⟨g, rfl, h.2 g rfl, ?_⟩
    rw [h.1.cellAt j (by omega)]
    simp [strsV, hj]
theorem rowT_empty (w : World) : RowT w.heap.size (w.alloc (.cells #[] 9)).heap.size (w.alloc (.cells #[] 9)) (.slice (some ⟨w.heap.size, 0, none⟩) 0 0) [] :=
  ⟨World.ownsRow_lit w #[] 0 (Nat.le_refl _) (by unfold maxLen; omega) rfl, fun g hg => by
    have : w.heap.size = g := by simpa [Value.ownBlock] using hg
    simp; omega⟩
/-- 'out = append(out, s)'. -/
theorem append_str {ops : Array Oper} {rest : List Oper} {o : Oper} {a : Act} {Q : Exit → Act → World → Prop} {s x : Operand} {A : Nat} {v : Value} {L : List ByteArray} {wr : World}
    (hM : RowT A wr.heap.size wr v L) (hA : A ≤ wr.heap.size) (t : ByteArray) {L2 : List ByteArray} (h2 : L ++ [t] = L2) (hgd : o.guard = none)
    (ho : o.op = .call { callee := .builtin .append, args := #[s, x], argTypes := #[79, 79] }) (hs : a.eval s = v)
    (hx : a.eval x = .slice (some ⟨wr.heap.size, 0, none⟩) 1 1) (hlen : L.length ≤ 4194304)
    (h : ∀ v' w', RowT A w'.heap.size w' v' L2 → (∀ W C, C ≤ A → Below C W wr → Below C W w') → wr.heap.size ≤ w'.heap.size → wpList Tryz.prog ops Q rest (a.put o.dst v') w') :
    wpList Tryz.prog ops Q (o :: rest) a (wr.alloc (.cells #[.string t] 9)) := by
  subst h2
  obtain ⟨h1, h2⟩ := hM
  obtain ⟨i0, hi, hz0, hz1, hz2⟩ := info_parts Tryz.infoStr4
  have h1' : wr.ownsRow A 9 1 v (strsV L).length (strsV L) := by rw [strsV_len]; exact h1
  refine append_hdr hgd _ _ 79 ho A 9 i0 (.string ⟨#[]⟩) 16 Tryz.underlying79 hi hz0 hz1 hz2 rfl v (strsV L) (.string t) rfl wr hs h1' hx (by rw [strsV_len]; omega) (by omega) hA ?_
  intro v' w' ho' hg
  refine h v' w' ⟨?_, fun g hgg => (ho'.lt g hgg).2⟩ (fun W C hC hb => ?_) hg.size
  · have e : strsV L ++ [.string t] = strsV (L ++ [t]) := by simp [strsV]
    rw [e, strsV_len] at ho'
    exact ho'
  · exact hb.grown hg (by omega) (fun k hk => by have := (h1.lt k hk).1; omega)

/-- Blocks of different element types are different. -/
theorem own_types {w : World} {A A' : Nat} {e e' : TypeId} (he : e ≠ e') {u v : Value} {n n' : Nat} {xs ys : List Value} (h : w.ownsRow A e 1 u n xs) (h' : w.ownsRow A' e' 1 v n' ys) : v.ownBlock = none ∨ v.ownBlock ≠ u.ownBlock := by
  rcases h'.2 with ⟨rfl, _⟩ | ⟨g', cap', cur', rfl, _, hg', _⟩
  · exact Or.inl rfl
  · right
    rcases h.2 with ⟨rfl, _⟩ | ⟨g, cap, cur, rfl, _, hg, _⟩
    · simp [Value.ownBlock]
    · intro e2
      have e3 : g' = g := by simpa [Value.ownBlock] using e2
      subst e3
      rw [hg] at hg'
      have := Option.some.inj hg'
      injection this with _ h5 _
      exact he h5
theorem RowT.grown {A B : Nat} {w w' : World} {v : Value} {L : List ByteArray} {S : Option Nat} (h : RowT A B w v L) (hg : w.grownBy w' S) (hne : v.ownBlock = none ∨ v.ownBlock ≠ S) : RowT A B w' v L := ⟨h.1.kept hg hne, h.2⟩
theorem RowT.mono {A B B' : Nat} {w : World} {v : Value} {L : List ByteArray} (h : RowT A B w v L) (hB : B ≤ B') : RowT A B' w v L := ⟨h.1, fun g hg => Nat.lt_of_lt_of_le (h.2 g hg) hB⟩

/-- 'row = append(row, x)', and what of the strings about is kept. -/
def toB (xs : List (List UInt8)) : List ByteArray := xs.map fun l => ⟨l.toArray⟩
def cutB (c : UInt8) (s : ByteArray) : List ByteArray := toB (cutL c s.data.toList)
def MakesT (w : World) (L : List ByteArray) (e : Ending) (w' : World) : Prop := ∃ x, e = .returned x ∧ RowT w.heap.size w'.heap.size w' x L ∧ Below w.heap.size w w'
theorem take_byte' (s : ByteArray) (k : Nat) (h : k < s.size) : s.data.toList.take (k + 1) = s.data.toList.take k ++ [s[k]] := by
  rw [List.take_succ_eq_append_getElem (by simpa using h)]; rfl

set_option maxHeartbeats 2000000 in
set_option maxRecDepth 100000 in
theorem cut_any (c : UInt8) (s : ByteArray) (w : World) (hs : s.size ≤ 1048576) :
    Calls Tryz.prog 71 #[.string s, .int .u8 (c.toNat : Int)] w (MakesT w (cutB c s)) := by
  have HALL : Hid (s.data.toList.take s.size = s.data.toList) := Lib.hid (List.take_of_length_le (by simp))
  go_enter Tryz.func71, Tryz.ntmps71
  go_wp2_with fail
  go_loopw [5, 6, 7] (fun o pv i wr => ∃ (k : Nat) (p : ByteArray) (wq : World), wq = wr ∧ k ≤ s.size ∧ i = .int .i64 k ∧ pv = .string p ∧ Hid (p.data.toList = (cutF c (s.data.toList.take k)).2) ∧ p.size ≤ k ∧ RowT w.heap.size wq.heap.size wq o (toB (cutF c (s.data.toList.take k)).1) ∧ Below w.heap.size w wq) (fun _ _ i _ => s.size - (intOf i).toNat)
  case atStart => exact ⟨0, ⟨#[]⟩, _, rfl, Nat.zero_le _, rfl, rfl, by show Hid _; unfold Hid; simp [cutF], Nat.le_refl _, rowT_empty w, (Below.refl _ _).alloc (Nat.le_refl _) _⟩
  case round =>
    obtain ⟨k, p, wq, rfl, hk, rfl, rfl, HP, hps, hr, hb⟩ := hrel
    have HR := Lib.hid hr; clear hr
    have hsq := hb.size
    have HB := Lib.hid hb; clear hb
    by_cases hlt : k < s.size
    · have htk := take_byte' s k hlt
      have hsn := cutF_snoc c (s.data.toList.take k) s[k]
      rw [← htk] at hsn
      by_cases hc : s[k] = c
      · have hbc : (((s[k]'hlt).toNat : Int) == (c.toNat : Int)) = true := by rw [beq_iff_eq, hc]
        unfold cutStep at hsn
        rw [if_pos hc] at hsn
        have h2 : toB (cutF c (s.data.toList.take k)).1 ++ [p] = toB (cutF c (s.data.toList.take (k + 1))).1 := by
          rw [hsn]; simp [toB, ← HP.out]
        have h3 : ([] : List UInt8) = (cutF c (s.data.toList.take (k + 1))).2 := by rw [hsn]
        have H2 := Lib.hid h2
        have H3 := Lib.hid h3
        have hll : (toB (cutF c (s.data.toList.take k)).1).length ≤ 4194304 := by
          have := (cutF_len c (s.data.toList.take k)).1
          rw [List.length_take] at this
          simp [toB]; omega
        have HLL := Lib.hid hll
        clear hsn htk h2 h3 hll hc
        go_wp2_with (at_builtin; go_must (refine append_str HR.out hsq p H2.out rfl rfl rfl rfl HLL.out ?_))
        intro v' w3 hr3 hb3 hz3
        have HR3 := Lib.hid hr3
        have HB3 := Lib.hid (hb3 w w.heap.size (Nat.le_refl _) HB.out)
        clear hr3 hb3 hz3
        go_wp2_with fail
        exact ⟨⟨k + 1, ⟨#[]⟩, _, rfl, by omega, by go_num, rfl, H3.out, Nat.zero_le _, HR3.out, HB3.out⟩, by simp [intOf]; omega⟩
      · have hbc : (((s[k]'hlt).toNat : Int) == (c.toNat : Int)) = false := by
          rw [beq_eq_false_iff_ne]; intro e; exact hc (UInt8.toNat_inj.1 (by omega))
        unfold cutStep at hsn
        rw [if_neg hc] at hsn
        have hex : (s.extract k (k + 1)).data.toList = [s[k]] := by
          rw [ByteArray.data_extract, Array.toList_extract]
          rw [List.extract_eq_take_drop, show k + 1 - k = 1 by omega, List.drop_eq_getElem_cons (by simpa using hlt)]
          rfl
        have h3 : (p ++ s.extract k (k + 1)).data.toList = (cutF c (s.data.toList.take (k + 1))).2 := by
          rw [hsn, str_app4, HP.out, hex]
        have h4 : (p ++ s.extract k (k + 1)).size ≤ k + 1 := by
          rw [ba_app_size4, ByteArray.size_extract]; omega
        have h5 := HR.out
        rw [← (show (cutF c (s.data.toList.take (k + 1))).1 = (cutF c (s.data.toList.take k)).1 from by rw [hsn])] at h5
        have hsl : (Instr.slice 9 (.string s) (some (.int .i64 (k : Int))) (some (.int .i64 ((k : Int) + 1))) none).run Tryz.prog wq = .ok (.string (s.extract k (k + 1))) wq := by
          have := run_slice_string (P := Tryz.prog) wq 9 s .i64 .i64 (k : Int) ((k : Int) + 1) Tryz.underlying9 (by omega) (by omega) (by omega)
          rw [show ((k : Int) + 1).toNat = k + 1 by omega, Int.toNat_natCast] at this
          exact this
        have H3 := Lib.hid h3
        have H4 := Lib.hid h4
        have H5 := Lib.hid h5
        have hes : (s.extract k (k + 1)).size ≤ 1 := by rw [ByteArray.size_extract]; omega
        clear hsn htk h3 h4 h5 hc hex
        generalize s.extract k (k + 1) = y at *
        go_wp2_with fail
        exact ⟨⟨k + 1, _, _, rfl, by omega, by go_num, rfl, H3.out, H4.out, H5.out, HB.out⟩, by simp [intOf]; omega⟩
    · obtain rfl : k = s.size := by omega
      have h2 : toB (cutF c (s.data.toList.take s.size)).1 ++ [p] = cutB c s := by
        unfold cutB cutL
        rw [HALL.out]
        have hp := HP.out
        rw [HALL.out] at hp
        simp [toB, ← hp]
      have H2 := Lib.hid h2
      have hll : (toB (cutF c (s.data.toList.take s.size)).1).length ≤ 4194304 := by
        have := (cutF_len c (s.data.toList.take s.size)).1
        rw [List.length_take] at this
        simp [toB]; omega
      have HLL := Lib.hid hll
      clear h2 hll
      go_wp2_with (at_builtin; go_must (refine append_str HR.out hsq p H2.out rfl rfl rfl rfl HLL.out ?_))
      intro v' w3 hr3 hb3 hz3
      have HR3 := Lib.hid hr3
      have HB3 := Lib.hid (hb3 w w.heap.size (Nat.le_refl _) HB.out)
      clear hr3 hb3 hz3
      go_wp2_with fail
      go_ret
      exact ⟨_, rfl, HR3.out, HB3.out⟩
end Go.Proofs.YtcmnkhblnlmfpaaGreatDoor
namespace Go.Proofs.YtcmnkhblnlmfpaaGreatDoor
open Go.RowKit

/-! ### Every part is a set of points -/
theorem parts_mem {G : Nat → List Nat} {n : Nat} : ∀ {k : Nat} {q : List Nat}, q ∈ partsM G n k → ∃ i, i < k ∧ q = mPart G n i
  | 0, q, h => by simp [partsM] at h
  | k + 1, q, h => by
    by_cases hc : (mPart G n k).getD 0 0 = k
    · rw [← partsM_yes hc] at h
      rcases List.mem_append.1 h with h | h
      · obtain ⟨i, hi, e⟩ := parts_mem h
        exact ⟨i, by omega, e⟩
      · exact ⟨k, by omega, by simpa using h⟩
    · rw [← partsM_no hc] at h
      obtain ⟨i, hi, e⟩ := parts_mem h
      exact ⟨i, by omega, e⟩
theorem filter_set (n : Nat) (f : Nat → Bool) : IsSet n (intL ((List.range n).filter f)) := by
  have hp : ((List.range n).filter f).Pairwise (· < ·) := List.Pairwise.filter _ List.pairwise_lt_range
  have hm : ∀ k (h : k < ((List.range n).filter f).length), ((List.range n).filter f)[k] < n := fun k h => by
    have := List.getElem_mem h
    exact List.mem_range.1 (List.mem_filter.1 this).1
  generalize (List.range n).filter f = l at *
  intro k hk
  rw [intL_len] at hk
  have hg : ∀ j (h : j < l.length), l.getD j 0 = l[j] := fun j h => by simp [List.getD, h]
  unfold setC
  rw [intL_get _ _ hk, hg k hk]
  have h1 := hm k hk
  refine ⟨⟨by omega, by omega⟩, fun ⟨h2, h3⟩ => ?_⟩
  rw [intL_get _ _ (by omega), hg (k - 1) (by omega)] at h3
  have := List.pairwise_iff_getElem.1 hp (k - 1) k (by omega) hk (by omega)
  omega
theorem part_sub {m : List (List Int)} {k : Nat} (hk : k < (partsV m).length) : SubOk m ((partsV m).getD k []) := by
  by_cases hI : IsC m
  · have h2 := hk
    rw [partsV_yes hI, List.length_map] at h2
    have e : (partsV m).getD k [] = intL ((partsL m)[k]) := by rw [partsV_yes hI]; simp [List.getD, h2]
    obtain ⟨i, hi, hq⟩ := parts_mem (List.getElem_mem h2)
    have hne := (nbG_ok hI).2.1 i hi
    rw [e, hq]
    refine ⟨hI, fun e2 => hne ?_, ?_⟩
    · have := congrArg List.length e2
      rw [intL_len] at this
      exact this
    · exact filter_set _ _
  · rw [partsV_no hI] at hk; simp at hk
/-! ### Names joined -/
theorem rowT_nil (A B : Nat) (w : World) : RowT A B w (.slice none 0 0) [] := ⟨World.ownsRow_nil _ _ _ _, fun g h => by simp [Value.ownBlock] at h⟩
theorem join_snoc4 (l : List (List UInt8)) (x sep : List UInt8) (h : l ≠ []) : Lib.join (l ++ [x]) sep = Lib.join l sep ++ sep ++ x := by
  cases l with
  | nil => exact absurd rfl h
  | cons y r =>
    rw [List.cons_append, Lib.join_cons, Lib.join_cons]
    simp [Lib.joinTail]
noncomputable def nameL (m : List (List Int)) (k : Nat) : List (List UInt8) := (List.range k).map fun i => nameP (partK m i)
theorem nameL_len (m : List (List Int)) (k : Nat) : (nameL m k).length = k := by simp [nameL]
theorem nameL_step (m : List (List Int)) (k : Nat) : nameL m k ++ [nameP (partK m k)] = nameL m (k + 1) := by
  unfold nameL
  rw [List.range_succ, List.map_append]; rfl
theorem nameS_join (m : List (List Int)) : ∀ k, 1 ≤ k → Lib.join (nameL m k) [120] = nameS m k
  | 1, _ => by simp [nameL, nameS, Lib.join_one]
  | k + 2, _ => by
    rw [← nameL_step, join_snoc4 _ _ _ (fun e => by have := congrArg List.length e; rw [nameL_len] at this; simp at this), nameS_join m (k + 1) (by omega)]
    show _ = (if k + 1 = 0 then [] else nameS m (k + 1) ++ [120]) ++ nameP (partK m (k + 1))
    rw [if_neg (by omega)]
theorem nameS_len (m : List (List Int)) : ∀ k, (nameS m k).length ≤ 4 * k
  | 0 => by simp [nameS]
  | k + 1 => by
    rw [nameS_succ, List.length_append]
    have h1 := nameS_len m k
    have h2 := nameP_short (partK m k)
    split
    · simp; omega
    · simp; omega

set_option maxHeartbeats 2000000 in
set_option maxRecDepth 100000 in
theorem nmoi_any (B : Nat) (v : Value) (m : List (List Int)) (w : World) (h : MatB B w v m) (hB : B ≤ w.heap.size) (hf : RowsFit m) (hN : NamesIs w namesL) :
    Calls Tryz.prog 47 #[v] w fun e w' => e = .returned (strV (nameO m)) ∧ Below w.heap.size w w' := by
  have HPA := Lib.hid (parti_any B v m w h hB hf)
  have HPI := Lib.hid (fun k (hk : k < (partsV m).length) (B' : Nat) (v' : Value) (w1 : World) (hb : Below w.heap.size w w1) (h' : RowB B' w1 v' ((partsV m).getD k [])) (hB' : B' ≤ w1.heap.size) =>
    show Calls Tryz.prog 92 #[v, v'] w1 (MakesM w1 (partK m k)) from by
      have hs := part_sub hk
      have := pickp_any B B' v v' m ((partsV m).getD k []) w1 (h.below hb hB) h' (Nat.le_trans hB hb.size) hB' hf hs.1.1 (isSet_pt hs.2.2) (by have := partsV_row hk; omega)
      unfold partK
      rw [subM_yes hs]
      exact this)
  have HNP := Lib.hid (fun k (B' : Nat) (v' : Value) (w1 : World) (hb : Below w.heap.size w w1) (h' : MatB B' w1 v' (partK m k)) (hB' : B' ≤ w1.heap.size) => nmpi_any B' v' (partK m k) w1 h' hB' (fit_of_small (small_of (subM_small m ((partsV m).getD k [])))) (NamesIs.below hN hb))
  have HST := Lib.hid (nameL_step m)
  have HLL := Lib.hid (nameL_len m)
  have HJO := Lib.hid (nameS_join m)
  have HNS := Lib.hid (nameS_len m)
  have HROW := Lib.hid (fun k (hk : k < (partsV m).length) => partsV_row hk)
  have hl4 := partsV_len m
  have HV := Lib.hid (show nameO m = nameS m (partsV m).length from rfl)
  have HE0 := Lib.hid (show nameS m 0 = [] from rfl)
  have hsl := h.slice
  clear h hN
  generalize nameO m = R at *
  generalize partsV m = T at *
  generalize hTL : T.length = L at *
  have HTL := Lib.hid hTL; clear hTL
  go_enter Tryz.func47, Tryz.ntmps47
  go_wp2_with fail
  refine HPA.out.mono ?_
  rintro e w1 ⟨x, rfl, hx, hb1⟩
  have HB1 := Lib.hid hb1
  have hs1 := hb1.size
  obtain ⟨la, lcap, rfl⟩ := hx.1.slice
  rw [HTL.out] at hx ⊢
  have HX := Lib.hid hx.1
  clear hx hb1
  go_wp2_with fail
  go_loopw [3, 9] (fun o i wr => ∃ (t : Nat) (wq : World), wq = wr ∧ t ≤ L ∧ i = .int .i64 t ∧ RowT w1.heap.size wq.heap.size wq o (toB (nameL m t)) ∧ Below w1.heap.size w1 wq) (fun _ i _ => L - (intOf i).toNat)
  case atStart => exact ⟨0, _, rfl, Nat.zero_le _, rfl, rowT_nil _ _ _, Below.refl _ _⟩
  case round =>
    obtain ⟨t, wq, rfl, ht, rfl, hO, hbq⟩ := hrel
    have HBQ := Lib.hid hbq
    have hsq := hbq.size
    have HO := Lib.hid hO
    clear hbq hO
    have HBw := Lib.hid (HB1.out.trans (HBQ.out.mono hs1))
    by_cases hlt : t < L
    · have hlt' : decide (t < L) = true := decide_eq_true hlt
      have HXQ := Lib.hid (HX.out.same (SameIn.of_below HBQ.out (Nat.le_refl _)))
      obtain ⟨lb, hv, rfl, hcell, hrow⟩ := HXQ.out.rowI4 (j := t) (by rw [HTL.out]; exact hlt)
      have HPI' := Lib.hid (HPI.out t hlt)
      have HNP' := Lib.hid (HNP.out t)
      obtain ⟨ra, rn, rcap, rfl⟩ := hrow.slice3
      have HRW := Lib.hid hrow; clear hrow
      have h2 : toB (nameL m t) ++ [(⟨(nameP (partK m t)).toArray⟩ : ByteArray)] = toB (nameL m (t + 1)) := by
        rw [← HST.out t]; simp [toB]
      have H2 := Lib.hid h2; clear h2
      have hll : (toB (nameL m t)).length ≤ 4194304 := by
        have := HLL.out t
        simp [toB]; omega
      have HLE := Lib.hid hll; clear hll
      generalize partK m t = pk at *
      go_wp2_with fail
      refine (HPI'.out w1.heap.size _ wq HBw.out HRW.out.rowB hsq).mono ?_
      rintro e w4 ⟨y, rfl, hy, hb4⟩
      have HY := Lib.hid hy
      have HB4 := Lib.hid (HBQ.out.trans (hb4.mono hsq))
      have HO4 := Lib.hid (HO.out.step hb4)
      have HBw4 := Lib.hid (HBw.out.trans (hb4.mono (by omega)))
      have hs4 := hb4.size
      clear hy hb4 hcell
      go_wp2_with fail
      refine (HNP'.out _ y w4 HBw4.out HY.out.matB (Nat.le_refl _)).mono ?_
      rintro e w5 ⟨rfl, hb5⟩
      have HB5 := Lib.hid (HB4.out.trans (hb5.mono (by omega)))
      have HO5 := Lib.hid (HO4.out.step hb5)
      have hs5 := hb5.size
      clear hb5
      unfold strV
      generalize (⟨(nameP pk).toArray⟩ : ByteArray) = nb at *
      have hsw5 : w1.heap.size ≤ w5.heap.size := by omega
      go_wp2_with (at_builtin; go_must (refine append_str HO5.out hsw5 nb H2.out rfl rfl rfl rfl HLE.out ?_; intro v6 w6 hr6 hb6 hz6))
      have HR6 := Lib.hid hr6
      have HB6 := Lib.hid (hb6 w1 w1.heap.size (Nat.le_refl _) HB5.out)
      clear hr6 hb6 hz6
      exact ⟨⟨t + 1, _, rfl, by omega, by go_num, HR6.out, HB6.out⟩, by simp [intOf]; omega⟩
    · obtain rfl : t = L := by omega
      have hlt' : decide (t < t) = false := by simp
      have hlen : (toB (nameL m t)).length = t := by simp [toB]; exact HLL.out t
      obtain ⟨oa, ocap, rfl⟩ := HO.out.slice
      rw [hlen] at HO ⊢
      by_cases h0 : t = 0
      · subst h0
        rw [HE0.out] at HV
        have HV2 := Lib.hid HV.out
        go_wp2_with fail
        refine (Tryz.strings_Join_none _ _ _ _).mono ?_
        rintro e w7 ⟨rfl, rfl⟩
        go_wp2_with fail
        go_ret
        exact ⟨by rw [HV2.out]; rfl, HBw.out⟩
      · obtain ⟨g, rfl, hgB, _⟩ := HO.out.get (j := 0) (by rw [hlen]; omega)
        have hcells : ∀ (j : Nat) x, (toB (nameL m t))[j]? = some x → wq.cell? ⟨g, 0 + j, none⟩ = some (.string x) := fun j x hx => by
          obtain ⟨hj, he⟩ := List.getElem?_eq_some_iff.1 hx
          obtain ⟨g', hg', _, hc⟩ := HO.out.get (j := j) hj
          injection hg' with hg'
          injection hg' with hg'
          subst hg'
          rw [Nat.zero_add, hc, he]
        have hcap : t ≤ ocap := by
          rcases HO.out.1.2 with ⟨hq, _⟩ | ⟨g', cap', cur, hq, _, _, hnc, _⟩
          · cases hq
          · injection hq with _ _ hq3
            subst hq3
            rw [hlen] at hnc; exact hnc
        have hbytes : (toB (nameL m t)).map (·.data.toList) = nameL m t := by simp [toB, Function.comp_def]
        have hjoin : Lib.join ((toB (nameL m t)).map (·.data.toList)) [120] = nameS m t := by rw [hbytes]; exact HJO.out t (by omega)
        have hJ := Tryz.strings_Join g 0 ocap (toB (nameL m t)) ⟨#[120]⟩ wq hcells hgB (by rw [hlen]; omega) (by rw [hlen]; exact hcap)
        rw [show ((⟨#[120]⟩ : ByteArray).data.toList) = [120] from rfl, hjoin, hlen] at hJ
        have HJ := Lib.hid (hJ (by have := HNS.out t; omega))
        clear hJ hjoin hbytes hcells hcap
        have HVB := Lib.hid HV.out
        go_wp2_with fail
        refine HJ.out.mono ?_
        rintro e w7 ⟨rfl, hb7⟩
        have HB7 := Lib.hid (HBw.out.trans (hb7.mono HBw.out.size))
        clear hb7
        go_wp2_with fail
        go_ret
        exact ⟨by rw [HVB.out]; rfl, HB7.out⟩
end Go.Proofs.YtcmnkhblnlmfpaaGreatDoor
