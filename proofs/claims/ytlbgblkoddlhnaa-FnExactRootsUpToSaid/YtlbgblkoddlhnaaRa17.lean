/-
  Roots: lists of rows that may share their rows, and what the model's insertion returns.
-/
import Derived.Test.YtlbgblkoddlhnaaRa16
import Derived.Test.YtlbgblkoddlhnaaRa12
namespace Go.Proofs.Ytlbgblkoddlhnaa
open Go.RowKit

/-! ### Rows of the call's own whose headers lie in a block from B on, they themselves from A on; two may be one -/
def MatA (A B : Nat) (w : World) (v : Value) (m : List (List Int)) : Prop :=
  ∃ hs : List Value, w.ownsRow B 23 1 v m.length hs ∧ ∀ j (h : j < m.length), ∃ hv, hs[j]? = some hv ∧ RowI A w.heap.size w hv m[j]
theorem ownsRow_mono {A A' : Nat} {w : World} {e : TypeId} {v : Value} {n : Nat} {xs : List Value} (h : w.ownsRow A e 1 v n xs) (hA : A' ≤ A) : w.ownsRow A' e 1 v n xs := by
  refine ⟨h.1, ?_⟩
  rcases h.2 with h' | ⟨g, cap, cur, h3, h4, h5⟩
  · exact Or.inl h'
  · exact Or.inr ⟨g, cap, cur, h3, by omega, h5⟩
theorem matB_of {B A : Nat} {w : World} {v : Value} {m : List (List Int)} {hs : List Value} {C : Nat} (h1 : w.ownsRow C 23 1 v m.length hs) (h2 : ∀ g, v.ownBlock = some g → g < B) (h3 : ∀ j (h : j < m.length), ∃ hv, hs[j]? = some hv ∧ RowI A B w hv m[j]) : MatB B w v m := by
  rcases h1.2 with ⟨rfl, h0⟩ | ⟨g, cap, cur, rfl, hA, hg, hn, hc, hsz, ht⟩
  · exact Or.inl ⟨List.eq_nil_of_length_eq_zero h0, none, 0, rfl⟩
  · refine Or.inr ⟨g, 0, cap, rfl, h2 g rfl, fun j hj => ?_⟩
    obtain ⟨hv, h4, h5⟩ := h3 j hj
    exact ⟨hv, by rw [Nat.zero_add, h1.cellAt j (by omega)]; exact h4, h5.rowB⟩
theorem MatA.matB {A B : Nat} {w : World} {v : Value} {m : List (List Int)} (h : MatA A B w v m) : MatB w.heap.size w v m := by
  obtain ⟨hs, h1, h2⟩ := h
  exact matB_of h1 (fun g hg => (h1.lt g hg).2) h2
theorem MatA.step {A B : Nat} {w w' : World} {v : Value} {m : List (List Int)} (h : MatA A B w v m) (hb : Below w.heap.size w w') : MatA A B w' v m := by
  obtain ⟨hs, h1, h2⟩ := h
  refine ⟨hs, ownsRow_same h1 (fun g hg => (h1.lt g hg).2) (SameIn.of_below hb (Nat.le_refl _)), fun j hj => ?_⟩
  obtain ⟨hv, h3, h4⟩ := h2 j hj
  exact ⟨hv, h3, h4.step hb⟩
theorem MatA.mono {A B A' B' : Nat} {w : World} {v : Value} {m : List (List Int)} (h : MatA A B w v m) (hA : A' ≤ A) (hB : B' ≤ B) : MatA A' B' w v m := by
  obtain ⟨hs, h1, h2⟩ := h
  refine ⟨hs, ownsRow_mono h1 hB, fun j hj => ?_⟩
  obtain ⟨hv, h3, h4⟩ := h2 j hj
  exact ⟨hv, h3, h4.mono hA (Nat.le_refl _)⟩
theorem MatA.empty (A : Nat) (w : World) : MatA A w.heap.size (w.alloc (.cells #[] 23)) (.slice (some ⟨w.heap.size, 0, none⟩) 0 0) [] :=
  ⟨[], World.ownsRow_lit w #[] 0 (Nat.le_refl _) (by unfold maxLen; omega) rfl, fun j hj => by simp at hj⟩
theorem MatA.slice {A B : Nat} {w : World} {v : Value} {m : List (List Int)} (h : MatA A B w v m) : ∃ a cap, v = .slice a m.length cap := h.matB.slice
theorem MatA.rowA {A B : Nat} {w : World} {a : Option Addr} {n cap : Nat} {m : List (List Int)} (h : MatA A B w (.slice a n cap) m) {j : Nat} (hj : j < n) :
    ∃ g ra rcap, j < m.length ∧ a = some ⟨g, 0, none⟩ ∧ g < w.heap.size ∧ w.cell? ⟨g, j, none⟩ = some (.slice ra (m.getD j []).length rcap) ∧ RowI A w.heap.size w (.slice ra (m.getD j []).length rcap) (m.getD j []) := by
  obtain ⟨hs, h1, h2⟩ := h
  rcases h1.2 with ⟨h0, h9⟩ | ⟨g, cap', cur, h0, hA, hg, hn, hc, hsz, ht⟩
  · injection h0 with e1 e2 e3; omega
  · injection h0 with e1 e2 e3
    subst e1
    subst e2
    have hjl : j < m.length := by omega
    obtain ⟨hv, h3, h4⟩ := h2 j hjl
    have e := getD_row m j hjl
    obtain ⟨ra, rcap, rfl⟩ := h4.slice
    refine ⟨g, ra, rcap, hjl, rfl, (Array.getElem?_eq_some_iff.1 hg).1, ?_, by rw [e]; exact h4⟩
    have h9 := h1.cellAt j (show j < m.length * 1 by omega)
    rw [h9, e]; exact h3
/-- A list of rows that lie anywhere among the call's own blocks. -/
def OwnR (A B : Nat) (w : World) (v : Value) (m : List (List Int)) : Prop := (∀ w', SameIn A B w w' → MatB B w' v m) ∧ B ≤ w.heap.size
theorem OwnR.step {A B : Nat} {w w' : World} {v : Value} {m : List (List Int)} (h : OwnR A B w v m) (hb : Below w.heap.size w w') : OwnR A B w' v m :=
  ⟨fun w2 hs => h.1 w2 ((SameIn.of_below hb h.2).trans hs), Nat.le_trans h.2 hb.size⟩
theorem OwnR.only {A B C D : Nat} {w w' : World} {v : Value} {m : List (List Int)} (h : OwnR A B w v m) (ho : Only C D w w') (hd : B ≤ C ∨ D ≤ A) : OwnR A B w' v m :=
  ⟨fun w2 hs => h.1 w2 ((ho.sameIn hd).trans hs), by rw [ho.size]; exact h.2⟩
theorem OwnR.matB {A B : Nat} {w : World} {v : Value} {m : List (List Int)} (h : OwnR A B w v m) : MatB B w v m := h.1 w (SameIn.refl _ _ _)
theorem MatA.ownR {A : Nat} {w : World} {v : Value} {m : List (List Int)} (h : MatA A A w v m) : OwnR A w.heap.size w v m := by
  obtain ⟨hs, h1, h2⟩ := h
  refine ⟨fun w' hs' => matB_of (A := A) (ownsRow_same h1 (fun g hg => (h1.lt g hg).2) hs') (fun g hg => (h1.lt g hg).2) (fun j hj => ?_), Nat.le_refl _⟩
  obtain ⟨hv, h3, h4⟩ := h2 j hj
  exact ⟨hv, h3, h4.same hs'⟩
def MakesK (w : World) (m : List (List Int)) (e : Ending) (w' : World) : Prop := ∃ x, e = .returned x ∧ OwnR w.heap.size w'.heap.size w' x m ∧ Below w.heap.size w w'
def MakesK2 (w : World) (m : List (List Int)) (y : Value) (e : Ending) (w' : World) : Prop := ∃ x, e = .returned (.tuple #[x, y]) ∧ OwnR w.heap.size w'.heap.size w' x m ∧ Below w.heap.size w w'

theorem own_differ2 {w : World} {A A' : Nat} {u v : Value} {n n' : Nat} {xs ys : List Value} (h : w.ownsRow A 23 1 u n xs) (h' : w.ownsRow A' 3 1 v n' ys) : v.ownBlock = none ∨ v.ownBlock ≠ u.ownBlock := by
  rcases h'.2 with ⟨rfl, _⟩ | ⟨g', cap', cur', rfl, _, hg', _⟩
  · exact Or.inl rfl
  · right
    rcases h.2 with ⟨rfl, _⟩ | ⟨g, cap, cur, rfl, _, hg, _⟩
    · simp [Value.ownBlock]
    · intro e
      have e2 : g' = g := by simpa [Value.ownBlock] using e
      subst e2
      rw [hg] at hg'
      have := Option.some.inj hg'
      simp at this
      first | exact absurd this.2 (by decide) | skip
/-- 'out = append(out, row)': a row that lies anywhere among the call's own blocks. -/
theorem append_rowA {ops : Array Oper} {rest : List Oper} {o : Oper} {a : Act} {Q : Exit → Act → World → Prop} {s x : Operand} {A B : Nat} {v rv : Value} {m : List (List Int)} {l : List Int} {wr : World}
    (hM : MatA A B wr v m) (hr : RowI A wr.heap.size wr rv l) (hBw : B ≤ wr.heap.size) (hgd : o.guard = none)
    (ho : o.op = .call { callee := .builtin .append, args := #[s, x], argTypes := #[22, 22] }) (hs : a.eval s = v)
    (hx : a.eval x = .slice (some ⟨wr.heap.size, 0, none⟩) 1 1) (hlen : m.length ≤ 1048576)
    (h : ∀ v' w', MatA A B w' v' (m ++ [l]) → (∀ W C, C ≤ B → Below C W wr → Below C W w') → wr.heap.size ≤ w'.heap.size → wpList Try.prog ops Q rest (a.put o.dst v') w') :
    wpList Try.prog ops Q (o :: rest) a (wr.alloc (.cells #[rv] 23)) := by
  obtain ⟨hh, h1, h3⟩ := hM
  have hll : hh.length = m.length := by have := h1.1; omega
  obtain ⟨i0, hi, hz0, hz1, hz2⟩ := info_parts Try.infoRow
  have h1' : wr.ownsRow B 23 1 v hh.length hh := by rw [hll]; exact h1
  have hone : rv.oneCell' = true := by
    obtain ⟨ra, rcap, rfl⟩ := hr.slice
    rfl
  refine append_hdr hgd _ _ 22 ho B 23 i0 (.slice none 0 0) 24 Try.underlying22 hi hz0 hz1 hz2 rfl v hh rv hone wr hs h1' hx (by omega) (by omega) (by omega) ?_
  intro v' w' ho' hg
  refine h v' w' ⟨hh ++ [rv], ?_, fun j hj => ?_⟩ (fun W C hC hb => ?_) hg.size
  · rw [List.length_append, hll] at ho'
    rw [List.length_append]; exact ho'
  · rw [List.length_append] at hj
    rcases Nat.lt_or_ge j m.length with hjm | hjm
    · obtain ⟨hv, h4, h5⟩ := h3 j hjm
      refine ⟨hv, by rw [List.getElem?_append_left (by omega)]; exact h4, ?_⟩
      rw [List.getElem_append_left hjm]
      exact (h5.grown hg (own_differ2 h1 h5.1)).mono (Nat.le_refl _) hg.size
    · have hjm' : j = m.length := by simp at hj; omega
      subst hjm'
      refine ⟨rv, by rw [List.getElem?_append_right (by omega), hll]; simp, ?_⟩
      rw [List.getElem_append_right (Nat.le_refl _)]
      simp only [Nat.sub_self, List.getElem_singleton]
      exact (hr.grown hg (own_differ2 h1 hr.1)).mono (Nat.le_refl _) hg.size
  · exact hb.grown hg (by omega) (fun k hk => by have := (h1.lt k hk).1; omega)

theorem putK_no {L : List (List Int)} {r : List Int} {k : Nat} (hk : k < L.length) (h : (putK L r k).2 = true ∨ befB r (L.getD k []) = false) : putK L r (k + 1) = ((putK L r k).1 ++ [L.getD k []], (putK L r k).2) := by
  rw [putK_step hk]; unfold putF
  rw [if_neg]
  rintro ⟨h1, h2⟩
  rcases h with h | h
  · rw [h] at h1; exact absurd h1 (by simp)
  · rw [h] at h2; exact absurd h2 (by simp)
theorem putK_yes {L : List (List Int)} {r : List Int} {k : Nat} (hk : k < L.length) (h1 : (putK L r k).2 = false) (h2 : befB r (L.getD k []) = true) : putK L r (k + 1) = ((putK L r k).1 ++ [r] ++ [L.getD k []], true) := by
  rw [putK_step hk]; unfold putF
  rw [if_pos ⟨h1, h2⟩]
theorem getD_le {L : List (List Int)} {c : Nat} (h : ∀ x ∈ L, x.length ≤ c) (k : Nat) : (L.getD k []).length ≤ c := by
  rcases Nat.lt_or_ge k L.length with hk | hk
  · have e : L.getD k [] = L[k] := by simp [List.getD, hk]
    rw [e]; exact h _ (List.getElem_mem hk)
  · have e : L.getD k [] = [] := by simp [List.getD, hk]
    rw [e]; exact Nat.zero_le _

set_option maxHeartbeats 8000000 in
set_option maxRecDepth 100000 in
theorem puts_any (A B' : Nat) (v v' : Value) (L : List (List Int)) (r : List Int) (w : World) (h : MatA A A w v L) (h' : RowB B' w v' r) (hA : A ≤ w.heap.size) (hB' : B' ≤ w.heap.size) (hl : L.length ≤ 30000) (hf : ∀ x ∈ L, x.length ≤ 4) (hr : r.length ≤ 4) :
    Calls Try.prog 61 #[v, v'] w fun e w' => ∃ x, e = .returned x ∧ MatA A w.heap.size w' x (putR L r) ∧ Below w.heap.size w w' := by
  have HRB := Lib.hid h'
  have HBF := Lib.hid (fun (k : Nat) (y : Value) (wx : World) (hb : Below w.heap.size w wx) (hy : RowB wx.heap.size wx y (L.getD k [])) => befs_any B' wx.heap.size v' y r (L.getD k []) wx (h'.below hb hB') hy (by unfold maxLen; omega) (by have := getD_le hf k; unfold maxLen; omega))
  obtain ⟨a, cap, rfl⟩ := h.slice
  obtain ⟨a', cap', rfl⟩ := h'.slice
  have HL := Lib.hid h
  have HNO := Lib.hid (fun k (hk : k < L.length) h => putK_no (L := L) (r := r) hk h)
  have HYS := Lib.hid (fun k (hk : k < L.length) h1 h2 => putK_yes (L := L) (r := r) hk h1 h2)
  have HLE := Lib.hid (fun k (hk : k ≤ L.length) => putK_len L r k hk)
  have HEN := Lib.hid (putK_end L r)
  have HRL := Lib.hid (show ([] : List Int).length + r.length ≤ 4194304 by simp; omega)
  clear h h' hf
  generalize putR L r = R at *
  generalize hn : L.length = n at *
  have HN := Lib.hid hn
  generalize hrn : r.length = rn at *
  have HRN := Lib.hid hrn
  clear hn hrn
  go_enter Try.func61, Try.ntmps61
  go_wp2_with fail
  go_loopw [5, 6, 7] (fun o p i wr => ∃ (k : Nat) (wq : World), wq = wr ∧ k ≤ n ∧ i = .int .i64 k ∧ p = .bool (putK L r k).2 ∧ MatA A w.heap.size wq o (putK L r k).1 ∧ Below w.heap.size w wq) (fun _ _ i _ => n - (intOf i).toNat)
  case atStart => exact ⟨0, _, rfl, Nat.zero_le _, rfl, rfl, MatA.empty A w, (Below.refl _ _).alloc (Nat.le_refl _) _⟩
  case round =>
    obtain ⟨k, wq, rfl, hk, rfl, rfl, hM, hb⟩ := hrel
    have hsq := hb.size
    have HM := Lib.hid hM
    have HB := Lib.hid hb
    have hlen : (putK L r k).1.length ≤ 30001 := by have := HLE.out k hk; omega
    by_cases hlt : k < n
    · have hlt' : decide (k < n) = true := decide_eq_true hlt
      obtain ⟨g, ra, rcap, hkl, rfl, hg, hc0, hrow0⟩ := HL.out.rowA hlt
      have HROW0 := Lib.hid hrow0
      have HC0 := Lib.hid hc0
      have HROW := Lib.hid (hrow0.step hb)
      have hc := (hb.cell (p := ⟨g, k, none⟩) hg).trans hc0
      have HBQ := Lib.hid (HBF.out k _ wq hb HROW.out.rowB)
      have HNK := Lib.hid (HNO.out k hlt); have HYK := Lib.hid (HYS.out k hlt)
      clear hM hb hrow0 hc0 HBF
      generalize L.getD k [] = x at *
      generalize befB r x = bb at *
      generalize hxn : x.length = xn at *
      have HXN := Lib.hid hxn; clear hxn
      generalize (putK L r k).2 = p at *
      generalize (putK L r k).1 = O at *
      cases p with
      | true =>
        have HE := Lib.hid (HNK.out (Or.inl rfl))
        clear HNK HYK HBQ
        have hO : O.length ≤ 1048576 := by omega
        have HO := Lib.hid hO; clear hO
        go_wp2_with (at_builtin; go_must (refine append_rowA HM.out HROW.out hsq rfl rfl rfl rfl HO.out ?_))
        intro v5 w5 hm5 hb5 hz5
        have HM5 := Lib.hid hm5
        have HB5 := Lib.hid (hb5 w w.heap.size (Nat.le_refl _) HB.out)
        clear hm5 hb5 hz5
        go_wp2_with fail
        exact ⟨⟨k + 1, _, rfl, by omega, by go_num, by rw [HE.out], by rw [HE.out]; exact HM5.out, HB5.out⟩, by simp [intOf]; omega⟩
      | false =>
        cases bb with
        | false =>
          have HE := Lib.hid (HNK.out (Or.inr rfl))
          clear HNK HYK
          have hO : O.length ≤ 1048576 := by omega
          have HO := Lib.hid hO; clear hO
          go_wp2_with fail
          refine HBQ.out.mono ?_
          rintro e w1 ⟨rfl, q, rfl⟩
          have HMQ := Lib.hid (HM.out.step (below_drewN q))
          have HRQ := Lib.hid (HROW.out.step (below_drewN q))
          have HBB := Lib.hid (HB.out.trans ((below_drewN (w := wq) q).mono hsq))
          have hsq' : w.heap.size ≤ (wq.drewN q).heap.size := hsq
          go_wp2_with (at_builtin; go_must (refine append_rowA HMQ.out HRQ.out hsq' rfl rfl rfl rfl HO.out ?_))
          intro v5 w5 hm5 hb5 hz5
          have HM5 := Lib.hid hm5
          have HB5 := Lib.hid (hb5 w w.heap.size (Nat.le_refl _) HBB.out)
          clear hm5 hb5 hz5
          go_wp2_with fail
          exact ⟨⟨k + 1, _, rfl, by omega, by go_num, by rw [HE.out], by rw [HE.out]; exact HM5.out, HB5.out⟩, by simp [intOf]; omega⟩
        | true =>
          have HE := Lib.hid (HYK.out rfl rfl)
          clear HNK HYK
          have hO : O.length ≤ 1048576 := by omega
          have HO := Lib.hid hO; clear hO
          have hO2 : (O ++ [r]).length ≤ 1048576 := by rw [List.length_append]; simp; omega
          have HO2 := Lib.hid hO2; clear hO2
          go_wp2_with fail
          refine HBQ.out.mono ?_
          rintro e w1 ⟨rfl, q, rfl⟩
          obtain ⟨wq2, hwq2⟩ : ∃ wq2, wq2 = wq.drewN q := ⟨_, rfl⟩
          have HMQ : Hid (MatA A w.heap.size wq2 _ O) := Lib.hid (by rw [hwq2]; exact HM.out.step (below_drewN q))
          have HBB : Hid (Below w.heap.size w wq2) := Lib.hid (by rw [hwq2]; exact HB.out.trans ((below_drewN (w := wq) q).mono hsq))
          have hsq2 : w.heap.size ≤ wq2.heap.size := HBB.out.size
          rw [← hwq2]
          clear hwq2 hc
          have hrow1 : RowB B' (wq2.alloc (.cells #[] 3)) (.slice a' rn cap') r := HRB.out.below (HBB.out.alloc hsq2 _) hB'
          have HROW1 := Lib.hid hrow1
          have hq1 : wq2.heap.size ≤ (wq2.alloc (.cells #[] 3)).heap.size := by simp
          clear hrow1
          go_wp2_with (at_builtin; go_must (refine append_intsA (row_empty wq2) hq1 HROW1.out (by rw [HRN.out]; exact HRL.out) rfl rfl rfl rfl ?_))
          intro v3 w3 hr3 hb3 hz3
          have hr3 : RowI wq2.heap.size w3.heap.size w3 v3 r := by simpa using hr3
          have hb3' := hb3 wq2 wq2.heap.size (Nat.le_refl _) ((Below.refl _ _).alloc (Nat.le_refl _) _)
          obtain ⟨xa, xn2, xc, rfl⟩ := hr3.slice3
          have HR3 := Lib.hid (hr3.mono (by omega : A ≤ wq2.heap.size) (Nat.le_refl _))
          have HM3 := Lib.hid (HMQ.out.step hb3')
          have HB4 := Lib.hid (HBB.out.trans (hb3'.mono hsq2))
          have hs4 : w.heap.size ≤ w3.heap.size := HB4.out.size
          clear hb3 hz3 hr3 hb3'
          go_wp2_with (at_builtin; go_must (refine append_rowA HM3.out HR3.out hs4 rfl rfl rfl rfl HO.out ?_))
          intro v5 w5 hm5 hb5 hz5
          have HM5 := Lib.hid hm5
          have HB5 := Lib.hid (hb5 w w.heap.size (Nat.le_refl _) HB4.out)
          have hs5 : w.heap.size ≤ w5.heap.size := HB5.out.size
          have HX5 := Lib.hid (HROW0.out.step HB5.out)
          have hc5 := (HB5.out.cell (p := ⟨g, k, none⟩) hg).trans HC0.out
          clear hm5 hb5 hz5
          go_wp2_with (at_builtin; go_must (refine append_rowA HM5.out HX5.out hs5 rfl rfl rfl rfl HO2.out ?_))
          intro v6 w6 hm6 hb6 hz6
          have HM6 := Lib.hid hm6
          have HB6 := Lib.hid (hb6 w w.heap.size (Nat.le_refl _) HB5.out)
          clear hm6 hb6 hz6
          go_wp2_with fail
          exact ⟨⟨k + 1, _, rfl, by omega, by go_num, by rw [HE.out], by rw [HE.out]; simpa using HM6.out, HB6.out⟩, by simp [intOf]; omega⟩
    · obtain rfl : k = n := by omega
      have hlt' : decide (k < k) = false := by simp
      clear hM hb HNO HYS HLE HBF
      generalize (putK L r k).2 = p at *
      generalize (putK L r k).1 = O at *
      cases p with
      | true =>
        have HV := Lib.hid (show O = R from by have := HEN.out; simpa using this)
        clear HEN
        go_wp2_with fail
        go_ret
        exact ⟨_, rfl, by rw [← HV.out]; exact HM.out, HB.out⟩
      | false =>
        have HV := Lib.hid (show O ++ [r] = R from by have := HEN.out; simpa using this)
        clear HEN
        have HO := Lib.hid (show O.length ≤ 1048576 by omega)
        have hrow1 : RowB B' (wq.alloc (.cells #[] 3)) (.slice a' rn cap') r := HRB.out.below (HB.out.alloc hsq _) hB'
        have HROW1 := Lib.hid hrow1
        have hq1 : wq.heap.size ≤ (wq.alloc (.cells #[] 3)).heap.size := by simp
        clear hrow1
        go_wp2_with (at_builtin; go_must (refine append_intsA (row_empty wq) hq1 HROW1.out (by rw [HRN.out]; exact HRL.out) rfl rfl rfl rfl ?_))
        intro v3 w3 hr3 hb3 hz3
        have hr3 : RowI wq.heap.size w3.heap.size w3 v3 r := by simpa using hr3
        have hb3' := hb3 wq wq.heap.size (Nat.le_refl _) ((Below.refl _ _).alloc (Nat.le_refl _) _)
        obtain ⟨xa, xn2, xc, rfl⟩ := hr3.slice3
        have HR3 := Lib.hid (hr3.mono (by omega : A ≤ wq.heap.size) (Nat.le_refl _))
        have HM3 := Lib.hid (HM.out.step hb3')
        have HB4 := Lib.hid (HB.out.trans (hb3'.mono hsq))
        have hs4 : w.heap.size ≤ w3.heap.size := HB4.out.size
        clear hb3 hz3 hr3 hb3'
        go_wp2_with (at_builtin; go_must (refine append_rowA HM3.out HR3.out hs4 rfl rfl rfl rfl HO.out ?_))
        intro v5 w5 hm5 hb5 hz5
        have HM5 := Lib.hid hm5
        have HB5 := Lib.hid (hb5 w w.heap.size (Nat.le_refl _) HB4.out)
        clear hm5 hb5 hz5
        go_wp2_with fail
        go_ret
        exact ⟨_, rfl, by rw [← HV.out]; exact HM5.out, HB5.out⟩
end Go.Proofs.Ytlbgblkoddlhnaa
