/-
  Braid moves: what the model's BraidAt, BraidPlaces and its ordered list answer (no walk here).
  Roots: what the model's SimpleRoot and WeightOfRoot return.
  Roots: lists of rows that may share their rows, and what the model's insertion returns.
  Roots: what the model's RootsUpTo returns.
-/
import Derived.Test.YtnlbmnielemgiaaFl34
import Derived.Test.YtnlbmnielemgiaaFl16
import Derived.Test.YtnlbmnielemgiaaFl09
import Derived.Deep.QuietTactic
namespace Go.Proofs.Ytnlbmnielemgiaa
open Go.RowKit

noncomputable def brN (m : List (List Int)) (q : List Int) (at_ : Nat) : Int := bond m (q.getD at_ 0) (q.getD (at_ + 1) 0)
/-- A braid move is possible. -/
def BrOk (m : List (List Int)) (q : List Int) (at_ : Int) : Prop :=
  IsW m q ∧ (0 ≤ at_ ∧ at_ ≤ (q.length : Int) - 2) ∧ q.getD at_.toNat 0 ≠ q.getD (at_.toNat + 1) 0 ∧ (2 ≤ brN m q at_.toNat ∧ brN m q at_.toNat ≤ (q.length : Int) - at_) ∧ (q.drop at_.toNat).take (brN m q at_.toNat).toNat = altL (q.getD at_.toNat 0) (q.getD (at_.toNat + 1) 0) (brN m q at_.toNat)
/-- What comes of it. -/
noncomputable def brV (m : List (List Int)) (q : List Int) (t : Nat) : List Int := q.take t ++ altL (q.getD (t + 1) 0) (q.getD t 0) (brN m q t) ++ q.drop (t + (brN m q t).toNat)
open Classical in
noncomputable def brB (m : List (List Int)) (q : List Int) (at_ : Int) : Bool := decide (BrOk m q at_)
noncomputable def brL (m : List (List Int)) (q : List Int) (at_ : Int) : List Int := if brB m q at_ = true then brV m q at_.toNat else q
open Classical in
theorem brB_yes {m : List (List Int)} {q : List Int} {a : Int} (h : BrOk m q a) : brB m q a = true := decide_eq_true h
open Classical in
theorem brB_no {m : List (List Int)} {q : List Int} {a : Int} (h : ¬ BrOk m q a) : brB m q a = false := decide_eq_false h
open Classical in
theorem brB_ok {m : List (List Int)} {q : List Int} {a : Int} (h : brB m q a = true) : BrOk m q a := of_decide_eq_true h
theorem brL_yes {m : List (List Int)} {q : List Int} {a : Int} (h : BrOk m q a) : brL m q a = brV m q a.toNat := if_pos (brB_yes h)
theorem brL_no {m : List (List Int)} {q : List Int} {a : Int} (h : ¬ BrOk m q a) : brL m q a = q := by unfold brL; rw [brB_no h]; rfl
theorem bondP_low (p : Int) : bondP p ≤ 6 := by unfold bondP; split; omega; split; omega; split; omega; split <;> omega
theorem bond_low (m : List (List Int)) (i j : Int) : bond m i j ≤ 6 := by
  unfold bond
  split
  · split
    · omega
    · exact bondP_low _
  · omega
theorem bond_up (m : List (List Int)) (i j : Int) : -1 ≤ bond m i j := by
  unfold bond
  split
  · split
    · omega
    · unfold bondP; split; omega; split; omega; split; omega; split <;> omega
  · omega
/-! ### The element is kept -/
theorem altK_succ (i j : Int) (k : Nat) : altK i j (k + 1) = i :: altK j i k := by
  unfold altK
  rw [List.range_succ_eq_map, List.map_cons, List.map_map]
  rw [if_pos (show 0 % 2 = 0 from rfl)]
  refine congrArg (List.cons i) (List.map_congr_left fun t _ => ?_)
  simp only [Function.comp]
  have h := Nat.mod_two_eq_zero_or_one t
  rcases h with h | h
  · rw [if_neg (by omega), if_pos h]
  · rw [if_pos (by omega), if_neg (by omega)]
theorem natsW_altK : ∀ (k : Nat) (i j : Nat), natsW (altK (i : Int) (j : Int) k) = altN i j k
  | 0, _, _ => rfl
  | k + 1, i, j => by
    rw [altK_succ]
    show (i : Int).toNat :: natsW (altK (j : Int) (i : Int) k) = i :: altN j i k
    rw [natsW_altK k j i]; rfl
theorem altL_le (i j n : Int) : (altL i j n).length ≤ 15 := by unfold altL; rw [altK_len]; exact Nat.min_le_right _ _
theorem altL_altK (i j : Int) {n : Int} (h0 : 0 ≤ n) (h15 : n ≤ 15) : altL i j n = altK i j n.toNat := by
  unfold altL; rw [Nat.min_eq_left (by omega)]
theorem getD_nat {n : Nat} {q : List Int} (hq : LetTo n q q.length) {t : Nat} (ht : t < q.length) : ∃ i : Nat, q.getD t 0 = (i : Int) ∧ i < n := by
  have := hq t ht
  exact ⟨(q.getD t 0).toNat, by omega, by omega⟩
/-- The words of the same element with as many letters. -/
def GoodW (m : List (List Int)) (x q : List Int) : Prop := IsW m q ∧ q.length = x.length ∧ imgW m q = imgW m x
/-- The parts of a word at a braid move. -/
theorem br_parts {m : List (List Int)} {q : List Int} {a : Int} (h : BrOk m q a) : ∃ (t i k p : Nat), a = (t : Int) ∧ i < m.length ∧ k < m.length ∧ i ≠ k ∧ relN (entry m i k * entry m k i) p ∧ brN m q t = (p : Int) ∧ t + p ≤ q.length ∧ q = q.take t ++ altK (i : Int) (k : Int) p ++ q.drop (t + p) ∧ brV m q t = q.take t ++ altK (k : Int) (i : Int) p ++ q.drop (t + p) := by
  obtain ⟨hW, ⟨h0, h1⟩, hne, ⟨h2, h3⟩, h4⟩ := h
  obtain ⟨t, rfl⟩ := Int.eq_ofNat_of_zero_le h0
  simp only [Int.toNat_natCast] at hne h2 h3 h4
  obtain ⟨i, e1, hi⟩ := getD_nat hW.1 (show t < q.length by omega)
  obtain ⟨k, e2, hk⟩ := getD_nat hW.1 (show t + 1 < q.length by omega)
  have hik : i ≠ k := fun e => hne (by rw [e1, e2, e])
  have hb : brN m q t = bondP (entry m i k * entry m k i) := by unfold brN; rw [e1, e2]; exact bond_ne hW.2.1 hi hk hik
  obtain ⟨p, hp⟩ : ∃ p : Nat, brN m q t = (p : Int) := Int.eq_ofNat_of_zero_le (by omega)
  have hr : relN (entry m i k * entry m k i) p := by
    rw [hp] at hb
    unfold bondP at hb
    unfold relN
    split at hb
    · rename_i h; exact Or.inl ⟨h, by omega⟩
    · split at hb
      · rename_i h; exact Or.inr (Or.inl ⟨h, by omega⟩)
      · split at hb
        · rename_i h; exact Or.inr (Or.inr (Or.inl ⟨h, by omega⟩))
        · split at hb
          · rename_i h; exact Or.inr (Or.inr (Or.inr ⟨h, by omega⟩))
          · omega
  have hp6 : p ≤ 6 := by unfold relN at hr; omega
  rw [hp] at h2 h3 h4
  simp only [Int.toNat_natCast] at h4
  rw [e1, e2, altL_altK _ _ (by omega) (by omega), Int.toNat_natCast] at h4
  refine ⟨t, i, k, p, rfl, hi, hk, hik, hr, hp, by omega, ?_, ?_⟩
  · rw [← h4, List.append_assoc]
    have : q.drop (t + p) = (q.drop t).drop p := by rw [List.drop_drop]
    rw [this, List.take_append_drop, List.take_append_drop]
  · unfold brV
    rw [hp, e1, e2, altL_altK _ _ (by omega) (by omega), Int.toNat_natCast]
theorem letTo_mem {n : Nat} {a : List Int} (h : ∀ x ∈ a, 0 ≤ x ∧ x ≤ (n : Int) - 1) : LetTo n a a.length := fun j hj => by
  have e : a.getD j 0 = a[j] := by simp [List.getD, hj]
  rw [e]; exact h _ (List.getElem_mem hj)
theorem mem_letTo {n : Nat} {a : List Int} (h : LetTo n a a.length) {x : Int} (hx : x ∈ a) : 0 ≤ x ∧ x ≤ (n : Int) - 1 := by
  obtain ⟨j, hj, rfl⟩ := List.getElem_of_mem hx
  have e : a.getD j 0 = a[j] := by simp [List.getD, hj]
  have := h j hj
  rw [e] at this; exact this
theorem altK_mem {i j x : Int} {k : Nat} (h : x ∈ altK i j k) : x = i ∨ x = j := by
  unfold altK at h
  obtain ⟨t, _, e⟩ := List.mem_map.1 h
  by_cases ht : t % 2 = 0
  · rw [if_pos ht] at e; exact Or.inl e.symm
  · rw [if_neg ht] at e; exact Or.inr e.symm
theorem br_good {m : List (List Int)} {x q : List Int} {a : Int} (hG : GoodW m x q) (h : BrOk m q a) : GoodW m x (brL m q a) := by
  rw [brL_yes h]
  obtain ⟨t, i, k, p, rfl, hi, hk, hik, hr, hp, hle, eq, ev⟩ := br_parts h
  obtain ⟨hW, hl, hm⟩ := hG
  rw [Int.toNat_natCast]
  have hlen : (brV m q t).length = q.length := by
    have := congrArg List.length eq
    rw [ev]
    simp only [List.length_append, altK_len] at this ⊢
    omega
  have hlet : LetTo m.length (brV m q t) (brV m q t).length := letTo_mem fun y hy => by
    rw [ev] at hy
    rcases List.mem_append.1 hy with hy | hy
    · rcases List.mem_append.1 hy with hy | hy
      · exact mem_letTo hW.1 (List.mem_of_mem_take hy)
      · rcases altK_mem hy with e | e <;> omega
    · exact mem_letTo hW.1 (List.mem_of_mem_drop hy)
  have hWv : IsW m (brV m q t) := ⟨hlet, hW.2.1, by rw [hlen]; exact hW.2.2⟩
  refine ⟨hWv, by rw [hlen]; exact hl, ?_⟩
  rw [← hm]
  have g := gcm_of hW.2.1
  have h1 := (imgN_vec hW.2.1 (natsW (brV m q t)) (natsW_in hlet) (by rw [natsW_len]; have := hWv.2.2; omega)).1
  have h2 := (imgN_vec hW.2.1 (natsW q) (natsW_in hW.1) (by rw [natsW_len]; have := hW.2.2; omega)).1
  rw [← imgW_nats] at h1 h2
  refine vecW_inj (by rw [imgW_len, imgW_len]) ?_
  rw [h1, h2]
  show mapN (entry m) (natsW (brV m q t)) onesV = mapN (entry m) (natsW q) onesV
  conv => rhs; rw [eq]
  rw [ev]
  rw [natsW_append, natsW_append, natsW_append, natsW_append, natsW_altK, natsW_altK]
  rw [mapN_append, mapN_append, mapN_append, mapN_append, braid_map g hi hk hik hr]
/-! ### The least word -/
theorem lexLe_cmp : ∀ {a b : List Nat}, a.length = b.length → lexLe a b → cmpL (a.map fun (i : Nat) => (i : Int)) (b.map fun (i : Nat) => (i : Int)) ≤ 0
  | [], [], _, _ => by simp [cmpL]
  | [], _ :: _, h, _ => by simp at h
  | _ :: _, [], h, _ => by simp at h
  | x :: a, y :: b, h, hl => by
    simp only [List.map_cons, cmpL]
    rcases hl with hl | ⟨rfl, hl⟩
    · split
      · omega
      · split <;> omega
    · have ih := lexLe_cmp (by simpa using h) hl
      simpa using ih
theorem good_red {m : List (List Int)} {ws q : List Int} (hW : IsW m ws) (hG : GoodW m (nrmL m ws) q) : Len m.length (entry m) (natsW q) (natsW q).length := by
  have h := nrm_len hG.1
  have e : nrmL m q = nrmL m ws := by rw [nrmL_yes hG.1, hG.2.2, nrm_img hW, ← nrmL_yes hW]
  rw [e, ← hG.2.1] at h
  rw [natsW_len]; exact h
theorem good_least {m : List (List Int)} {ws q : List Int} (hW : IsW m ws) (hG : GoodW m (nrmL m ws) q) : cmpW (nrmL m ws) q ≤ 0 := by
  rw [cmpW_eq hG.2.1.symm]
  have h15 := hG.1.2.2
  have hv := (imgN_vec hW.2.1 (natsW q) (natsW_in hG.1.1) (by rw [natsW_len]; omega)).1
  rw [← imgW_nats, hG.2.2, nrm_img hW] at hv
  have h := form_least hW.2.1 (natsW q) 31 (imgW m ws) (natsW_in hG.1.1) (by rw [natsW_len]; omega) (by rw [natsW_len]; omega) (imgW_len m ws) hv (good_red hW hG)
  have e1 : nrmL m ws = (formN m 31 (imgW m ws)).map fun (i : Nat) => (i : Int) := nrmL_yes hW
  have e2 : q = (natsW q).map fun (i : Nat) => (i : Int) := by
    unfold natsW
    rw [List.map_map]
    refine (List.map_id q).symm.trans (List.map_congr_left fun y hy => ?_)
    have := mem_letTo hG.1.1 hy
    simp only [id, Function.comp]
    omega
  have hl : (formN m 31 (imgW m ws)).length = (natsW q).length := by
    have := hG.2.1
    rw [e1, List.length_map] at this
    rw [natsW_len]; exact this.symm
  rw [e1]
  conv => lhs; rw [e2]
  exact lexLe_cmp hl h
theorem good_self {m : List (List Int)} {ws : List Int} (hW : IsW m ws) : GoodW m (nrmL m ws) (nrmL m ws) := ⟨nrm_word hW, rfl, rfl⟩
theorem RowI.roomB {A B b n cap : Nat} {w : World} {l : List Int} (h : RowI A B w (.slice (some ⟨b, 0, none⟩) n cap) l) (_hn : l.length = n) : n ≤ cap := by
  rcases h.1.2 with ⟨h', _⟩ | ⟨g, cap', cur, h', _, _, h2, _⟩
  · simp at h'
  · simp only [Value.slice.injEq, Option.some.injEq, Addr.mk.injEq, and_true] at h'
    omega
end Go.Proofs.Ytnlbmnielemgiaa
namespace Go.Proofs.Ytnlbmnielemgiaa
open Go.RowKit

theorem unit_new (w1 : World) (n k : Nat) (hn : n ≤ 1048576) : RowI w1.heap.size (w1.alloc (.cells ((intsV (zerosR n)).set k (.int .i64 1)).toArray 3)).heap.size (w1.alloc (.cells ((intsV (zerosR n)).set k (.int .i64 1)).toArray 3)) (.slice (some ⟨w1.heap.size, 0, none⟩) n n) (unitR n k) := by
  have e : (intsV (zerosR n)).set k (.int .i64 1) = intsV (unitR n k) := by rw [intsV_set]; rfl
  have hl : (unitR n k).length = n := unitR_len n k
  rw [e]
  refine ⟨by rw [hl]; exact World.ownsRow_lit (base := w1.heap.size) (e := 3) (size := 1) w1 (intsV (unitR n k)).toArray n (Nat.le_refl _) (by unfold maxLen; omega) (by simp [intsV, hl]), fun g hg => ?_⟩
  have : w1.heap.size = g := by simpa [Value.ownBlock] using hg
  simp; omega
end Go.Proofs.Ytnlbmnielemgiaa
namespace Go.Proofs.Ytnlbmnielemgiaa
open Go.RowKit

/-! ### Rows of the call's own whose headers lie in a block from B on, they themselves from A on; two may be one -/
def MatA (A B : Nat) (w : World) (v : Value) (m : List (List Int)) : Prop :=
  ∃ hs : List Value, w.ownsRow B 25 1 v m.length hs ∧ ∀ j (h : j < m.length), ∃ hv, hs[j]? = some hv ∧ RowI A w.heap.size w hv m[j]
theorem ownsRow_mono {A A' : Nat} {w : World} {e : TypeId} {v : Value} {n : Nat} {xs : List Value} (h : w.ownsRow A e 1 v n xs) (hA : A' ≤ A) : w.ownsRow A' e 1 v n xs := by
  refine ⟨h.1, ?_⟩
  rcases h.2 with h' | ⟨g, cap, cur, h3, h4, h5⟩
  · exact Or.inl h'
  · exact Or.inr ⟨g, cap, cur, h3, by omega, h5⟩
theorem matB_of {B A : Nat} {w : World} {v : Value} {m : List (List Int)} {hs : List Value} {C : Nat} (h1 : w.ownsRow C 25 1 v m.length hs) (h2 : ∀ g, v.ownBlock = some g → g < B) (h3 : ∀ j (h : j < m.length), ∃ hv, hs[j]? = some hv ∧ RowI A B w hv m[j]) : MatB B w v m := by
  rcases h1.2 with ⟨rfl, h0⟩ | ⟨g, cap, cur, rfl, hA, hg, hn, hc, hsz, ht⟩
  · exact Or.inl ⟨List.eq_nil_of_length_eq_zero h0, none, 0, rfl⟩
  · refine Or.inr ⟨g, 0, cap, rfl, h2 g rfl, fun j hj => ?_⟩
    obtain ⟨hv, h4, h5⟩ := h3 j hj
    exact ⟨hv, by rw [Nat.zero_add, h1.cellAt j (by omega)]; exact h4, h5.rowB⟩
theorem MatA.matB {A B : Nat} {w : World} {v : Value} {m : List (List Int)} (h : MatA A B w v m) : MatB w.heap.size w v m := by
  obtain ⟨hs, h1, h2⟩ := h
  exact matB_of h1 (fun g hg => (h1.lt g hg).2) h2
theorem MatA.step {A B : Nat} {w w' : World} {v : Value} {m : List (List Int)} (h : MatA A B w v m) (hb : Below w.heap.size w w') : MatA A B w' v m := by
  obtain ⟨hs, h1, h2⟩ := h
  refine ⟨hs, ownsRow_same h1 (fun g hg => (h1.lt g hg).2) (SameIn.of_below hb (Nat.le_refl _)), fun j hj => ?_⟩
  obtain ⟨hv, h3, h4⟩ := h2 j hj
  exact ⟨hv, h3, h4.step hb⟩
theorem MatA.mono {A B A' B' : Nat} {w : World} {v : Value} {m : List (List Int)} (h : MatA A B w v m) (hA : A' ≤ A) (hB : B' ≤ B) : MatA A' B' w v m := by
  obtain ⟨hs, h1, h2⟩ := h
  refine ⟨hs, ownsRow_mono h1 hB, fun j hj => ?_⟩
  obtain ⟨hv, h3, h4⟩ := h2 j hj
  exact ⟨hv, h3, h4.mono hA (Nat.le_refl _)⟩
theorem MatA.empty (A : Nat) (w : World) : MatA A w.heap.size (w.alloc (.cells #[] 25)) (.slice (some ⟨w.heap.size, 0, none⟩) 0 0) [] :=
  ⟨[], World.ownsRow_lit w #[] 0 (Nat.le_refl _) (by unfold maxLen; omega) rfl, fun j hj => by simp at hj⟩
theorem MatA.slice {A B : Nat} {w : World} {v : Value} {m : List (List Int)} (h : MatA A B w v m) : ∃ a cap, v = .slice a m.length cap := h.matB.slice
theorem MatA.rowA {A B : Nat} {w : World} {a : Option Addr} {n cap : Nat} {m : List (List Int)} (h : MatA A B w (.slice a n cap) m) {j : Nat} (hj : j < n) :
    ∃ g ra rcap, j < m.length ∧ a = some ⟨g, 0, none⟩ ∧ g < w.heap.size ∧ w.cell? ⟨g, j, none⟩ = some (.slice ra (m.getD j []).length rcap) ∧ RowI A w.heap.size w (.slice ra (m.getD j []).length rcap) (m.getD j []) := by
  obtain ⟨hs, h1, h2⟩ := h
  rcases h1.2 with ⟨h0, h9⟩ | ⟨g, cap', cur, h0, hA, hg, hn, hc, hsz, ht⟩
  · injection h0 with e1 e2 e3; omega
  · injection h0 with e1 e2 e3
    subst e1
    subst e2
    have hjl : j < m.length := by omega
    obtain ⟨hv, h3, h4⟩ := h2 j hjl
    have e := getD_row m j hjl
    obtain ⟨ra, rcap, rfl⟩ := h4.slice
    refine ⟨g, ra, rcap, hjl, rfl, (Array.getElem?_eq_some_iff.1 hg).1, ?_, by rw [e]; exact h4⟩
    have h9 := h1.cellAt j (show j < m.length * 1 by omega)
    rw [h9, e]; exact h3
/-- A list of rows that lie anywhere among the call's own blocks. -/
def OwnR (A B : Nat) (w : World) (v : Value) (m : List (List Int)) : Prop := (∀ w', SameIn A B w w' → MatB B w' v m) ∧ B ≤ w.heap.size
theorem OwnR.step {A B : Nat} {w w' : World} {v : Value} {m : List (List Int)} (h : OwnR A B w v m) (hb : Below w.heap.size w w') : OwnR A B w' v m :=
  ⟨fun w2 hs => h.1 w2 ((SameIn.of_below hb h.2).trans hs), Nat.le_trans h.2 hb.size⟩
theorem OwnR.only {A B C D : Nat} {w w' : World} {v : Value} {m : List (List Int)} (h : OwnR A B w v m) (ho : Only C D w w') (hd : B ≤ C ∨ D ≤ A) : OwnR A B w' v m :=
  ⟨fun w2 hs => h.1 w2 ((ho.sameIn hd).trans hs), by rw [ho.size]; exact h.2⟩
theorem OwnR.matB {A B : Nat} {w : World} {v : Value} {m : List (List Int)} (h : OwnR A B w v m) : MatB B w v m := h.1 w (SameIn.refl _ _ _)
theorem MatA.ownR {A : Nat} {w : World} {v : Value} {m : List (List Int)} (h : MatA A A w v m) : OwnR A w.heap.size w v m := by
  obtain ⟨hs, h1, h2⟩ := h
  refine ⟨fun w' hs' => matB_of (A := A) (ownsRow_same h1 (fun g hg => (h1.lt g hg).2) hs') (fun g hg => (h1.lt g hg).2) (fun j hj => ?_), Nat.le_refl _⟩
  obtain ⟨hv, h3, h4⟩ := h2 j hj
  exact ⟨hv, h3, h4.same hs'⟩
def MakesK (w : World) (m : List (List Int)) (e : Ending) (w' : World) : Prop := ∃ x, e = .returned x ∧ OwnR w.heap.size w'.heap.size w' x m ∧ Below w.heap.size w w'
def MakesK2 (w : World) (m : List (List Int)) (y : Value) (e : Ending) (w' : World) : Prop := ∃ x, e = .returned (.tuple #[x, y]) ∧ OwnR w.heap.size w'.heap.size w' x m ∧ Below w.heap.size w w'

theorem own_differ2 {w : World} {A A' : Nat} {u v : Value} {n n' : Nat} {xs ys : List Value} (h : w.ownsRow A 25 1 u n xs) (h' : w.ownsRow A' 3 1 v n' ys) : v.ownBlock = none ∨ v.ownBlock ≠ u.ownBlock := by
  rcases h'.2 with ⟨rfl, _⟩ | ⟨g', cap', cur', rfl, _, hg', _⟩
  · exact Or.inl rfl
  · right
    rcases h.2 with ⟨rfl, _⟩ | ⟨g, cap, cur, rfl, _, hg, _⟩
    · simp [Value.ownBlock]
    · intro e
      have e2 : g' = g := by simpa [Value.ownBlock] using e
      subst e2
      rw [hg] at hg'
      have := Option.some.inj hg'
      simp at this
      first | exact absurd this.2 (by decide) | skip
/-- 'out = append(out, row)': a row that lies anywhere among the call's own blocks. -/
theorem append_rowA {ops : Array Oper} {rest : List Oper} {o : Oper} {a : Act} {Q : Exit → Act → World → Prop} {s x : Operand} {A B : Nat} {v rv : Value} {m : List (List Int)} {l : List Int} {wr : World}
    (hM : MatA A B wr v m) (hr : RowI A wr.heap.size wr rv l) (hBw : B ≤ wr.heap.size) (hgd : o.guard = none)
    (ho : o.op = .call { callee := .builtin .append, args := #[s, x], argTypes := #[24, 24] }) (hs : a.eval s = v)
    (hx : a.eval x = .slice (some ⟨wr.heap.size, 0, none⟩) 1 1) (hlen : m.length ≤ 1048576)
    (h : ∀ v' w', MatA A B w' v' (m ++ [l]) → (∀ W C, C ≤ B → Below C W wr → Below C W w') → wr.heap.size ≤ w'.heap.size → wpList Try.prog ops Q rest (a.put o.dst v') w') :
    wpList Try.prog ops Q (o :: rest) a (wr.alloc (.cells #[rv] 25)) := by
  obtain ⟨hh, h1, h3⟩ := hM
  have hll : hh.length = m.length := by have := h1.1; omega
  obtain ⟨i0, hi, hz0, hz1, hz2⟩ := info_parts Try.infoRow
  have h1' : wr.ownsRow B 25 1 v hh.length hh := by rw [hll]; exact h1
  have hone : rv.oneCell' = true := by
    obtain ⟨ra, rcap, rfl⟩ := hr.slice
    rfl
  refine append_hdr hgd _ _ 24 ho B 25 i0 (.slice none 0 0) 24 Try.underlying24 hi hz0 hz1 hz2 rfl v hh rv hone wr hs h1' hx (by omega) (by omega) (by omega) ?_
  intro v' w' ho' hg
  refine h v' w' ⟨hh ++ [rv], ?_, fun j hj => ?_⟩ (fun W C hC hb => ?_) hg.size
  · rw [List.length_append, hll] at ho'
    rw [List.length_append]; exact ho'
  · rw [List.length_append] at hj
    rcases Nat.lt_or_ge j m.length with hjm | hjm
    · obtain ⟨hv, h4, h5⟩ := h3 j hjm
      refine ⟨hv, by rw [List.getElem?_append_left (by omega)]; exact h4, ?_⟩
      rw [List.getElem_append_left hjm]
      exact (h5.grown hg (own_differ2 h1 h5.1)).mono (Nat.le_refl _) hg.size
    · have hjm' : j = m.length := by simp at hj; omega
      subst hjm'
      refine ⟨rv, by rw [List.getElem?_append_right (by omega), hll]; simp, ?_⟩
      rw [List.getElem_append_right (Nat.le_refl _)]
      simp only [Nat.sub_self, List.getElem_singleton]
      exact (hr.grown hg (own_differ2 h1 hr.1)).mono (Nat.le_refl _) hg.size
  · exact hb.grown hg (by omega) (fun k hk => by have := (h1.lt k hk).1; omega)

theorem putK_no {L : List (List Int)} {r : List Int} {k : Nat} (hk : k < L.length) (h : (putK L r k).2 = true ∨ befB r (L.getD k []) = false) : putK L r (k + 1) = ((putK L r k).1 ++ [L.getD k []], (putK L r k).2) := by
  rw [putK_step hk]; unfold putF
  rw [if_neg]
  rintro ⟨h1, h2⟩
  rcases h with h | h
  · rw [h] at h1; exact absurd h1 (by simp)
  · rw [h] at h2; exact absurd h2 (by simp)
theorem putK_yes {L : List (List Int)} {r : List Int} {k : Nat} (hk : k < L.length) (h1 : (putK L r k).2 = false) (h2 : befB r (L.getD k []) = true) : putK L r (k + 1) = ((putK L r k).1 ++ [r] ++ [L.getD k []], true) := by
  rw [putK_step hk]; unfold putF
  rw [if_pos ⟨h1, h2⟩]
theorem getD_le {L : List (List Int)} {c : Nat} (h : ∀ x ∈ L, x.length ≤ c) (k : Nat) : (L.getD k []).length ≤ c := by
  rcases Nat.lt_or_ge k L.length with hk | hk
  · have e : L.getD k [] = L[k] := by simp [List.getD, hk]
    rw [e]; exact h _ (List.getElem_mem hk)
  · have e : L.getD k [] = [] := by simp [List.getD, hk]
    rw [e]; exact Nat.zero_le _

end Go.Proofs.Ytnlbmnielemgiaa
namespace Go.Proofs.Ytnlbmnielemgiaa
open Go.RowKit

def RutOk (m : List (List Int)) (h : Int) : Prop := IsC m ∧ 1 ≤ h ∧ h ≤ 12
open Classical in
noncomputable def rutL (m : List (List Int)) (h : Int) : List (List Int) := if hx : RutOk m h ∧ ∃ L, IsRoots m h L then Classical.choose hx.2 else []
theorem rutL_is {m : List (List Int)} {h : Int} {L : List (List Int)} (hok : RutOk m h) (hL : IsRoots m h L) : rutL m h = L := by
  have hx : RutOk m h ∧ ∃ L, IsRoots m h L := ⟨hok, L, hL⟩
  unfold rutL
  rw [dif_pos hx]
  exact isRoots_same (Classical.choose_spec hx.2) hL
theorem rutL_no {m : List (List Int)} {h : Int} (hok : ¬ RutOk m h) : rutL m h = [] := by
  unfold rutL
  rw [dif_neg (fun hx => hok hx.1)]
theorem isRoots_low {m : List (List Int)} {h : Int} {L : List (List Int)} (hok : RutOk m h) (hL : IsRoots m h L) : ∀ r ∈ L, Low m.length r := fun r hr => asc_low hok.1 hok.2.2 ((hL.2 r).1 hr)
theorem rutL_low (m : List (List Int)) (h : Int) : (rutL m h).length ≤ 28561 ∧ ∀ r ∈ rutL m h, r.length ≤ 4 := by
  by_cases hx : RutOk m h ∧ ∃ L, IsRoots m h L
  · obtain ⟨hok, L, hL⟩ := hx
    rw [rutL_is hok hL]
    have h4 := hok.1.2.2.2
    exact ⟨low_count h4 (ordd_nodup hL.1) (isRoots_low hok hL), fun r hr => by rw [(isRoots_low hok hL r hr).1]; exact h4⟩
  · unfold rutL
    rw [dif_neg hx]
    exact ⟨by simp, fun r hr => absurd hr (by simp)⟩
theorem sum_le_c {c : Nat} : ∀ {L : List (List Int)}, (∀ r ∈ L, r.length ≤ c) → (L.map List.length).sum ≤ c * L.length
  | [], _ => by simp
  | a :: L, h => by
    have h1 := sum_le_c (L := L) (fun r hr => h r (List.mem_cons_of_mem _ hr))
    have h2 := h a (List.mem_cons_self ..)
    simp only [List.map_cons, List.sum_cons, List.length_cons]
    rw [Nat.mul_add, Nat.mul_one]; omega
theorem rutL_small (m : List (List Int)) (h : Int) : szSum (rutL m h) ≤ 1048576 := by
  have h1 := rutL_low m h
  have h2 := sum_le_c h1.2
  unfold szSum
  omega
theorem rtI_mem {m : List (List Int)} {h : Int} {L : List (List Int)} {k i : Nat} (hI : RtI m h L k i) (hk : k < L.length) : Asc m h (L.getD k []) := by
  have e : L.getD k [] = L[k] := by simp [List.getD, hk]
  rw [e]; exact hI.sub _ (List.getElem_mem hk)
theorem rtB_low {m L : List (List Int)} {i : Nat} (h : RtB m L i) (_hi : i ≤ m.length) : ∀ r ∈ L, r.length = m.length := fun r hr => by
  obtain ⟨j, _, e⟩ := (h.2 r).1 hr
  rw [e, unitR_len]

theorem quiet_one {P : Program} {f : FuncId} {args : Array Value} {w : World} {v : Value} (h : ∀ x, Calls P f args (w.drewN x) fun e w' => e = .returned v ∧ ∃ m, w' = (w.drewN x).drewN m) (n : Nat) :
    Calls P f args (w.drewN n) fun e w'' => e = .returned v ∧ ∃ m, w'' = w.drewN m :=
  (h n).mono fun _ _ ⟨he, m, hm⟩ => ⟨he, n + m, by rw [hm, World.drewN_drewN]⟩
theorem MatB.drewN7 {B : Nat} {w : World} {v : Value} {m : List (List Int)} (h : MatB B w v m) (q : Nat) : MatB B (w.drewN q) v m := h
theorem ins_q (B B' : Nat) (v v' : Value) (L : List (List Int)) (r : List Int) (w : World) (h : MatB B w v L) (h' : RowB B' w v' r) (hf : RowsFit L) (hr : r.length ≤ maxLen) (q : Nat) :
    Calls Try.prog 73 #[v, v'] (w.drewN q) fun e w' => e = .returned (.bool (inRB L r)) ∧ ∃ n, w' = (w.drewN q).drewN n :=
  ins_any B B' v v' L r (w.drewN q) (h.drewN7 q) (h'.drewN q) hf hr

end Go.Proofs.Ytnlbmnielemgiaa
