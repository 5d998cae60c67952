/-
  'copy' into a row of a matrix of the call's own.
-/
import Derived.Test.YtnfogfkgbignbaaGrow2
import Derived.Laws.CopyOwn
namespace Go.Proofs.Ytnfogfkgbignbaa
open Go.RowKit

def spl (l : List Int) (c : Nat) (l2 : List Int) : List Int := l.take c ++ l2 ++ l.drop (c + l2.length)
theorem spl_len (l : List Int) (c : Nat) (l2 : List Int) (h : c + l2.length ≤ l.length) : (spl l c l2).length = l.length := by simp [spl]; omega
theorem spl_take {α : Type} (cur : List α) (n c : Nat) (cs : List α) (hn : n ≤ cur.length) (hc : c + cs.length ≤ n) :
    (cur.take c ++ cs ++ cur.drop (c + cs.length)).take n = (cur.take n).take c ++ cs ++ (cur.take n).drop (c + cs.length) := by
  have h1 : (cur.take n).take c = cur.take c := by rw [List.take_take, Nat.min_eq_left (by omega)]
  rw [h1, List.take_append, List.take_of_length_le (by simp; omega)]
  congr 1
  rw [List.drop_take]
  congr 1
  simp
  omega

/-- What is known of the block of row j, for a copy into it. -/
def CopyTo (A B : Nat) (w : World) (v : Value) (m : List (List Int)) (j r : Nat) : Prop :=
  ∃ rcur : Array Value, w.heap[r]? = some (.cells rcur 3 (0, 0)) ∧ (m.getD j []).length ≤ rcur.size ∧
    ∀ (c : Nat) (l2 : List Int), c + l2.length ≤ (m.getD j []).length → MatI A B (w.setRow r (rcur.toList.take c ++ intsV l2 ++ rcur.toList.drop (c + l2.length)).toArray) v (m.set j (spl (m.getD j []) c l2))

theorem MatI.copyTo {A B : Nat} {w : World} {a : Option Addr} {n cap : Nat} {m : List (List Int)} (h : MatI A B w (.slice a n cap) m) {j : Nat} (hj : j < m.length) (h0 : 0 < (m.getD j []).length) :
    ∃ g r rcap, a = some ⟨g, 0, none⟩ ∧ w.cell? ⟨g, j, none⟩ = some (.slice (some ⟨r, 0, none⟩) (m.getD j []).length rcap) ∧ (m.getD j []).length ≤ rcap ∧ A ≤ r ∧ CopyTo A B w (.slice a n cap) m j r := by
  obtain ⟨hs, h1, h2, h3, h4⟩ := h
  have hgd : m.getD j [] = m[j] := by simp [List.getD, hj]
  unfold CopyTo
  rw [hgd] at h0 ⊢
  obtain ⟨hv, h5, h6⟩ := h3 j hj
  rcases h1.2 with ⟨hnil, hz⟩ | ⟨g, cap', cur, hval, hA, hg, _⟩
  · omega
  have ha : a = some ⟨g, 0, none⟩ := by injection hval
  have hn : n = m.length := by injection hval
  subst ha
  subst hn
  rcases h6.1.2 with ⟨_, hz⟩ | ⟨r, rcap, rcur, rfl, hrA, hrg, hrn, hrm, hrs, hrt⟩
  · omega
  simp only [Nat.mul_one] at hrs hrt
  refine ⟨g, r, rcap, rfl, by rw [h1.cellAt j (by omega)]; exact h5, hrn, hrA, rcur, hrg, by omega, fun c l2 hc => ?_⟩
  have hgr : w.grownBy (w.setRow r (rcur.toList.take c ++ intsV l2 ++ rcur.toList.drop (c + l2.length)).toArray) (some r) := ⟨rfl, rfl, rfl, by simp, fun k _ hk => setRow_other w r k _ (fun e => hk (by simp [e]))⟩
  have hrow : RowI A B (w.setRow r (rcur.toList.take c ++ intsV l2 ++ rcur.toList.drop (c + l2.length)).toArray) (.slice (some ⟨r, 0, none⟩) m[j].length rcap) (spl m[j] c l2) := by
    have hl := spl_len m[j] c l2 hc
    refine ⟨?_, h6.2⟩
    rw [hl]
    refine ⟨by rw [intsV_len, hl]; omega, Or.inr ⟨r, rcap, _, rfl, hrA, setRow_heap w r rcur _ 3 _ hrg, hrn, hrm, ?_, ?_⟩⟩
    · have hcl : c + l2.length ≤ rcur.size := by omega
      simp [intsV_len]; omega
    · rw [Nat.mul_one]
      have hcc : c + (intsV l2).length ≤ m[j].length := by rw [intsV_len]; exact hc
      have hst := spl_take rcur.toList m[j].length c (intsV l2) (by simp; omega) hcc
      rw [intsV_len] at hst
      rw [hst, hrt]
      simp [spl, intsV, List.map_take, List.map_drop]
  have hl := show (m.set j (spl m[j] c l2)).length = m.length by simp
  have h7 := mat_row (m' := m.set j (spl m[j] c l2)) h1 h3 h4 h5 hgr hl (by rw [hgd]; exact h6.1) (fun hj' => by
    rw [List.getElem_set_self]; exact hrow) (fun i hi hne => ⟨by rw [hl]; exact hi, by rw [List.getElem_set_ne (fun e => hne e.symm)]⟩)
  exact ⟨hs, h7.1, h2, h7.2, h4⟩

theorem copy_row {ops : Array Oper} {rest : List Oper} {o : Oper} {a : Act} {Q : Exit → Act → World → Prop} {d s : Operand} {A B B' : Nat} {w : World} {v xv : Value} {m : List (List Int)} {j r : Nat} {l2 : List Int}
    (hC : CopyTo A B w v m j r) (hA : A ≤ r) (hr : RowB B' w xv l2) (h0 : l2 ≠ []) (c dLen dCap : Nat) (hc : c + l2.length ≤ (m.getD j []).length) (hm : l2.length ≤ dLen) {m2 : List (List Int)} (h2 : m.set j (spl (m.getD j []) c l2) = m2) (hgd : o.guard = none)
    (ho : o.op = .call { callee := .builtin .copy, args := #[d, s], argTypes := #[25, 25] }) (hd : a.eval d = .slice (some ⟨r, c, none⟩) dLen dCap) (hs : a.eval s = xv)
    (h : ∀ w', MatI A B w' v m2 → (∀ W C, C ≤ A → Below C W w → Below C W w') → w'.heap.size = w.heap.size → wpList Try.prog ops Q rest (a.put o.dst (goInt l2.length)) w') :
    wpList Try.prog ops Q (o :: rest) a w := by
  subst h2
  obtain ⟨rcur, h1, h2, h3⟩ := hC
  rcases hr with ⟨h', _⟩ | ⟨b, off, cap, rfl, hb, hcell⟩
  · exact absurd h' h0
  have hcs : (intsV l2).length = l2.length := intsV_len l2
  refine wpList_copy_own hgd d s 25 25 ho 3 Try.underlying25 (by kernel_rfl) r c dLen dCap ⟨b, off, none⟩ l2.length cap hd hs rcur 3 h1 (intsV l2) (by rw [hcs]; exact (Nat.min_eq_left hm).symm) (fun k u hu => ?_) (by rw [hcs]; omega) (fun u hu => ?_) ?_
  · have hk : k < l2.length := by have := (List.getElem?_eq_some_iff.1 hu).1; rwa [hcs] at this
    rw [Addr.add_lit, hcell k hk, ← hu]
    simp [intsV, hk]
  · obtain ⟨n, _, rfl⟩ := List.mem_map.1 hu
    rfl
  · rw [hcs]
    have h4 := h3 c l2 hc
    rw [List.append_assoc] at h4
    exact h _ h4 (fun W C hC hb => below_setRow hb (by omega) _) (by simp)
end Go.Proofs.Ytnfogfkgbignbaa
