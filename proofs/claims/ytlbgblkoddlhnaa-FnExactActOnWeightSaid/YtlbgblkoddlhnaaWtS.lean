/-
  Weights: what the model's reflections, ones, sums and columns return.
-/
import Derived.Test.YtlbgblkoddlhnaaWtP
import Derived.Test.YtlbgblkoddlhnaaWrdS
import Derived.Test.YtlbgblkoddlhnaaTrS
import Derived.Test.YtlbgblkoddlhnaaLine
import Derived.Deep.RegionLaw
import Derived.Deep.QuietTactic
import Derived.BigQuiet
namespace Go.Proofs.Ytlbgblkoddlhnaa
open Go.RowKit

/-- 'append(row, x)' as a step of a region that draws its order: the literal's block lies at g. -/
theorem step_lit6 {ops : Array Oper} {o : Oper} {a : Act} {K : Act → World → Prop} {Q : Exit → Act → World → Prop} {E : Prop} {s x : Operand} {A : Nat} {v : Value} {l : List Int} {wr : World} (n : Int) (g : Nat)
    (hM : RowI A wr.heap.size wr v l) (hA : A ≤ wr.heap.size) (hg : wr.heap[g]? = some (.cells #[.int .i64 n] 3 (0, 0))) (hlen : l.length + [n].length ≤ 4194304) (hgd : o.guard = none)
    (ho : o.op = .call { callee := .builtin .append, args := #[s, x], argTypes := #[23, 23] }) (hs : a.eval s = v) (hx : a.eval x = .slice (some ⟨g, 0, none⟩) 1 1)
    (h : AfterRow A wr (l ++ [n]) fun v' w' => K (a.put o.dst v') w') : if Region.wanted o (yielded ops a.tmps) = true then Oper.wp Try.prog o a wr K Q else E :=
  step_ints (l2 := [n]) (B := g + 1) hM hA (Or.inr ⟨g, 0, 1, rfl, by omega, fun j hj => by
    obtain rfl : j = 0 := by simp at hj; omega
    rw [cell_of_row wr g (0 + 0) _ _ _ hg]; rfl⟩) (by simp) hlen hgd ho hs hx h

set_option maxHeartbeats 4000000 in
set_option maxRecDepth 100000 in
theorem l6r_any (B B' : Nat) (v v' : Value) (m : List (List Int)) (l : List Int) (i : Nat) (w : World) (h : MatB B w v m) (h' : RowB B' w v' l) (hB : B ≤ w.heap.size) (hB' : B' ≤ w.heap.size) (hI : IsC m) (hll : l.length = m.length) (hi : i < m.length) :
    Calls Try.prog 48 #[v, .int .i64 i, v'] w (MakesS w (reflL m i l)) := by
  obtain ⟨a, cap, rfl⟩ := h.slice
  obtain ⟨a', cap', rfl⟩ := h'.slice
  have HR := Lib.hid h; have HL := Lib.hid h'
  clear h h'
  have hn4 := hI.2.2.2
  have HRW := Lib.hid (show Rows0 m m.length m.length from hI.1)
  have HST := Lib.hid (fun k => reflK_step m i l k)
  have HKL := Lib.hid (fun k => reflK_len m i l k)
  have HEN := Lib.hid (show reflL m i l = reflK m i l m.length from by unfold reflL; rw [hll])
  clear hI
  rw [hll] at HL ⊢
  generalize hn : m.length = n at *
  have HN := Lib.hid hn; have HLN := Lib.hid hll
  clear hn hll
  go_enter Try.func48, Try.ntmps48
  go_wp2_with fail
  go_loopw [7, 8] (fun o i' wr => ∃ (k : Nat) (wq : World), wq = wr ∧ k ≤ n ∧ i' = .int .i64 k ∧ RowI w.heap.size wq.heap.size wq o (reflK m i l k) ∧ Below w.heap.size w wq) (fun _ i' _ => n - (intOf i').toNat)
  case atStart => exact ⟨0, _, rfl, Nat.zero_le _, rfl, row_empty w, (Below.refl _ _).alloc (Nat.le_refl _) _⟩
  case round =>
    obtain ⟨k, wq, rfl, hk, rfl, hM, hb⟩ := hrel
    have HM := Lib.hid hM; clear hM
    have hsq := hb.size
    have HB := Lib.hid hb; clear hb
    by_cases hlt : k < n
    · have hlt' : decide (k < n) = true := decide_eq_true hlt
      obtain ⟨b, off, rb, roff, rcap, rfl, hc1, hx⟩ := (HR.out.below HB.out hB).entry HRW.out hlt hi
      obtain ⟨b', off', rfl, hbb, hy⟩ := (HL.out.below HB.out hB').getD hlt
      obtain ⟨b2, off2, he2, _, hz⟩ := (HL.out.below HB.out hB').getD hi
      have hz : wq.cell? ⟨b', off' + i, none⟩ = some (.int .i64 (l.getD i 0)) := by injection he2 with he2; injection he2 with e1 e2; subst e1; subst e2; exact hz
      have HS := Lib.hid (HST.out k)
      have HRL := Lib.hid (show (reflK m i l k).length + [reflE m i l k].length ≤ 4194304 by rw [HKL.out]; simp; omega)
      have HE := Lib.hid (show reflE m i l k = subW (l.getD k 0) (mulW (l.getD i 0) (entry m k i)) from rfl)
      clear hbb he2
      generalize reflE m i l k = E at *
      generalize l.getD k 0 = x at *
      generalize l.getD i 0 = z at *
      generalize entry m k i = y at *
      obtain ⟨pr, hpr⟩ : ∃ pr, pr = mulW z y := ⟨_, rfl⟩
      have h1 : IntKind.i64.wrap (z * y) = pr := by rw [hpr, wrapk]; rfl
      have h2 : wrap64 (z * y) = pr := by rw [hpr]; rfl
      have h3 : IntKind.i64.wrap (x - pr) = E := by rw [HE.out, hpr, wrapk]; rfl
      have h4 : wrap64 (x - pr) = E := by rw [HE.out, hpr]; rfl
      clear hpr HE
      go_wp2_with fail
      go_region_law (refine step_lit6 E wq.heap.size ((HM.out.alloc _).mono (Nat.le_refl _) (by simp)) (by simp; omega) (MapKept.heap_alloc _ _).1 HRL.out rfl rfl rfl rfl ?_; intro v3 w3 hr3 hb3 hz3)
      all_goals
        rw [HS.out] at hr3
        have HR3 := Lib.hid hr3
        have HB3 := Lib.hid (hb3 w w.heap.size (Nat.le_refl _) (HB.out.alloc hsq _).drew)
        clear hr3 hb3 hz3 h1 h2 h3 h4
        go_wp2_with fail
        exact ⟨⟨k + 1, _, rfl, by omega, by go_num, HR3.out, HB3.out⟩, by simp [intOf]; omega⟩
    · obtain rfl : k = n := by omega
      have hlt' : decide (k < k) = false := by simp
      go_wp2_with fail
      go_ret
      exact ⟨_, rfl, ⟨by rw [HEN.out]; exact HM.out, Nat.le_refl _⟩, HB.out⟩
end Go.Proofs.Ytlbgblkoddlhnaa
