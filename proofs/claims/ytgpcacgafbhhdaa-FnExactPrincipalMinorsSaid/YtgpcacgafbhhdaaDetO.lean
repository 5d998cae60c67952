/-
  DeterminantOf of the program: what the call returns.
-/
import Derived.Test.YtgpcacgafbhhdaaDetI
import Derived.Laws.EntriesVeiled
import Derived.Test.YtgpcacgafbhhdaaMinP
namespace Go.Proofs.Ytgpcacgafbhhdaa
open Go.RowKit

theorem vars_new (w : World) (u : Value) : ((w.alloc (.cells #[.int .i64 0, .int .i64 0, .int .i64 0, .int .i64 0] 33)).alloc (.cells #[u] 34)).heap[w.heap.size + 1]? = some (.cells #[u] 34 (0, 0)) := by
  have hs1 : (w.alloc (.cells #[.int .i64 0, .int .i64 0, .int .i64 0, .int .i64 0] 33)).heap.size = w.heap.size + 1 := by simp
  rw [← hs1]; exact (MapKept.heap_alloc _ _).1
theorem vars_below (w : World) (u : Value) : Below w.heap.size w ((w.alloc (.cells #[.int .i64 0, .int .i64 0, .int .i64 0, .int .i64 0] 33)).alloc (.cells #[u] 34)) :=
  ((Below.refl _ _).alloc (Nat.le_refl _) _).alloc (by simp) _
theorem vars_start {B Bc : Nat} {v : Value} {m : List (List Int)} {w : World} (hc : w.heap[Bc]? = some (.cells #[v] 22 (0, 0))) (hM : MatB B w v m) (hB : B ≤ w.heap.size) :
    Vars B Bc w.heap.size (w.heap.size + 1) v m []
      ((w.alloc (.cells #[.int .i64 0, .int .i64 0, .int .i64 0, .int .i64 0] 33)).alloc (.cells #[.func (.func 30) #[] #[.pointer (some ⟨Bc, 0, none⟩), .pointer (some ⟨w.heap.size, 0, none⟩), .pointer (some ⟨w.heap.size + 1, 0, none⟩)]] 34)) := by
  have hlt := lt_of_block hc
  have h1 : Below w.heap.size w (w.alloc (.cells #[.int .i64 0, .int .i64 0, .int .i64 0, .int .i64 0] 33)) := (Below.refl _ _).alloc (Nat.le_refl _) _
  have hn := vars_new w (.func (.func 30) #[] #[.pointer (some ⟨Bc, 0, none⟩), .pointer (some ⟨w.heap.size, 0, none⟩), .pointer (some ⟨w.heap.size + 1, 0, none⟩)])
  have hb := vars_below w (.func (.func 30) #[] #[.pointer (some ⟨Bc, 0, none⟩), .pointer (some ⟨w.heap.size, 0, none⟩), .pointer (some ⟨w.heap.size + 1, 0, none⟩)])
  refine ⟨(hb.block _ hlt).trans hc, hn, ⟨#[.int .i64 0, .int .i64 0, .int .i64 0, .int .i64 0], ?_, rfl, fun i hi => by simp at hi⟩, hM.below hb hB⟩
  rw [Below.heap_alloc _ _ _ (by simp)]; exact (MapKept.heap_alloc w _).1

set_option maxHeartbeats 2000000 in
set_option maxRecDepth 100000 in
theorem deti_any (B : Nat) (v : Value) (m : List (List Int)) (w : World) (h : MatB B w v m) (hB : B ≤ w.heap.size) (hf : RowsFit m) :
    Calls Try.prog 11 #[v] w fun e w' => e = .returned (.int .i64 (detV m)) ∧ Below w.heap.size w w' := by
  obtain ⟨a, cap, rfl⟩ := h.slice
  generalize hvv : m.length = n at *
  have HLN := Lib.hid hvv; clear hvv
  have hc0 : (w.alloc (.cells #[.slice a n cap] 22)).heap[w.heap.size]? = some (.cells #[.slice a n cap] 22 (0, 0)) := (MapKept.heap_alloc w _).1
  have hb0 : Below w.heap.size w (w.alloc (.cells #[.slice a n cap] 22)) := (Below.refl _ _).alloc (Nat.le_refl _) _
  have hs0 : (w.alloc (.cells #[.slice a n cap] 22)).heap.size = w.heap.size + 1 := by simp
  have HR0 := Lib.hid (h.below hb0 hB)
  have HC0 := Lib.hid hc0; have HB0 := Lib.hid hb0; have HS0 := Lib.hid hs0
  have hcell := cell_of_one hc0
  clear hc0 hb0 hs0
  by_cases hI : IsC m
  · have HC := Lib.hid (isB_yes hI)
    have HV := Lib.hid ((detV_yes hI).trans (by rw [HLN.out]))
    have HX := Lib.hid (exp_det m n (by rw [← HLN.out]; exact hI.2.2.2))
    have HI := Lib.hid hI
    clear hI h
    generalize detV m = d at *
    go_enter Try.func11, Try.ntmps11
    go_wp2_with fail
    refine (icm_w B _ m true HC.out _ HR0.out hf).mono ?_
    rintro e w1 ⟨rfl, hb1⟩
    have hs0 := HS0.out
    have hs1 := hb1.size
    have hc1 := (hb1.block w.heap.size (by omega)).trans HC0.out
    have hcell1 := cell_of_one hc1
    have HV1 := Lib.hid (vars_start hc1 (HR0.out.below hb1 (by omega)) (by omega))
    have HB1 := Lib.hid hb1
    have hnew := vars_new w1 .nilFunc
    have hcn := cell_of_one hnew
    have hfn := free_of_one hnew
    have HBN := Lib.hid (hb1.mono (Nat.le_refl _))
    have hcE := cell_of_one HV1.out.e
    have hD := (clo_any n n B w.heap.size w1.heap.size (w1.heap.size + 1) (.slice a n cap) m [] _ (by rw [← HLN.out]; exact HI.out.2.2.2) HLN.out (by rw [← HLN.out]; exact HI.out.1) (isC_bd HI.out) (Nat.zero_add n) HV1.out hB (by omega) (by omega))
    rw [show ((([] : List Nat).length : Nat) : Int) = 0 from rfl] at hD
    have HD := Lib.hid hD; clear hD
    have HBV := Lib.hid (vars_below w1 (.func (.func 30) #[] #[.pointer (some ⟨w.heap.size, 0, none⟩), .pointer (some ⟨w1.heap.size, 0, none⟩), .pointer (some ⟨w1.heap.size + 1, 0, none⟩)]))
    have HBW := Lib.hid (HB0.out.trans (hb1.mono (by omega)))
    clear hcell hb1 hnew
    go_wp2_with (go_at_call 30; (refine HD.out.mono ?_; rintro e w3 ⟨rfl, hv3, hb3⟩))

    go_ret
    exact detF_ret (by rw [HX.out, HV.out]) (HBW.out.trans ((HBV.out.trans hb3).mono (by omega)))
  · have HC := Lib.hid (isB_no hI)
    have HV := Lib.hid (detV_no hI)
    clear hI h
    generalize detV m = d at *
    go_enter Try.func11, Try.ntmps11
    go_wp2_with fail
    refine (icm_w B _ m false HC.out _ HR0.out hf).mono ?_
    rintro e w1 ⟨rfl, hb1⟩
    have hs0 := HS0.out
    have HBW := Lib.hid (HB0.out.trans (hb1.mono (by omega)))
    clear hb1 hcell
    go_wp2_with fail
    go_ret
    exact detF_ret HV.out.symm HBW.out
end Go.Proofs.Ytgpcacgafbhhdaa
