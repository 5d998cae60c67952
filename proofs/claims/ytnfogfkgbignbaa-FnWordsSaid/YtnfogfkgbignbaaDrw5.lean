/-
  The draws of words.
-/
import Derived.Test.YtnfogfkgbignbaaDrR
import Derived.Test.YtnfogfkgbignbaaApp
namespace Go.Proofs.Ytnfogfkgbignbaa
open Go.RowKit

set_option maxHeartbeats 2000000 in
set_option maxRecDepth 100000 in
theorem l5w_any (B C : Nat) (w : World) (cv : Value) (len : Nat) (hd : Dr B C cv len w) (a : Option Addr) (n cap : Nat) (hn : n ≤ 100) (most : Nat) (hm : most ≤ 100) :
    Calls Try.prog 66 #[.pointer (some ⟨C, 0, none⟩), .slice a n cap, .int .i64 most] w fun e w' => ∃ x l, e = .returned x ∧ DrTo B C cv len w w' ∧ OwnS w.heap.size w'.heap.size w' x l ∧ l.length ≤ most := by
  have hCw := hd.lt
  have HD := Lib.hid hd; clear hd
  have hb0 : Below w.heap.size w (w.alloc (.cells #[] 3)) := (Below.refl _ _).alloc (Nat.le_refl _) _
  have HD0 := Lib.hid (show DrTo B C cv len w (w.alloc (.cells #[] 3)) from ⟨HD.out.alloc _, grown_of_below hb0⟩)
  have HBE := Lib.hid (below_any B C (w.alloc (.cells #[] 3)) cv len (most + 1) (by omega) (by omega) HD0.out.1)
  have e1 : ((most + 1 : Nat) : Int) = (most : Int) + 1 := by omega
  rw [e1] at HBE
  have HMX := Lib.hid (show ∃ p : Nat, 1 ≤ p ∧ p ≤ 100 ∧ (if (1 : Int) < (n : Int) then (n : Int) else 1) = (p : Int) from by
    by_cases h : 1 < n
    · exact ⟨n, by omega, hn, by rw [if_pos (by omega)]⟩
    · exact ⟨1, by omega, by omega, by rw [if_neg (by omega)]; rfl⟩)
  clear hb0 e1
  go_enter Try.func66, Try.ntmps66
  go_wp2_with fail
  refine HBE.out.mono ?_
  rintro e w1 ⟨r, hr, rfl, hd1⟩
  have HD1 := Lib.hid (HD0.out.trans hd1)
  have HR1 := Lib.hid ((row_empty w).drawn hCw hd1)
  have hs1 := hd1.2.size
  clear hd1 HBE
  obtain ⟨wz, hwz⟩ : ∃ wz : World, wz = w1 := ⟨_, rfl⟩
  have HWZ := Lib.hid hwz; clear hwz
  go_wp2_with fail
  go_loopw [7, 8] (fun o i wr => ∃ (t : Nat) (l : List Int) (wq : World), wq = wr ∧ t ≤ most ∧ i = .int .i64 t ∧ RowI w.heap.size wq.heap.size wq o l ∧ l.length + t ≤ most ∧ DrTo B C cv len w wq) (fun _ i _ => (intOf i).toNat)
  case atStart => exact ⟨r, [], _, rfl, by omega, rfl, HR1.out, by simp; omega, HD1.out⟩
  case round =>
    obtain ⟨t, l, wq, rfl, ht, rfl, hr', hll, hdq⟩ := hrel
    have HR := Lib.hid hr'; have HDQ := Lib.hid hdq
    have hdr1 : Dr B C cv len wq := hdq.1
    have hsq := hdq.2.size
    clear hr' hdq
    by_cases hlt : 0 < t
    · have hlt' : decide ((0 : Int) < (t : Int)) = true := decide_eq_true (by omega)
      have HB1 := Lib.hid (fun (wx : World) (hx : Dr B C cv len wx) => show Calls Try.prog 56 #[.pointer (some ⟨C, 0, none⟩), .int .i64 1] wx fun e w' => ∃ r : Nat, r < 1 ∧ e = .returned (.int .i64 r) ∧ DrTo B C cv len wx w' from below_any B C wx cv len 1 (by omega) (by omega) hx)
      have HDR1 := Lib.hid hdr1
      have HBN := Lib.hid (fun (wx : World) (h1 : 1 ≤ n) (hx : Dr B C cv len wx) => below_any B C wx cv len n h1 (by omega) hx)
      have HL4 := Lib.hid (show l.length ≤ 4194304 by omega)
      go_wp2_with fail
      all_goals
        first
          | (with_reducible refine (HB1.out _ HDR1.out).mono ?_)
          | (with_reducible refine (HBN.out _ (by omega) HDR1.out).mono ?_)
        rintro e w3 ⟨y, hy, rfl, hd3⟩
        have HD3 := Lib.hid (HDQ.out.trans hd3)
        have HR3 := Lib.hid (HR.out.drawn hCw hd3)
        have hs3 := hd3.2.size
        have hsz3 : w.heap.size ≤ w3.heap.size := by omega
        clear hd3 HB1 HBN HDR1 hdr1
        go_wp2_with (at_builtin; go_must (refine append_int HR3.out hsz3 (y : Int) rfl rfl rfl rfl HL4.out ?_; intro v4 w4 hr4 hb4 hz4))
        have HR4 := Lib.hid hr4
        have HD4 := Lib.hid (HD3.out.past (hb4 w3 w.heap.size (Nat.le_refl _) (Below.refl _ _)) hCw)
        clear hr4 hb4 hz4
        go_wp2_with fail
        exact ⟨⟨t - 1, _, _, rfl, by omega, by rw [Int.ofNat_sub (by omega)]; rfl, HR4.out, by rw [List.length_append]; simp; omega, HD4.out⟩, by simp [intOf]; omega⟩
    · obtain rfl : t = 0 := by omega
      go_wp2_with fail
      go_ret
      exact ⟨_, l, rfl, HDQ.out, ⟨HR.out, Nat.le_refl _⟩, by omega⟩

def DrawnMW (w : World) (e : Ending) (w' : World) : Prop :=
  ∃ x y a l, e = .returned (.tuple #[x, y]) ∧ Below w.heap.size w w' ∧ OwnK w.heap.size w'.heap.size w' x a ∧ AnyM a ∧ OwnS w.heap.size w'.heap.size w' y l ∧ l.length ≤ 12
set_option maxHeartbeats 2000000 in
set_option maxRecDepth 100000 in
theorem l5a_any (B : Nat) (w : World) (cv : Value) (len : Nat) (hl : len ≤ 1048576) (hc : CodeB B w cv len) (hB : B ≤ w.heap.size) :
    Calls Try.prog 45 #[cv] w (DrawnMW w) := by
  have HN := Lib.hid (new_any B w cv len hl hB hc)
  clear hc
  go_enter Try.func45, Try.ntmps45
  go_wp2_with fail
  refine HN.out.mono ?_
  rintro e w1 ⟨rfl, hd, hg⟩
  have HG := Lib.hid hg
  have hs1 := hg.size
  have hC1 := hd.lt
  have HA := Lib.hid (any_any B w.heap.size w1 cv len hd)
  clear hd hg HN
  go_wp2_with fail
  refine HA.out.mono ?_
  rintro e w2 ⟨x, a, rfl, hd2, hx, ha⟩
  have HD2 := Lib.hid hd2
  have HX := Lib.hid hx
  have HAM := Lib.hid ha
  have hs2 := hd2.2.size
  obtain ⟨xa, xcap, rfl⟩ := hx.mat.slice
  have hn5 := ha.1
  clear hd2 hx ha HA
  generalize hn : a.length = n at *
  have HLN := Lib.hid hn; clear hn
  have HW := Lib.hid (l5w_any B w.heap.size w2 cv len HD2.out.1 xa n xcap (by omega) 9 (by omega))
  go_wp2_with fail
  refine HW.out.mono ?_
  rintro e w3 ⟨y, l, rfl, hd3, hy, hll⟩
  have HD3 := Lib.hid (HD2.out.trans hd3)
  have HX3 := Lib.hid (HX.out.drawn hC1 hd3)
  have HY := Lib.hid hy
  have hs3 := hd3.2.size
  clear hd3 hy HW HX HD2
  go_wp2_with fail
  refine (once_any B w.heap.size _ cv len 12 (by omega) (by omega) HD3.out.1).mono ?_
  rintro e w4 ⟨q, rfl, hd4⟩
  have HD4 := Lib.hid (HD3.out.trans hd4)
  have HX4 := Lib.hid (HX3.out.drawn hC1 hd4)
  have HY4 := Lib.hid ((HY.out.1).drawn (C := w.heap.size) (by omega) hd4)
  have hs4 := hd4.2.size
  clear hd4 HX3 HD3 HY
  cases q with
  | false =>
    go_wp2_with fail
    go_ret2
    exact ⟨_, y, a, l, rfl, draw_below HG.out HD4.out, HX4.out.grow.wide (by omega), HAM.out, ⟨HY4.out.mono (by omega) (Nat.le_refl _), Nat.le_refl _⟩, by omega⟩
  | true =>
    have HGL := Lib.hid (show (w4.alloc (.cells ([-1, 4].map (Value.int .i64)).toArray 3)).heap[w4.heap.size]? = some (.cells (([-1, 4] : List Int).map (Value.int .i64)).toArray 3 (0, 0)) from (MapKept.heap_alloc w4 _).1)
    have HD0 := Lib.hid (HD4.out.1.alloc (.cells (([-1, 4] : List Int).map (Value.int .i64)).toArray 3))
    have hb0 : Below w4.heap.size w4 (w4.alloc (.cells (([-1, 4] : List Int).map (Value.int .i64)).toArray 3)) := (Below.refl _ _).alloc (Nat.le_refl _) _
    have HB0 := Lib.hid hb0
    have HPK := Lib.hid (pick_any B w.heap.size (w4.alloc (.cells (([-1, 4] : List Int).map (Value.int .i64)).toArray 3)) cv len w4.heap.size [-1, 4] 2 rfl (by omega) (by omega) (fun v hv => by simp at hv; unfold isI64; omega) HGL.out (by omega) HD0.out)
    clear hb0 HGL
    go_wp2_with fail
    refine HPK.out.mono ?_
    rintro e w5 ⟨v, hv, rfl, hd5⟩
    have hd05 : DrTo B w.heap.size cv len w4 w5 := (DrTo.of_below HD4.out.1 HB0.out).trans hd5
    have HD5 := Lib.hid (HD4.out.trans hd05)
    have HX5 := Lib.hid (HX4.out.drawn hC1 hd05)
    have HY5 := Lib.hid (HY4.out.drawn (C := w.heap.size) (by omega) hd05)
    have hs5 := hd05.2.size
    have HL4 := Lib.hid (show l.length ≤ 4194304 by omega)
    clear hd5 hd05 HPK HB0 HD0 HX4 HY4
    have hsz5 : w2.heap.size ≤ w5.heap.size := by omega
    go_wp2_with (at_builtin; go_must (refine append_int HY5.out hsz5 v rfl rfl rfl rfl HL4.out ?_; intro v6 w6 hr6 hb6 hz6))
    have HR6 := Lib.hid hr6
    have hb6' := hb6 w5 w2.heap.size (Nat.le_refl _) (Below.refl _ _)
    have HX6 := Lib.hid ((HX5.out.same (fun j h1 h2 => hb6'.block j h2) hb6'.size).grow)
    have HB6 := Lib.hid ((draw_below HG.out HD5.out).trans (hb6'.mono (by omega)))
    clear hr6 hb6 hz6 hb6'
    go_wp2_with fail
    go_ret2
    exact ⟨_, _, a, _, rfl, HB6.out, HX6.out.wide (by omega), HAM.out, ⟨HR6.out.mono (by omega) (Nat.le_refl _), Nat.le_refl _⟩, by rw [List.length_append]; simp; omega⟩
end Go.Proofs.Ytnfogfkgbignbaa
