/-
  The draw of two matrices that may be isomorphic.
  The draws of a matrix with a point, with a set, with an order.
  What the law on diagrams asks of an isomorphism and of symmetries (no walk here), and its comparisons of what is the same.
  FormatInt of the model and of the program: what each call returns.
-/
import Derived.Test.YtppimgkampkfjaaGreatDoorFcg28
import Derived.Test.YtppimgkampkfjaaGreatDoorFcg25
import Derived.Test.YtppimgkampkfjaaGreatDoorFcg20
import Derived.Test.YtppimgkampkfjaaGreatDoorFcg26
import Derived.Test.YtppimgkampkfjaaGreatDoorShelfD
import Derived.Test.YtppimgkampkfjaaGreatDoorShelfJ
namespace Go.Proofs.YtppimgkampkfjaaGreatDoor
open Go.RowKit

/-- What a draw of two matrices leaves. -/
def DrawnMM (w : World) (e : Ending) (w' : World) : Prop :=
  ∃ x y a b, e = .returned (.tuple #[x, y]) ∧ Below w.heap.size w w' ∧ OwnK w.heap.size w'.heap.size w' x a ∧ AnyM a ∧ OwnK w.heap.size w'.heap.size w' y b ∧ AnyM b
theorem OwnK.wide {A A' B : Nat} {w : World} {v : Value} {m : List (List Int)} (h : OwnK A B w v m) (hA : A' ≤ A) : OwnK A' B w v m := ⟨fun w' hs => h.1 w' (fun k h1 h2 => hs k (by omega) h2), h.2⟩
theorem OwnK.grow {A B : Nat} {w : World} {v : Value} {m : List (List Int)} (h : OwnK A B w v m) : OwnK A w.heap.size w v m :=
  ⟨fun w' hs => by
    have h1 := h.1 w' (fun k h1 h2 => hs k h1 (by have := h.2; omega))
    exact h1.mono h.2, Nat.le_refl _⟩
theorem OwnK.on {A B C : Nat} {w w' : World} {v : Value} {m : List (List Int)} (h : OwnK A B w v m) (hg : w.grownBy w' (some C)) (hC : C < A) : OwnK A w'.heap.size w' v m :=
  (h.same (fun j h1 h2 => hg.block j (by have := h.2; omega) (fun e => by have := Option.some.inj e; omega)) hg.size).grow
theorem OwnK.up {A B : Nat} {w w' : World} {v : Value} {m : List (List Int)} (h : OwnK A B w v m) (hb : Below w.heap.size w w') : OwnK A w'.heap.size w' v m :=
  (h.same (fun j _ h2 => hb.block j (by have := h.2; omega)) hb.size).grow

set_option maxHeartbeats 2000000 in
set_option maxRecDepth 100000 in
theorem drawIso_any (B : Nat) (w : World) (cv : Value) (len : Nat) (hl : len ≤ 1048576) (hc : CodeB B w cv len) (hB : B ≤ w.heap.size) :
    Calls Tryz.prog 32 #[cv] w (DrawnMM w) := by
  have HN := Lib.hid (new_any B w cv len hl hB hc)
  clear hc
  go_enter Tryz.func32, Tryz.ntmps32
  go_wp2_with fail
  refine HN.out.mono ?_
  rintro e w1 ⟨rfl, hd, hg⟩
  have HG := Lib.hid hg
  have hs1 := hg.size
  have hC1 := hd.lt
  have HA := Lib.hid (any_any B w.heap.size w1 cv len hd)
  clear hd hg HN
  go_wp2_with fail
  refine HA.out.mono ?_
  rintro e w2 ⟨x, a, rfl, hd2, hx, ha⟩
  have HD2 := Lib.hid hd2
  have HX := Lib.hid hx
  have HAM := Lib.hid ha
  have hs2 := hd2.2.size
  obtain ⟨xa, xcap, rfl⟩ := hx.mat.slice
  have hn5 := ha.1
  have hn1 := ha.2.2
  clear hd2 hx ha HA
  generalize hn : a.length = n at *
  have HLN := Lib.hid hn; clear hn
  go_wp2_with fail
  refine (once_any B w.heap.size _ cv len 2 (by omega) (by omega) HD2.out.1).mono ?_
  rintro e w3 ⟨b, rfl, hd3⟩
  have HD3 := Lib.hid (HD2.out.trans hd3)
  have HX3 := Lib.hid (HX.out.on hd3.2 hC1)
  have hs3 := hd3.2.size
  clear hd3 HD2 HX
  cases b with
  | false =>
    have HA := Lib.hid (any_any B w.heap.size w3 cv len HD3.out.1)
    go_wp2_with fail
    refine HA.out.mono ?_
    rintro e w4 ⟨y, b, rfl, hd4, hy, hb⟩
    have HD4 := Lib.hid (HD3.out.trans hd4)
    have HX4 := Lib.hid (HX3.out.on hd4.2 hC1)
    have HY := Lib.hid hy; have HBM := Lib.hid hb
    clear hd4 hy hb
    go_wp2_with fail
    go_ret2
    exact ⟨_, y, a, b, rfl, draw_below HG.out HD4.out, HX4.out.wide (by omega), HAM.out, HY.out.wide (by omega), HBM.out⟩
  | true =>
    have HO := Lib.hid (ord_any B w.heap.size w3 cv len HD3.out.1 n (min n 4) (by omega) rfl)
    go_wp2_with fail
    refine HO.out.mono ?_
    rintro e w4 ⟨o, q, rfl, hd4, ho, hq⟩
    have HD4 := Lib.hid (HD3.out.trans hd4)
    have HX4 := Lib.hid (HX3.out.on hd4.2 hC1)
    have hs4 := hd4.2.size
    have HOO := Lib.hid ho
    have HQ := Lib.hid hq
    clear hd4 ho hq HO HX3 HD3
    go_wp2_with fail
    refine (rels_any w4.heap.size w4.heap.size _ o a (intL q) w4 HX4.out.mat HOO.out.rowB (Nat.le_refl _) (Nat.le_refl _) HAM.out.fit (by rw [intL_len, HQ.out]; unfold maxLen; omega) HOO.out.capOk).mono ?_
    rintro e w5 ⟨y, rfl, hy, hb5⟩
    have HY := Lib.hid hy
    have HX5 := Lib.hid (HX4.out.up hb5)
    have HD5 := Lib.hid (HD4.out.past (hb5.mono (by omega)) (by omega))
    have hs5 := hb5.size
    have hbw5 := (draw_below HG.out HD4.out).trans (hb5.mono (by omega))
    have HB5 := Lib.hid hbw5
    clear hy hb5 hbw5
    by_cases hr : relB a (intL q) = true
    · have HRM := Lib.hid (rel_anyM hr)
      rw [hr]
      clear hr
      go_wp2_with fail
      go_ret2
      exact ⟨_, y, a, _, rfl, HB5.out, HX5.out.wide (by omega), HAM.out, HY.out.ownK.wide (by omega), HRM.out⟩
    · have hr' : relB a (intL q) = false := by simpa using hr
      rw [hr']
      clear hr hr'
      have hcl : Dr B w.heap.size cv len w5 := HD5.out.1
      have HA := Lib.hid (any_any B w.heap.size w5 cv len hcl)
      clear hcl
      go_wp2_with fail
      refine HA.out.mono ?_
      rintro e w6 ⟨z, b, rfl, hd6, hz, hb⟩
      have HX6 := Lib.hid (HX5.out.on hd6.2 hC1)
      have HZ := Lib.hid hz; have HBM := Lib.hid hb
      have HB6 := Lib.hid (HB5.out.grown hd6.2 (by omega) (fun j hj => by have := Option.some.inj hj; omega))
      clear hd6 hz hb
      go_wp2_with fail
      go_ret2
      exact ⟨_, z, a, b, rfl, HB6.out, HX6.out.wide (by omega), HAM.out, HZ.out.wide (by omega), HBM.out⟩
end Go.Proofs.YtppimgkampkfjaaGreatDoor
namespace Go.Proofs.YtppimgkampkfjaaGreatDoor
open Go.RowKit

theorem RowI.drawn {A B C : Nat} {cv v : Value} {len : Nat} {w w' : World} {l : List Int} (h : RowI A w.heap.size w v l) (hC : C < A) (hd : DrTo B C cv len w w') : RowI A w'.heap.size w' v l :=
  (h.grown hd.2 (by
    cases hv : v.ownBlock with
    | none => exact Or.inl rfl
    | some g =>
      right
      intro e
      have h1 := (h.1.lt g hv).1
      have h2 : g = C := Option.some.inj e
      omega)).mono (Nat.le_refl _) hd.2.size
/-- What a draw of a matrix and a list leaves. -/
def DrawnMS (w : World) (e : Ending) (w' : World) : Prop :=
  ∃ x y a l, e = .returned (.tuple #[x, y]) ∧ Below w.heap.size w w' ∧ OwnK w.heap.size w'.heap.size w' x a ∧ AnyM a ∧ OwnS w.heap.size w'.heap.size w' y l ∧ l.length ≤ 6
/-- What a draw of a matrix and a number leaves. -/
def DrawnMI (w : World) (e : Ending) (w' : World) : Prop :=
  ∃ (x : Value) (a : List (List Int)) (i : Int), e = .returned (.tuple #[x, .int .i64 i]) ∧ Below w.heap.size w w' ∧ OwnK w.heap.size w'.heap.size w' x a ∧ AnyM a

set_option maxHeartbeats 2000000 in
set_option maxRecDepth 100000 in
theorem drawBond_any (B : Nat) (w : World) (cv : Value) (len : Nat) (hl : len ≤ 1048576) (hc : CodeB B w cv len) (hB : B ≤ w.heap.size) :
    Calls Tryz.prog 18 #[cv] w fun e w' => ∃ (x : Value) (a : List (List Int)) (i j : Int), e = .returned (.tuple #[x, .int .i64 i, .int .i64 j]) ∧ Below w.heap.size w w' ∧ OwnK w.heap.size w'.heap.size w' x a ∧ AnyM a := by
  have HN := Lib.hid (new_any B w cv len hl hB hc)
  clear hc
  go_enter Tryz.func18, Tryz.ntmps18
  go_wp2_with fail
  refine HN.out.mono ?_
  rintro e w1 ⟨rfl, hd, hg⟩
  have HG := Lib.hid hg
  have hs1 := hg.size
  have hC1 := hd.lt
  have HA := Lib.hid (any_any B w.heap.size w1 cv len hd)
  clear hd hg HN
  go_wp2_with fail
  refine HA.out.mono ?_
  rintro e w2 ⟨x, a, rfl, hd2, hx, ha⟩
  have HD2 := Lib.hid hd2
  have HX := Lib.hid hx
  have HAM := Lib.hid ha
  have hs2 := hd2.2.size
  clear hd2 hx ha HA
  go_wp2_with fail
  refine (below_any B w.heap.size _ cv len 5 (by omega) (by omega) HD2.out.1).mono ?_
  rintro e w3 ⟨r1, hr1, rfl, hd3⟩
  have HD3 := Lib.hid (HD2.out.trans hd3)
  have HX3 := Lib.hid (HX.out.on hd3.2 hC1)
  have hs3 := hd3.2.size
  clear hd3 HD2 HX
  go_wp2_with fail
  refine (below_any B w.heap.size _ cv len 2 (by omega) (by omega) HD3.out.1).mono ?_
  rintro e w4 ⟨r2, hr2, rfl, hd4⟩
  have HD4 := Lib.hid (HD3.out.trans hd4)
  have HX4 := Lib.hid (HX3.out.on hd4.2 hC1)
  have hs4 := hd4.2.size
  clear hd4 HD3 HX3
  go_wp2_with fail
  refine (below_any B w.heap.size _ cv len 4 (by omega) (by omega) HD4.out.1).mono ?_
  rintro e w5 ⟨r3, hr3, rfl, hd5⟩
  have HD5 := Lib.hid (HD4.out.trans hd5)
  have HX5 := Lib.hid (HX4.out.on hd5.2 hC1)
  clear hd5 HD4 HX4
  go_wp2_with fail
  go_ret3
  exact ⟨x, a, (r1 : Int) - r2, r3, rfl, draw_below HG.out HD5.out, HX5.out.wide (by omega), HAM.out⟩

set_option maxHeartbeats 2000000 in
set_option maxRecDepth 100000 in
theorem drawNb_any (B : Nat) (w : World) (cv : Value) (len : Nat) (hl : len ≤ 1048576) (hc : CodeB B w cv len) (hB : B ≤ w.heap.size) :
    Calls Tryz.prog 44 #[cv] w (DrawnMI w) := by
  have HN := Lib.hid (drawBond_any B w cv len hl hc hB)
  clear hc
  go_enter Tryz.func44, Tryz.ntmps44
  go_wp2_with fail
  refine HN.out.mono ?_
  rintro e w1 ⟨x, a, i, j, rfl, hb, hx, ha⟩
  have HB := Lib.hid hb; have HX := Lib.hid hx; have HAM := Lib.hid ha
  clear hb hx ha
  go_wp2_with fail
  go_ret2
  exact ⟨x, a, i, rfl, HB.out, HX.out, HAM.out⟩

set_option maxHeartbeats 2000000 in
set_option maxRecDepth 100000 in
theorem some_any (B C : Nat) (w : World) (cv : Value) (len : Nat) (hd : Dr B C cv len w) (n : Nat) (hn : n ≤ 5) :
    Calls Tryz.prog 103 #[.pointer (some ⟨C, 0, none⟩), .int .i64 n] w fun e w' => ∃ x l, e = .returned x ∧ DrTo B C cv len w w' ∧ OwnS w.heap.size w'.heap.size w' x l ∧ l.length ≤ 6 := by
  have hCw := hd.lt
  have HD := Lib.hid hd; clear hd
  go_enter Tryz.func103, Tryz.ntmps103
  go_wp2_with fail
  have hb0 : Below w.heap.size w (w.alloc (.cells #[] 3)) := (Below.refl _ _).alloc (Nat.le_refl _) _
  go_loopw [5, 6] (fun o i wr => ∃ (t : Nat) (l : List Int) (wq : World), wq = wr ∧ t ≤ n ∧ i = .int .i64 t ∧ RowI w.heap.size wq.heap.size wq o l ∧ l.length ≤ t ∧ DrTo B C cv len w wq) (fun _ i _ => n - (intOf i).toNat)
  case atStart => exact ⟨0, [], _, rfl, Nat.zero_le _, rfl, row_empty w, Nat.le_refl _, HD.out.alloc _, grown_of_below hb0⟩
  case round =>
    obtain ⟨t, l, wq, rfl, ht, rfl, hr, hll, hdq⟩ := hrel
    have HR := Lib.hid hr; have HDQ := Lib.hid hdq
    have hsq := hdq.2.size
    clear hr hdq
    by_cases hlt : t < n
    · have hlt' : decide (t < n) = true := decide_eq_true hlt
      go_wp2_with fail
      refine (once_any B C _ cv len 2 (by omega) (by omega) HDQ.out.1).mono ?_
      rintro e w3 ⟨b, rfl, hd3⟩
      have HD3 := Lib.hid (HDQ.out.trans hd3)
      have HR3 := Lib.hid (HR.out.drawn hCw hd3)
      have hs3 := hd3.2.size
      clear hd3
      cases b with
      | false =>
        go_wp2_with fail
        exact ⟨⟨t + 1, l, _, rfl, by omega, by go_num, HR3.out, by omega, HD3.out⟩, by simp [intOf]; omega⟩
      | true =>
        have hsz3 : w.heap.size ≤ w3.heap.size := by omega
        have hl4 : l.length ≤ 4194304 := by omega
        have HL4 := Lib.hid hl4; clear hl4
        go_wp2_with (at_builtin; go_must (refine append_int HR3.out hsz3 (t : Int) rfl rfl rfl rfl HL4.out ?_; intro v4 w4 hr4 hb4 hz4))
        have HR4 := Lib.hid hr4
        have HD4 := Lib.hid (HD3.out.past (hb4 w3 w.heap.size (Nat.le_refl _) (Below.refl _ _)) hCw)
        clear hr4 hb4 hz4
        exact ⟨⟨t + 1, _, _, rfl, by omega, by go_num, HR4.out, by rw [List.length_append]; simp; omega, HD4.out⟩, by simp [intOf]; omega⟩
    · obtain rfl : t = n := by omega
      have hlt' : decide (t < t) = false := by simp
      go_wp2_with fail
      refine (once_any B C _ cv len 12 (by omega) (by omega) HDQ.out.1).mono ?_
      rintro e w3 ⟨b, rfl, hd3⟩
      have HD3 := Lib.hid (HDQ.out.trans hd3)
      have HR3 := Lib.hid (HR.out.drawn hCw hd3)
      have hs3 := hd3.2.size
      clear hd3
      cases b with
      | false =>
        go_wp2_with fail
        go_ret
        exact ⟨_, l, rfl, HD3.out, ⟨HR3.out, Nat.le_refl _⟩, by omega⟩
      | true =>
        go_wp2_with fail
        refine (below_any B C _ cv len 6 (by omega) (by omega) HD3.out.1).mono ?_
        rintro e w4 ⟨r, hr6, rfl, hd4⟩
        have HD4 := Lib.hid (HD3.out.trans hd4)
        have HR4 := Lib.hid (HR3.out.drawn hCw hd4)
        have hs4 := hd4.2.size
        clear hd4
        have hsz4 : w.heap.size ≤ w4.heap.size := by omega
        have hl4 : l.length ≤ 4194304 := by omega
        have HL4 := Lib.hid hl4; clear hl4
        go_wp2_with (at_builtin; go_must (refine append_int HR4.out hsz4 ((r : Int) - 1) rfl rfl rfl rfl HL4.out ?_; intro v5 w5 hr5 hb5 hz5))
        have HR5 := Lib.hid hr5
        have HD5 := Lib.hid (HD4.out.past (hb5 w4 w.heap.size (Nat.le_refl _) (Below.refl _ _)) hCw)
        clear hr5 hb5 hz5
        go_ret
        exact ⟨_, _, rfl, HD5.out, ⟨HR5.out, Nat.le_refl _⟩, by rw [List.length_append]; simp; omega⟩

set_option maxHeartbeats 2000000 in
set_option maxRecDepth 100000 in
theorem drawSub_any (B : Nat) (w : World) (cv : Value) (len : Nat) (hl : len ≤ 1048576) (hc : CodeB B w cv len) (hB : B ≤ w.heap.size) :
    Calls Tryz.prog 45 #[cv] w (DrawnMS w) := by
  have HN := Lib.hid (new_any B w cv len hl hB hc)
  clear hc
  go_enter Tryz.func45, Tryz.ntmps45
  go_wp2_with fail
  refine HN.out.mono ?_
  rintro e w1 ⟨rfl, hd, hg⟩
  have HG := Lib.hid hg
  have hs1 := hg.size
  have hC1 := hd.lt
  have HA := Lib.hid (any_any B w.heap.size w1 cv len hd)
  clear hd hg HN
  go_wp2_with fail
  refine HA.out.mono ?_
  rintro e w2 ⟨x, a, rfl, hd2, hx, ha⟩
  have HD2 := Lib.hid hd2
  have HX := Lib.hid hx
  have HAM := Lib.hid ha
  have hs2 := hd2.2.size
  obtain ⟨xa, xcap, rfl⟩ := hx.mat.slice
  have hn5 := ha.1
  clear hd2 hx ha HA
  generalize hn : a.length = n at *
  have HLN := Lib.hid hn; clear hn
  go_wp2_with fail
  refine (some_any B w.heap.size w2 cv len HD2.out.1 n hn5).mono ?_
  rintro e w3 ⟨y, l, rfl, hd3, hy, hll⟩
  have HD3 := Lib.hid (HD2.out.trans hd3)
  have HX3 := Lib.hid (HX.out.on hd3.2 hC1)
  have HY := Lib.hid hy
  have HLL := Lib.hid hll
  clear hd3 hy hll
  go_wp2_with fail
  go_ret2
  exact ⟨_, y, a, l, rfl, draw_below HG.out HD3.out, HX3.out.wide (by omega), HAM.out, ⟨HY.out.1.mono (by omega) (Nat.le_refl _), Nat.le_refl _⟩, HLL.out⟩

set_option maxHeartbeats 2000000 in
set_option maxRecDepth 100000 in
theorem drawRel_any (B : Nat) (w : World) (cv : Value) (len : Nat) (hl : len ≤ 1048576) (hc : CodeB B w cv len) (hB : B ≤ w.heap.size) :
    Calls Tryz.prog 48 #[cv] w (DrawnMS w) := by
  have HN := Lib.hid (new_any B w cv len hl hB hc)
  clear hc
  go_enter Tryz.func48, Tryz.ntmps48
  go_wp2_with fail
  refine HN.out.mono ?_
  rintro e w1 ⟨rfl, hd, hg⟩
  have HG := Lib.hid hg
  have hs1 := hg.size
  have hC1 := hd.lt
  have HA := Lib.hid (any_any B w.heap.size w1 cv len hd)
  clear hd hg HN
  go_wp2_with fail
  refine HA.out.mono ?_
  rintro e w2 ⟨x, a, rfl, hd2, hx, ha⟩
  have HD2 := Lib.hid hd2
  have HX := Lib.hid hx
  have HAM := Lib.hid ha
  have hs2 := hd2.2.size
  obtain ⟨xa, xcap, rfl⟩ := hx.mat.slice
  have hn5 := ha.1
  have hn1 := ha.2.2
  clear hd2 hx ha HA
  generalize hn : a.length = n at *
  have HLN := Lib.hid hn; clear hn
  have HO := Lib.hid (ord_any B w.heap.size w2 cv len HD2.out.1 n (min n 4) (by omega) rfl)
  go_wp2_with fail
  refine HO.out.mono ?_
  rintro e w3 ⟨y, q, rfl, hd3, hy, hq⟩
  have HD3 := Lib.hid (HD2.out.trans hd3)
  have HX3 := Lib.hid (HX.out.on hd3.2 hC1)
  have HY := Lib.hid hy
  have hq4 : q.length ≤ 4 := by omega
  have hs3 := hd3.2.size
  have HG3 := Lib.hid hd3.2
  clear hd3 hy hq HO
  go_wp2_with fail
  refine (once_any B w.heap.size _ cv len 12 (by omega) (by omega) HD3.out.1).mono ?_
  rintro e w4 ⟨b, rfl, hd4⟩
  have HD4 := Lib.hid (HD3.out.trans hd4)
  have HX4 := Lib.hid (HX3.out.on hd4.2 hC1)
  have HY4 := Lib.hid (HY.out.1.drawn (by omega) hd4)
  have hs4 := hd4.2.size
  have HG4 := Lib.hid hd4.2
  clear hd4
  cases b with
  | false =>
    go_wp2_with fail
    go_ret2
    exact ⟨_, y, a, intL q, rfl, draw_below HG.out HD4.out, HX4.out.wide (by omega), HAM.out, ⟨HY4.out.mono (by omega) (Nat.le_refl _), Nat.le_refl _⟩, by rw [intL_len]; omega⟩
  | true =>
    have hsz4 : w2.heap.size ≤ w4.heap.size := by omega
    have hl4 : (intL q).length ≤ 4194304 := by rw [intL_len]; omega
    have HL4 := Lib.hid hl4; clear hl4
    go_wp2_with (at_builtin; go_must (refine append_int HY4.out hsz4 0 rfl rfl rfl rfl HL4.out ?_; intro v5 w5 hr5 hb5 hz5))
    have HR5 := Lib.hid hr5
    have hb45 := hb5 w4 w2.heap.size (Nat.le_refl _) (Below.refl _ _)
    have HB5 := Lib.hid ((draw_below HG.out HD4.out).trans (hb45.mono (by omega)))
    have HX5 := Lib.hid (show OwnK w1.heap.size w5.heap.size w5 _ a from
      (HX.out.same (fun k h1 h2 => (hb45.block k h2).trans ((HG4.out.block k (by omega) (fun e => by have := Option.some.inj e; omega)).trans (HG3.out.block k h2 (fun e => by have := Option.some.inj e; omega)))) (by omega)).grow)
    clear hr5 hb5 hb45
    go_ret2
    exact ⟨_, v5, a, _, rfl, HB5.out, HX5.out.wide (by omega), HAM.out, ⟨HR5.out.mono (by omega) (Nat.le_refl _), Nat.le_refl _⟩, by rw [List.length_append, intL_len]; simp; omega⟩
end Go.Proofs.YtppimgkampkfjaaGreatDoor
namespace Go.Proofs.YtppimgkampkfjaaGreatDoor
open Go.RowKit

theorem MatB.up {w w' : World} {v : Value} {m : List (List Int)} (h : MatB w.heap.size w v m) (hb : Below w.heap.size w w') : MatB w'.heap.size w' v m := (h.below hb (Nat.le_refl _)).mono hb.size
theorem RowB.up {w w' : World} {v : Value} {l : List Int} (h : RowB w.heap.size w v l) (hb : Below w.heap.size w w') : RowB w'.heap.size w' v l := (h.below hb (Nat.le_refl _)).mono hb.size
theorem below_of_drewN {w w' : World} (h : ∃ q, w' = w.drewN q) : Below w.heap.size w w' := by
  obtain ⟨q, rfl⟩ := h
  exact below_drewN q
theorem smS_same (v v' : Value) (l : List Int) (w : World) (h : RowB w.heap.size w v l) (h' : RowB w.heap.size w v' l) (hl : l.length ≤ maxLen) :
    Calls Tryz.prog 35 #[v, v'] w fun e w' => e = .returned (.bool true) ∧ Below w.heap.size w w' :=
  (smS_any _ v v' l l w h h' hl hl).mono fun e w' ⟨h1, h2⟩ => ⟨by rw [h1, eqL_yes rfl], below_of_drewN h2⟩
theorem smSS_same (v v' : Value) (m : List (List Int)) (w : World) (h : MatB w.heap.size w v m) (h' : MatB w.heap.size w v' m) (hf : RowsFit m) :
    Calls Tryz.prog 12 #[v, v'] w fun e w' => e = .returned (.bool true) ∧ Below w.heap.size w w' :=
  (smSS_any _ v v' m m w h h' hf hf).mono fun e w' ⟨h1, h2⟩ => ⟨by rw [h1, eqM_yes rfl], below_of_drewN h2⟩
theorem inl_yes (v v' : Value) (T : List (List Int)) (p : List Int) (w : World) (h : MatB w.heap.size w v T) (h' : RowB w.heap.size w v' p) (hf : RowsFit T) (hl : p.length ≤ maxLen) (hm : p ∈ T) :
    Calls Tryz.prog 43 #[v, v'] w fun e w' => e = .returned (.bool true) ∧ Below w.heap.size w w' :=
  (inl_any _ v v' T p w h h' hf hl).mono fun e w' ⟨h1, h2⟩ => ⟨by rw [h1]; unfold inB2; rw [decide_eq_true hm], below_of_drewN h2⟩
theorem big_any (w : World) (a : Option Addr) (len cap : Nat) (hl : len ≤ 9223372036854775807) :
    Calls Tryz.prog 6 #[.slice a len cap] w fun e w' => e = .returned (.bool (decide (1048576 < (len : Int)))) ∧ w = w' := by
  go_enter Tryz.func6, Tryz.ntmps6
  go_wp2
  go_ret
  exact ⟨rfl, rfl⟩
theorem nmoi_e (v : Value) (m : List (List Int)) (s : ByteArray) (hs : s = ⟨(nameO m).toArray⟩) (w : World) (h : MatB w.heap.size w v m) (hf : RowsFit m) (hN : NamesIs w namesL) :
    Calls Tryz.prog 24 #[v] w fun e w' => e = .returned (.string s) ∧ Below w.heap.size w w' := by
  subst hs
  exact nmoi_any _ v m w h (Nat.le_refl _) hf hN
theorem s_none {s : ByteArray} {l : List UInt8} (hs : s = ⟨l.toArray⟩) (h : l = []) : s.toList.isEmpty = true := by
  rw [ByteArray.toList_eq, hs, h]; rfl
theorem s_some {s : ByteArray} {l : List UInt8} (hs : s = ⟨l.toArray⟩) (h : l ≠ []) : s.toList.isEmpty = false := by
  rw [ByteArray.toList_eq, hs]
  cases l with
  | nil => exact absurd rfl h
  | cons a r => rfl

/-- All that the law asks where an isomorphism is found. -/
theorem iso_all {a b : List (List Int)} (h : isoB a b = true) : relB a (isoL a b) = true ∧ relM a (isoL a b) = b ∧ (nameO a = [] → connB (partsV a).length = false) ∧ finB b = finB a ∧ affB (connB (partsV b).length) (minV b) = affB (connB (partsV a).length) (minV a) := by
  obtain ⟨hI, hJ, q, hq, hL, hp, hl⟩ := iso_found h
  have h4 := hI.2.2.2
  obtain ⟨hql, hqn⟩ := ords_lt a.length h4 q hq
  have hok : RelOk a (isoL a b) := ⟨hI, by
    rw [hL]
    refine tab_ord hql (fun k hk => ⟨hqn k hk, fun j hj he => ?_⟩)
    have := (ords_inj a.length h4 q hq k hk j (by omega)).1 he
    omega⟩
  have hJ' : IsC (pick a (intL q)) := by rw [hp]; exact hJ
  have hl' : (pick a (intL q)).length = a.length := by rw [hp]; exact hl
  refine ⟨relB_yes hok, by rw [relM_yes hok, hL, hp], fun hn => ?_, ?_, ?_⟩
  · cases hc : connB (partsV a).length with
    | false => rfl
    | true => exact absurd hn (nameO_some hc)
  · have := fin_inv hI hq hJ' hl'
    rw [hp] at this
    exact this
  · have h1 := parts_inv hI hq hJ' hl'
    have h2 := aff_inv (c := connB (partsV a).length) hI hq hJ' hl'
    rw [hp] at h1 h2
    rw [h1]
    exact h2
/-- The product of two symmetries, as the law forms it. -/
theorem sym_prod {m : List (List Int)} {i k : Nat} (hi : i < (obV m m).length) (hk : k < (obV m m).length) :
    ∃ (n : Nat) (P : List Int), n ≤ 4 ∧ P.length = n ∧ ((obV m m).getD i []).length = n ∧ ((obV m m).getD k []).length = n ∧ P ∈ obV m m ∧
      ∀ t, t < n → ∃ x : Nat, x < n ∧ ((obV m m).getD k []).getD t 0 = (x : Int) ∧ ((obV m m).getD i []).getD x 0 = P.getD t 0 := by
  obtain ⟨hI, q, hq, hqe, hqp⟩ := sym_row hi
  obtain ⟨_, r, hr, hre, hrp⟩ := sym_row hk
  have h4 := hI.2.2.2
  obtain ⟨hql, hqn⟩ := ords_lt m.length h4 q hq
  obtain ⟨hrl, hrn⟩ := ords_lt m.length h4 r hr
  rw [hqe, hre]
  refine ⟨m.length, intL (mapK q r), h4, by rw [intL_len, mapK_len]; exact hrl, by rw [intL_len]; exact hql, by rw [intL_len]; exact hrl, sym_comp hI hq hr hqp hrp, fun t ht => ⟨r.getD t 0, hrn t ht, intL_get r t (by omega), ?_⟩⟩
  rw [intL_get q _ (by rw [hql]; exact hrn t ht), intL_get _ t (by rw [mapK_len]; omega), mapK_get q r t (by omega)]
theorem take_snoc {P : List Int} {t : Nat} (h : t < P.length) : P.take t ++ [P.getD t 0] = P.take (t + 1) := by
  rw [List.take_succ_eq_append_getElem h]; simp [List.getD, h]
end Go.Proofs.YtppimgkampkfjaaGreatDoor
namespace Go.Proofs.YtppimgkampkfjaaGreatDoor
open Go.RowKit

theorem dec_small {u : Nat} (h : u < 10) : Lib.decDigits u = [UInt8.ofNat (48 + u)] := by rw [Lib.decDigits, dif_pos h]
theorem dec_big {u : Nat} (h : ¬ u < 10) : Lib.decDigits u = Lib.decDigits (u / 10) ++ [UInt8.ofNat (48 + u % 10)] := by rw [Lib.decDigits, dif_neg h]

/-- What the loop keeps: q is still to be written, out is written. -/
def DRel (n q : Nat) (s : ByteArray) : Prop := (0 < q ∧ Lib.decDigits q ++ s.data.toList = Lib.decDigits n) ∨ (q = 0 ∧ s.data.toList = Lib.decDigits n)
theorem drel_step {n q : Nat} {s : ByteArray} (hq : 0 < q) (h : DRel n q s) : DRel n (q / 10) (⟨#[UInt8.ofNat (48 + q % 10)]⟩ ++ s) := by
  rcases h with ⟨_, h⟩ | ⟨h, _⟩
  · have e : ((⟨#[UInt8.ofNat (48 + q % 10)]⟩ : ByteArray) ++ s).data.toList = UInt8.ofNat (48 + q % 10) :: s.data.toList := by rw [str_app]; rfl
    by_cases hs : q < 10
    · refine Or.inr ⟨by omega, ?_⟩
      rw [dec_small hs] at h
      rw [e, ← h, Nat.mod_eq_of_lt hs]; rfl
    · refine Or.inl ⟨by omega, ?_⟩
      rw [dec_big hs] at h
      rw [e, ← h]; simp
  · omega

theorem drel_end {n : Nat} {s : ByteArray} (h : DRel n 0 s) : s.data.toList = Lib.decDigits n := by
  rcases h with ⟨h, _⟩ | ⟨_, h⟩
  · omega
  · exact h

set_option maxHeartbeats 400000 in
set_option maxRecDepth 100000 in
theorem fmts_pos (n : Nat) (w : World) (h0 : 0 < n) (h1 : n ≤ 9223372036854775807) :
    Calls Tryz.prog 78 #[.int .i64 n] w fun e w' => e = .returned (.string ⟨(Lib.decDigits n).toArray⟩) ∧ Below w.heap.size w w' := by
  have hz : ((n : Int) == 0) = false := by rw [beq_eq_false_iff_ne]; omega
  have hneg : decide ((n : Int) < 0) = false := by simp
  go_enter Tryz.func78, Tryz.ntmps78
  go_wp2_with fail
  go_loopw [0, 3, 5] (fun a o _ wr => ∃ (q : Nat) (s : ByteArray), a = .int .i64 q ∧ o = .string s ∧ q ≤ n ∧ s.size + q ≤ n ∧ DRel n q s ∧ Below w.heap.size w wr ∧ w.heap.size ≤ wr.heap.size) (fun a _ _ _ => (intOf a).toNat)
  case atStart => exact ⟨n, ⟨#[]⟩, rfl, rfl, Nat.le_refl _, Nat.le_of_eq (Nat.zero_add _), Or.inl ⟨h0, by simp⟩, Below.refl _ _, Nat.le_refl _⟩
  case round =>
    obtain ⟨q, s, rfl, rfl, hq, hs, hr, hb, hz2⟩ := hrel
    have HR := Lib.hid hr; clear hr
    have HB := Lib.hid hb; clear hb
    by_cases hq0 : 0 < q
    · have hne : ((q : Int) != 0) = true := by rw [bne_iff_ne]; omega
      rename_i wr
      obtain ⟨b, hbq, hbu⟩ : ∃ b : UInt8, b = UInt8.ofNat (48 + q % 10) ∧ (b.toNat : Int) = 48 + (q : Int) % 10 := ⟨_, rfl, by rw [u8_nat _ (by omega)]; omega⟩
      have HBQ := Lib.hid hbq; clear hbq
      have hcv := conv_byte wr b hbu
      clear hbu
      have hst := drel_step hq0 HR.out
      rw [← HBQ.out] at hst
      have HST := Lib.hid hst; clear hst
      go_wp2_with fail
      refine ⟨⟨q / 10, _, by go_num, rfl, by omega, ?_, HST.out, HB.out.alloc hz2 _, by simp; omega⟩, by simp [intOf]; omega⟩
      rw [str_app_size]; omega
    · obtain rfl : q = 0 := by omega
      go_wp2_with fail
      go_ret
      exact ⟨ret_string (str_of (drel_end HR.out)), HB.out⟩

theorem itoa_pos (n : Nat) : Lib.itoa (n : Int) = Lib.decDigits n := by unfold Lib.itoa; rw [if_neg (by omega), Int.toNat_natCast]
theorem itoa_neg (n : Nat) (h : 0 < n) : Lib.itoa (-(n : Int)) = 45 :: Lib.decDigits n := by
  unfold Lib.itoa; rw [if_pos (by omega), Int.natAbs_neg, Int.natAbs_natCast]

theorem neg_tmod (q : Nat) : (-(q : Int)).tmod 10 = -((q : Int) % 10) := by
  rw [Int.neg_tmod, Int.tmod_eq_emod_of_nonneg (by omega)]
theorem neg_tdiv (q : Nat) : (-(q : Int)).tdiv 10 = -((q : Int) / 10) := by
  rw [Int.neg_tdiv, Int.tdiv_eq_ediv_of_nonneg (by omega)]

set_option maxHeartbeats 400000 in
set_option maxRecDepth 100000 in
theorem fmts_neg (n : Nat) (w : World) (h0 : 0 < n) (h1 : n ≤ 9223372036854775808) :
    Calls Tryz.prog 78 #[.int .i64 (-(n : Int))] w fun e w' => e = .returned (.string ⟨(45 :: Lib.decDigits n).toArray⟩) ∧ Below w.heap.size w w' := by
  have hz : (-(n : Int) == 0) = false := by rw [beq_eq_false_iff_ne]; omega
  have hneg : decide (-(n : Int) < 0) = true := by rw [decide_eq_true_eq]; omega
  go_enter Tryz.func78, Tryz.ntmps78
  go_wp2_with fail
  go_loopw [0, 3, 5] (fun a o _ wr => ∃ (q : Nat) (s : ByteArray), a = .int .i64 (-(q : Int)) ∧ o = .string s ∧ q ≤ n ∧ (s.size = 0 ∨ s.size + q ≤ n / 10 + 1) ∧ DRel n q s ∧ Below w.heap.size w wr ∧ w.heap.size ≤ wr.heap.size) (fun a _ _ _ => (-(intOf a)).toNat)
  case atStart => exact ⟨n, ⟨#[]⟩, rfl, rfl, Nat.le_refl _, Or.inl rfl, Or.inl ⟨h0, by simp⟩, Below.refl _ _, Nat.le_refl _⟩
  case round =>
    obtain ⟨q, s, rfl, rfl, hq, hs, hr, hb, hz2⟩ := hrel
    have HR := Lib.hid hr; clear hr
    have HB := Lib.hid hb; clear hb
    have ht := neg_tmod q
    have hd := neg_tdiv q
    by_cases hq0 : 0 < q
    · have hne : (-(q : Int) != 0) = true := by rw [bne_iff_ne]; omega
      rename_i wr
      have hs1 : s.size ≤ n / 10 + 1 := by omega
      have HS := Lib.hid hs; clear hs
      obtain ⟨b, hbq, hbu⟩ : ∃ b : UInt8, b = UInt8.ofNat (48 + q % 10) ∧ (b.toNat : Int) = 48 + (q : Int) % 10 := ⟨_, rfl, by rw [u8_nat _ (by omega)]; omega⟩
      have HBQ := Lib.hid hbq; clear hbq
      have hst := drel_step hq0 HR.out
      rw [← HBQ.out] at hst
      have HST := Lib.hid hst; clear hst
      by_cases hm : (q : Int) % 10 = 0
      · have hcv := conv_byte wr b (u := 48 + -((q : Int) % 10)) (by omega)
        have hm1 : (q : Int) % 10 ≤ 0 := by omega
        clear hm hbu
        go_wp2_with fail
        refine ⟨⟨q / 10, _, by go_num, rfl, by omega, Or.inr ?_, HST.out, HB.out.alloc hz2 _, by simp; omega⟩, by simp [intOf]; omega⟩
        have := HS.out
        rw [str_app_size]; omega
      · have hcv := conv_byte wr b hbu
        have hm1 : 0 < (q : Int) % 10 := by omega
        clear hm hbu
        go_wp2_with fail
        refine ⟨⟨q / 10, _, by go_num, rfl, by omega, Or.inr ?_, HST.out, HB.out.alloc hz2 _, by simp; omega⟩, by simp [intOf]; omega⟩
        have := HS.out
        rw [str_app_size]; omega
    · obtain rfl : q = 0 := by omega
      have hs1 : s.size ≤ n / 10 + 1 := by omega
      clear hs
      go_wp2_with fail
      go_ret
      refine ⟨ret_string (str_of ?_), HB.out⟩
      rw [str_app, drel_end HR.out]; rfl

set_option maxHeartbeats 400000 in
theorem fmts_zero (w : World) :
    Calls Tryz.prog 78 #[.int .i64 0] w fun e w' => e = .returned (.string ⟨(Lib.itoa 0).toArray⟩) ∧ Below w.heap.size w w' := by
  have hi : Lib.itoa 0 = [48] := by
    have := itoa_pos 0
    rw [dec_small (by omega)] at this
    exact this
  have HI := Lib.hid hi; clear hi
  go_enter Tryz.func78, Tryz.ntmps78
  go_wp2
  go_ret
  rw [HI.out]
  exact ⟨rfl, Below.refl _ _⟩

theorem fmts_any (n : Int) (w : World) (h0 : -9223372036854775808 ≤ n) (h1 : n ≤ 9223372036854775807) :
    Calls Tryz.prog 78 #[.int .i64 n] w fun e w' => e = .returned (.string ⟨(Lib.itoa n).toArray⟩) ∧ Below w.heap.size w w' := by
  rcases Int.lt_trichotomy n 0 with h | h | h
  · obtain ⟨m, rfl⟩ : ∃ m : Nat, n = -(m : Int) := ⟨n.natAbs, by omega⟩
    rw [itoa_neg m (by omega)]
    exact fmts_neg m w (by omega) (by omega)
  · subst h
    exact fmts_zero w
  · obtain ⟨m, rfl⟩ := Int.eq_ofNat_of_zero_le (show 0 ≤ n by omega)
    rw [itoa_pos m]
    exact fmts_pos m w (by omega) (by omega)

theorem below_grow {w : World} (k : Nat) (os : Array Obj) : Below w.heap.size w (Sort.grow (w.drewN k) os) := by
  refine ⟨rfl, rfl, rfl, ?_, ?_⟩
  · show w.heap.size ≤ (w.heap ++ os).size
    simp
  · intro i hi
    show (w.heap ++ os)[i]? = w.heap[i]?
    rw [Array.getElem?_append_left hi]

set_option maxHeartbeats 400000 in
theorem fmti_any (n : Int) (w : World) (h0 : -9223372036854775808 ≤ n) (h1 : n ≤ 9223372036854775807)
    (htab : Lib.TabIs Tryz.prog w "internal/strconv.uint64pow10" .u64 Lib.pow10Tab) :
    Calls Tryz.prog 74 #[.int .i64 n] w fun e w' => e = .returned (.string ⟨(Lib.itoa n).toArray⟩) ∧ Below w.heap.size w w' := by
  have HT := Lib.hid htab; clear htab
  go_enter Tryz.func74, Tryz.ntmps74
  go_wp2_with (go_at_call 119; go_must (refine (Tryz.strconv_Itoa n h0 h1 _ HT.out).mono ?_; rintro e w' ⟨rfl, k, os, rfl⟩))
  go_ret
  exact ⟨rfl, below_grow k os⟩
end Go.Proofs.YtppimgkampkfjaaGreatDoor
