/-
  The draws of weights.
  The last step of every law (over any program): a call that only made new memory and answered true leaves its arguments reading as they read.
  Two closed facts of this seat's program.
  What the condition of FnCartans' row on the listed tables gives.
  Formats of rows and matrices as the program makes them: slices of strings of the call's own (no walk here).
-/
import Derived.Test.YtfjeghalkmkgoaaGreatDoorFW16
import Derived.Test.YtfjeghalkmkgoaaGreatDoorFW13
import Derived.Test.YtfjeghalkmkgoaaGreatDoorFW18
import Derived.ProofKit
import Derived.Test.YtfjeghalkmkgoaaGreatDoorRows
import Derived.LaidMore
import Derived.OpenShut
import Derived.Stop.Joined
import Derived.Lib.LaidTab
import Derived.Stop.LaidErr
import Derived.Lib.ItoaNum
import Derived.Below
import Derived.Test.YtfjeghalkmkgoaaGreatDoorFW17
import Derived.Test.YtfjeghalkmkgoaaGreatDoorFW07
namespace Go.Proofs.YtfjeghalkmkgoaaGreatDoor
open Go.RowKit

set_option maxHeartbeats 2000000 in
set_option maxRecDepth 100000 in
theorem l6w_any (B C : Nat) (w : World) (cv : Value) (len : Nat) (hd : Dr B C cv len w) (a : Option Addr) (n cap : Nat) (hn : n ≤ 100) (most : Nat) (hm : most ≤ 100) :
    Calls Tryz.prog 49 #[.pointer (some ⟨C, 0, none⟩), .slice a n cap, .int .i64 most] w fun e w' => ∃ x l, e = .returned x ∧ DrTo B C cv len w w' ∧ OwnS w.heap.size w'.heap.size w' x l ∧ l.length = n ∧ Fits l := by
  have hCw := hd.lt
  have HD := Lib.hid hd; clear hd
  have hb0 : Below w.heap.size w (w.alloc (.cells #[] 3)) := (Below.refl _ _).alloc (Nat.le_refl _) _
  have HD0 := Lib.hid (show DrTo B C cv len w (w.alloc (.cells #[] 3)) from ⟨HD.out.alloc _, grown_of_below hb0⟩)
  have hbe := fun (wx : World) (hx : Dr B C cv len wx) => below_any B C wx cv len (2 * most + 1) (by omega) (by omega) hx
  have e1 : ((2 * most + 1 : Nat) : Int) = 2 * (most : Int) + 1 := by omega
  rw [e1] at hbe
  have HBE := Lib.hid hbe
  clear hb0 e1 hbe
  go_enter Tryz.func49, Tryz.ntmps49
  go_wp2_with fail
  go_loopw [7, 8] (fun o i wr => ∃ (t : Nat) (l : List Int) (wq : World), wq = wr ∧ t ≤ n ∧ i = .int .i64 t ∧ RowI w.heap.size wq.heap.size wq o l ∧ l.length = t ∧ Hid (Fits l) ∧ DrTo B C cv len w wq) (fun _ i _ => n - (intOf i).toNat)
  case atStart => exact ⟨0, [], _, rfl, Nat.zero_le _, rfl, row_empty w, rfl, Lib.hid (fun x hx => by simp at hx), HD0.out⟩
  case round =>
    obtain ⟨t, l, wq, rfl, ht, rfl, hr', hll, HFT, hdq⟩ := hrel
    have HR := Lib.hid hr'; have HDQ := Lib.hid hdq
    have hdr1 := Lib.hid hdq.1
    have hsq := hdq.2.size
    have HLL := Lib.hid hll
    clear hr' hdq hll
    by_cases hlt : t < n
    · have hlt' : decide (t < n) = true := decide_eq_true hlt
      have HL4 := Lib.hid (show l.length ≤ 4194304 by rw [HLL.out]; omega)
      go_wp2_with fail
      refine (HBE.out _ hdr1.out).mono ?_
      rintro e w3 ⟨y, hy, rfl, hd3⟩
      have HD3 := Lib.hid (HDQ.out.trans hd3)
      have HR3 := Lib.hid (HR.out.drawn hCw hd3)
      have hs3 := hd3.2.size
      have hsz3 : w.heap.size ≤ w3.heap.size := by omega
      have HFN := Lib.hid (show Fits (l ++ [(y : Int) - (most : Int)]) from fun x hx => by
        rcases List.mem_append.1 hx with h | h
        · exact HFT.out x h
        · simp at h; omega)
      clear hd3 hdr1
      go_wp2_with (at_builtin; go_must (refine append_int HR3.out hsz3 ((y : Int) - (most : Int)) rfl rfl rfl rfl HL4.out ?_; intro v4 w4 hr4 hb4 hz4))
      have HR4 := Lib.hid hr4
      have HD4 := Lib.hid (HD3.out.past (hb4 w3 w.heap.size (Nat.le_refl _) (Below.refl _ _)) hCw)
      clear hr4 hb4 hz4
      go_wp2_with fail
      exact ⟨⟨t + 1, _, _, rfl, by omega, by go_num, HR4.out, by rw [List.length_append, HLL.out]; rfl, HFN, HD4.out⟩, by simp [intOf]; omega⟩
    · obtain rfl : t = n := by omega
      have hd0 : decide (t < t) = false := by simp
      go_wp2_with fail
      go_ret
      exact ⟨_, l, rfl, HDQ.out, ⟨HR.out, Nat.le_refl _⟩, HLL.out, HFT.out⟩

theorem RowI.put0 {A B : Nat} {w : World} {g n cap : Nat} {l : List Int} (h : RowI A B w (.slice (some ⟨g, 0, none⟩) n cap) l) (hl : l.length = n) (h0 : 0 < n) :
    (∃ c, w.cell? ⟨g, 0, none⟩ = some c) ∧ w.frozen? ⟨g, 0, none⟩ = false ∧ A ≤ g ∧ ∀ x, RowI A B (w.setCell ⟨g, 0, none⟩ (.int .i64 x)) (.slice (some ⟨g, 0, none⟩) n cap) (l.set 0 x) := by
  obtain ⟨h1, h2⟩ := h
  rw [hl] at h1
  refine ⟨⟨_, (h1.cellAt 0 (by omega)).trans (List.getElem?_eq_getElem (by rw [intsV_len]; omega))⟩, h1.frozenAt 0, (h1.lt g rfl).1, fun x => ⟨?_, h2⟩⟩
  obtain ⟨hst, _⟩ := h1.stored 0 (.int .i64 x)
  rw [intsV_set] at hst
  rw [List.length_set, hl]
  exact hst
theorem fits_set {l : List Int} (h : Fits l) {x : Int} (hx : isI64 x) (j : Nat) : Fits (l.set j x) := fun y hy => by
  rcases List.mem_or_eq_of_mem_set hy with h1 | h1
  · exact h y h1
  · rw [h1]; exact hx
def DrawnMV (w : World) (e : Ending) (w' : World) : Prop :=
  ∃ x y a l, e = .returned (.tuple #[x, y]) ∧ Below w.heap.size w w' ∧ OwnK w.heap.size w'.heap.size w' x a ∧ AnyM a ∧ OwnS w.heap.size w'.heap.size w' y l ∧ l.length ≤ 6 ∧ Fits l
set_option maxHeartbeats 2000000 in
set_option maxRecDepth 100000 in
theorem l6a_any (B : Nat) (w : World) (cv : Value) (len : Nat) (hl : len ≤ 1048576) (hc : CodeB B w cv len) (hB : B ≤ w.heap.size) :
    Calls Tryz.prog 31 #[cv] w (DrawnMV w) := by
  have HN := Lib.hid (new_any B w cv len hl hB hc)
  clear hc
  go_enter Tryz.func31, Tryz.ntmps31
  go_wp2_with fail
  refine HN.out.mono ?_
  rintro e w1 ⟨rfl, hd, hg⟩
  have HG := Lib.hid hg
  have hs1 := hg.size
  have hC1 := hd.lt
  have HA := Lib.hid (any_any B w.heap.size w1 cv len hd)
  clear hd hg HN
  go_wp2_with fail
  refine HA.out.mono ?_
  rintro e w2 ⟨x, a, rfl, hd2, hx, ha⟩
  have HD2 := Lib.hid hd2
  have HX := Lib.hid hx
  have HAM := Lib.hid ha
  have hs2 := hd2.2.size
  obtain ⟨xa, xcap, rfl⟩ := hx.mat.slice
  have hn5 := ha.1
  have hn1 := ha.2.2
  clear hd2 hx ha HA
  generalize hn : a.length = n at *
  have HLN := Lib.hid hn; clear hn
  have HW := Lib.hid (l6w_any B w.heap.size w2 cv len HD2.out.1 xa n xcap (by omega) 4 (by omega))
  go_wp2_with fail
  refine HW.out.mono ?_
  rintro e w3 ⟨y, l, rfl, hd3, hy, hll, hft⟩
  have HD3 := Lib.hid (HD2.out.trans hd3)
  have HX3 := Lib.hid (HX.out.drawn hC1 hd3)
  have hs3 := hd3.2.size
  obtain ⟨g, ycap, rfl, hgA, hgB⟩ := hy.1.at' (by omega)
  rw [hll] at hy ⊢
  have HY := Lib.hid hy
  have HLL := Lib.hid hll
  have HFT := Lib.hid hft
  clear hd3 hy HW HX HD2 hll hft
  go_wp2_with fail
  refine (below_any B w.heap.size _ cv len 14 (by omega) (by omega) HD3.out.1).mono ?_
  rintro e w4 ⟨q, hq, rfl, hd4⟩
  have HD4 := Lib.hid (HD3.out.trans hd4)
  have HX4 := Lib.hid (HX3.out.drawn hC1 hd4)
  have HY4 := Lib.hid ((HY.out.1).drawn (C := w.heap.size) (by omega) hd4)
  have hs4 := hd4.2.size
  clear hd4 HX3 HD3 HY
  rcases (show q = 0 ∨ q = 1 ∨ 2 ≤ q by omega) with rfl | rfl | hq2
  · have HL4 := Lib.hid (show l.length ≤ 4194304 by rw [HLL.out]; omega)
    have hsz4 : w2.heap.size ≤ w4.heap.size := by omega
    go_wp2_with (at_builtin; go_must (refine append_int HY4.out hsz4 1 rfl rfl rfl rfl HL4.out ?_; intro v6 w6 hr6 hb6 hz6))
    have HR6 := Lib.hid hr6
    have hb6' := hb6 w4 w2.heap.size (Nat.le_refl _) (Below.refl _ _)
    have HX6 := Lib.hid ((HX4.out.same (fun j h1 h2 => hb6'.block j h2) hb6'.size).grow)
    have HB6 := Lib.hid ((draw_below HG.out HD4.out).trans (hb6'.mono (by omega)))
    clear hr6 hb6 hz6 hb6'
    go_wp2_with fail
    go_ret2
    exact ⟨_, _, a, _, rfl, HB6.out, HX6.out.wide (by omega), HAM.out, ⟨HR6.out.mono (by omega) (Nat.le_refl _), Nat.le_refl _⟩, by rw [List.length_append, HLL.out]; simp; omega, fun z hz => by
      rcases List.mem_append.1 hz with h | h
      · exact HFT.out z h
      · simp at h; omega⟩
  · have HGL := Lib.hid (show (w4.alloc (.cells (([-1000, 1000, 1001] : List Int).map (Value.int .i64)).toArray 3)).heap[w4.heap.size]? = some (.cells (([-1000, 1000, 1001] : List Int).map (Value.int .i64)).toArray 3 (0, 0)) from (MapKept.heap_alloc w4 _).1)
    have HD0 := Lib.hid (HD4.out.1.alloc (.cells (([-1000, 1000, 1001] : List Int).map (Value.int .i64)).toArray 3))
    have hb0 : Below w4.heap.size w4 (w4.alloc (.cells (([-1000, 1000, 1001] : List Int).map (Value.int .i64)).toArray 3)) := (Below.refl _ _).alloc (Nat.le_refl _) _
    have HB0 := Lib.hid hb0
    have HPK := Lib.hid (pick_any B w.heap.size (w4.alloc (.cells (([-1000, 1000, 1001] : List Int).map (Value.int .i64)).toArray 3)) cv len w4.heap.size [-1000, 1000, 1001] 3 rfl (by omega) (by omega) (fun v hv => by simp at hv; unfold isI64; omega) HGL.out (by omega) HD0.out)
    clear hb0 HGL
    go_wp2_with fail
    refine HPK.out.mono ?_
    rintro e w5 ⟨v, hv, rfl, hd5⟩
    have hd05 : DrTo B w.heap.size cv len w4 w5 := (DrTo.of_below HD4.out.1 HB0.out).trans hd5
    have HD5 := Lib.hid (HD4.out.trans hd05)
    have HX5 := Lib.hid (HX4.out.drawn hC1 hd05)
    have hy5 := HY4.out.drawn (C := w.heap.size) (by omega) hd05
    have hs5 := hd05.2.size
    obtain ⟨⟨c, hcell⟩, hfz, hgA2, hput⟩ := hy5.put0 HLL.out (by omega)
    have HP := Lib.hid (hput v)
    have HFS := Lib.hid (fits_set HFT.out hv 0)
    have hbs : Below w2.heap.size w5 (w5.setCell ⟨g, 0, none⟩ (.int .i64 v)) := (Below.refl _ _).setCell (p := ⟨g, 0, none⟩) hgA _
    have HX6 := Lib.hid ((HX5.out.same (fun j h1 h2 => hbs.block j h2) hbs.size).grow)
    have HB6 := Lib.hid ((draw_below HG.out HD5.out).trans (hbs.mono (by omega)))
    clear hd5 hd05 HPK HB0 HD0 HX4 HY4 hput hbs hy5 hv
    go_wp2_with fail
    go_ret2
    exact ⟨_, _, a, _, rfl, HB6.out, HX6.out.wide (by omega), HAM.out, ⟨HP.out.mono (by omega) (by simp), Nat.le_refl _⟩, by rw [List.length_set, HLL.out]; omega, HFS.out⟩
  · have hr0 : ((q : Int) == 0) = false := by rw [beq_eq_false_iff_ne]; omega
    have hr1 : ((q : Int) == 1) = false := by rw [beq_eq_false_iff_ne]; omega
    go_wp2_with fail
    go_ret2
    exact ⟨_, _, a, l, rfl, draw_below HG.out HD4.out, HX4.out.grow.wide (by omega), HAM.out, ⟨HY4.out.mono (by omega) (Nat.le_refl _), Nat.le_refl _⟩, by rw [HLL.out]; omega, HFT.out⟩
end Go.Proofs.YtfjeghalkmkgoaaGreatDoor
namespace Go.Proofs.YtfjeghalkmkgoaaGreatDoor
open Go.ChangeShapes Go.WideShapes Go.ChangeAt Go.ChangeMaps Go.RowKit

section
variable {H : Type} {enc : TypeId × Value → H} {P : Program}

def rowed (P : Program) (ts : List TypeId) : Bool := ts.all fun t => P.readableRec t && decide (t < P.types.size)

theorem stays_all (hl : laidOutB P = true) {W W' : World} (hb : Below W.heap.size W W') (sp : Nat → Bool) :
    ∀ {ts : List TypeId} {vs : List Value} {ds : List (DataW H)} {p : List MemPlace}, rowed P ts = true → (∀ x ∈ p, x.block < W.heap.size) → (∀ x ∈ p, sp x.block = true) →
      DataW.TrodAll enc P W 0 (fun _ => true) true ts vs ds p → DataW.TrodAll enc P W' 0 sp true ts vs ds p
  | [], _, _, _, _, _, _, h => by
    obtain ⟨rfl, rfl, rfl⟩ := trodAll_nil h
    rfl
  | t :: ts, _, _, _, hr, hlt, hs, h => by
    obtain ⟨v, vs', d, ds', p, q, rfl, rfl, rfl, h1, h2⟩ := trodAll_cons h
    simp only [rowed, List.all_cons, Bool.and_eq_true, decide_eq_true_eq] at hr
    have hp : ∀ x ∈ p, x.block < W.heap.size := fun x hx => hlt x (by simp [hx])
    refine ⟨p, q, WideElems.Trod_stays hl hr.1.1 hr.1.2 h1 (fun x hx => hb.same (hp x hx)) (fun x hx => hs x (by simp [hx])), ?_, rfl⟩
    exact stays_all hl hb sp (ts := ts) hr.2 (fun x hx => hlt x (by simp [hx])) (fun x hx => hs x (by simp [hx])) h2

/-- What a law leaves behind: it answered true, and below the old heap's end nothing has turned. -/
theorem law_post {f : Func} {s : ChangeSpec} {W W' : World} {args : Array Value} {ds gs : List (DataW H)} {before : List MemPlace} {tb : TypeId}
    (hl : laidOutB P = true) (hr : rowed P f.params.toList = true) (hv : s.vars = []) (hres : f.resultTypes = #[tb]) (htb : P.underlying tb = some .bool)
    (hW : DataW.Whole enc P f.params.toList s.vars false W args.toList ds gs before)
    (hfn : s.fn H (ds ++ gs) = { results := [.lit (.bool true)], args := ds }) (hb : Below W.heap.size W W') :
    s.post enc P f false true false false W args (.bool true) W' := by
  have hlt : ∀ p ∈ before, p.block < W.heap.size := fun p hp => hW.lt p hp
  have hW0 := hW
  obtain ⟨p, q, hA, hV, rfl, hz, -⟩ := hW
  rw [hv] at hV
  obtain ⟨rfl, rfl⟩ := trodVars_none hV
  have hrl : (Value.bool true).resultList f.resultTypes.size = [.bool true] := by rw [hres]; rfl
  have hR : ∀ (b : Nat) (sp : Nat → Bool) (hd : Bool), DataW.TrodAll enc P W' b sp hd f.resultTypes.toList ((Value.bool true).resultList f.resultTypes.size) (s.fn H (ds ++ [])).results [] := by
    intro b sp hd
    rw [hrl, hres, hfn]
    exact trodAll_mk1 (shut_bool htb true)
  have hA' : ∀ sp : Nat → Bool, (∀ x ∈ p, sp x.block = true) → DataW.TrodAll enc P W' 0 sp true f.params.toList args.toList (s.fn H (ds ++ [])).args p := by
    intro sp hs
    rw [hfn]
    exact stays_all hl hb sp hr (fun x hx => hlt x (by simp [hx])) hs hA
  have hV' : ∀ sp : Nat → Bool, DataW.TrodVars enc P W' sp s.vars (s.fn H (ds ++ [])).vars [] := by
    intro sp
    rw [hfn, hv]
    rfl
  refine ⟨ds, [], p ++ [], [], p, [], hW0, hR _ _ _, hA' _ (fun x hx => by simpa using hlt x (by simp [hx])), hV' _, World.keptBut_mono (fun x hx => ?_) (hb.frame (· ∈ p ++ [])), fun h => by cases h⟩
  exact ⟨hx, Or.inr (Or.inl (by simpa using hx))⟩
end
end Go.Proofs.YtfjeghalkmkgoaaGreatDoor
namespace Go.Proofs.YtfjeghalkmkgoaaGreatDoor
theorem seat_own : ownKnob Tryz.prog.godebug = none := by kernel_rfl
theorem seat_laidOut : laidOutB Tryz.prog = true := by kernel_rfl
end Go.Proofs.YtfjeghalkmkgoaaGreatDoor
namespace Go.Proofs.YtfjeghalkmkgoaaGreatDoor
open Go.ChangeShapes Go.WideShapes Go.ChangeAt Go.RowKit

theorem tab_below {W W' : World} {name : String} {k : IntKind} {zs : List Int} (h : Lib.TabIs Tryz.prog W name k zs) (hb : Below W.heap.size W W') : Lib.TabIs Tryz.prog W' name k zs := by
  unfold Lib.TabIs World.var? at h ⊢
  cases hg : Tryz.prog.globalNamed name with
  | none => rw [hg] at h; exact h
  | some g =>
    rw [hg] at h
    simp only [Option.bind_some] at h ⊢
    have hlt : g < W.heap.size := by
      cases hh : W.heap[g]? with
      | none => rw [hh] at h; cases h
      | some o => exact (Array.getElem?_eq_some_iff.1 hh).1
    rw [hb.block g hlt]; exact h
end Go.Proofs.YtfjeghalkmkgoaaGreatDoor
namespace Go.Proofs.YtfjeghalkmkgoaaGreatDoor
open Go.RowKit

theorem join_le (sep : List UInt8) (N : Nat) : ∀ xs : List (List UInt8), (∀ x ∈ xs, x.length ≤ N) → (Lib.join xs sep).length ≤ xs.length * (N + sep.length)
  | [], _ => by simp [Lib.join_nil]
  | x :: r, h => by
    rw [Lib.join_cons]
    have hx := h x (by simp)
    have ht : ∀ r : List (List UInt8), (∀ x ∈ r, x.length ≤ N) → (Lib.joinTail sep r).length ≤ r.length * (N + sep.length) := by
      intro r
      induction r with
      | nil => intro _; simp [Lib.joinTail]
      | cons y r ih =>
        intro hr
        have h1 := ih (fun z hz => hr z (by simp [hz]))
        have h2 := hr y (by simp)
        have e : Lib.joinTail sep (y :: r) = sep ++ y ++ Lib.joinTail sep r := by simp [Lib.joinTail]
        rw [e, List.length_append, List.length_append, List.length_cons, Nat.add_mul]
        omega
    have h3 := ht r (fun z hz => h z (by simp [hz]))
    rw [List.length_append, List.length_cons, Nat.add_mul]
    omega
theorem rowT_len {r : List Int} (h : ∀ x ∈ r, -3 ≤ x ∧ x ≤ 2) : (rowT r).length ≤ r.length * 3 := by
  have := join_le [44] 2 (r.map Lib.itoa) (fun x hx => by
    obtain ⟨y, hy, rfl⟩ := List.mem_map.1 hx
    exact itoa_short (h y hy))
  simpa [rowT] using this
theorem isC_mem {m : List (List Int)} (h : IsC m) {k : Nat} (hk : k < m.length) : ∀ x ∈ m.getD k [], -3 ≤ x ∧ x ≤ 2 := by
  intro x hx
  obtain ⟨j, hj, rfl⟩ := List.getElem_of_mem hx
  have hl := h.1 k hk
  have he := isC_entry h hk (j := j) (by omega)
  have : entry m k j = (m.getD k [])[j] := by unfold entry; simp [List.getD] at hj ⊢; simp [hj]
  rwa [this] at he
theorem fmtT_len {m : List (List Int)} (h : IsC m) : (fmtT m).length ≤ 1000 := by
  have h4 := h.2.2.2
  have := join_le [59] 12 (m.map rowT) (fun x hx => by
    obtain ⟨r, hr, rfl⟩ := List.mem_map.1 hx
    obtain ⟨k, hk, rfl⟩ := List.getElem_of_mem hr
    have h1 := rowT_len (isC_mem h hk)
    have h2 := h.1 k hk
    rw [getD_row m k hk] at h1 h2
    omega)
  rw [List.length_map] at this
  have h5 : m.length * (12 + [59].length) ≤ 4 * 13 := Nat.mul_le_mul h4 (by simp)
  unfold fmtT
  omega

def strVD (l : List ByteArray) : List Value := l.map Value.string
theorem strV_len (l : List ByteArray) : (strVD l).length = l.length := by simp [strVD]
theorem Tryz.infoStr : (Tryz.prog.info? 9).map (fun i => (i.zero, i.size, i.bytes)) = some (some (.string ⟨#[]⟩), 1, 16) := by kernel_rfl
theorem make_strs (n : Nat) (hn : n ≤ 1048576) (w : World) : ∃ w1, (Instr.makeSlice 64 (.int .i64 n) (.int .i64 n)).run Tryz.prog w = .ok (.slice (some ⟨w.heap.size, 0, none⟩) n n) w1 ∧
    w1.ownsRow w.heap.size 9 1 (.slice (some ⟨w.heap.size, 0, none⟩) n n) n (strVD (List.replicate n ⟨#[]⟩)) ∧ (∀ W C, C ≤ w.heap.size → Below C W w → Below C W w1) ∧ w.heap.size < w1.heap.size := by
  obtain ⟨i0, hi, hz0, hz1, hz2⟩ := info_parts Tryz.infoStr
  have h := run_make (P := Tryz.prog) w 64 9 i0 (.string ⟨#[]⟩) Tryz.underlying64 hi hz0 .i64 .i64 (n : Int) (n : Int) (by omega) (Int.le_refl _) (by rw [hz2]; omega) (by omega)
  rw [Int.toNat_natCast] at h
  refine ⟨_, h, ?_, fun W C hC hb => hb.alloc hC _, by simp⟩
  rw [hz1, Nat.mul_one]
  have e : (madeCells (Value.string ⟨#[]⟩).cells n).toList = strVD (List.replicate n ⟨#[]⟩) := by
    apply List.ext_getElem
    · simp [madeCells, strVD]
    · intro i h1 h2
      simp [madeCells, strVD, Value.cells, Nat.mod_one]
  have := World.ownsRow_lit (base := w.heap.size) (e := 9) (size := 1) w (madeCells (Value.string ⟨#[]⟩).cells n) n (Nat.le_refl _) (by unfold maxLen; omega) (by rw [← Array.length_toList, e]; simp [strVD])
  rw [e] at this
  exact this
/-- The first k strings are laid, the others are empty. -/
def laidS (L : List ByteArray) (n k : Nat) : List ByteArray := L.take k ++ List.replicate (n - k) ⟨#[]⟩
theorem laidS_len {L : List ByteArray} {n k : Nat} (hL : L.length = n) (hk : k ≤ n) : (laidS L n k).length = n := by simp [laidS, hL]; omega
theorem laidS_step {L : List ByteArray} {n k : Nat} (hL : L.length = n) (hk : k < n) : (strVD (laidS L n k)).set k (.string (L.getD k ⟨#[]⟩)) = strVD (laidS L n (k + 1)) := by
  have hg : L.getD k ⟨#[]⟩ = L[k] := by simp [List.getD, hL, hk]
  have h : (L.take k).length = k := by simp [hL]; omega
  unfold laidS strVD
  rw [← List.map_set, List.set_append_right _ _ (by omega), h, Nat.sub_self, hg, List.take_succ_eq_append_getElem (show k < L.length by omega)]
  obtain ⟨d, hd⟩ : ∃ d, n - k = d + 1 := ⟨n - k - 1, by omega⟩
  rw [hd, show n - (k + 1) = d by omega, List.replicate_succ, List.set_cons_zero, List.append_assoc]
  rfl
theorem laidS_zero (L : List ByteArray) (n : Nat) : laidS L n 0 = List.replicate n ⟨#[]⟩ := by simp [laidS]
theorem laidS_end {L : List ByteArray} {n : Nat} (hL : L.length = n) : laidS L n n = L := by simp [laidS, ← hL]

/-- A slice of strings of the call's own: what a store leaves. -/
theorem strs_put {A : Nat} {w : World} {g n : Nat} {L : List ByteArray} (h : w.ownsRow A 9 1 (.slice (some ⟨g, 0, none⟩) n n) n (strVD L)) {k : Nat} (hk : k < n) (s : ByteArray) :
    ∃ W', w.setCell ⟨g, k, none⟩ (.string s) = W' ∧ W'.ownsRow A 9 1 (.slice (some ⟨g, 0, none⟩) n n) n ((strVD L).set k (.string s)) ∧ (∃ c, w.cell? ⟨g, k, none⟩ = some c) ∧ w.frozen? ⟨g, k, none⟩ = false ∧
      (∀ W C, C ≤ A → Below C W w → Below C W W') ∧ W'.heap.size = w.heap.size ∧ w.grownBy W' (some g) := by
  obtain ⟨ho, hg⟩ := h.stored k (.string s)
  have hl := h.1
  refine ⟨_, rfl, ho, ⟨_, (h.cellAt k (by omega)).trans (List.getElem?_eq_getElem (by omega))⟩, h.frozenAt k, fun W C hC hb => hb.setCell (p := ⟨g, k, none⟩) (Nat.le_trans hC (h.lt g rfl).1) _, by simp, hg⟩
theorem strs_cell {A : Nat} {w : World} {g n : Nat} {L : List ByteArray} (h : w.ownsRow A 9 1 (.slice (some ⟨g, 0, none⟩) n n) n (strVD L)) : ∀ (j : Nat) x, L[j]? = some x → w.cell? ⟨g, 0 + j, none⟩ = some (.string x) := by
  intro j x hx
  have hl := h.1
  have hj : j < L.length := (List.getElem?_eq_some_iff.1 hx).1
  rw [strV_len] at hl
  rw [Nat.zero_add, h.cellAt j (by omega)]
  simp [strVD, hx]
theorem ownS_step {A : Nat} {w w' : World} {g n : Nat} {xs : List Value} (h : w.ownsRow A 9 1 (.slice (some ⟨g, 0, none⟩) n n) n xs) (hb : Below w.heap.size w w') : w'.ownsRow A 9 1 (.slice (some ⟨g, 0, none⟩) n n) n xs :=
  ownsRow_same h (fun g' hg => (h.lt g' hg).2) (SameIn.of_below hb (Nat.le_refl _))

def entS (r : List Int) : List ByteArray := r.map fun x => ⟨(Lib.itoa x).toArray⟩
def rowS (m : List (List Int)) : List ByteArray := m.map fun r => ⟨(rowT r).toArray⟩
theorem entS_join (r : List Int) : Lib.join ((entS r).map (·.data.toList)) [44] = rowT r := by simp [entS, rowT, List.map_map, Function.comp_def]
theorem rowS_join (m : List (List Int)) : Lib.join ((rowS m).map (·.data.toList)) [59] = fmtT m := by simp [rowS, fmtT, List.map_map, Function.comp_def]
theorem entS_get (m : List (List Int)) (k j : Nat) (n : Nat) (hr : (m.getD k []).length = n) (h : j < n) : (entS (m.getD k [])).getD j ⟨#[]⟩ = ⟨(Lib.itoa (entry m k j)).toArray⟩ := by
  unfold entry
  generalize m.getD k [] = r at *
  simp [entS, List.getD, show j < r.length by omega]
theorem rowS_get (m : List (List Int)) (k : Nat) (h : k < m.length) : (rowS m).getD k ⟨#[]⟩ = ⟨(rowT (m.getD k [])).toArray⟩ := by
  rw [getD_row m k h]
  simp [rowS, List.getD, h]

end Go.Proofs.YtfjeghalkmkgoaaGreatDoor
