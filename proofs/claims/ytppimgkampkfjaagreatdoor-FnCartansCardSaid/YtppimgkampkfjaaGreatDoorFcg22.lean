/-
  NameOf of the model: what the call returns.
  The last step of every law (over any program): a call that only made new memory and answered true leaves its arguments reading as they read.
  Two closed facts of this seat's program.
  A law whose row lists one package-level variable, an array of strings: the variable reads as it read; what its cells hold; that the heap of the door meets the row's condition.
  NameOfPart of the program: what the call returns.
-/
import Derived.Test.YtppimgkampkfjaaGreatDoorFcg21
import Derived.ProofKit
import Derived.Test.YtppimgkampkfjaaGreatDoorRows
import Derived.ChangeVars
import Derived.LaidMore
import Derived.OpenShut
import Derived.Stop.Joined
import Derived.Lib.LaidTab
import Derived.Stop.LaidErr
import Derived.Below
import Derived.Test.YtppimgkampkfjaaGreatDoorFcg18
namespace Go.Proofs.YtppimgkampkfjaaGreatDoor
open Go.RowKit

theorem s_app (a b : ByteArray) : (a ++ b).data.toList = a.data.toList ++ b.data.toList := by simp [ByteArray.data_append]
theorem s_size (a b : ByteArray) : (a ++ b).size = a.size + b.size := ByteArray.size_append
theorem s_ofl {s : ByteArray} {l : List UInt8} (h : s.data.toList = l) : s = ⟨l.toArray⟩ := by subst h; rfl
theorem names_short : ∀ t, (namesL.getD t []).length ≤ 3 := by
  intro t
  by_cases h : t < 17
  · exact (show ∀ t, t < 17 → (namesL.getD t []).length ≤ 3 by decide) t h
  · rw [List.getD_eq_getElem?_getD, List.getElem?_eq_none (show namesL.length ≤ t by show 17 ≤ t; omega)]; simp
theorem nameP_short (m : List (List Int)) : (nameP m).length ≤ 3 := by
  unfold nameP
  split
  · exact names_short _
  · split <;> simp
noncomputable def partK (m : List (List Int)) (k : Nat) : List (List Int) := subM m ((partsV m).getD k [])
noncomputable def nameS (m : List (List Int)) : Nat → List UInt8
  | 0 => []
  | k + 1 => (if k = 0 then [] else nameS m k ++ [120]) ++ nameP (partK m k)
theorem nameS_succ (m : List (List Int)) (k : Nat) : nameS m (k + 1) = (if k = 0 then [] else nameS m k ++ [120]) ++ nameP (partK m k) := rfl
/-- What NameOf returns. -/
noncomputable def nameO (m : List (List Int)) : List UInt8 := nameS m (partsV m).length
theorem mem_le_sum {x : Nat} {l : List Nat} (h : x ∈ l) : x ≤ l.sum := by
  induction l with
  | nil => simp at h
  | cons y l ih =>
    rw [List.sum_cons]
    rcases List.mem_cons.1 h with rfl | h
    · omega
    · have := ih h; omega
theorem partsV_row {m : List (List Int)} {k : Nat} (hk : k < (partsV m).length) : ((partsV m).getD k []).length ≤ 4 := by
  by_cases h : IsC m
  · have h1 := (nbG_ok h).2.2.2.2
    have h4 := h.2.2.2
    have h2 := hk
    rw [partsV_yes h, List.length_map] at h2
    have e : (partsV m).getD k [] = intL ((partsL m)[k]) := by rw [partsV_yes h]; simp [List.getD, h2]
    rw [e, intL_len]
    have h3 : ((partsL m)[k]).length ≤ ((partsL m).map List.length).sum := by
      have : ((partsL m)[k]).length ∈ (partsL m).map List.length := List.mem_map.2 ⟨_, List.getElem_mem h2, rfl⟩
      exact mem_le_sum this
    have h5 : ((partsL m).map List.length).sum ≤ m.length := h1
    omega
  · rw [partsV_no h] at hk; simp at hk

set_option maxHeartbeats 2000000 in
set_option maxRecDepth 100000 in
theorem nmo_any (B : Nat) (v : Value) (m : List (List Int)) (w : World) (h : MatB B w v m) (hB : B ≤ w.heap.size) (hf : RowsFit m) :
    Calls Tryz.prog 65 #[v] w fun e w' => e = .returned (strV (nameO m)) ∧ Below w.heap.size w w' := by
  have HPA := Lib.hid (parts_any B v m w h hB hf)
  have HSU := Lib.hid (fun (B' : Nat) (v' : Value) (l : List Int) (w1 : World) (hb : Below w.heap.size w w1) (h' : RowB B' w1 v' l) (hB' : B' ≤ w1.heap.size) (hl : l.length ≤ maxLen) => subs_any B B' v v' m l w1 (h.below hb hB) h' (Nat.le_trans hB hb.size) hB' hf hl)
  have HNP := Lib.hid (fun k (B' : Nat) (v' : Value) (w1 : World) (h' : MatB B' w1 v' (partK m k)) (hB' : B' ≤ w1.heap.size) => nmp_any B' v' (partK m k) w1 h' hB' (fit_of_small (small_of (subM_small m ((partsV m).getD k [])))))
  have HSH := Lib.hid (fun k => nameP_short (partK m k))
  have HSS := Lib.hid (nameS_succ m)
  have HPK := Lib.hid (fun k => show partK m k = subM m ((partsV m).getD k []) from rfl)
  have HROW := Lib.hid (fun k (hk : k < (partsV m).length) => partsV_row hk)
  have hl4 := partsV_len m
  have HV := Lib.hid (show nameO m = nameS m (partsV m).length from rfl)
  clear h
  generalize nameO m = R at *
  generalize partsV m = T at *
  generalize hTL : T.length = L at *
  have HTL := Lib.hid hTL; clear hTL
  go_enter Tryz.func65, Tryz.ntmps65
  go_wp2_with fail
  refine HPA.out.mono ?_
  rintro e w1 ⟨x, rfl, hx, hb1⟩
  have HB1 := Lib.hid hb1
  have hs1 := hb1.size
  obtain ⟨la, lcap, rfl⟩ := hx.1.slice
  rw [HTL.out] at hx ⊢
  have HX := Lib.hid hx.1
  clear hx hb1
  go_wp2_with fail
  go_loopw [4, 5] (fun s i wr => ∃ (t : Nat) (sb : ByteArray) (wq : World), wq = wr ∧ t ≤ L ∧ i = .int .i64 t ∧ s = .string sb ∧ Hid (sb.data.toList = nameS m t) ∧ sb.size ≤ 4 * t ∧ Below w1.heap.size w1 wq) (fun _ i _ => L - (intOf i).toNat)
  case atStart => exact ⟨0, ⟨#[]⟩, _, rfl, Nat.zero_le _, rfl, rfl, Lib.hid rfl, Nat.le_refl _, Below.refl _ _⟩
  case round =>
    obtain ⟨t, sb, wq, rfl, ht, rfl, rfl, hs, hsb, hbq⟩ := hrel
    have HBQ := Lib.hid hbq
    have hsq := hbq.size
    clear hbq
    have HBw := Lib.hid (HB1.out.trans (HBQ.out.mono hs1))
    by_cases hlt : t < L
    · have hlt' : decide (t < L) = true := decide_eq_true hlt
      have HXQ := Lib.hid (HX.out.same (SameIn.of_below HBQ.out (Nat.le_refl _)))
      obtain ⟨lb, hv, rfl, hcell, hrow⟩ := HXQ.out.rowI4 (j := t) (by rw [HTL.out]; exact hlt)
      have hr4 := HROW.out t hlt
      have HPK' := Lib.hid (HPK.out t)
      have HNP' := Lib.hid (HNP.out t)
      have hsh := HSH.out t
      have HSS' := Lib.hid (HSS.out t)
      obtain ⟨ra, rcap, rfl⟩ := hrow.slice
      have HRW := Lib.hid hrow; clear hrow
      generalize T.getD t [] = l at *
      generalize hll : l.length = ll at *
      have HLL := Lib.hid hll; clear hll
      generalize partK m t = pk at *
      obtain ⟨s1, hs1', hs2, hcase⟩ : ∃ s1 : ByteArray, s1.data.toList = (if t = 0 then [] else nameS m t ++ [120]) ∧ s1.size ≤ 4 * t + 1 ∧ ((0 < t ∧ s1 = sb ++ ⟨#[120]⟩) ∨ (t = 0 ∧ s1 = sb)) := by
        by_cases h0 : t = 0
        · refine ⟨sb, ?_, by omega, Or.inr ⟨h0, rfl⟩⟩
          subst h0
          rw [hs.out]; rfl
        · refine ⟨sb ++ ⟨#[120]⟩, ?_, ?_, Or.inl ⟨by omega, rfl⟩⟩
          · rw [s_app, hs.out, if_neg h0]
          · rw [s_size]; have : (⟨#[120]⟩ : ByteArray).size = 1 := rfl; omega
      have HS1 := Lib.hid hs1'; clear hs1'
      rcases hcase with ⟨h0, he⟩ | ⟨h0, he⟩
      all_goals
        have HEQ := Lib.hid he
        have HT0 := Lib.hid h0
        clear he
        try subst h0
        go_wp2_with fail
        refine (HSU.out w1.heap.size _ l wq HBw.out HRW.out.rowB hsq (by rw [HLL.out]; unfold maxLen; omega)).mono ?_
        rintro e w4 ⟨y, rfl, hy, hb4⟩
        rw [← HPK'.out] at hy
        have HY := Lib.hid hy
        have HB4 := Lib.hid (HBQ.out.trans (hb4.mono hsq))
        have HBw4 := Lib.hid (HBw.out.trans (hb4.mono (by omega)))
        have hs4 := hb4.size
        clear hy hb4 hcell
        generalize subB m l = sbb at *
        try rw [← HEQ.out]
        go_wp2_with fail
        refine (HNP'.out _ y w4 HY.out.matB (Nat.le_refl _)).mono ?_
        rintro e w5 ⟨rfl, hb5⟩
        have HB5 := Lib.hid (HB4.out.trans (hb5.mono (by omega)))
        clear hb5
        have hfin : (s1 ++ ⟨(nameP pk).toArray⟩ : ByteArray).data.toList = (s1.data.toList ++ nameP pk) := by rw [s_app]
        have hfs : (s1 ++ ⟨(nameP pk).toArray⟩ : ByteArray).size ≤ s1.size + 3 := by
          rw [s_size]; have : (⟨(nameP pk).toArray⟩ : ByteArray).size = (nameP pk).length := rfl; omega
        have hsz3 : (⟨(nameP pk).toArray⟩ : ByteArray).size ≤ 3 := hsh
        rw [HS1.out] at hfin
        have HFIN := Lib.hid (hfin.trans HSS'.out.symm)
        have HFS := Lib.hid hfs
        clear hfin hfs
        unfold strV
        generalize (⟨(nameP pk).toArray⟩ : ByteArray) = nb at *
        go_wp2_with fail
        exact ⟨⟨_, s1 ++ nb, _, rfl, by omega, by go_num, rfl, HFIN, by have := HFS.out; omega, HB5.out⟩, by simp [intOf]; omega⟩
    · obtain rfl : t = L := by omega
      have hlt' : decide (t < t) = false := by simp
      go_wp2_with fail
      go_ret
      refine ⟨?_, HBw.out⟩
      unfold strV
      rw [s_ofl hs.out, HV.out]
      rfl
end Go.Proofs.YtppimgkampkfjaaGreatDoor
namespace Go.Proofs.YtppimgkampkfjaaGreatDoor
open Go.ChangeShapes Go.WideShapes Go.ChangeAt Go.ChangeMaps Go.RowKit

section
variable {H : Type} {enc : TypeId × Value → H} {P : Program}

def rowed (P : Program) (ts : List TypeId) : Bool := ts.all fun t => P.readableRec t && decide (t < P.types.size)

theorem stays_all (hl : laidOutB P = true) {W W' : World} (hb : Below W.heap.size W W') (sp : Nat → Bool) :
    ∀ {ts : List TypeId} {vs : List Value} {ds : List (DataW H)} {p : List MemPlace}, rowed P ts = true → (∀ x ∈ p, x.block < W.heap.size) → (∀ x ∈ p, sp x.block = true) →
      DataW.TrodAll enc P W 0 (fun _ => true) true ts vs ds p → DataW.TrodAll enc P W' 0 sp true ts vs ds p
  | [], _, _, _, _, _, _, h => by
    obtain ⟨rfl, rfl, rfl⟩ := trodAll_nil h
    rfl
  | t :: ts, _, _, _, hr, hlt, hs, h => by
    obtain ⟨v, vs', d, ds', p, q, rfl, rfl, rfl, h1, h2⟩ := trodAll_cons h
    simp only [rowed, List.all_cons, Bool.and_eq_true, decide_eq_true_eq] at hr
    have hp : ∀ x ∈ p, x.block < W.heap.size := fun x hx => hlt x (by simp [hx])
    refine ⟨p, q, WideElems.Trod_stays hl hr.1.1 hr.1.2 h1 (fun x hx => hb.same (hp x hx)) (fun x hx => hs x (by simp [hx])), ?_, rfl⟩
    exact stays_all hl hb sp (ts := ts) hr.2 (fun x hx => hlt x (by simp [hx])) (fun x hx => hs x (by simp [hx])) h2

/-- What a law leaves behind: it answered true, and below the old heap's end nothing has turned. -/
theorem law_post {f : Func} {s : ChangeSpec} {W W' : World} {args : Array Value} {ds gs : List (DataW H)} {before : List MemPlace} {tb : TypeId}
    (hl : laidOutB P = true) (hr : rowed P f.params.toList = true) (hv : s.vars = []) (hres : f.resultTypes = #[tb]) (htb : P.underlying tb = some .bool)
    (hW : DataW.Whole enc P f.params.toList s.vars false W args.toList ds gs before)
    (hfn : s.fn H (ds ++ gs) = { results := [.lit (.bool true)], args := ds }) (hb : Below W.heap.size W W') :
    s.post enc P f false true false false W args (.bool true) W' := by
  have hlt : ∀ p ∈ before, p.block < W.heap.size := fun p hp => hW.lt p hp
  have hW0 := hW
  obtain ⟨p, q, hA, hV, rfl, hz, -⟩ := hW
  rw [hv] at hV
  obtain ⟨rfl, rfl⟩ := trodVars_none hV
  have hrl : (Value.bool true).resultList f.resultTypes.size = [.bool true] := by rw [hres]; rfl
  have hR : ∀ (b : Nat) (sp : Nat → Bool) (hd : Bool), DataW.TrodAll enc P W' b sp hd f.resultTypes.toList ((Value.bool true).resultList f.resultTypes.size) (s.fn H (ds ++ [])).results [] := by
    intro b sp hd
    rw [hrl, hres, hfn]
    exact trodAll_mk1 (shut_bool htb true)
  have hA' : ∀ sp : Nat → Bool, (∀ x ∈ p, sp x.block = true) → DataW.TrodAll enc P W' 0 sp true f.params.toList args.toList (s.fn H (ds ++ [])).args p := by
    intro sp hs
    rw [hfn]
    exact stays_all hl hb sp hr (fun x hx => hlt x (by simp [hx])) hs hA
  have hV' : ∀ sp : Nat → Bool, DataW.TrodVars enc P W' sp s.vars (s.fn H (ds ++ [])).vars [] := by
    intro sp
    rw [hfn, hv]
    rfl
  refine ⟨ds, [], p ++ [], [], p, [], hW0, hR _ _ _, hA' _ (fun x hx => by simpa using hlt x (by simp [hx])), hV' _, World.keptBut_mono (fun x hx => ?_) (hb.frame (· ∈ p ++ [])), fun h => by cases h⟩
  exact ⟨hx, Or.inr (Or.inl (by simpa using hx))⟩
end
end Go.Proofs.YtppimgkampkfjaaGreatDoor
namespace Go.Proofs.YtppimgkampkfjaaGreatDoor
theorem seat_own : ownKnob Tryz.prog.godebug = none := by kernel_rfl
theorem seat_laidOut : laidOutB Tryz.prog = true := by kernel_rfl
end Go.Proofs.YtppimgkampkfjaaGreatDoor
namespace Go.Proofs.YtppimgkampkfjaaGreatDoor
open Go.ChangeShapes Go.WideShapes Go.ChangeAt Go.ChangeMaps Go.RowKit

/-! ### What a law leaves behind when its row lists one variable -/
theorem var_below {P : Program} {W W' : World} {n : String} {cs : Array Value} (h : W.var? P n = some cs) (hb : Below W.heap.size W W') : W'.var? P n = some cs := by
  unfold World.var? at h ⊢
  cases hg : P.globalNamed n with
  | none => rw [hg] at h; exact h
  | some g =>
    rw [hg] at h
    simp only [Option.bind_some] at h ⊢
    have hlt : g < W.heap.size := by
      cases hh : W.heap[g]? with
      | none => rw [hh] at h; cases h
      | some o => exact (Array.getElem?_eq_some_iff.1 hh).1
    rw [hb.block g hlt]; exact h
theorem law_post1 {H : Type} {enc : TypeId × Value → H} {P : Program} {f : Func} {s : ChangeSpec} {W W' : World} {args : Array Value} {ds gs : List (DataW H)} {before : List MemPlace} {tb : TypeId} {n : String} {g0 : Nat} {t0 : TypeId}
    (hl : laidOutB P = true) (hr : rowed P f.params.toList = true) (hv : s.vars = [n]) (hg0 : P.globalNamed n = some g0) (ht0 : (P.globals[g0]?).map (·.type) = some t0) (hr0 : rowed P [t0] = true)
    (hres : f.resultTypes = #[tb]) (htb : P.underlying tb = some .bool)
    (hW : DataW.Whole enc P f.params.toList s.vars false W args.toList ds gs before)
    (hfn : ∀ g, gs = [g] → s.fn H (ds ++ gs) = { results := [.lit (.bool true)], args := ds, vars := gs }) (hb : Below W.heap.size W W') :
    s.post enc P f false true false false W args (.bool true) W' := by
  have hlt : ∀ p ∈ before, p.block < W.heap.size := fun p hp => hW.lt p hp
  have hW0 := hW
  obtain ⟨p, q, hA, hV, rfl, hz, -⟩ := hW
  have hV0 := hV
  rw [hv] at hV0
  obtain ⟨g, t, cs, fuel, d, p1, rfl, h1, h2, h3, h4, rfl⟩ := trodVars_one hV0
  obtain rfl := Option.some.inj (hg0.symm.trans h1)
  obtain rfl := Option.some.inj (ht0.symm.trans h2)
  have hfn' := hfn d rfl
  have hrl : (Value.bool true).resultList f.resultTypes.size = [.bool true] := by rw [hres]; rfl
  have hR : ∀ (b : Nat) (sp : Nat → Bool) (hd : Bool), DataW.TrodAll enc P W' b sp hd f.resultTypes.toList ((Value.bool true).resultList f.resultTypes.size) (s.fn H (ds ++ [d])).results [] := by
    intro b sp hd
    rw [hrl, hres, hfn']
    exact trodAll_mk1 (shut_bool htb true)
  have hA' : ∀ sp : Nat → Bool, (∀ x ∈ p, sp x.block = true) → DataW.TrodAll enc P W' 0 sp true f.params.toList args.toList (s.fn H (ds ++ [d])).args p := by
    intro sp hs
    rw [hfn']
    exact stays_all hl hb sp hr (fun x hx => hlt x (by simp [hx])) hs hA
  simp only [rowed, List.all_cons, List.all_nil, Bool.and_true, Bool.and_eq_true, decide_eq_true_eq] at hr0
  have hV' : ∀ sp : Nat → Bool, (∀ x ∈ p1, sp x.block = true) → DataW.TrodVars enc P W' sp s.vars (s.fn H (ds ++ [d])).vars (MemPlace.row ⟨g0, 0, none⟩ cs.size ++ p1) := by
    intro sp hs
    rw [hfn', hv]
    have hst := WideElems.Trod_stays hl hr0.1 hr0.2 (v := .agg cs) (sp' := sp) ⟨fuel, h4⟩ (fun x hx => hb.same (hlt x (by simp [hx]))) hs
    obtain ⟨fuel', h5⟩ := hst
    exact trodVars_mk1 hg0 ht0 (var_below h3 hb) h5
  refine ⟨ds, [d], p ++ (MemPlace.row ⟨g0, 0, none⟩ cs.size ++ p1), [], p, MemPlace.row ⟨g0, 0, none⟩ cs.size ++ p1, hW0, hR _ _ _, hA' _ (fun x hx => by simpa using hlt x (by simp [hx])), hV' _ (fun x hx => by simpa using hlt x (by simp [hx])), World.keptBut_mono (fun x hx => ?_) (hb.frame (· ∈ p ++ (MemPlace.row ⟨g0, 0, none⟩ cs.size ++ p1))), fun h => by cases h⟩
  refine ⟨hx, ?_⟩
  rcases List.mem_append.1 hx with h | h
  · exact Or.inr (Or.inl h)
  · exact Or.inr (Or.inr h)

/-! ### What the listed variable holds -/
theorem cells_of_strs {H : Type} {enc : TypeId × Value → H} {P : Program} {w : World} {base : Nat} {sp : Nat → Bool} {held : Bool} {fuel : Nat} {t e : TypeId} {n : Nat} {cs : List Value} {zs : List (List UInt8)} {p : List MemPlace}
    (ht : P.underlying t = some (.array n e)) (he : P.underlying e = some .string) (hce : P.cellsOf e = 1) (hct : P.cellsOf t = n)
    (h : DataW.trod enc P w base sp held fuel t cs = some (.agg (zs.map fun z => .lit (.string z)), p)) : cs = zs.map fun z => Value.string ⟨z.toArray⟩ := by
  cases fuel with
  | zero => simp [DataW.trod] at h
  | succ fuel =>
    simp only [DataW.trod, ht, hce, hct, Nat.mul_one] at h
    split at h
    · rename_i hl
      obtain ⟨xs, hm, hx⟩ := Option.map_eq_some_iff.1 h
      have hxs : xs.map (·.1) = zs.map fun z => (DataW.lit (.string z) : DataW H) := by
        have := congrArg Prod.fst hx
        simpa using this
      have hxl : xs.length = n := by simpa using Lib.mapM_length hm
      have hzl : zs.length = n := by
        have := congrArg List.length hxs
        simp at this
        omega
      apply List.ext_getElem?
      intro i
      by_cases hi : i < n
      · obtain ⟨b, hb, hf⟩ := Lib.mapM_at hm i i (by simp [hi])
        obtain ⟨z, hc, rfl, _⟩ := DataW.trod_string he hf
        have h1 : cs[i]? = some (.string z) := by
          have := congrArg (·[0]?) hc
          simpa [List.getElem?_take, List.getElem?_drop] using this
        have h2 : (xs.map (·.1))[i]? = some (DataW.lit (.string z.data.toList) : DataW H) := by simp [hb]
        rw [hxs] at h2
        simp only [List.getElem?_map, Option.map_eq_some_iff, DataW.lit.injEq, Lit.string.injEq] at h2
        obtain ⟨z', hz', he'⟩ := h2
        have hz : z = ⟨z'.toArray⟩ := by rw [he']
        simp [h1, hz', hz]
      · rw [List.getElem?_eq_none (by omega), List.getElem?_eq_none (by simp; omega)]
    · cases h

/-- The variable holds the names of the chapter. -/
def NamesIs (w : World) (ns : List (List UInt8)) : Prop := w.var? Tryz.prog "loop.example/g02076/impl.partNames" = some (ns.map fun z => Value.string ⟨z.toArray⟩).toArray
theorem NamesIs.below {W W' : World} {ns : List (List UInt8)} (h : NamesIs W ns) (hb : Below W.heap.size W W') : NamesIs W' ns := var_below h hb
end Go.Proofs.YtppimgkampkfjaaGreatDoor
namespace Go.Proofs.YtppimgkampkfjaaGreatDoor
open Go.RowKit

theorem names_cell {w : World} (h : NamesIs w namesL) (t : Nat) (ht : t < 17) : w.cell? ⟨0, t, none⟩ = some (strV (namesL.getD t [])) := by
  have hg : Tryz.prog.globalNamed "loop.example/g02076/impl.partNames" = some 0 := by kernel_rfl
  have h1 := World.var?_cell hg h t
  have h2 := namesV_get t ht
  rw [h1]
  exact h2

set_option maxRecDepth 100000 in
theorem idx_names (arr : Array Value) (t : Nat) (ht : t < 17) (s : ByteArray) (h : arr[t]? = some (.string s)) (w : World) :
    (Instr.index 94 (.agg arr) (.int .i64 t)).run Tryz.prog w = .ok (.string s) w := by
  have hu : Tryz.prog.underlying 94 = some (.array 17 9) := by kernel_rfl
  have hs : ∀ w, (sizeOf 9).run Tryz.prog w = .ok 1 w := fun w => by rfl
  have h1 : (0 : Int) ≤ (t : Int) ∧ (t : Int) < 17 := by omega
  simp [Instr.index, run_underlying hu, asIntOf, h1, hs, part, go_sem, h]
  intro h2; omega
set_option maxHeartbeats 2000000 in
set_option maxRecDepth 100000 in
theorem nmpi_any (B : Nat) (v : Value) (m : List (List Int)) (w : World) (h : MatB B w v m) (hB : B ≤ w.heap.size) (hf : RowsFit m) (hN : NamesIs w namesL) :
    Calls Tryz.prog 69 #[v] w fun e w' => e = .returned (strV (nameP m)) ∧ Below w.heap.size w w' := by
  have HCELL := Lib.hid (fun (w1 : World) (hb : Below w.heap.size w w1) t ht => names_cell (NamesIs.below hN hb) t ht)
  have HCO := Lib.hid (fun w1 (hb : Below w.heap.size w w1) => coni_any B v m w1 (h.below hb hB) (Nat.le_trans hB hb.size) hf)
  have HAI := Lib.hid (fun (B' : Nat) (v' : Value) (m' : List (List Int)) (w1 : World) (hb : Below w.heap.size w w1) (h' : MatB B' w1 v' m') (hB' : B' ≤ w1.heap.size) (hf' : RowsFit m') => aii_any B B' v v' m m' w1 (h.below hb hB) h' (Nat.le_trans hB hb.size) hB' hf hf')
  have HHIT := Lib.hid (fun t (h : nameT m 17 = some t) => nameP_hit h)
  have HNO := Lib.hid (fun (h : nameT m 17 = none) => nameP_no h)
  have hc0 : w.cell? ⟨0, 0, none⟩ = some (.string ⟨#[65, 49]⟩) := names_cell hN 0 (by decide)
  have hc1 : w.cell? ⟨0, 1, none⟩ = some (.string ⟨#[65, 50]⟩) := names_cell hN 1 (by decide)
  have hc2 : w.cell? ⟨0, 2, none⟩ = some (.string ⟨#[65, 51]⟩) := names_cell hN 2 (by decide)
  have hc3 : w.cell? ⟨0, 3, none⟩ = some (.string ⟨#[65, 52]⟩) := names_cell hN 3 (by decide)
  have hc4 : w.cell? ⟨0, 4, none⟩ = some (.string ⟨#[66, 50]⟩) := names_cell hN 4 (by decide)
  have hc5 : w.cell? ⟨0, 5, none⟩ = some (.string ⟨#[66, 51]⟩) := names_cell hN 5 (by decide)
  have hc6 : w.cell? ⟨0, 6, none⟩ = some (.string ⟨#[66, 52]⟩) := names_cell hN 6 (by decide)
  have hc7 : w.cell? ⟨0, 7, none⟩ = some (.string ⟨#[67, 51]⟩) := names_cell hN 7 (by decide)
  have hc8 : w.cell? ⟨0, 8, none⟩ = some (.string ⟨#[67, 52]⟩) := names_cell hN 8 (by decide)
  have hc9 : w.cell? ⟨0, 9, none⟩ = some (.string ⟨#[68, 52]⟩) := names_cell hN 9 (by decide)
  have hc10 : w.cell? ⟨0, 10, none⟩ = some (.string ⟨#[70, 52]⟩) := names_cell hN 10 (by decide)
  have hc11 : w.cell? ⟨0, 11, none⟩ = some (.string ⟨#[71, 50]⟩) := names_cell hN 11 (by decide)
  have hc12 : w.cell? ⟨0, 12, none⟩ = some (.string ⟨#[65, 49, 126]⟩) := names_cell hN 12 (by decide)
  have hc13 : w.cell? ⟨0, 13, none⟩ = some (.string ⟨#[65, 50, 126]⟩) := names_cell hN 13 (by decide)
  have hc14 : w.cell? ⟨0, 14, none⟩ = some (.string ⟨#[65, 51, 126]⟩) := names_cell hN 14 (by decide)
  have hc15 : w.cell? ⟨0, 15, none⟩ = some (.string ⟨#[67, 50, 126]⟩) := names_cell hN 15 (by decide)
  have hc16 : w.cell? ⟨0, 16, none⟩ = some (.string ⟨#[71, 50, 126]⟩) := names_cell hN 16 (by decide)
  have hget : ∀ t, t < 17 → (#[Value.string ⟨#[65, 49]⟩, Value.string ⟨#[65, 50]⟩, Value.string ⟨#[65, 51]⟩, Value.string ⟨#[65, 52]⟩, Value.string ⟨#[66, 50]⟩, Value.string ⟨#[66, 51]⟩, Value.string ⟨#[66, 52]⟩, Value.string ⟨#[67, 51]⟩, Value.string ⟨#[67, 52]⟩, Value.string ⟨#[68, 52]⟩, Value.string ⟨#[70, 52]⟩, Value.string ⟨#[71, 50]⟩, Value.string ⟨#[65, 49, 126]⟩, Value.string ⟨#[65, 50, 126]⟩, Value.string ⟨#[65, 51, 126]⟩, Value.string ⟨#[67, 50, 126]⟩, Value.string ⟨#[71, 50, 126]⟩] : Array Value)[t]? = some (strV (namesL.getD t [])) := namesV_get
  clear h hN
  generalize nameP m = R at *
  go_enter Tryz.func69, Tryz.ntmps69
  go_wp2_with fail
  clear hc0 hc1 hc2 hc3 hc4 hc5 hc6 hc7 hc8 hc9 hc10 hc11 hc12 hc13 hc14 hc15 hc16
  generalize (#[Value.string ⟨#[65, 49]⟩, Value.string ⟨#[65, 50]⟩, Value.string ⟨#[65, 51]⟩, Value.string ⟨#[65, 52]⟩, Value.string ⟨#[66, 50]⟩, Value.string ⟨#[66, 51]⟩, Value.string ⟨#[66, 52]⟩, Value.string ⟨#[67, 51]⟩, Value.string ⟨#[67, 52]⟩, Value.string ⟨#[68, 52]⟩, Value.string ⟨#[70, 52]⟩, Value.string ⟨#[71, 50]⟩, Value.string ⟨#[65, 49, 126]⟩, Value.string ⟨#[65, 50, 126]⟩, Value.string ⟨#[65, 51, 126]⟩, Value.string ⟨#[67, 50, 126]⟩, Value.string ⟨#[71, 50, 126]⟩] : Array Value) = arr at *
  have HGET := Lib.hid hget; clear hget
  go_loopw [10] (fun i wr => ∃ (t : Nat) (wq : World), wq = wr ∧ t ≤ 17 ∧ i = .int .i64 t ∧ Hid (nameT m t = none) ∧ Below w.heap.size w wq) (fun i _ => 17 - (intOf i).toNat)
  case atStart => exact ⟨0, _, rfl, Nat.zero_le _, rfl, Lib.hid rfl, Below.refl _ _⟩
  case round =>
    obtain ⟨t, wq, rfl, ht, rfl, hse, hbq⟩ := hrel
    have HBQ := Lib.hid hbq
    have hsq := hbq.size
    clear hbq
    by_cases hlt : t < 17
    · have hlt' : decide (t < 17) = true := decide_eq_true hlt
      have hg := HGET.out t hlt
      have HTY := Lib.hid (fun w2 => tyi_any ⟨(namesL.getD t []).toArray⟩ w2)
      have HSM := Lib.hid (fit_of_small (small_of (typeP_small (namesL.getD t []))))
      have HYES := Lib.hid (fun (h : isoB m (typeM (namesL.getD t [])) = true) => HHIT.out t (nameT_hit hse.out h 17 hlt))
      have HNOT := Lib.hid (fun (h : isoB m (typeM (namesL.getD t [])) = false) => nameT_no hse.out h)
      simp only [List.toList_toArray] at HTY
      unfold strV at hg
      generalize namesL.getD t [] = nm at *
      have hix := idx_names arr t hlt _ hg wq
      go_wp2_with fail
      refine (HTY.out wq).mono ?_
      rintro e w4 ⟨y, rfl, hy, hb4⟩
      have HY := Lib.hid hy
      have HB4 := Lib.hid (HBQ.out.trans (hb4.mono hsq))
      have hs4 := hb4.size
      clear hy hb4
      generalize typeB nm = tb at *
      go_wp2_with fail
      refine (HAI.out _ y (typeM nm) w4 HB4.out HY.out.matB (Nat.le_refl _) HSM.out).mono ?_
      rintro e w5 ⟨z, rfl, hz, hb5⟩
      have HB5 := Lib.hid (HB4.out.trans (hb5.mono (by omega)))
      clear hz hb5
      by_cases hiso : isoB m (typeM nm) = true
      · have HQ := Lib.hid (HYES.out hiso)
        rw [hiso]
        clear hiso
        go_wp2_with fail
        go_ret
        exact ⟨by rw [HQ.out]; rfl, HB5.out⟩
      · have hiso' : isoB m (typeM nm) = false := by simpa using hiso
        have HST := Lib.hid (HNOT.out hiso')
        rw [hiso']
        clear hiso hiso'
        go_wp2_with fail
        exact ⟨⟨t + 1, _, rfl, by omega, by go_num, HST, HB5.out⟩, by simp [intOf]; omega⟩
    · obtain rfl : t = 17 := by omega
      have HQ := Lib.hid (HNO.out hse.out)
      go_wp2_with fail
      refine (HCO.out wq HBQ.out).mono ?_
      rintro e w5 ⟨rfl, hb5⟩
      have HB5 := Lib.hid (HBQ.out.trans (hb5.mono HBQ.out.size))
      clear hb5
      by_cases hc : connB (partsV m).length = true
      · rw [hc] at HQ ⊢
        clear hc
        go_wp2_with fail
        go_ret
        exact ⟨by rw [HQ.out]; rfl, HB5.out⟩
      · have hc' : connB (partsV m).length = false := by simpa using hc
        rw [hc'] at HQ ⊢
        clear hc hc'
        go_wp2_with fail
        go_ret
        exact ⟨by rw [HQ.out]; rfl, HB5.out⟩
end Go.Proofs.YtppimgkampkfjaaGreatDoor
