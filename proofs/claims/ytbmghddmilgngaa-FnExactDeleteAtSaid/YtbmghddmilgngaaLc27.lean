/-
  Exchange and deletion: what is left of a word without a letter (the program's slices with three indices).
  Exchange and deletion: what the model's DeleteAt and ExchangeIndex return.
-/
import Derived.Deep.RegionLawGrows
import Derived.Test.YtbmghddmilgngaaLc23
import Derived.Test.YtbmghddmilgngaaLc26
namespace Go.Proofs.Ytbmghddmilgngaa
open Go.RowKit

/-- A slice whose capacity holds its length. -/
def Roomy (v : Value) : Prop := ∃ a n c, v = .slice a n c ∧ n ≤ c
theorem RowI.roomy {A B : Nat} {w : World} {v : Value} {l : List Int} (h : RowI A B w v l) : Roomy v := by
  rcases h.1.2 with ⟨rfl, _⟩ | ⟨g, cap, cur, rfl, _, _, hn, _⟩
  · exact ⟨_, _, _, rfl, Nat.le_refl _⟩
  · exact ⟨_, _, _, rfl, hn⟩
theorem Roomy.le {a : Option Addr} {n c : Nat} (h : Roomy (.slice a n c)) : n ≤ c := by
  obtain ⟨a', n', c', e, hn⟩ := h
  injection e with e1 e2 e3
  omega
/-- What lies behind a letter. -/
theorem RowB.tail {B b off cap k : Nat} {w : World} {l : List Int} (hb : b < B) (hc : ∀ j (h : j < l.length), w.cell? ⟨b, off + j, none⟩ = some (.int .i64 l[j])) (hk : k < l.length) (hcap : l.length ≤ cap) :
    ∃ A : Addr, (if cap = k + 1 then some (⟨b, off, none⟩ : Addr) else some ⟨b, off + (k + 1), none⟩) = some A ∧ (k + 1 < l.length → A = ⟨b, off + (k + 1), none⟩) ∧ RowB B w (.slice (some A) (l.length - (k + 1)) (cap - (k + 1))) (l.drop (k + 1)) := by
  by_cases h1 : k + 1 < l.length
  · refine ⟨⟨b, off + (k + 1), none⟩, by rw [if_neg (by omega)], fun _ => rfl, Or.inr ⟨b, off + (k + 1), cap - (k + 1), by rw [List.length_drop], hb, fun j hj => ?_⟩⟩
    rw [List.length_drop] at hj
    rw [show off + (k + 1) + j = off + (k + 1 + j) by omega, hc (k + 1 + j) (by omega)]
    simp
  · have hd : l.drop (k + 1) = [] := List.drop_of_length_le (by omega)
    have hz : l.length - (k + 1) = 0 := by omega
    by_cases h2 : cap = k + 1
    · exact ⟨_, by rw [if_pos h2], fun h => absurd h h1, Or.inl ⟨hd, _, _, by rw [hz]⟩⟩
    · exact ⟨_, by rw [if_neg h2], fun h => absurd h h1, Or.inl ⟨hd, _, _, by rw [hz]⟩⟩
theorem intsV_get {l : List Int} {j : Nat} {u : Value} (h : (intsV l)[j]? = some u) : ∃ hj : j < l.length, u = .int .i64 l[j] := by
  unfold intsV at h
  rw [List.getElem?_map] at h
  obtain ⟨x, hx, rfl⟩ := Option.map_eq_some_iff.1 h
  obtain ⟨hj, rfl⟩ := List.getElem?_eq_some_iff.1 hx
  exact ⟨hj, rfl⟩
/-- append(w[:k:k], w[k+1:]...), as one step of a region that draws. -/
theorem step_rest {ops : Array Oper} {o : Oper} {a : Act} {w : World} {K : Act → World → Prop} {Q : Exit → Act → World → Prop} {E : Prop} {b off k m c : Nat} {l : List Int} {A : Addr}
    (hk : k < l.length) (hl : l.length ≤ 1048576) (hb : b < w.heap.size) (hc : ∀ j (h : j < l.length), w.cell? ⟨b, off + j, none⟩ = some (.int .i64 l[j])) (hA : k + 1 < l.length → A = ⟨b, off + (k + 1), none⟩) (hm : m = l.length - (k + 1))
    (hg : o.guard = none) (s x : Operand) (hop : o.op = .call { callee := .builtin .append, args := #[s, x], argTypes := #[55, 55] })
    (hs : a.eval s = .slice (some ⟨b, off, none⟩) k k) (hx : a.eval x = .slice (some A) m c)
    (hK : ∀ v' w', RowB w'.heap.size w' v' (l.eraseIdx k) → Roomy v' → (∀ g, v'.ownBlock = some g → g = b ∨ w.heap.size ≤ g) → Below w.heap.size w w' → K (a.put o.dst v') w') :
    if Region.wanted o (yielded ops a.tmps) = true then Oper.wp Try.prog o a w K Q else E := by
  obtain ⟨i0, hi, hz0, hz1, hz2⟩ := info_parts Try.infoInt
  have he : l.eraseIdx k = l.take k ++ l.drop (k + 1) := List.eraseIdx_eq_take_drop_succ l k
  by_cases h1 : k + 1 < l.length
  · obtain rfl := hA h1
    refine step_append_grows hg s x 55 hop 3 i0 (.int .i64 0) 1 8 Try.underlying55 hi hz0 hz1 hz2 rfl (by decide) (some ⟨b, off, none⟩) k k (intsV (l.take k)) hs (by simp) (by rw [intsV_len, List.length_take]; omega) ?_ ⟨b, off + (k + 1), none⟩ m c (intsV (l.drop (k + 1))) hx (by rw [intsV_len, List.length_drop, Nat.mul_one, hm]) ?_ ?_ (by omega) (by unfold maxLen; omega) (by omega) ?_
    · intro b' hb' j u hu
      obtain rfl := Option.some.inj hb'
      obtain ⟨hj, rfl⟩ := intsV_get hu
      rw [List.length_take] at hj
      rw [Addr.add_lit, hc j (by omega)]
      simp
    · intro j u hu
      obtain ⟨hj, rfl⟩ := intsV_get hu
      rw [List.length_drop] at hj
      rw [Addr.add_lit, show off + (k + 1) + j = off + (k + 1 + j) by omega, hc (k + 1 + j) (by omega)]
      simp
    · intro u hu
      obtain ⟨y, _, rfl⟩ := List.mem_map.1 hu
      rfl
    · intro v' w' hown hgr
      have hl1 : k + m = (l.eraseIdx k).length := by rw [List.length_eraseIdx, if_pos hk]; omega
      have hv1 : intsV (l.take k) ++ intsV (l.drop (k + 1)) = intsV (l.eraseIdx k) := by rw [he]; simp [intsV]
      rw [hl1, hv1] at hown
      have hI : RowI w.heap.size w'.heap.size w' v' (l.eraseIdx k) := ⟨hown, fun g hg' => (hown.lt g hg').2⟩
      exact hK v' w' hI.rowB hI.roomy (fun g hg' => .inr (hown.lt g hg').1) ((Below.refl _ _).grown hgr (Nat.le_refl _) (fun j hj => by cases hj))
  · have h2 : k + 1 = l.length := by omega
    have hm0 : m = 0 := by omega
    subst hm0
    refine step_append_room hg s x 55 hop 3 i0 1 Try.underlying55 hi hz1 b off k k hs A 0 c [] hx rfl (fun j u hu => by simp at hu) (fun u hu => by simp at hu) (by omega) (fun j hj => by simp at hj) ?_
    refine hK _ _ ?_ ⟨_, _, _, rfl, Nat.le_refl _⟩ (fun g hg' => .inl (by simpa [Value.ownBlock] using hg'.symm)) (Below.refl _ _)
    have hd : l.drop (k + 1) = [] := List.drop_of_length_le (by omega)
    rw [he, hd, List.append_nil]
    refine Or.inr ⟨b, off, k, by rw [List.length_take, show min k l.length = k by omega]; rfl, hb, fun j hj => ?_⟩
    rw [List.length_take] at hj
    show w.cell? ⟨b, off + j, none⟩ = _
    rw [hc j (by omega)]
    simp
set_option maxHeartbeats 1000000 in
set_option maxRecDepth 100000 in
theorem wo_e (v : Value) (l : List Int) (k : Nat) (w : World) (h : RowB w.heap.size w v l) (hv : Roomy v) (hk : k < l.length) (hl : l.length ≤ 1048576) :
    Calls Try.prog 51 #[v, .int .i64 (k : Int)] w fun e w' => ∃ x, e = .returned x ∧ RowB w'.heap.size w' x (l.eraseIdx k) ∧ (Roomy x ∧ ∀ g, x.ownBlock = some g → v.ownBlock = some g ∨ w.heap.size ≤ g) ∧ Below w.heap.size w w' := by
  rcases h with ⟨rfl, _⟩ | ⟨b, off, cap, rfl, hb, hc⟩
  · simp at hk
  have hcap := hv.le
  obtain ⟨A, hA, hA2, _⟩ := RowB.tail (B := w.heap.size) hb hc hk hcap
  have HB := Lib.hid (show b < w.drew.heap.size from hb)
  have HC := Lib.hid (show ∀ j (h : j < l.length), w.drew.cell? ⟨b, off + j, none⟩ = some (.int .i64 l[j]) from hc)
  have HA := Lib.hid hA2; have HK := Lib.hid hk; have HL := Lib.hid hl
  have hwr : IntKind.i64.wrap ((k : Int) + 1) = (k : Int) + 1 := by rw [IntKind.wrap_i64]; omega
  have hq0 : (0 : Int) ≤ (k : Int) := by omega
  have hq1 : (k : Int) ≤ (cap : Int) := by omega
  have hp0 : (0 : Int) ≤ (k : Int) + 1 := by omega
  have hp2 : ((k : Int) + 1).toNat = k + 1 := by omega
  obtain ⟨n, hn⟩ : ∃ n, n = l.length := ⟨_, rfl⟩
  have hp1 : (k : Int) + 1 ≤ (n : Int) := by omega
  rw [← hn]
  have HN := Lib.hid hn.symm
  clear hc hv hA2 hn hk hl
  go_enter Try.func51, Try.ntmps51
  go_wp2_with fail
  go_region_law (refine step_rest (b := b) (off := off) (k := k) (m := n - (k + 1)) (c := cap - (k + 1)) (l := l) (A := A) HK.out HL.out HB.out HC.out HA.out (by rw [HN.out]) rfl (.tmp 8) (.tmp 12) rfl (by simp [Act.eval, Act.put]) (by simp [Act.eval, Act.put]) ?_; intro v' w' hr hv hov hbw; have HR := Lib.hid hr; have HV := Lib.hid hv; have HOV := Lib.hid hov; have HBW := Lib.hid ((Below.refl w.heap.size w).drew.trans hbw); clear hr hv hov hbw)
  go_wp2_with fail
  go_ret
  refine ⟨_, rfl, HR.out, ⟨HV.out, fun g hg' => ?_⟩, HBW.out⟩
  rcases HOV.out g hg' with rfl | h'
  · exact .inl rfl
  · exact .inr h'
set_option maxHeartbeats 1000000 in
set_option maxRecDepth 100000 in
theorem wop_e (v : Value) (l : List Int) (i j : Nat) (w : World) (h : RowB w.heap.size w v l) (hv : Roomy v) (hij : i < j) (hj : j < l.length) (hl : l.length ≤ 1048576) :
    Calls Try.prog 56 #[v, .int .i64 (i : Int), .int .i64 (j : Int)] w fun e w' => ∃ x, e = .returned x ∧ RowB w'.heap.size w' x ((l.eraseIdx j).eraseIdx i) ∧ (Roomy x ∧ ∀ g, x.ownBlock = some g → v.ownBlock = some g ∨ w.heap.size ≤ g) ∧ Below w.heap.size w w' := by
  have HC1 := Lib.hid (wo_e v l j w h hv hj hl)
  have hle : (l.eraseIdx j).length = l.length - 1 := by rw [List.length_eraseIdx, if_pos hj]
  have HC2 := Lib.hid (fun (x : Value) (wx : World) (hx : RowB wx.heap.size wx x (l.eraseIdx j)) (hvx : Roomy x) => wo_e x (l.eraseIdx j) i wx hx hvx (by omega) (by omega))
  clear h hv hle
  generalize (l.eraseIdx j).eraseIdx i = R at *
  generalize l.eraseIdx j = M at *
  go_enter Try.func56, Try.ntmps56
  go_wp2_with fail
  refine HC1.out.mono ?_
  rintro e w1 ⟨x, rfl, hx, hvx, hb⟩
  have HB := Lib.hid hb
  have HC := Lib.hid (HC2.out x w1 hx hvx.1)
  have HOV := Lib.hid hvx.2
  clear hx hvx hb HC1 HC2
  go_wp2_with fail
  refine HC.out.mono ?_
  rintro e w2 ⟨y, rfl, hy, hvy, hb⟩
  have HY := Lib.hid hy; have HVY := Lib.hid (show Roomy y ∧ ∀ g, y.ownBlock = some g → v.ownBlock = some g ∨ w.heap.size ≤ g from ⟨hvy.1, fun g hg => by
    rcases hvy.2 g hg with h' | h'
    · exact HOV.out g h'
    · exact .inr (Nat.le_trans HB.out.size h')⟩)
  replace HB := Lib.hid (HB.out.trans (hb.mono HB.out.size))
  clear hy hvy hb HC
  go_wp2_with fail
  go_ret
  exact ⟨_, rfl, HY.out, HVY.out, HB.out⟩
/-- A pair of places in ascending order. -/
def pairB (n : Nat) (i j : Int) : Bool := decide (0 ≤ i ∧ i < j ∧ j < (n : Int))
set_option maxHeartbeats 1000000 in
set_option maxRecDepth 100000 in
theorem hpr_e (a : Option Addr) (n c : Nat) (i j : Int) (w : World) :
    Calls Try.prog 60 #[.slice a n c, .int .i64 i, .int .i64 j] w fun e w' => e = .returned (.bool (pairB n i j)) ∧ w' = w := by
  by_cases h1 : 0 ≤ i
  · by_cases h2 : i < j
    · by_cases h3 : j < (n : Int)
      · have e : pairB n i j = true := decide_eq_true ⟨h1, h2, h3⟩
        have d1 : decide (0 ≤ i) = true := decide_eq_true h1
        have d2 : decide (i < j) = true := decide_eq_true h2
        have d3 : decide (j < (n : Int)) = true := decide_eq_true h3
        rw [e]
        clear e
        go_enter Try.func60, Try.ntmps60
        go_wp2_with fail
        go_ret
        exact ⟨rfl, rfl⟩
      · have e : pairB n i j = false := decide_eq_false fun h => h3 h.2.2
        have d1 : decide (0 ≤ i) = true := decide_eq_true h1
        have d2 : decide (i < j) = true := decide_eq_true h2
        have d3 : decide (j < (n : Int)) = false := decide_eq_false h3
        rw [e]
        clear e
        go_enter Try.func60, Try.ntmps60
        go_wp2_with fail
        go_ret
        exact ⟨rfl, rfl⟩
    · have e : pairB n i j = false := decide_eq_false fun h => h2 h.2.1
      have d1 : decide (0 ≤ i) = true := decide_eq_true h1
      have d2 : decide (i < j) = false := decide_eq_false h2
      rw [e]
      clear e
      go_enter Try.func60, Try.ntmps60
      go_wp2_with fail
      go_ret
      exact ⟨rfl, rfl⟩
  · have e : pairB n i j = false := decide_eq_false fun h => h1 h.1
    have d1 : decide (0 ≤ i) = false := decide_eq_false h1
    rw [e]
    clear e
    go_enter Try.func60, Try.ntmps60
    go_wp2_with fail
    go_ret
    exact ⟨rfl, rfl⟩
end Go.Proofs.Ytbmghddmilgngaa
namespace Go.Proofs.Ytbmghddmilgngaa
open Go.RowKit

/-- What DeleteAt has put together before index i. -/
def delT (w : List Int) (k : Int) (i : Nat) : List Int := if 0 ≤ k ∧ k < (i : Int) then (w.take i).eraseIdx k.toNat else w.take i
theorem delT_zero (w : List Int) (k : Int) : delT w k 0 = [] := by
  unfold delT
  rw [if_neg (by omega)]; rfl
theorem delT_skip {w : List Int} {k : Int} {i : Nat} (h : i < w.length) (e : (i : Int) = k) : delT w k i = delT w k (i + 1) := by
  subst e
  unfold delT
  rw [if_neg (by omega), if_pos (by omega), Int.toNat_natCast, List.take_succ_eq_append_getElem h, List.eraseIdx_append_of_length_le (by rw [List.length_take]; omega)]
  rw [List.length_take, show i - min i w.length = 0 by omega]
  simp
theorem delT_put {w : List Int} {k : Int} {i : Nat} (h : i < w.length) (e : ¬ (i : Int) = k) : delT w k i ++ [w.getD i 0] = delT w k (i + 1) := by
  have hg : w.getD i 0 = w[i] := by simp [List.getD, h]
  rw [hg]
  unfold delT
  by_cases hc : 0 ≤ k ∧ k < (i : Int)
  · rw [if_pos hc, if_pos ⟨hc.1, by omega⟩, List.take_succ_eq_append_getElem h, List.eraseIdx_append_of_lt_length (by rw [List.length_take]; omega)]
  · rw [if_neg hc, if_neg (by omega), List.take_succ_eq_append_getElem h]
theorem delT_end (w : List Int) (k : Int) : delT w k w.length = delL w k := by
  unfold delT delL
  rw [List.take_length]
theorem delT_len (w : List Int) (k : Int) (i : Nat) : (delT w k i).length ≤ i := by
  unfold delT
  split
  · exact Nat.le_trans (List.length_eraseIdx_le _ _) (by rw [List.length_take]; omega)
  · rw [List.length_take]; omega
set_option maxHeartbeats 1000000 in
set_option maxRecDepth 100000 in
theorem dels_e (v : Value) (l : List Int) (x : Int) (w : World) (h : RowB w.heap.size w v l) (hl : l.length ≤ 1048576) :
    Calls Try.prog 19 #[v, .int .i64 x] w (MakesS w (delL l x)) := by
  obtain ⟨a, cap, rfl⟩ := h.slice
  have HL := Lib.hid h; clear h
  have HSK := Lib.hid (fun (k : Nat) (hk : k < l.length) (e : (k : Int) = x) => delT_skip hk e)
  have HPT := Lib.hid (fun (k : Nat) (hk : k < l.length) (e : ¬ (k : Int) = x) => delT_put hk e)
  have HD := Lib.hid (show ∀ k, k ≤ l.length → (delT l x k).length ≤ 4194304 from fun k hk => by have := delT_len l x k; omega)
  have H0 := Lib.hid (delT_zero l x)
  have HE := Lib.hid (delT_end l x)
  generalize hln : l.length = n at *
  have HLN := Lib.hid hln; clear hln
  go_enter Try.func19, Try.ntmps19
  go_wp2_with fail
  go_loopw [5, 6] (fun o i wr => ∃ (k : Nat) (wq : World), wq = wr ∧ k ≤ n ∧ i = .int .i64 (k : Int) ∧ RowI w.heap.size wq.heap.size wq o (delT l x k) ∧ Below w.heap.size w wq) (fun _ i _ => n - (RowKit.intOf i).toNat)
  case atStart => exact ⟨0, _, rfl, Nat.zero_le _, rfl, by rw [H0.out]; exact row_empty w, (Below.refl _ _).alloc (Nat.le_refl _) _⟩
  case round =>
    obtain ⟨k, wq, rfl, hk, rfl, hM, hb⟩ := hrel
    have HM := Lib.hid hM; clear hM
    have hsq := hb.size
    have HB := Lib.hid hb; clear hb
    by_cases hlt : k < n
    · have hd : decide ((k : Int) < (n : Int)) = true := decide_eq_true (by omega)
      have hdn : decide (k < n) = true := decide_eq_true hlt
      by_cases he : (k : Int) = x
      · have HS := Lib.hid (HSK.out k hlt he)
        have hne : ((k : Int) != x) = false := by rw [bne_eq_false_iff_eq]; exact he
        have HX := Lib.hid he
        clear he HSK HPT
        go_wp2_with fail
        exact ⟨⟨k + 1, _, rfl, by omega, by go_num, by rw [← HS.out]; exact HM.out, HB.out⟩, by simp [RowKit.intOf]; omega⟩
      · obtain ⟨b, off, rfl, hb, hc⟩ := (HL.out.below HB.out (Nat.le_refl _)).getD (j := k) (by omega)
        have HS := Lib.hid (HPT.out k hlt he)
        have hne : ((k : Int) != x) = true := by rw [bne_iff_ne]; exact he
        have HRL := Lib.hid (HD.out k hk)
        clear he HSK HPT
        generalize l.getD k 0 = y at *
        go_wp2_with (at_builtin; go_must (refine append_int HM.out hsq y rfl rfl rfl rfl HRL.out ?_; intro v' w3 hr3 hb3 hz3))
        rw [HS.out] at hr3
        have HR3 := Lib.hid hr3
        have HB3 := Lib.hid (hb3 w w.heap.size (Nat.le_refl _) HB.out)
        clear hr3 hb3 hz3
        go_wp2_with fail
        exact ⟨⟨k + 1, _, rfl, by omega, by go_num, HR3.out, HB3.out⟩, by simp [RowKit.intOf]; omega⟩
    · obtain rfl : k = n := by omega
      have hd : decide ((k : Int) < (k : Int)) = false := by simp
      go_wp2_with fail
      go_ret
      have hM := HM.out
      rw [HE.out] at hM
      exact ⟨_, rfl, ⟨hM, Nat.le_refl _⟩, HB.out⟩
theorem take_mem_step {l : List Int} {x : Int} {k : Nat} (hk : k < l.length) (h : ¬ x ∈ l.take k) (e : ¬ l.getD k 0 = x) : ¬ x ∈ l.take (k + 1) := by
  rw [List.take_succ_eq_append_getElem hk, List.mem_append]
  rintro (h' | h')
  · exact h h'
  · have h9 := List.mem_singleton.1 h'
    exact e (by rw [h9]; simp [List.getD, hk])
set_option maxHeartbeats 1000000 in
set_option maxRecDepth 100000 in
theorem hasx_e (v : Value) (l : List Int) (x : Int) (w : World) (h : RowB w.heap.size w v l) (hl : l.length ≤ maxLen) :
    Calls Try.prog 45 #[v, .int .i64 x] w fun e w' => e = .returned (.bool (decide (x ∈ l))) ∧ Below w.heap.size w w' := by
  obtain ⟨a, cap, rfl⟩ := h.slice
  have HL := Lib.hid h; clear h
  have HYES := Lib.hid (fun (k : Nat) (hk : k < l.length) (e : l.getD k 0 = x) => show decide (x ∈ l) = true from decide_eq_true (by rw [← e]; simp [List.getD, hk]))
  have HNO := Lib.hid (fun (h : ¬ x ∈ l.take l.length) => show decide (x ∈ l) = false from decide_eq_false (by rwa [List.take_length] at h))
  have HST := Lib.hid (fun (k : Nat) (hk : k < l.length) (h : ¬ x ∈ l.take k) (e : ¬ l.getD k 0 = x) => take_mem_step hk h e)
  generalize decide (x ∈ l) = R at *
  generalize hln : l.length = L at *
  clear hln
  unfold maxLen at hl
  go_enter Try.func45, Try.ntmps45
  go_wp2_with fail
  go_loopw [5] (fun i wr => ∃ k : Nat, k ≤ L ∧ i = .int .i64 k ∧ wr = w ∧ Hid (¬ x ∈ l.take k)) (fun i _ => L - (RowKit.intOf i).toNat)
  case atStart => exact ⟨0, Nat.zero_le _, rfl, rfl, Lib.hid (by simp)⟩
  case round =>
    obtain ⟨k, hk, rfl, rfl, hs⟩ := hrel
    by_cases hlt : k < L
    · obtain ⟨lb, loff, rfl, hlb, hlc⟩ := HL.out.getD hlt
      by_cases he : l.getD k 0 = x
      · have HR := Lib.hid (HYES.out k hlt he)
        have hb : (l.getD k 0 == x) = true := by rw [beq_iff_eq]; exact he
        clear he
        generalize l.getD k 0 = y at *
        go_wp2_with fail
        go_ret
        exact ⟨ret_boolean HR.out.symm, Below.refl _ _⟩
      · have HR := Lib.hid (HST.out k hlt hs.out he)
        have hb : (l.getD k 0 == x) = false := by rw [beq_eq_false_iff_ne]; exact he
        clear he
        generalize l.getD k 0 = y at *
        go_wp2_with fail
        exact ⟨⟨k + 1, by omega, by go_num, trivial, HR⟩, by simp [RowKit.intOf]; omega⟩
    · obtain rfl : k = L := by omega
      go_wp2_with fail
      go_ret
      exact ⟨ret_boolean (HNO.out hs.out).symm, Below.refl _ _⟩
end Go.Proofs.Ytbmghddmilgngaa
