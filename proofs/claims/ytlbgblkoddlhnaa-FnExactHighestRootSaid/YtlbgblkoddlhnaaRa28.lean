/-
  Roots: what the program's heights, signs, pairings and reflections in place return.
  Roots: maps.Copy at sets of roots, and the set of the simple roots.
  Roots: the program's set of the simple roots.
-/
import Derived.Deep.QuietTactic
import Derived.Deep.RegionHeld3
import Derived.Test.YtlbgblkoddlhnaaRa08
import Derived.Test.YtlbgblkoddlhnaaRa14
import Derived.Test.YtlbgblkoddlhnaaRa12
import Derived.Test.YtlbgblkoddlhnaaRa27
namespace Go.Proofs.Ytlbgblkoddlhnaa
open Go.RowKit

set_option maxHeartbeats 2000000 in
set_option maxRecDepth 100000 in
theorem hgti_any (B : Nat) (v : Value) (l : List Int) (w : World) (h : RowB B w v l) (hl : l.length ≤ maxLen) :
    Calls Try.prog 35 #[v] w fun e w' => e = .returned (.int .i64 (hgtL l)) ∧ w' = w := by
  obtain ⟨a, cap, rfl⟩ := h.slice
  have HL := Lib.hid h
  unfold maxLen at hl
  have HST := Lib.hid (fun k (hk : k < l.length) => hgtK_step hk)
  have HEN := Lib.hid (hgtK_all l)
  clear h
  generalize hgtL l = R at *
  generalize hln : l.length = L at *
  have HLN := Lib.hid hln; clear hln
  go_enter Try.func35, Try.ntmps35
  go_wp2_with fail
  go_loop [3, 8] (fun s i => ∃ (k : Nat), k ≤ L ∧ i = .int .i64 k ∧ s = .int .i64 (hgtK l k)) (fun _ i => L - (intOf i).toNat)
  case atStart => exact ⟨0, Nat.zero_le _, rfl, rfl⟩
  case round =>
    obtain ⟨k, hk, rfl, rfl⟩ := hrel
    by_cases hlt : k < L
    · obtain ⟨b, off, rfl, hb, hc⟩ := HL.out.getD hlt
      have HE := Lib.hid (HST.out k hlt)
      generalize hE : hgtK l (k + 1) = E at *
      have HQ := Lib.hid hE; clear hE
      generalize hgtK l k = s at *
      generalize l.getD k 0 = x at *
      have h3 : IntKind.i64.wrap (s + x) = E := by rw [HE.out, wrapk]; rfl
      have h4 : wrap64 (s + x) = E := by rw [HE.out]; rfl
      clear HE
      go_wp2_with fail
      exact ⟨⟨k + 1, by omega, by go_num, by rw [HQ.out]⟩, by simp [intOf]; omega⟩
    · obtain rfl : k = L := by omega
      rw [HEN.out]
      go_wp2_with fail
      go_ret
      exact ⟨rfl, rfl⟩
set_option maxHeartbeats 2000000 in
set_option maxRecDepth 100000 in
theorem sgni_any (B : Nat) (v : Value) (l : List Int) (w : World) (h : RowB B w v l) (hl : l.length ≤ maxLen) :
    Calls Try.prog 37 #[v] w fun e w' => e = .returned (.int .i64 (sgnL l)) ∧ w' = w := by
  obtain ⟨a, cap, rfl⟩ := h.slice
  have HL := Lib.hid h
  unfold maxLen at hl
  have HU := Lib.hid (fun k (hk : k < l.length) => upK_step hk)
  have HD := Lib.hid (fun k (hk : k < l.length) => downK_step hk)
  have HUE := Lib.hid (upK_all l); have HDE := Lib.hid (downK_all l)
  have HSG := Lib.hid (show sgnL l = if upL l = downL l then 0 else if upL l = true then 1 else -1 from rfl)
  clear h
  generalize sgnL l = R at *
  generalize hln : l.length = L at *
  have HLN := Lib.hid hln; clear hln
  go_enter Try.func37, Try.ntmps37
  go_wp2_with fail
  go_loop [3, 4, 9] (fun u d i => ∃ (k : Nat), k ≤ L ∧ i = .int .i64 k ∧ u = .bool (upK l k) ∧ d = .bool (downK l k)) (fun _ _ i => L - (intOf i).toNat)
  case atStart => exact ⟨0, Nat.zero_le _, rfl, rfl, rfl⟩
  case round =>
    obtain ⟨k, hk, rfl, rfl, rfl⟩ := hrel
    by_cases hlt : k < L
    · obtain ⟨b, off, rfl, hb, hc⟩ := HL.out.getD hlt
      have HE := Lib.hid (HU.out k hlt)
      have HF := Lib.hid (HD.out k hlt)
      generalize upK l k = u at *
      generalize downK l k = d at *
      generalize l.getD k 0 = x at *
      cases u <;> cases d <;> (go_wp2_with fail) <;> exact ⟨⟨k + 1, by omega, by go_num, by rw [HE.out]; simp, by rw [HF.out]; simp⟩, by simp [intOf]; omega⟩
    · obtain rfl : k = L := by omega
      rw [HUE.out, HDE.out]
      generalize upL l = u at *
      generalize downL l = d at *
      cases u <;> cases d <;> (go_wp2_with fail) <;> go_ret <;> exact ⟨by rw [HSG.out]; rfl, rfl⟩
set_option maxHeartbeats 2000000 in
set_option maxRecDepth 100000 in
theorem pair_any (B B' : Nat) (v v' : Value) (m : List (List Int)) (l : List Int) (i : Nat) (w : World) (h : MatB B w v m) (h' : RowB B' w v' l) (hr : Rows0 m m.length m.length) (hll : l.length = m.length) (hi : i < m.length) (hn : m.length ≤ 1048576) :
    Calls Try.prog 73 #[v, .int .i64 i, v'] w fun e w' => e = .returned (.int .i64 (prK m i l m.length)) ∧ w' = w := by
  obtain ⟨a, cap, rfl⟩ := h.slice
  obtain ⟨a', cap', rfl⟩ := h'.slice
  have HR := Lib.hid h; have HL := Lib.hid h'; have HRW := Lib.hid hr
  have HST := Lib.hid (fun k => show prK m i l (k + 1) = addW (prK m i l k) (mulW (entry m i k) (l.getD k 0)) from rfl)
  obtain ⟨b0, off0, rb0, roff0, rcap0, hrowp⟩ : ∃ b off rb roff rcap, a = some ⟨b, off, none⟩ ∧ w.cell? ⟨b, off + i, none⟩ = some (.slice (some ⟨rb, roff, none⟩) m.length rcap) := by
    obtain ⟨b, off, rb, roff, rcap, h1, h2, _⟩ := h.entry hr hi hi
    exact ⟨b, off, rb, roff, rcap, h1, h2⟩
  obtain ⟨rfl, hc0⟩ := hrowp
  clear h h' hr
  rw [hll] at HL ⊢
  generalize hnm : m.length = n at *
  have HN := Lib.hid hnm
  clear hnm hll
  go_enter Try.func73, Try.ntmps73
  go_wp2_with fail
  go_loop [7, 15] (fun s i' => ∃ (k : Nat), k ≤ n ∧ i' = .int .i64 k ∧ s = .int .i64 (prK m i l k)) (fun _ i' => n - (intOf i').toNat)
  case atStart => exact ⟨0, Nat.zero_le _, rfl, rfl⟩
  case round =>
    obtain ⟨k, hk, rfl, rfl⟩ := hrel
    by_cases hlt : k < n
    · obtain ⟨b, off, rb, roff, rcap, he, hc1, hx⟩ := HR.out.entry HRW.out hi hlt
      injection he with he
      injection he with e1 e2
      subst e1; subst e2
      rw [hc0] at hc1
      injection hc1 with hc1
      injection hc1 with e3 e4 e5
      injection e3 with e3
      injection e3 with e6 e7
      subst e6; subst e7
      obtain ⟨b', off', rfl, hbb, hy⟩ := HL.out.getD hlt
      have HE := Lib.hid (HST.out k)
      clear hbb
      generalize hE : prK m i l (k + 1) = E at *
      have HQ := Lib.hid hE; clear hE
      generalize prK m i l k = s at *
      generalize l.getD k 0 = x at *
      generalize entry m i k = y at *
      obtain ⟨pr, hpr⟩ : ∃ pr, pr = mulW y x := ⟨_, rfl⟩
      have h1 : IntKind.i64.wrap (y * x) = pr := by rw [hpr, wrapk]; rfl
      have h2 : wrap64 (y * x) = pr := by rw [hpr]; rfl
      have h3 : IntKind.i64.wrap (s + pr) = E := by rw [HE.out, hpr, wrapk]; rfl
      have h4 : wrap64 (s + pr) = E := by rw [HE.out, hpr]; rfl
      clear hpr HE
      go_wp2_with fail
      exact ⟨⟨k + 1, by omega, by go_num, by rw [HQ.out]⟩, by simp [intOf]; omega⟩
    · obtain rfl : k = n := by omega
      go_wp2_with fail
      go_ret
      exact ⟨rfl, rfl⟩
set_option maxHeartbeats 2000000 in
set_option maxRecDepth 100000 in
theorem rrc_any (B g off n cap : Nat) (v : Value) (m : List (List Int)) (l : List Int) (i : Nat) (w : World) (h : MatB B w v m) (h' : RowB (g + 1) w (.slice (some ⟨g, off, none⟩) n cap) l) (hln : l.length = n) (hfz : w.frozen? ⟨g, off + i, none⟩ = false) (hr : Rows0 m m.length m.length) (hll : n = m.length) (hi : i < m.length) (hn : m.length ≤ 1048576) :
    Calls Try.prog 56 #[v, .int .i64 i, .slice (some ⟨g, off, none⟩) n cap] w fun e w' => e = .returned (.tuple #[]) ∧ ∃ q, w' = (w.setCell ⟨g, off + i, none⟩ (.int .i64 (subW (l.getD i 0) (prK m i l l.length)))).drewN q := by
  have HP := Lib.hid (pair_any B (g + 1) v (.slice (some ⟨g, off, none⟩) n cap) m l i w h h' hr (by omega) hi hn)
  have HPD := Lib.hid (show Calls Try.prog 73 #[v, .int .i64 i, .slice (some ⟨g, off, none⟩) n cap] w.drew fun e w' => e = .returned (.int .i64 (prK m i l m.length)) ∧ w' = w.drew from pair_any B (g + 1) v (.slice (some ⟨g, off, none⟩) n cap) m l i w.drew h h' hr (by omega) hi hn)
  obtain ⟨b', off', hb', hbb, hx0⟩ := h'.getD (j := i) (by omega)
  injection hb' with hb'
  injection hb' with e1 e2
  subst e1; subst e2
  obtain ⟨a, cap0, rfl⟩ := h.slice
  rw [show l.length = m.length by omega]
  have HE := Lib.hid (show subW (l.getD i 0) (prK m i l m.length) = wrap64 (l.getD i 0 - prK m i l m.length) from rfl)
  have hin : i < n := by omega
  clear h h' hr
  generalize subW (l.getD i 0) (prK m i l m.length) = E at *
  generalize prK m i l m.length = s at *
  generalize l.getD i 0 = x at *
  have h3 : IntKind.i64.wrap (x - s) = E := by rw [HE.out, wrapk]
  have h4 : wrap64 (x - s) = E := by rw [HE.out]
  clear HE hbb hln hll
  generalize m.length = nm at *
  go_enter Try.func56, Try.ntmps56
  go_wp2_with fail
  have hxd : w.drew.cell? ⟨g, off + i, none⟩ = some (.int .i64 x) := hx0
  have hfd : w.drew.frozen? ⟨g, off + i, none⟩ = false := hfz
  go_region_with (go_at_call 73; refine HPD.out.mono ?_; rintro e w' ⟨rfl, rfl⟩)
  all_goals
    (try go_wp2_with fail)
    go_end0
    exact ⟨rfl, 1, rfl⟩
end Go.Proofs.Ytlbgblkoddlhnaa
namespace Go.Proofs.Ytlbgblkoddlhnaa
open Go.RowKit Go.Maps Go.WideMaps

theorem grown_andThen {a b c : World} {S S' : Option Nat} (h : a.grownBy b S) (k : b.grownBy c S') (hr : ∀ j, S' = some j → a.heap.size ≤ j ∨ S = some j) : a.grownBy c S := h.andThen k hr
theorem keyV_parts (l : List Int) : ∃ a b c d, keyV l = .agg #[.int .i64 a, .int .i64 b, .int .i64 c, .int .i64 d] := ⟨_, _, _, _, rfl⟩
set_option maxHeartbeats 2000000 in
set_option maxRecDepth 100000 in
theorem copy_set (n bd bs : Nat) (S S' : List Int → Prop) (w : World) (hd : SetM n w bd S) (hs : SetM n w bs S') (hne : bd ≠ bs) :
    Calls Try.prog 81 #[.map (some bd), .map (some bs)] w fun e w' => e = .returned (.tuple #[]) ∧ SetM n w' bd (fun x => S x ∨ S' x) ∧ SetM n w' bs S' ∧ w.grownBy w' (some bd) := by
  have hbd := hd.lt
  have hbs := hs.lt
  go_enter Try.func81, Try.ntmps81
  go_wp2_with (at_range; refine wpList_setRange rfl _ rfl hs rfl ?_; intro w0 hrg0 hg0 hs0)
  go_frame
  go_loopw [8] (fun _ wr => ∃ (T N : List Int → Prop) (cnt : Nat), RngM n wr bs w.heap.size S' T cnt ∧ SetM n wr bd N ∧ (∀ x, N x ↔ S x ∨ (S' x ∧ ¬ T x)) ∧ (∀ x, T x → S' x) ∧ w.grownBy wr (some bd)) (fun _ wr => wr.rangeLeft bs w.heap.size)
  case atStart => exact ⟨S', S, _, hrg0, hd.kept hg0 (by simp), fun x => ⟨Or.inl, fun h => h.elim id fun h => absurd h.1 h.2⟩, fun _ h => h, hg0.but _⟩
  case round =>
    obtain ⟨T, N, cnt, hrg, hN, hch, hTS, hgw⟩ := hrel
    go_wp2_with (at_next; refine wpList_setNext rfl _ rfl hrg rfl ?_ ?_)
    · intro _ hT
      go_wp2_with fail
      go_end0
      exact ⟨rfl, hN.same fun x => (hch x).trans ⟨fun h => h.imp id fun h => h.1, fun h => h.imp id fun h => ⟨h, hT x⟩⟩, hrg.setM, hgw⟩
    · intro l w1 cnt1 hTl hrg1 hlt hg1 hs1 hen
      have hlow := hN.low.1
      have hll := hrg.setM.low.2 l (hTS l hTl)
      have hN1 := hN.kept hg1 (fun e => by have := Option.some.inj e; omega)
      obtain ⟨x0, x1, x2, x3, hkv⟩ := keyV_parts l
      have HK := Lib.hid hkv
      rw [hkv] at hen ⊢
      clear hkv
      have hNa := hN1.kept (World.grownBy_alloc w1 (.cells #[.int .i64 x0, .int .i64 x1, .int .i64 x2, .int .i64 x3] 53) none) (by simp)
      have hRa := hrg1.kept (World.grownBy_alloc w1 (.cells #[.int .i64 x0, .int .i64 x1, .int .i64 x2, .int .i64 x3] 53) none) (by simp) (by simp)
      have hga := grown_andThen (grown_andThen hgw hg1 (fun j hj => .inl (by cases hj; exact Nat.le_refl _))) (World.grownBy_alloc w1 (.cells #[.int .i64 x0, .int .i64 x1, .int .i64 x2, .int .i64 x3] 53) none) (fun j hj => by simp at hj)
      go_wp2_with (at_mapUpdate; refine wpList_setPut rfl _ _ _ rfl hNa hll rfl (by rw [HK.out]; rfl) rfl ?_; intro w2 hN2 hg2; go_frame)
      have hR2 := hRa.kept hg2 (fun e => hne (Option.some.inj e).symm) (fun e => by have := Option.some.inj e; omega)
      go_roundw
      case rel =>
        refine ⟨fun x => T x ∧ ¬ x = l, fun x => N x ∨ x = l, cnt1, hR2, hN2, fun x => ⟨fun h => ?_, fun h => ?_⟩, fun x h => hTS x h.1, grown_andThen hga hg2 (fun j hj => .inr hj)⟩
        · rcases h with h | rfl
          · rcases (hch x).1 h with h | h
            · exact Or.inl h
            · exact Or.inr ⟨h.1, fun h' => h.2 h'.1⟩
          · exact Or.inr ⟨hTS _ hTl, fun h' => h'.2 rfl⟩
        · by_cases e : x = l
          · exact Or.inr e
          · refine Or.inl ((hch x).2 (h.imp id fun h => ⟨h.1, fun hT => h.2 ⟨hT, e⟩⟩))
      case measure => rw [hR2.left_eq, hrg.left_eq]; exact hlt
end Go.Proofs.Ytlbgblkoddlhnaa
namespace Go.Proofs.Ytlbgblkoddlhnaa
open Go.RowKit Go.Maps Go.WideMaps

theorem unit_low {n k : Nat} : Low n (unitR n k) := ⟨unitR_len _ _, fun x hx => by rcases unitR_mem hx with e | e <;> omega⟩
theorem n_cases {n k : Nat} (h : k < n) (h4 : n ≤ 4) : (k = 0 ∨ k = 1 ∨ k = 2 ∨ k = 3) ∧ (n = 1 ∨ n = 2 ∨ n = 3 ∨ n = 4) := by omega
theorem keyV_unit0 {n : Nat} (h : 0 < n) (h4 : n ≤ 4) : keyV (unitR n 0) = .agg #[.int .i64 1, .int .i64 0, .int .i64 0, .int .i64 0] := by
  obtain rfl | rfl | rfl | rfl := (n_cases h h4).2 <;> rfl
theorem keyV_unit1 {n : Nat} (h : 1 < n) (h4 : n ≤ 4) : keyV (unitR n 1) = .agg #[.int .i64 0, .int .i64 1, .int .i64 0, .int .i64 0] := by
  obtain rfl | rfl | rfl | rfl := (n_cases h h4).2 <;> first | omega | rfl
theorem keyV_unit2 {n : Nat} (h : 2 < n) (h4 : n ≤ 4) : keyV (unitR n 2) = .agg #[.int .i64 0, .int .i64 0, .int .i64 1, .int .i64 0] := by
  obtain rfl | rfl | rfl | rfl := (n_cases h h4).2 <;> first | omega | rfl
theorem keyV_unit3 {n : Nat} (h : 3 < n) (h4 : n ≤ 4) : keyV (unitR n 3) = .agg #[.int .i64 0, .int .i64 0, .int .i64 0, .int .i64 1] := by
  obtain rfl | rfl | rfl | rfl := (n_cases h h4).2 <;> first | omega | rfl
theorem set_step {n k : Nat} (x : List Int) : ((∃ j, j < k ∧ x = unitR n j) ∨ x = unitR n k) ↔ ∃ j, j < k + 1 ∧ x = unitR n j := by
  constructor
  · rintro (⟨j, hj, e⟩ | e)
    · exact ⟨j, by omega, e⟩
    · exact ⟨k, by omega, e⟩
  · rintro ⟨j, hj, e⟩
    rcases Nat.lt_or_ge j k with h | h
    · exact Or.inl ⟨j, h, e⟩
    · obtain rfl : j = k := by omega
      exact Or.inr e
set_option maxHeartbeats 4000000 in
set_option maxRecDepth 100000 in
theorem srk_any (B : Nat) (v : Value) (m : List (List Int)) (w : World) (h : MatB B w v m) (hn4 : m.length ≤ 4) :
    Calls Try.prog 80 #[v] w fun e w' => ∃ b, e = .returned (.map (some b)) ∧ w.heap.size ≤ b ∧ SetM m.length w' b (fun r => ∃ j, j < m.length ∧ r = unitR m.length j) ∧ Below w.heap.size w w' := by
  obtain ⟨a, cap, rfl⟩ := h.slice
  clear h
  have hmm := @run_makeMap Try.prog
  have HMK := Lib.hid (setM_made hn4 w)
  generalize m.length = n at *
  go_enter Try.func80, Try.ntmps80
  go_wp2_with fail
  clear hmm
  go_loopw [9] (fun i wr => ∃ (k : Nat) (wq : World), wq = wr ∧ k ≤ n ∧ i = .int .i64 k ∧ SetM n wq w.heap.size (fun r => ∃ j, j < k ∧ r = unitR n j) ∧ Below w.heap.size w wq) (fun i _ => n - (intOf i).toNat)
  case atStart => exact ⟨0, _, rfl, Nat.zero_le _, rfl, HMK.out.same fun x => ⟨fun h => h.elim, fun ⟨_, h, _⟩ => absurd h (Nat.not_lt_zero _)⟩, (Below.refl _ _).alloc (Nat.le_refl _) _⟩
  case round =>
    obtain ⟨k, wq, rfl, hk, rfl, hS, hb⟩ := hrel
    by_cases hlt : k < n
    · have hsz := hb.size
      rcases (n_cases hlt hn4).1 with rfl | rfl | rfl | rfl
      · have HK := Lib.hid (keyV_unit0 hlt hn4)
        have hal := World.grownBy_alloc wq (.cells #[.int .i64 1, .int .i64 0, .int .i64 0, .int .i64 0] 53) none
        have hSa := hS.kept hal (by simp)
        have hba : Below w.heap.size w (wq.alloc (.cells #[.int .i64 1, .int .i64 0, .int .i64 0, .int .i64 0] 53)) := hb.alloc hsz _
        go_wp2_with (at_mapUpdate; refine wpList_setPut rfl _ _ _ rfl hSa unit_low rfl (by rw [HK.out]; rfl) rfl ?_; intro w2 hS2 hg2; go_frame)
        have hb2 := hba.grown hg2 (by simp; omega) (fun j hj => by have := Option.some.inj hj; omega)
        have hS3 := hS2.same (S' := fun r => ∃ j, j < 0 + 1 ∧ r = unitR n j) (fun x => set_step x)
        clear hS hS2 hSa hal hg2
        go_wp2_with fail
        exact ⟨⟨0 + 1, _, rfl, by omega, by go_num, hS3, hb2⟩, by simp [intOf]; omega⟩
      · have HK := Lib.hid (keyV_unit1 hlt hn4)
        have hal := World.grownBy_alloc wq (.cells #[.int .i64 0, .int .i64 1, .int .i64 0, .int .i64 0] 53) none
        have hSa := hS.kept hal (by simp)
        have hba : Below w.heap.size w (wq.alloc (.cells #[.int .i64 0, .int .i64 1, .int .i64 0, .int .i64 0] 53)) := hb.alloc hsz _
        go_wp2_with (at_mapUpdate; refine wpList_setPut rfl _ _ _ rfl hSa unit_low rfl (by rw [HK.out]; rfl) rfl ?_; intro w2 hS2 hg2; go_frame)
        have hb2 := hba.grown hg2 (by simp; omega) (fun j hj => by have := Option.some.inj hj; omega)
        have hS3 := hS2.same (S' := fun r => ∃ j, j < 1 + 1 ∧ r = unitR n j) (fun x => set_step x)
        clear hS hS2 hSa hal hg2
        go_wp2_with fail
        exact ⟨⟨1 + 1, _, rfl, by omega, by go_num, hS3, hb2⟩, by simp [intOf]; omega⟩
      · have HK := Lib.hid (keyV_unit2 hlt hn4)
        have hal := World.grownBy_alloc wq (.cells #[.int .i64 0, .int .i64 0, .int .i64 1, .int .i64 0] 53) none
        have hSa := hS.kept hal (by simp)
        have hba : Below w.heap.size w (wq.alloc (.cells #[.int .i64 0, .int .i64 0, .int .i64 1, .int .i64 0] 53)) := hb.alloc hsz _
        go_wp2_with (at_mapUpdate; refine wpList_setPut rfl _ _ _ rfl hSa unit_low rfl (by rw [HK.out]; rfl) rfl ?_; intro w2 hS2 hg2; go_frame)
        have hb2 := hba.grown hg2 (by simp; omega) (fun j hj => by have := Option.some.inj hj; omega)
        have hS3 := hS2.same (S' := fun r => ∃ j, j < 2 + 1 ∧ r = unitR n j) (fun x => set_step x)
        clear hS hS2 hSa hal hg2
        go_wp2_with fail
        exact ⟨⟨2 + 1, _, rfl, by omega, by go_num, hS3, hb2⟩, by simp [intOf]; omega⟩
      · have HK := Lib.hid (keyV_unit3 hlt hn4)
        have hal := World.grownBy_alloc wq (.cells #[.int .i64 0, .int .i64 0, .int .i64 0, .int .i64 1] 53) none
        have hSa := hS.kept hal (by simp)
        have hba : Below w.heap.size w (wq.alloc (.cells #[.int .i64 0, .int .i64 0, .int .i64 0, .int .i64 1] 53)) := hb.alloc hsz _
        go_wp2_with (at_mapUpdate; refine wpList_setPut rfl _ _ _ rfl hSa unit_low rfl (by rw [HK.out]; rfl) rfl ?_; intro w2 hS2 hg2; go_frame)
        have hb2 := hba.grown hg2 (by simp; omega) (fun j hj => by have := Option.some.inj hj; omega)
        have hS3 := hS2.same (S' := fun r => ∃ j, j < 3 + 1 ∧ r = unitR n j) (fun x => set_step x)
        clear hS hS2 hSa hal hg2
        go_wp2_with fail
        exact ⟨⟨3 + 1, _, rfl, by omega, by go_num, hS3, hb2⟩, by simp [intOf]; omega⟩
    · obtain rfl : k = n := by omega
      go_wp2_with fail
      go_ret
      exact ⟨_, rfl, Nat.le_refl _, hS, hb⟩
end Go.Proofs.Ytlbgblkoddlhnaa
