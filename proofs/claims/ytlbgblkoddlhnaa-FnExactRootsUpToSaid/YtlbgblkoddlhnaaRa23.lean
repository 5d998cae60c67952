/-
  The search through a diagram, as the program (partFrom) and the model (l3Part) walk it: what each call returns.
-/
import Derived.Test.YtlbgblkoddlhnaaRa22
import Derived.Test.YtlbgblkoddlhnaaRa20
namespace Go.Proofs.Ytlbgblkoddlhnaa
open Go.RowKit

def nbG (m : List (List Int)) (n p : Nat) : List Nat := (List.range n).filter (nbF m p)
def intL (q : List Nat) : List Int := q.map fun (j : Nat) => (j : Int)
theorem intL_len (q : List Nat) : (intL q).length = q.length := by simp [intL]
theorem intL_get (q : List Nat) (k : Nat) (h : k < q.length) : (intL q).getD k 0 = ((q.getD k 0 : Nat) : Int) := by simp [intL, List.getD, h]
theorem intL_snoc (q : List Nat) (j : Nat) : intL q ++ [(j : Int)] = intL (q ++ [j]) := by simp [intL]
theorem nbK_eq (m : List (List Int)) (p n : Nat) : nbK m p n = intL (nbG m n p) := rfl
theorem nbG_in (m : List (List Int)) (n : Nat) : GrIn (nbG m n) n := fun p k hk => by
  have h1 : (nbG m n p).getD k 0 = (nbG m n p)[k] := by simp [List.getD, hk]
  rw [h1]
  have h3 := (List.mem_filter.1 (show (nbG m n p)[k] ∈ (List.range n).filter (nbF m p) from List.getElem_mem hk)).1
  exact List.mem_range.1 h3
/-- The state of the search in the world wi: the queue, and what is seen. -/
def BfsAt (A : Nat) (w : World) (g n : Nat) (x : Value) (st : List Bool × List Nat) (wi : World) : Prop :=
  RowI w.heap.size wi.heap.size wi x (intL st.2) ∧ SeenI A wi g n st.1 ∧ w.grownBy wi (some g)
theorem row_lit (w : World) (p : Int) : RowI w.heap.size (w.alloc (.cells #[.int .i64 p] 3)).heap.size (w.alloc (.cells #[.int .i64 p] 3)) (.slice (some ⟨w.heap.size, 0, none⟩) 1 1) [p] :=
  ⟨World.ownsRow_lit w #[.int .i64 p] 1 (Nat.le_refl _) (by unfold maxLen; omega) rfl, fun g hg => by
    have : w.heap.size = g := by simpa [Value.ownBlock] using hg
    simp; omega⟩
theorem bfs_start {A : Nat} {w : World} {g n p : Nat} {s : List Bool} (hs : SeenI A w g n s) :
    BfsAt A w g n (.slice (some ⟨w.heap.size, 0, none⟩) 1 1) (start n p s) ((w.alloc (.cells #[.int .i64 (p : Int)] 3)).setCell ⟨g, p, none⟩ (.bool true)) := by
  have hs1 : SeenI A (w.alloc (.cells #[.int .i64 (p : Int)] 3)) g n s := hs.keep (World.grownBy_alloc w _ none) (by simp)
  obtain ⟨h1, h2⟩ := hs1.put p true
  have h3 : SeenI A ((w.alloc (.cells #[.int .i64 (p : Int)] 3)).setCell ⟨g, p, none⟩ (.bool true)) g n (s.set p true) := h1
  refine ⟨?_, h3, grown_trans (World.grownBy_alloc w _ _) h2⟩
  have h4 := (row_lit w p).kept h2 (hs1.row_ne (row_lit w p))
  exact h4.mono (Nat.le_refl _) h2.size
/-- The same, the store ahead of the literal. -/
theorem bfs_start2 {A : Nat} {w : World} {g n p : Nat} {s : List Bool} (hs : SeenI A w g n s) :
    BfsAt A w g n (.slice (some ⟨w.heap.size, 0, none⟩) 1 1) (start n p s) ((w.setCell ⟨g, p, none⟩ (.bool true)).alloc (.cells #[.int .i64 (p : Int)] 3)) := by
  obtain ⟨h1, h2⟩ := hs.put p true
  have h3 : SeenI A ((w.setCell ⟨g, p, none⟩ (.bool true)).alloc (.cells #[.int .i64 (p : Int)] 3)) g n (s.set p true) := h1.keep (World.grownBy_alloc _ _ none) (by simp)
  refine ⟨?_, h3, grown_trans h2 (World.grownBy_alloc _ _ _)⟩
  have h4 := row_lit (w.setCell ⟨g, p, none⟩ (.bool true)) p
  rw [World.size_setCell] at h4
  exact h4
theorem bfs_below {A B : Nat} {w wi : World} {g n : Nat} {x : Value} {st : List Bool × List Nat} (h : BfsAt A w g n x st wi) (hB : B ≤ w.heap.size) (hA : B ≤ A) : Below B w wi :=
  (Below.refl B w).grown h.2.2 hB (fun k hk => by injection hk with hk; have := h.2.1.lt.1; omega)
/-- Across a call that makes memory only. -/
theorem bfs_step {A : Nat} {w wi w2 : World} {g n : Nat} {x : Value} {st : List Bool × List Nat} (h : BfsAt A w g n x st wi) (hb : Below wi.heap.size wi w2) : BfsAt A w g n x st w2 :=
  ⟨h.1.step hb, h.2.1.below hb h.2.1.lt.2, grown_below h.2.2 hb⟩
/-- After the mark: what holds ahead of the append. -/
theorem bfs_mark {A : Nat} {w wi : World} {g n : Nat} {x : Value} {st : List Bool × List Nat} (h : BfsAt A w g n x st wi) (j : Nat) :
    BfsAt A w g n x (st.1.set j true, st.2) (wi.setCell ⟨g, j, none⟩ (.bool true)) := by
  obtain ⟨h1, h2⟩ := h.2.1.put j true
  exact ⟨(h.1.kept h2 (h.2.1.row_ne h.1)).mono (Nat.le_refl _) h2.size, h1, grown_trans h.2.2 h2⟩
theorem bfs_push {A : Nat} {w wi w3 : World} {g n j : Nat} {x y : Value} {st : List Bool × List Nat} (hm : BfsAt A w g n x (st.1.set j true, st.2) wi) (hj : st.1.getD j false = false)
    (hr : RowI w.heap.size w3.heap.size w3 y (intL st.2 ++ [(j : Int)])) (hg : wi.grownBy w3 x.ownBlock) : BfsAt A w g n y (visit1 st j) w3 := by
  have hv : visit1 st j = (st.1.set j true, st.2 ++ [j]) := by unfold visit1; rw [hj]; rfl
  rw [hv]
  refine ⟨?_, hm.2.1.keep hg (hm.2.1.ne_row hm.1), grown_new hm.2.2 hg (fun k hk => (hm.1.1.lt k hk).1)⟩
  rw [intL_snoc] at hr
  exact hr
theorem visit_seen {st : List Bool × List Nat} {j : Nat} (h : st.1.getD j false = true) : visit1 st j = st := by unfold visit1; rw [h]; rfl
/-- The neighbours' list is neither the queue nor what is seen. -/
theorem nb_keep {A C D : Nat} {w wi ws : World} {g n : Nat} {x xl : Value} {st : List Bool × List Nat} {l : List Int} (h : BfsAt A w g n x st wi) (hl : RowI C D wi xl l) (hg : wi.grownBy ws (some g)) : RowI C D ws xl l :=
  hl.kept hg (h.2.1.row_ne hl)
theorem nb_keep2 {C D : Nat} {wi ws : World} {x xl : Value} {l : List Int} (hl : RowI C D wi xl l) (hx : ∀ k, x.ownBlock = some k → k < C ∨ D ≤ k) (hg : wi.grownBy ws x.ownBlock) : RowI C D ws xl l := by
  refine hl.kept hg ?_
  cases hxl : xl.ownBlock with
  | none => exact Or.inl rfl
  | some k =>
    right
    intro e
    have h1 := (hl.1.lt k hxl).1
    have h2 := hl.2 k hxl
    have h3 := hx k e.symm
    omega

set_option maxHeartbeats 4000000 in
set_option maxRecDepth 100000 in
theorem part_any (B A : Nat) (v : Value) (m : List (List Int)) (p g : Nat) (s : List Bool) (w : World) (h : MatB B w v m) (hB : B ≤ w.heap.size) (hA : B ≤ A) (hf : RowsFit m) (hI : IsC m) (hp : p < m.length) (hs : SeenI A w g m.length s)
    (hperm : (bfsE (nbG m m.length) (start m.length p s)).2.Perm (sortN m.length (bfsE (nbG m m.length) (start m.length p s)).2)) :
    Calls Try.prog 109 #[v, .int .i64 p, .slice (some ⟨g, 0, none⟩) m.length m.length] w fun e w' => ∃ x, e = .returned x ∧
      RowI w.heap.size w'.heap.size w' x (intL (sortN m.length (bfsE (nbG m m.length) (start m.length p s)).2)) ∧ SeenI A w' g m.length (bfsE (nbG m m.length) (start m.length p s)).1 ∧ w.grownBy w' (some g) := by
  obtain ⟨a, cap, rfl⟩ := h.slice
  have hl := hf.1
  have hn4 := hI.2.2.2
  have HR := Lib.hid h; clear h
  have HF := Lib.hid hf; clear hf
  have HI := Lib.hid hI; clear hI
  have HPM := Lib.hid hperm; clear hperm
  have HG := Lib.hid (nbG_in m m.length)
  have HK := Lib.hid (nbK_eq m)
  have hs1 : SeenI A (w.alloc (.cells #[.int .i64 (p : Int)] 3)) g m.length s := hs.keep (World.grownBy_alloc w _ none) (by simp)
  have hc0 := hs1.cell hp
  have hz0 := hs1.frozen p
  have HST := Lib.hid (bfs_start (p := p) hs)
  have HIV := Lib.hid (start_inv hs.1 hp)
  have hC := start_le (i := p) hs.1
  have HPN := Lib.hid (show p < m.length from hp)
  clear hs hs1
  generalize 1 + (s.set p true).count false = C at *
  generalize hS0 : start m.length p s = S0 at *
  clear hS0
  generalize hG : nbG m m.length = G at *
  generalize hn : m.length = n at *
  have HN := Lib.hid hn; clear hn
  have HGE := Lib.hid hG; clear hG
  unfold maxLen at hl
  go_enter Try.func109, Try.ntmps109
  go_wp2_with fail
  clear hc0 hz0
  go_loopw [7, 8] (fun x i wr => ∃ (k : Nat) (wq : World), wq = wr ∧ k ≤ 5 ∧ i = .int .i64 k ∧ BfsAt A w g n x (bfsN G S0 k) wq) (fun _ i _ => 6 - (intOf i).toNat)
  case atStart => exact ⟨0, _, rfl, by omega, rfl, HST.out⟩
  case round =>
    obtain ⟨k, wq, rfl, hk, rfl, hS⟩ := hrel
    have hinv := bfsN_inv HG.out HIV.out k
    have hlen : (bfsN G S0 k).2.length ≤ C := by have := hinv.2.2.1; omega
    obtain ⟨xa, xcap, rfl⟩ := hS.1.slice
    rw [intL_len] at hS ⊢
    have HS := Lib.hid hS; clear hS
    have HINV := Lib.hid hinv
    by_cases hlt : k < (bfsN G S0 k).2.length
    · have hpk := hinv.2.1 k hlt
      obtain ⟨b, off, rfl, hb, hxc⟩ := RowB.getD HS.out.1.rowB hlt
      rw [intL_get _ _ hlt] at hxc
      have HNX := Lib.hid (bfsN_step hlt)
      clear hinv
      generalize (bfsN G S0 k).2.getD k 0 = pk at *
      generalize hst : bfsN G S0 k = st at *
      clear hst
      generalize hL : st.2.length = L at *
      have HL := Lib.hid hL; clear hL
      have hbq := bfs_below HS.out hB hA
      have HBQ := Lib.hid hbq; clear hbq
      have hwq : w.heap.size ≤ wq.heap.size := HS.out.2.2.size
      go_wp2_with fail
      refine (nbi_good B _ m pk wq (HR.out.below HBQ.out (Nat.le_refl _)) (Nat.le_trans hB hwq) HF.out HI.out (by rw [HN.out]; exact hpk)).mono ?_
      rintro e w2 ⟨xl, rfl, hxl, hb2⟩
      have hxl' : OwnS wq.heap.size w2.heap.size w2 xl (intL (G pk)) := by rw [← HGE.out, ← nbK_eq, ← HN.out]; exact hxl
      clear hxl
      obtain ⟨la, lcap, rfl⟩ := hxl'.1.slice
      rw [intL_len] at hxl' ⊢
      have HXL := Lib.hid hxl'; clear hxl'
      have HS2 := Lib.hid (bfs_step HS.out hb2)
      have hs2 := hb2.size
      have hlo : ∀ y, (Value.slice (some ⟨b, off, none⟩) L xcap).ownBlock = some y → y < wq.heap.size ∨ w2.heap.size ≤ y := fun y hy => Or.inl (HS.out.1.1.lt y hy).2
      have HLO := Lib.hid hlo; clear hlo
      have hgl : (G pk).length ≤ 4294967296 := by rw [← HGE.out]; unfold nbG; exact Nat.le_trans (List.length_filter_le _ _) (by rw [List.length_range]; omega)
      clear hb2
      have HIN := Lib.hid (HG.out pk)
      generalize hgl' : G pk = gl at *
      clear hgl'
      generalize hgn : gl.length = ln at *
      have HGN := Lib.hid hgn; clear hgn
      go_wp2_with fail
      go_loopw [7, 29] (fun x i wr => ∃ (j : Nat) (wi : World), wi = wr ∧ j ≤ ln ∧ i = .int .i64 j ∧ BfsAt A w g n x (visitL (gl.take j) st) wi ∧ RowI wq.heap.size w2.heap.size wi (.slice la ln lcap) (intL gl) ∧ (∀ y, x.ownBlock = some y → y < wq.heap.size ∨ w2.heap.size ≤ y) ∧ w2.heap.size ≤ wi.heap.size) (fun _ i _ => ln - (intOf i).toNat)
      case atStart => exact ⟨0, _, rfl, Nat.zero_le _, rfl, HS2.out, HXL.out.1, HLO.out, Nat.le_refl _⟩
      case round =>
        clear HLO HS2 HXL hxc
        obtain ⟨j, wi, rfl, hj, rfl, hS, hX, hlo, hsz⟩ := hrel
        have HSI := Lib.hid hS; clear hS
        have HX := Lib.hid hX; clear hX
        have HLO := Lib.hid hlo; clear hlo
        by_cases hjl : j < ln
        · obtain ⟨lb, loff, rfl, hlb, hlc⟩ := RowB.getD HX.out.rowB hjl
          have hjg : j < gl.length := by rw [HGN.out]; exact hjl
          rw [intL_get _ _ hjg] at hlc
          have hjn := HIN.out j hjl
          have HV := Lib.hid (visitL_step gl st j hjg)
          have hinv := visitL_inv (gl.take j) HINV.out (fun t ht => by
            have ht' : t < j := by rw [List.length_take] at ht; omega
            have : (gl.take j).getD t 0 = gl.getD t 0 := by simp [List.getD, List.getElem?_take_of_lt ht']
            rw [this]; exact HIN.out t (by omega))
          have hql : (visitL (gl.take j) st).2.length ≤ C := by have := hinv.2.2.1; omega
          have hq0 : 0 < (visitL (gl.take j) st).2.length := hinv.2.2.2
          clear hinv
          generalize gl.getD j 0 = jj at *
          generalize hsi : visitL (gl.take j) st = si at *
          clear hsi
          have hsc := HSI.out.2.1.cell hjn
          by_cases hseen : si.1.getD jj false = true
          · have HVS := Lib.hid (visit_seen hseen)
            rw [hseen] at hsc
            clear hseen
            go_wp2_with fail
            exact ⟨⟨j + 1, _, rfl, by omega, by go_num, by rw [HV.out, HVS.out]; exact HSI.out, HX.out, HLO.out, hsz⟩, by simp [intOf]; omega⟩
          · have hse : si.1.getD jj false = false := by simpa using hseen
            rw [hse] at hsc
            have HSE := Lib.hid hse
            clear hseen hse
            have hfz := HSI.out.2.1.frozen jj
            have HMK := Lib.hid (bfs_mark HSI.out jj)
            have HX2 := Lib.hid (nb_keep HSI.out HX.out (HSI.out.2.1.put jj true).2)
            have hszs : (wi.setCell ⟨g, jj, none⟩ (.bool true)).heap.size = wi.heap.size := World.size_setCell _ _ _
            have HSZ := Lib.hid hszs; clear hszs
            have hwi := HSI.out.2.2.size
            have hne : intL si.2 ≠ [] := by intro e; have := congrArg List.length e; rw [intL_len] at this; simp only [List.length_nil] at this; omega
            have HNE := Lib.hid hne; clear hne
            have hrl : (intL si.2).length ≤ 4194304 := by rw [intL_len]; omega
            have HRL := Lib.hid hrl; clear hrl
            go_wp2_with (at_builtin; go_must (refine append_intG HMK.out.1 (by have := HSZ.out; omega) HSZ.out.symm (jj : Int) HNE.out rfl rfl rfl rfl HRL.out ?_; intro v' w3 hr3 hg3 hl3))
            have HP := Lib.hid (bfs_push HMK.out HSE.out hr3 hg3)
            have HX3 := Lib.hid (nb_keep2 HX2.out HLO.out hg3)
            have hlo3 : ∀ y, v'.ownBlock = some y → y < wq.heap.size ∨ w2.heap.size ≤ y := fun y hy => by
              rcases hl3 y hy with h1 | h1
              · exact HLO.out y h1
              · right; have := HSZ.out; omega
            have HLO3 := Lib.hid hlo3
            have hsz3 := hg3.size
            have HSZ3 := Lib.hid hsz3
            clear hlo3 hl3 hr3 hg3 hsz3
            go_wp2_with fail
            exact ⟨⟨j + 1, _, rfl, by omega, by go_num, by rw [HV.out]; exact HP.out, HX3.out, HLO3.out, by have := HSZ.out; have := HSZ3.out; omega⟩, by simp [intOf]; omega⟩
        · obtain rfl : j = ln := by omega
          have hall : visitL (gl.take j) st = bfsN G S0 (k + 1) := by rw [HNX.out, ← HGN.out, visitL_all]
          have HALL := Lib.hid hall; clear hall
          go_wp2_with fail
          exact ⟨⟨k + 1, _, rfl, by omega, by go_num, by rw [← HALL.out]; exact HSI.out⟩, by simp [intOf]; omega⟩
    · have HE := Lib.hid (show bfsN G S0 k = bfsE G S0 from bfsN_end (by omega) (by omega))
      generalize (bfsN G S0 k).2.length = L at *
      rw [HE.out] at HS HINV
      have hne : intL (bfsE G S0).2 ≠ [] := by
        intro e; have := congrArg List.length e; rw [intL_len] at this; simp only [List.length_nil] at this
        have := HINV.out.2.2.2; omega
      have HNE := Lib.hid hne; clear hne
      have hrl : (intL (bfsE G S0).2).length ≤ 1048576 := by
        rw [intL_len]; have := HINV.out.2.2.1; omega
      have HRL := Lib.hid hrl; clear hrl
      have HPE := Lib.hid (show (intL (bfsE G S0).2).Perm (intL (sortN n (bfsE G S0).2)) from HPM.out.map _)
      have HSO := Lib.hid (show (intL (sortN n (bfsE G S0).2)).Pairwise (fun x y => x ≤ y) from List.pairwise_map.2 ((sortN_sorted n _).imp fun h => Int.ofNat_le.2 h))
      clear hinv
      go_wp2_with fail
      refine (sort_row w.heap.size wq _ (intL (bfsE G S0).2) (intL (sortN n (bfsE G S0).2)) HS.out.1 HNE.out HRL.out HPE.out HSO.out).mono ?_
      rintro e w3 ⟨rfl, hr3, hg3⟩
      have HR3 := Lib.hid hr3; have HG3 := Lib.hid hg3
      clear hr3 hg3
      go_wp2_with fail
      go_ret
      exact ⟨_, rfl, HR3.out, HS.out.2.1.keep HG3.out (HS.out.2.1.ne_row HS.out.1), grown_new HS.out.2.2 HG3.out (fun q hq => (HS.out.1.1.lt q hq).1)⟩

/-! ### The model's l3Part -/
set_option maxHeartbeats 4000000 in
set_option maxRecDepth 100000 in
theorem l3p_any (B : Nat) (v : Value) (m : List (List Int)) (p : Nat) (w0 : World) (h : MatB B w0 v m) (hB0 : B ≤ w0.heap.size) (hf : RowsFit m) (hI : IsC m) (hp : p < m.length) :
    Calls Try.prog 108 #[v, .int .i64 p] w0 (MakesS w0 (intL (mPart (nbG m m.length) m.length p))) := by
  obtain ⟨a, cap, rfl⟩ := h.slice
  have hl := hf.1
  have hn4 := hI.2.2.2
  have HF := Lib.hid hf; clear hf
  have HI := Lib.hid hI; clear hI
  have HG := Lib.hid (nbG_in m m.length)
  have hmk := makeBools m.length (by omega) w0
  have HMP := Lib.hid (show mPart (nbG m m.length) m.length p = seenK (bfsE (nbG m m.length) (start m.length p (List.replicate m.length false))).1 m.length from rfl)
  have hs : SeenI w0.heap.size (w0.alloc (.cells (boolsV (List.replicate m.length false)).toArray 4)) w0.heap.size m.length (List.replicate m.length false) := seen_made w0 m.length (by omega)
  have hbw : Below w0.heap.size w0 (w0.alloc (.cells (boolsV (List.replicate m.length false)).toArray 4)) := (Below.refl _ _).alloc (Nat.le_refl _) _
  have HBW := Lib.hid hbw
  have HR := Lib.hid (h.below hbw hB0); clear h
  have hB : B ≤ (w0.alloc (.cells (boolsV (List.replicate m.length false)).toArray 4)).heap.size := Nat.le_trans hB0 hbw.size
  have hA := hB0
  clear hbw
  have hc0 := hs.cell hp
  have hz0 := hs.frozen p
  have HST := Lib.hid (bfs_start2 (p := p) hs)
  have HIV := Lib.hid (start_inv hs.1 hp)
  have hC := start_le (i := p) hs.1
  have hgw := hs.lt.2
  clear hs
  have HPN := Lib.hid (show p < m.length from hp)
  generalize (List.replicate m.length false).getD p false = c0 at *
  generalize hw : w0.alloc (.cells (boolsV (List.replicate m.length false)).toArray 4) = w at *
  have HW := Lib.hid hw; clear hw
  generalize hg : w0.heap.size = g at *
  have HGW := Lib.hid hg; clear hg
  generalize 1 + ((List.replicate m.length false).set p true).count false = C at *
  generalize hS0 : start m.length p (List.replicate m.length false) = S0 at *
  clear hS0
  generalize hG : nbG m m.length = G at *
  generalize hMP : mPart G m.length p = MP at *
  clear hMP
  generalize hn : m.length = n at *
  have HN := Lib.hid hn; clear hn
  have HGE := Lib.hid hG; clear hG
  unfold maxLen at hl
  go_enter Try.func108, Try.ntmps108
  go_wp2_with fail
  clear hc0 hz0
  go_loopw [6, 7] (fun x i wr => ∃ (k : Nat) (wq : World), wq = wr ∧ k ≤ 5 ∧ i = .int .i64 k ∧ BfsAt g w g n x (bfsN G S0 k) wq) (fun _ i _ => 6 - (intOf i).toNat)
  case atStart => exact ⟨0, _, rfl, by omega, rfl, HST.out⟩
  case round =>
    obtain ⟨k, wq, rfl, hk, rfl, hS⟩ := hrel
    have hinv := bfsN_inv HG.out HIV.out k
    have hlen : (bfsN G S0 k).2.length ≤ C := by have := hinv.2.2.1; omega
    obtain ⟨xa, xcap, rfl⟩ := hS.1.slice
    rw [intL_len] at hS ⊢
    have HS := Lib.hid hS; clear hS
    have HINV := Lib.hid hinv
    by_cases hlt : k < (bfsN G S0 k).2.length
    · have hlt' : decide (k < (bfsN G S0 k).2.length) = true := decide_eq_true hlt
      have hpk := hinv.2.1 k hlt
      obtain ⟨b, off, rfl, hb, hxc⟩ := RowB.getD HS.out.1.rowB hlt
      rw [intL_get _ _ hlt] at hxc
      have HNX := Lib.hid (bfsN_step hlt)
      clear hinv
      generalize (bfsN G S0 k).2.getD k 0 = pk at *
      generalize hst : bfsN G S0 k = st at *
      clear hst
      generalize hL : st.2.length = L at *
      have HL := Lib.hid hL; clear hL
      have hbq := bfs_below HS.out hB hA
      have HBQ := Lib.hid hbq; clear hbq
      have hwq : w.heap.size ≤ wq.heap.size := HS.out.2.2.size
      go_wp2_with fail
      refine (nbs_good B _ m pk wq (HR.out.below HBQ.out (Nat.le_refl _)) (Nat.le_trans hB hwq) HF.out HI.out (by rw [HN.out]; exact hpk)).mono ?_
      rintro e w2 ⟨xl, rfl, hxl, hb2⟩
      have hxl' : OwnS wq.heap.size w2.heap.size w2 xl (intL (G pk)) := by rw [← HGE.out, ← nbK_eq, ← HN.out]; exact hxl
      clear hxl
      obtain ⟨la, lcap, rfl⟩ := hxl'.1.slice
      rw [intL_len] at hxl' ⊢
      have HXL := Lib.hid hxl'; clear hxl'
      have HS2 := Lib.hid (bfs_step HS.out hb2)
      have hs2 := hb2.size
      have hlo : ∀ y, (Value.slice (some ⟨b, off, none⟩) L xcap).ownBlock = some y → y < wq.heap.size ∨ w2.heap.size ≤ y := fun y hy => Or.inl (HS.out.1.1.lt y hy).2
      have HLO := Lib.hid hlo; clear hlo
      have hgl : (G pk).length ≤ 4294967296 := by rw [← HGE.out]; unfold nbG; exact Nat.le_trans (List.length_filter_le _ _) (by rw [List.length_range]; omega)
      clear hb2
      have HIN := Lib.hid (HG.out pk)
      generalize hgl' : G pk = gl at *
      clear hgl'
      generalize hgn : gl.length = ln at *
      have HGN := Lib.hid hgn; clear hgn
      go_wp2_with fail
      go_loopw [6, 9] (fun x i wr => ∃ (j : Nat) (wi : World), wi = wr ∧ j ≤ ln ∧ i = .int .i64 j ∧ BfsAt g w g n x (visitL (gl.take j) st) wi ∧ RowI wq.heap.size w2.heap.size wi (.slice la ln lcap) (intL gl) ∧ (∀ y, x.ownBlock = some y → y < wq.heap.size ∨ w2.heap.size ≤ y) ∧ w2.heap.size ≤ wi.heap.size) (fun _ i _ => ln - (intOf i).toNat)
      case atStart => exact ⟨0, _, rfl, Nat.zero_le _, rfl, HS2.out, HXL.out.1, HLO.out, Nat.le_refl _⟩
      case round =>
        clear HLO HS2 HXL hxc
        obtain ⟨j, wi, rfl, hj, rfl, hS, hX, hlo, hsz⟩ := hrel
        have HSI := Lib.hid hS; clear hS
        have HX := Lib.hid hX; clear hX
        have HLO := Lib.hid hlo; clear hlo
        by_cases hjl : j < ln
        · have hjl' : decide (j < ln) = true := decide_eq_true hjl
          obtain ⟨lb, loff, rfl, hlb, hlc⟩ := RowB.getD HX.out.rowB hjl
          have hjg : j < gl.length := by rw [HGN.out]; exact hjl
          rw [intL_get _ _ hjg] at hlc
          have hjn := HIN.out j hjl
          have HV := Lib.hid (visitL_step gl st j hjg)
          have hinv := visitL_inv (gl.take j) HINV.out (fun t ht => by
            have ht' : t < j := by rw [List.length_take] at ht; omega
            have : (gl.take j).getD t 0 = gl.getD t 0 := by simp [List.getD, List.getElem?_take_of_lt ht']
            rw [this]; exact HIN.out t (by omega))
          have hql : (visitL (gl.take j) st).2.length ≤ C := by have := hinv.2.2.1; omega
          have hq0 : 0 < (visitL (gl.take j) st).2.length := hinv.2.2.2
          clear hinv
          generalize hjj : gl.getD j 0 = jj at *
          have HJJ := Lib.hid hjj; clear hjj
          generalize hsi : visitL (gl.take j) st = si at *
          clear hsi
          have hsc := HSI.out.2.1.cell hjn
          by_cases hseen : si.1.getD jj false = true
          · have HVS := Lib.hid (visit_seen hseen)
            rw [hseen] at hsc
            clear hseen
            go_wp2_with fail
            exact ⟨⟨j + 1, _, rfl, by omega, by go_num, by rw [HV.out, HVS.out]; exact HSI.out, HX.out, HLO.out, hsz⟩, by simp [intOf]; omega⟩
          · have hse : si.1.getD jj false = false := by simpa using hseen
            rw [hse] at hsc
            have HSE := Lib.hid hse
            clear hseen hse
            have hfz := HSI.out.2.1.frozen jj
            have HMK := Lib.hid (bfs_mark HSI.out jj)
            have HX2 := Lib.hid (nb_keep HSI.out HX.out (HSI.out.2.1.put jj true).2)
            have hlc2 := RowB.prev HX2.out.rowB hjl
            rw [intL_get _ _ hjg, HJJ.out] at hlc2
            have hszs : (wi.setCell ⟨g, jj, none⟩ (.bool true)).heap.size = wi.heap.size := World.size_setCell _ _ _
            have HSZ := Lib.hid hszs; clear hszs
            have hwi := HSI.out.2.2.size
            have hne : intL si.2 ≠ [] := by intro e; have := congrArg List.length e; rw [intL_len] at this; simp only [List.length_nil] at this; omega
            have HNE := Lib.hid hne; clear hne
            have hrl : (intL si.2).length ≤ 4194304 := by rw [intL_len]; omega
            have HRL := Lib.hid hrl; clear hrl
            go_wp2_with (at_builtin; go_must (refine append_intG HMK.out.1 (by have := HSZ.out; omega) HSZ.out.symm (jj : Int) HNE.out rfl rfl rfl rfl HRL.out ?_; intro v' w3 hr3 hg3 hl3))
            have HP := Lib.hid (bfs_push HMK.out HSE.out hr3 hg3)
            have HX3 := Lib.hid (nb_keep2 HX2.out HLO.out hg3)
            have hlo3 : ∀ y, v'.ownBlock = some y → y < wq.heap.size ∨ w2.heap.size ≤ y := fun y hy => by
              rcases hl3 y hy with h1 | h1
              · exact HLO.out y h1
              · right; have := HSZ.out; omega
            have HLO3 := Lib.hid hlo3
            have hsz3 := hg3.size
            have HSZ3 := Lib.hid hsz3
            clear hlo3 hl3 hr3 hg3 hsz3
            go_wp2_with fail
            exact ⟨⟨j + 1, _, rfl, by omega, by go_num, by rw [HV.out]; exact HP.out, HX3.out, HLO3.out, by have := HSZ.out; have := HSZ3.out; omega⟩, by simp [intOf]; omega⟩
        · obtain rfl : j = ln := by omega
          have hjl' : decide (j < j) = false := by simp
          have hall : visitL (gl.take j) st = bfsN G S0 (k + 1) := by rw [HNX.out, ← HGN.out, visitL_all]
          have HALL := Lib.hid hall; clear hall
          go_wp2_with fail
          exact ⟨⟨k + 1, _, rfl, by omega, by go_num, by rw [← HALL.out]; exact HSI.out⟩, by simp [intOf]; omega⟩
    · have hlt' : decide (k < (bfsN G S0 k).2.length) = false := decide_eq_false hlt
      have HE := Lib.hid (show bfsN G S0 k = bfsE G S0 from bfsN_end (by omega) (by omega))
      generalize (bfsN G S0 k).2.length = L at *
      rw [HE.out] at HS
      have HSN := Lib.hid HS.out.2.1
      have HGR := Lib.hid HS.out.2.2
      have hg1 : w.heap.size ≤ wq.heap.size := HS.out.2.2.size
      have hbq : Below g w0 wq := (HBW.out).grown HGR.out (Nat.le_of_lt hgw) (fun q hq => by injection hq with hq; omega)
      have HB0 := Lib.hid hbq
      clear hbq hinv hmk
      have HEN := Lib.hid HMP.out
      generalize hE : (bfsE G S0).1 = E at *
      clear hE
      go_wp2_with fail
      go_loopw [10, 11] (fun o i wr => ∃ (t : Nat) (wi : World), wi = wr ∧ t ≤ n ∧ i = .int .i64 t ∧ RowI wq.heap.size wi.heap.size wi o (intL (seenK E t)) ∧ Below wq.heap.size wq wi) (fun _ i _ => n - (intOf i).toNat)
      case atStart => exact ⟨0, _, rfl, Nat.zero_le _, rfl, row_empty wq, (Below.refl _ _).alloc (Nat.le_refl _) _⟩
      case round =>
        obtain ⟨t, wi, rfl, ht, rfl, hR, hbi⟩ := hrel
        have HRI := Lib.hid hR; clear hR
        have HBI := Lib.hid hbi
        have hsz := hbi.size
        clear hbi
        by_cases htl : t < n
        · have htl' : decide (t < n) = true := decide_eq_true htl
          have hsi : SeenI g wi g n E := HSN.out.below HBI.out HSN.out.lt.2
          have hsc := hsi.cell htl
          clear hsi
          by_cases hse : E.getD t false = true
          · have HSK := Lib.hid (seenK_yes hse)
            rw [hse] at hsc
            clear hse
            have hrl : (intL (seenK E t)).length ≤ 4194304 := by
              rw [intL_len]; unfold seenK; exact Nat.le_trans (List.length_filter_le _ _) (by rw [List.length_range]; omega)
            have HRL := Lib.hid hrl; clear hrl
            go_wp2_with (at_builtin; go_must (refine append_int HRI.out hsz (t : Int) rfl rfl rfl rfl HRL.out ?_; intro v' w3 hr3 hb3 hz3))
            rw [intL_snoc, HSK.out] at hr3
            have HR3 := Lib.hid hr3
            have HB3 := Lib.hid (hb3 wq wq.heap.size (Nat.le_refl _) HBI.out)
            clear hr3 hb3 hz3
            go_wp2_with fail
            exact ⟨⟨t + 1, _, rfl, by omega, by go_num, HR3.out, HB3.out⟩, by simp [intOf]; omega⟩
          · have hse' : E.getD t false = false := by simpa using hse
            have HSK := Lib.hid (seenK_no hse')
            rw [hse'] at hsc
            clear hse hse'
            go_wp2_with fail
            exact ⟨⟨t + 1, _, rfl, by omega, by go_num, by rw [← HSK.out]; exact HRI.out, HBI.out⟩, by simp [intOf]; omega⟩
        · obtain rfl : n = t := by omega
          have htl' : decide (n < n) = false := by simp
          go_wp2_with fail
          go_ret
          refine ⟨_, rfl, ?_, ?_⟩
          · rw [HEN.out]; exact ⟨HRI.out.mono (by rw [HGW.out]; omega) (Nat.le_refl _), Nat.le_refl _⟩
          · rw [HGW.out]; exact HB0.out.trans (HBI.out.mono (by omega))
end Go.Proofs.Ytlbgblkoddlhnaa
