/-
  Roots: the program's set of the roots up to a height.
-/
import Derived.Test.YtlbgblkoddlhnaaRa28
import Derived.Test.YtlbgblkoddlhnaaRa18
namespace Go.Proofs.Ytlbgblkoddlhnaa
open Go.RowKit Go.Maps Go.WideMaps

set_option maxRecDepth 100000 in
theorem slice_key (b L : Nat) (h : L ≤ 4) (w : World) : (Instr.sliceAt 53 (.pointer (some ⟨b, 0, none⟩)) none (some (.int .i64 L)) none).run Try.prog w = .ok (.slice (some ⟨b, 0, none⟩) L 4) w := by
  have hA : Try.prog.underlying 53 = some (.array (Try.prog.arrayLen 53) (Try.prog.elem 53)) := by kernel_rfl
  have h4 : Try.prog.arrayLen 53 = 4 := by kernel_rfl
  have he : Try.prog.elem 53 = 3 := by kernel_rfl
  rw [run_sliceAt_array_h w 53 ⟨b, 0, none⟩ hA .i64 L (by omega) (by rw [h4]; omega), he, h4]
  have hs : (sizeOf 3).run Try.prog w = .ok 1 w := by rfl
  rw [hs]
  simp [slicedAt, Addr.add]
set_option maxRecDepth 100000 in
theorem slice_key_all (b : Nat) (w : World) : (Instr.sliceAt 53 (.pointer (some ⟨b, 0, none⟩)) none none none).run Try.prog w = .ok (.slice (some ⟨b, 0, none⟩) 4 4) w := by
  have hA : Try.prog.underlying 53 = some (.array (Try.prog.arrayLen 53) (Try.prog.elem 53)) := by kernel_rfl
  have h4 : Try.prog.arrayLen 53 = 4 := by kernel_rfl
  have he : Try.prog.elem 53 = 3 := by kernel_rfl
  rw [run_sliceAt_array_all w 53 ⟨b, 0, none⟩ hA, he, h4]
  have hs : (sizeOf 3).run Try.prog w = .ok 1 w := by rfl
  rw [hs]
  simp [slicedAt, Addr.add]
theorem fit64_of {l : List Int} (h : ∀ x ∈ l, -100000 ≤ x ∧ x ≤ 100000) : Fit64 l := fun j => by
  rcases Nat.lt_or_ge j l.length with hj | hj
  · have e : l.getD j 0 = l[j] := by simp [List.getD, hj]
    rw [e]; have := h _ (List.getElem_mem hj); omega
  · have e : l.getD j 0 = 0 := by simp [List.getD, hj]
    rw [e]; omega
/-- A vector as a key, its numbers named. -/
theorem pad4_parts (l : List Int) : ∃ a b c d, keyV l = .agg #[.int .i64 a, .int .i64 b, .int .i64 c, .int .i64 d] ∧ pad4 l = [a, b, c, d] := ⟨_, _, _, _, rfl, rfl⟩
/-- A boxed array holds the vector, padded. -/
def Box4 (w : World) (b : Nat) (l : List Int) : Prop := w.heap[b]? = some (.cells (intsV (pad4 l)).toArray 53 (0, 0))
theorem Box4.cell {w : World} {b : Nat} {l : List Int} (h : Box4 w b l) {a0 a1 a2 a3 : Int} (hp : pad4 l = [a0, a1, a2, a3]) :
    w.cell? ⟨b, 0, none⟩ = some (.int .i64 a0) ∧ w.cell? ⟨b, 1, none⟩ = some (.int .i64 a1) ∧ w.cell? ⟨b, 2, none⟩ = some (.int .i64 a2) ∧ w.cell? ⟨b, 3, none⟩ = some (.int .i64 a3) := by
  unfold Box4 at h
  rw [hp] at h
  exact ⟨by rw [cell_of_row _ b 0 _ _ _ h]; rfl, by rw [cell_of_row _ b 1 _ _ _ h]; rfl, by rw [cell_of_row _ b 2 _ _ _ h]; rfl, by rw [cell_of_row _ b 3 _ _ _ h]; rfl⟩
theorem Box4.row {w : World} {b n : Nat} {l : List Int} (h : Box4 w b l) (hl : l.length = n) (hn : n ≤ 4) : RowB (b + 1) w (.slice (some ⟨b, 0, none⟩) n 4) l := by
  refine Or.inr ⟨b, 0, 4, by rw [hl], by omega, fun j hj => ?_⟩
  rw [Nat.zero_add, cell_of_row _ b j _ _ _ h]
  have h1 := pad4_get (l := l) (j := j) (by omega)
  simp [intsV, h1, hj]
theorem Box4.all {w : World} {b : Nat} {l : List Int} (h : Box4 w b l) : RowB (b + 1) w (.slice (some ⟨b, 0, none⟩) 4 4) (pad4 l) := by
  refine Or.inr ⟨b, 0, 4, rfl, by omega, fun j hj => ?_⟩
  rw [Nat.zero_add, cell_of_row _ b j _ _ _ h]
  simp [intsV, hj]
theorem Box4.frozen {w : World} {b : Nat} {l : List Int} (h : Box4 w b l) (j : Nat) : w.frozen? ⟨b, j, none⟩ = false := frozen_of_row w b j _ _ h
theorem Box4.put {w : World} {b : Nat} {l : List Int} (h : Box4 w b l) (hl : l.length ≤ 4) {i : Nat} (hi : i < l.length) (x : Int) (q : Nat) : Box4 ((w.setCell ⟨b, i, none⟩ (.int .i64 x)).drewN q) b (l.set i x) := by
  have h1 := blk_set h i (.int .i64 x)
  unfold Box4
  rw [← pad4_set hl hi, ← intsV_set]
  have e : (intsV (pad4 l)).toArray.setIfInBounds i (.int .i64 x) = ((intsV (pad4 l)).set i (.int .i64 x)).toArray := by simp
  rw [← e]
  exact h1
theorem grown_set (w : World) (b i : Nat) (u : Value) (q : Nat) : w.grownBy ((w.setCell ⟨b, i, none⟩ u).drewN q) (some b) :=
  ⟨rfl, rfl, rfl, by show w.heap.size ≤ (w.setCell _ _).heap.size; rw [World.size_setCell]; exact Nat.le_refl _, fun k hk hne => blk_other i u (fun e => hne (by rw [e]))⟩
theorem Box4.kept {w w' : World} {b : Nat} {l : List Int} {S : Option Nat} (h : Box4 w b l) (hg : w.grownBy w' S) (hne : some b ≠ S) : Box4 w' b l :=
  (hg.block b (Array.getElem?_eq_some_iff.1 h).1 hne).trans h
theorem Box4.new {w : World} {l : List Int} {a0 a1 a2 a3 : Int} (hp : pad4 l = [a0, a1, a2, a3]) : Box4 (w.alloc (.cells #[.int .i64 a0, .int .i64 a1, .int .i64 a2, .int .i64 a3] 53)) w.heap.size l := by
  unfold Box4
  rw [hp]
  exact (MapKept.heap_alloc w _).1
theorem sgn_one (l : List Int) : (sgnL l == 1) = decide (0 < sgnL l) := by
  unfold sgnL
  split
  · rfl
  · split <;> rfl

set_option maxHeartbeats 8000000 in
set_option maxRecDepth 100000 in
theorem rku_any (B : Nat) (v : Value) (m : List (List Int)) (h : Int) (w : World) (hM : MatB B w v m) (hB : B ≤ w.heap.size) (hok : RutOk m h) :
    Calls Try.prog 63 #[v, .int .i64 h] w fun e w' => ∃ b, e = .returned (.map (some b)) ∧ w.heap.size ≤ b ∧ SetM m.length w' b (Asc m h) ∧ Below w.heap.size w w' := by
  have hI := hok.1
  have hn4 := hI.2.2.2
  have hb0 : Below w.heap.size w (w.alloc (.map #[] 0)) := (Below.refl _ _).alloc (Nat.le_refl _) _
  have HSR := Lib.hid (srk_any B v m (w.alloc (.map #[] 0)) (hM.below hb0 hB) hn4)
  have HS0 := Lib.hid (setM_made hn4 w)
  have HS2 := Lib.hid (fun wx => setM_made hn4 wx)
  have HB0 := Lib.hid hb0
  have HST := Lib.hid (rndI_start (m := m) (h := h))
  have HEN := Lib.hid (fun P L (hI : RndI m h P L) hL => rndI_end hI hL)
  have HNX := Lib.hid (fun P L N (hI : RndI m h P L) hN => rndI_next (N := N) hI hN)
  have HRC := Lib.hid (fun (g : Nat) (l : List Int) (i : Nat) (wx : World) (hb : Below w.heap.size w wx) (hg : Box4 wx g l) (hl : l.length = m.length) (hi : i < m.length) => rrc_any B g 0 m.length 4 v m l i wx (hM.below hb hB) (hg.row hl hn4) hl (by rw [Nat.zero_add]; exact hg.frozen i) hI.1 rfl hi (by omega))
  have HRE := Lib.hid (fun (l : List Int) (i : Nat) => show l.set i (subW (l.getD i 0) (prK m i l l.length)) = rflR m i l from rfl)
  have HRL := Lib.hid (fun (l : List Int) (i : Nat) => rflR_len m i l)
  have HAL := Lib.hid (fun (l : List Int) (hl : Asc m h l) => asc_low hI hok.2.2 hl)
  have HAR := Lib.hid (fun (l : List Int) (i : Nat) (hl : Asc m h l) (hi : i < m.length) h1 h2 => asc_refl hI hok.2.1 hok.2.2 hl hi h1 h2)
  have HRI := Lib.hid (fun (l : List Int) (i : Nat) (hl : Asc m h l) (hi : i < m.length) => rflR_in hI hi (asc_low hI hok.2.2 hl))
  have HLE := Lib.hid (fun (S D N : List Int → Prop) (r : List Int) (hL : LetI m h S D N r m.length) => letI_end hL)
  have hmm := @run_makeMap Try.prog
  obtain ⟨a, cap, rfl⟩ := hM.slice
  clear hM hok hI hb0
  generalize hn : m.length = n at *
  have HN := Lib.hid hn; clear hn
  go_enter Try.func63, Try.ntmps63
  go_wp2_with fail
  refine HSR.out.mono ?_
  rintro e w1 ⟨b1, rfl, hb1, hS1, hbl1⟩
  have HX0 := Lib.hid (HS0.out.below hbl1 (by simp))
  have hb1w : b1 < w1.heap.size := hS1.lt
  have hal := World.grownBy_alloc w1 (.map #[] 0) none
  have HX1 := Lib.hid (hS1.kept hal (by simp))
  have HX2 := Lib.hid (HX0.out.kept hal (by simp))
  have HX3 := Lib.hid (HS2.out w1)
  have hw1 : w.heap.size + 1 ≤ w1.heap.size := by have := hbl1.size; simp at this; omega
  have hbw : Below w.heap.size w (w1.alloc (.map #[] 0)) := (HB0.out.trans (hbl1.mono (by simp))).alloc (by omega) _
  have HBW := Lib.hid hbw
  have hb1' : w.heap.size + 1 ≤ b1 := by simpa using hb1
  clear hS1 hbl1 hal hbw hb1
  go_wp2_with fail
  go_loopw [6, 7] (fun x y wr => ∃ (c d : Nat) (P L : List Int → Prop) (wq : World), wq = wr ∧ x = .map (some c) ∧ y = .map (some d) ∧ c ≠ d ∧ w.heap.size < c ∧ w.heap.size < d ∧ SetM n wq w.heap.size P ∧ SetM n wq c L ∧ SetM n wq d (fun _ => False) ∧ RndI m h P L ∧ Below w.heap.size w wq) (fun _ _ wr => 28561 - mapSz wr w.heap.size)
  case atStart => exact ⟨b1, w1.heap.size, _, _, _, rfl, rfl, rfl, by omega, by omega, by omega, HX2.out, HX1.out, HX3.out, HST.out, HBW.out⟩
  case round =>
    obtain ⟨c, d, P, L, wq, rfl, rfl, rfl, hcd, hc, hd, hP, hL, hD, hI, hb⟩ := hrel
    have hlen := fun ty => hL.len ty
    have hze := hL.empty_iff
    have hsq := hb.size
    have HP := Lib.hid hP; have HL := Lib.hid hL; have HD := Lib.hid hD; have HB := Lib.hid hb; have HI := Lib.hid hI
    generalize hz : mapSz wq c = z at *
    clear hP hL hD hb hI
    by_cases hz0 : z = 0
    · subst hz0
      have hLe := hze.1 rfl
      clear hze
      go_wp2_with fail
      go_ret
      exact ⟨_, rfl, Nat.le_refl _, HP.out.same fun x => HEN.out P L HI.out hLe x, HB.out⟩
    · have hz1 : 0 < z := by omega
      have hLn : ∃ x, L x := Classical.byContradiction fun hno => hz0 (hze.2 fun l hl => hno ⟨l, hl⟩)
      have HLN := Lib.hid hLn
      have hd0 : decide (0 < z) = true := decide_eq_true hz1
      have HCP := Lib.hid (copy_set n w.heap.size c P L wq HP.out HL.out (by omega))
      clear hze hLn hz
      go_wp2_with fail
      refine HCP.out.mono ?_
      rintro e w3 ⟨rfl, hP3, hL3, hg3⟩
      have HD3 := Lib.hid (HD.out.kept hg3 (fun e => by have := Option.some.inj e; omega))
      have hB3 := HB.out.grown hg3 (by omega) (fun j hj => by have := Option.some.inj hj; omega)
      have HB3 := Lib.hid hB3
      have HP3 := Lib.hid hP3
      clear hlen hB3 hP3 hg3
      go_wp2_with (at_range; refine wpList_setRange rfl _ rfl hL3 rfl ?_; intro w4 hR4 hg4 hs4)
      have HNI := Lib.hid (show NewI m h (fun r => P r ∨ L r) (fun r => L r ∧ ¬ L r) (fun _ => False) from ⟨fun _ h => h.elim, fun _ h => absurd h.1 h.2⟩)
      have HD4 := Lib.hid (HD3.out.kept hg4 (by simp))
      have HP4 := Lib.hid (HP3.out.kept hg4 (by simp))
      have HB4 := Lib.hid (HB3.out.grown hg4 HB3.out.size (fun j hj => by cases hj))
      have HR4 := Lib.hid hR4
      have hr0 : w.heap.size < w3.heap.size := by have := hL3.lt; omega
      have hrc : c < w3.heap.size := hL3.lt
      have hrd : d < w3.heap.size := HD3.out.lt
      have hs40 : w4.heap.size = w3.heap.size + 1 := hs4
      obtain ⟨r0, hr0e⟩ : ∃ r0, r0 = w3.heap.size := ⟨_, rfl⟩
      rw [← hr0e] at HR4 hr0 hrc hrd ⊢
      clear hR4 hg4 hs4 hL3 hr0e hs40
      go_frame
      go_loopw [23] (fun _ wr => ∃ (T N : List Int → Prop) (cnt : Nat) (wq : World), wq = wr ∧ RngM n wq c r0 L T cnt ∧ SetM n wq w.heap.size (fun r => P r ∨ L r) ∧ SetM n wq d N ∧ NewI m h (fun r => P r ∨ L r) (fun r => L r ∧ ¬ T r) N ∧ (∀ x, T x → L x) ∧ Below w.heap.size w wq) (fun _ wr => wr.rangeLeft c r0)
      case atStart => exact ⟨L, fun _ => False, _, _, rfl, HR4.out, HP4.out, HD4.out, HNI.out, fun _ h => h, HB4.out⟩
      case round =>
        obtain ⟨T, N, cnt, wq5, rfl, hR, hPq, hDq, hNI, hTL, hbq⟩ := hrel
        have HR := Lib.hid hR; have HPQ := Lib.hid hPq; have HDQ := Lib.hid hDq; have HNQ := Lib.hid hNI; have HTL := Lib.hid hTL; have HBQ := Lib.hid hbq
        have hrlt := hR.lt
        clear hPq hDq hNI hTL hbq
        go_wp2_with (at_next; refine wpList_setNext rfl _ rfl hR rfl ?_ ?_)
        · intro _ hT
          obtain ⟨wc, hcl, hC0, hgc, hsc⟩ := HR.out.setM.clear
          have HND := Lib.hid (HNX.out P L N HI.out (newI_same HNQ.out fun r hr => ⟨hr, hT r⟩))
          have HPC := Lib.hid (HPQ.out.kept hgc (fun e => by have := Option.some.inj e; omega))
          have HDC := Lib.hid (HDQ.out.kept hgc (fun e => hcd (Option.some.inj e).symm))
          have HBC := Lib.hid (HBQ.out.grown hgc HBQ.out.size (fun j hj => by have := Option.some.inj hj; omega))
          have HC0 := Lib.hid hC0
          have hgrow : mapSz wq w.heap.size < mapSz wc w.heap.size := by
            obtain ⟨x, hx⟩ := HLN.out
            exact HP.out.grows HPC.out (fun l hl => Or.inl hl) (Or.inr hx) (fun hp => HI.out.apart x hp hx)
          have hcnt := HPC.out.count
          clear hC0 hgc hsc hT
          go_wp2_with fail
          exact ⟨⟨d, c, _, N, wc, rfl, rfl, rfl, fun e => hcd e.symm, hd, hc, HPC.out, HDC.out, HC0.out, HND.out, HBC.out⟩, by omega⟩
        · intro l w6 cnt6 hTl hR6 hlt6 hg6 hs6 hen
          obtain ⟨x0, x1, x2, x3, hkv, hpd⟩ := pad4_parts l
          rw [hkv] at hen ⊢
          have HPD := Lib.hid hpd
          have hal := World.grownBy_alloc w6 (.cells #[.int .i64 x0, .int .i64 x1, .int .i64 x2, .int .i64 x3] 53) none
          have HR7 := Lib.hid (hR6.kept hal (by simp) (by simp))
          have HP7 := Lib.hid ((HPQ.out.kept hg6 (fun e => by have := Option.some.inj e; omega)).kept hal (by simp))
          have HD7 := Lib.hid ((HDQ.out.kept hg6 (fun e => by have := Option.some.inj e; omega)).kept hal (by simp))
          have hb6 := HBQ.out.grown hg6 HBQ.out.size (fun j hj => by have := Option.some.inj hj; omega)
          have HB7 := Lib.hid (hb6.alloc hb6.size (.cells #[.int .i64 x0, .int .i64 x1, .int .i64 x2, .int .i64 x3] 53))
          have HK7 := Lib.hid (Box4.new (w := w6) hpd)
          have hll := HAL.out l (HI.out.all l (Or.inr (HTL.out l hTl)))
          have HLL := Lib.hid hll
          have HAS := Lib.hid (HI.out.all l (Or.inr (HTL.out l hTl)))
          have HLI := Lib.hid (letI_start HNQ.out l)
          have HTl := Lib.hid hTl
          have HLT6 := Lib.hid hlt6
          obtain ⟨kb, hkb⟩ : ∃ kb, kb = w6.heap.size := ⟨_, rfl⟩
          have hkr : r0 < kb ∧ c < kb ∧ d < kb ∧ w.heap.size < kb := by
            have h1 := hR6.lt; have h2 := hR6.setM.lt; have h3 := (HDQ.out.kept hg6 (fun e => by have := Option.some.inj e; omega)).lt
            omega
          have hkw : kb < (w6.alloc (.cells #[.int .i64 x0, .int .i64 x1, .int .i64 x2, .int .i64 x3] 53)).heap.size := by rw [hkb]; simp
          rw [← hkb] at HK7
          have HKB := Lib.hid hkb
          clear hal hR6 hg6 hb6 hll hTl hlt6 hs6 hkb
          go_wp2_with fail
          rw [← HKB.out]
          clear hen HKB
          generalize w6.alloc (.cells #[.int .i64 x0, .int .i64 x1, .int .i64 x2, .int .i64 x3] 53) = w7 at *
          go_loopw [29] (fun i' wr => ∃ (i : Nat) (N : List Int → Prop) (wq : World), wq = wr ∧ i ≤ n ∧ i' = .int .i64 i ∧ RngM n wq c r0 L (fun x => T x ∧ x ≠ l) cnt6 ∧ SetM n wq w.heap.size (fun r => P r ∨ L r) ∧ SetM n wq d N ∧ LetI m h (fun r => P r ∨ L r) (fun r => L r ∧ ¬ T r) N l i ∧ Box4 wq kb l ∧ kb < wq.heap.size ∧ Below w.heap.size w wq) (fun i' _ => n - (intOf i').toNat)
          case atStart => exact ⟨0, N, _, rfl, Nat.zero_le _, rfl, HR7.out, HP7.out, HD7.out, HLI.out, HK7.out, hkw, HB7.out⟩
          case round =>
            obtain ⟨i, N8, wq8, rfl, hi, rfl, hR8, hP8, hD8, hL8, hK8, hk8, hb8⟩ := hrel
            have HR8 := Lib.hid hR8; have HP8 := Lib.hid hP8; have HD8 := Lib.hid hD8; have HL8 := Lib.hid hL8; have HK8 := Lib.hid hK8; have HB8 := Lib.hid hb8
            clear hR8 hP8 hD8 hL8 hb8
            by_cases hlt : i < n
            · obtain ⟨k0, k1, k2, k3⟩ := hK8.cell HPD.out
              obtain ⟨ib, hib⟩ : ∃ ib, ib = wq8.heap.size := ⟨_, rfl⟩
              have hba : Below w.heap.size w (wq8.alloc (.cells #[.int .i64 x0, .int .i64 x1, .int .i64 x2, .int .i64 x3] 53)) := HB8.out.alloc HB8.out.size _
              have hKa := Box4.new (w := wq8) HPD.out
              have HRX := Lib.hid (HRC.out wq8.heap.size l i _ hba hKa HLL.out.1 hlt)
              have HKA := Lib.hid hKa
              have HBA := Lib.hid hba
              have hal := World.grownBy_alloc wq8 (.cells #[.int .i64 x0, .int .i64 x1, .int .i64 x2, .int .i64 x3] 53) none
              have HGA := Lib.hid hal
              have hsl := slice_key wq8.heap.size n hn4
              clear hK8 hba hKa hal hib
              go_wp2_with fail
              refine HRX.out.mono ?_
              rintro e w9 ⟨rfl, q, hw9⟩
              have hlen9 : (rflR m i l).length = n := by rw [HRL.out]; exact HLL.out.1
              have hK9 : Box4 w9 wq8.heap.size (rflR m i l) := by
                rw [hw9, Nat.zero_add, ← HRE.out]
                exact HKA.out.put (by rw [HLL.out.1]; exact hn4) (by rw [HLL.out.1]; exact hlt) _ q
              have hg9 : wq8.grownBy w9 none := by
                rw [hw9]
                exact grown_andThen HGA.out (grown_set _ _ _ _ _) (fun j hj => .inl (by cases hj; exact Nat.le_refl _))
              have HR9 := Lib.hid (HR8.out.kept hg9 (by simp) (by simp))
              have HP9 := Lib.hid (HP8.out.kept hg9 (by simp))
              have HD9 := Lib.hid (HD8.out.kept hg9 (by simp))
              have HB9 := Lib.hid (HB8.out.grown hg9 HB8.out.size (fun j hj => by cases hj))
              have HK9k := Lib.hid (HK8.out.kept hg9 (by simp))
              have hk9 : kb < w9.heap.size := Nat.lt_of_lt_of_le hk8 hg9.size
              obtain ⟨y0, y1, y2, y3, hky, hpy⟩ := pad4_parts (rflR m i l)
              obtain ⟨j0, j1, j2, j3⟩ := hK9.cell hpy
              obtain ⟨cb, hlook, hcb⟩ := HP9.out.look hlen9 (fit64_of (HRI.out l i HAS.out hlt))
              rw [hky] at hlook
              have HKY := Lib.hid hky
              have hsg := sgni_any _ _ _ w9 hK9.all (by rw [pad4_len]; unfold maxLen; omega)
              have hhg := hgti_any _ _ _ w9 hK9.all (by rw [pad4_len]; unfold maxLen; omega)
              rw [sgn_pad (by rw [hlen9]; exact hn4)] at hsg
              rw [hgt_pad (by rw [hlen9]; exact hn4)] at hhg
              have HSG := Lib.hid hsg; have HHG := Lib.hid hhg
              have hsa := slice_key_all wq8.heap.size
              have hs1 := sgn_one (rflR m i l)
              have HLR := Lib.hid (fun (c1 : 0 < sgnL (rflR m i l)) (c2 : hgtL (rflR m i l) ≤ h) => HAR.out l i HAS.out hlt c1 c2)
              have HCB := Lib.hid hcb
              clear hw9 hlen9 hK9 hg9 hpy hky hsg hhg HRX HKA HBA HGA hsl k0 k1 k2 k3 hcb HRC HRE HRL HRI HSR HS0 HS2 HST HEN HNX
              generalize hrr : rflR m i l = r at *
              have HRR := Lib.hid hrr; clear hrr
              generalize hss : sgnL r = s at *
              generalize hhr : hgtL r = hr at *
              have HSS := Lib.hid hss; have HHR := Lib.hid hhr
              clear hss hhr
              cases cb with
              | true =>
                have hin := HCB.out.1 rfl
                have HLS := Lib.hid (letI_skip HL8.out (Or.inl (by rw [HRR.out]; exact hin)))
                clear HAR HLR
                go_wp2_with fail
                exact ⟨⟨i + 1, N8, _, rfl, by omega, by go_num, HR9.out, HP9.out, HD9.out, HLS.out, HK9k.out, hk9, HB9.out⟩, by simp [intOf]; omega⟩
              | false =>
                have hnin : ¬ (P r ∨ L r) := fun hp => by have := HCB.out.2 hp; simp at this
                have HNIN := Lib.hid hnin; clear hnin
                by_cases c1 : 0 < s
                · rw [decide_eq_true c1] at hs1
                  by_cases c2 : hr ≤ h
                  · have d2 : decide (hr ≤ h) = true := decide_eq_true c2
                    have hasc := HLR.out c1 c2
                    have HLW := Lib.hid (HAL.out r hasc)
                    have HPT := Lib.hid (letI_put HL8.out (by rw [HRR.out]; exact hasc) (by rw [HRR.out]; exact HNIN.out))
                    rw [HRR.out] at HPT
                    clear HAR HLR hasc c1 c2
                    go_wp2_with fail
                    refine HSG.out.mono ?_
                    rintro e w10 ⟨rfl, rfl⟩
                    go_wp2_with fail
                    refine HHG.out.mono ?_
                    rintro e w11 ⟨rfl, rfl⟩
                    go_wp2_with (at_mapUpdate; refine wpList_setPut rfl _ _ _ rfl HD9.out HLW.out rfl (by rw [HKY.out]; rfl) rfl ?_; intro w12 hD12 hg12; go_frame)
                    have HR12 := Lib.hid (HR9.out.kept hg12 (fun e => by have := Option.some.inj e; omega) (fun e => by have := Option.some.inj e; omega))
                    have HP12 := Lib.hid (HP9.out.kept hg12 (fun e => by have := Option.some.inj e; omega))
                    have HB12 := Lib.hid (HB9.out.grown hg12 HB9.out.size (fun j hj => by have := Option.some.inj hj; omega))
                    have HK12 := Lib.hid (HK9k.out.kept hg12 (fun e => by have := Option.some.inj e; omega))
                    have hk12 : kb < w12.heap.size := Nat.lt_of_lt_of_le hk9 hg12.size
                    have HD12 := Lib.hid hD12
                    clear hg12 hD12
                    go_wp2_with fail
                    exact ⟨⟨i + 1, _, _, rfl, by omega, by go_num, HR12.out, HP12.out, HD12.out, HPT.out, HK12.out, hk12, HB12.out⟩, by simp [intOf]; omega⟩
                  · have d2 : decide (hr ≤ h) = false := decide_eq_false c2
                    have HLS := Lib.hid (letI_skip HL8.out (Or.inr (Or.inr (by rw [HRR.out, HHR.out]; exact c2))))
                    clear HAR HLR
                    go_wp2_with fail
                    refine HSG.out.mono ?_
                    rintro e w10 ⟨rfl, rfl⟩
                    go_wp2_with fail
                    refine HHG.out.mono ?_
                    rintro e w11 ⟨rfl, rfl⟩
                    go_wp2_with fail
                    exact ⟨⟨i + 1, N8, _, rfl, by omega, by go_num, HR9.out, HP9.out, HD9.out, HLS.out, HK9k.out, hk9, HB9.out⟩, by simp [intOf]; omega⟩
                · rw [decide_eq_false c1] at hs1
                  have HLS := Lib.hid (letI_skip HL8.out (Or.inr (Or.inl (by rw [HRR.out, HSS.out]; exact c1))))
                  clear HAR HLR
                  go_wp2_with fail
                  refine HSG.out.mono ?_
                  rintro e w10 ⟨rfl, rfl⟩
                  go_wp2_with fail
                  exact ⟨⟨i + 1, N8, _, rfl, by omega, by go_num, HR9.out, HP9.out, HD9.out, HLS.out, HK9k.out, hk9, HB9.out⟩, by simp [intOf]; omega⟩
            · obtain rfl : i = n := by omega
              have HNE := Lib.hid (newI_same (HLE.out _ _ _ l HL8.out) (D' := fun r => L r ∧ ¬ (T r ∧ r ≠ l)) (fun r hr => by
                by_cases e : r = l
                · exact Or.inr e
                · exact Or.inl ⟨hr.1, fun hT => hr.2 ⟨hT, e⟩⟩))
              have hle : wq8.rangeLeft c r0 = cnt6 := HR8.out.left_eq
              have hle5 := HR.out.left_eq
              have hl6 := HLT6.out
              clear hK8 HRC HRE HRL HRI HSR HS0 HS2 HST HEN HNX HAR HAL
              go_wp2_with fail
              exact ⟨⟨fun x => T x ∧ x ≠ l, N8, cnt6, _, rfl, HR8.out, HP8.out, HD8.out, HNE.out, fun x hx => HTL.out x hx.1, HB8.out⟩, by rw [hle, hle5]; exact hl6⟩
end Go.Proofs.Ytlbgblkoddlhnaa
