/-
  Being connected does not change when the points are taken in another order; a connected diagram is one part with all points, and has a name; the symmetries are closed under composition (no walk here).
  The law's comparisons of lists and of lists of lists: what the calls return.
  Plain facts on numbers and bytes (no program): bit operations on small numbers.
-/
import Derived.Test.YtcmnkhblnlmfpaaGreatDoorFC15
import Derived.Test.YtcmnkhblnlmfpaaGreatDoorFC17
import Derived.Test.YtcmnkhblnlmfpaaGreatDoorFC26
import Derived.Test.YtcmnkhblnlmfpaaGreatDoorFC01
import Derived.WalkKit
import Derived.Laws.Bits64b
import Derived.Laws.Bits128
import Derived.Laws.BitsAllLaws
namespace Go.Proofs.YtcmnkhblnlmfpaaGreatDoor
open Go.RowKit

/-! ### Connected -/
def perG (n : Nat) (g : Nat → Nat → Bool) (q : List Nat) (i j : Nat) : Bool := if j < n then g (q.getD i 0) (q.getD j 0) else false
def ConnOk (n : Nat) : Prop := ∀ a b c d e f : Bool, ∀ q ∈ ords n, (partsM (grN (grE (perG n (grE a b c d e f) q 0 1) (perG n (grE a b c d e f) q 0 2) (perG n (grE a b c d e f) q 0 3) (perG n (grE a b c d e f) q 1 2) (perG n (grE a b c d e f) q 1 3) (perG n (grE a b c d e f) q 2 3)) n) n n).length = (partsM (grN (grE a b c d e f) n) n n).length
instance (n : Nat) : Decidable (ConnOk n) := by unfold ConnOk; infer_instance
theorem conn_ok1 : ConnOk 1 := by decide +kernel
theorem conn_ok2 : ConnOk 2 := by decide +kernel
theorem conn_ok3 : ConnOk 3 := by decide +kernel
theorem conn_ok4 : ConnOk 4 := by decide +kernel
theorem conn_ok (n : Nat) (h1 : 1 ≤ n) (h4 : n ≤ 4) : ConnOk n := by
  rcases (show n = 1 ∨ n = 2 ∨ n = 3 ∨ n = 4 by omega) with rfl | rfl | rfl | rfl
  · exact conn_ok1
  · exact conn_ok2
  · exact conn_ok3
  · exact conn_ok4
theorem ords_inj : ∀ n, n ≤ 4 → ∀ q ∈ ords n, ∀ i, i < n → ∀ j, j < n → (q.getD i 0 = q.getD j 0 ↔ i = j) := by decide +kernel
theorem nbF_per {a : List (List Int)} {q : List Nat} (hI : IsC a) (hq : q ∈ ords a.length) (hb : (pick a (intL q)).length = a.length) (i j : Nat) (hij : i < j) :
    nbF (pick a (intL q)) i j = perG a.length (grE (nbF a 0 1) (nbF a 0 2) (nbF a 0 3) (nbF a 1 2) (nbF a 1 3) (nbF a 2 3)) q i j := by
  have h4 := hI.2.2.2
  obtain ⟨hql, hqn⟩ := ords_lt a.length h4 q hq
  unfold perG
  by_cases hj : j < a.length
  · rw [if_pos hj, ← nbF_gr hI _ _ (hqn j hj)]
    have he : entry (pick a (intL q)) i j = entry a (q.getD i 0) (q.getD j 0) := by
      rw [pick_eF, fullM_entry _ _ _ _ (by omega) (by omega)]; rfl
    unfold nbF
    rw [he, decide_eq_decide]
    have := ords_inj a.length h4 q hq i (by omega) j hj
    constructor
    · rintro ⟨h1, h2⟩; exact ⟨fun e => h1 (by omega), h2⟩
    · rintro ⟨h1, h2⟩; exact ⟨fun e => h1 (by rw [e]), h2⟩
  · rw [if_neg hj]
    have : entry (pick a (intL q)) i j = 0 := by
      rw [pick_eF]
      unfold entry
      by_cases hi : i < q.length
      · rw [fullM_get _ _ _ hi, List.getD_eq_getElem?_getD, List.getElem?_eq_none (by rw [rowF_len]; omega)]; rfl
      · have e : (fullF (eF a q) q.length).getD i [] = [] := by rw [List.getD_eq_getElem?_getD, List.getElem?_eq_none (by rw [fullF_len]; omega)]; rfl
        rw [e]; simp
    unfold nbF
    exact decide_eq_false (fun hh => hh.2 this)
theorem parts_inv {a : List (List Int)} {q : List Nat} (hI : IsC a) (hq : q ∈ ords a.length) (hB : IsC (pick a (intL q))) (hb : (pick a (intL q)).length = a.length) : (partsV (pick a (intL q))).length = (partsV a).length := by
  rw [partsV_yes hB, partsV_yes hI, List.length_map, List.length_map]
  unfold partsL
  rw [nbG_gr hB, nbG_gr hI, hb, nbF_per hI hq hb 0 1 (by omega), nbF_per hI hq hb 0 2 (by omega), nbF_per hI hq hb 0 3 (by omega), nbF_per hI hq hb 1 2 (by omega), nbF_per hI hq hb 1 3 (by omega), nbF_per hI hq hb 2 3 (by omega)]
  exact conn_ok a.length hI.2.2.1 hI.2.2.2 _ _ _ _ _ _ q hq
/-! ### A connected diagram has a name -/
def OneOk (n : Nat) : Prop := ∀ a b c d e f : Bool, (partsM (grN (grE a b c d e f) n) n n).length = 1 → partsM (grN (grE a b c d e f) n) n n = [List.range n]
instance (n : Nat) : Decidable (OneOk n) := by unfold OneOk; infer_instance
theorem one_ok : ∀ n, n ≤ 4 → 1 ≤ n → OneOk n := by decide +kernel
theorem one_part {m : List (List Int)} (hc : connB (partsV m).length = true) : (partsV m).length = 1 ∧ partK m 0 = m := by
  have hI := conn_isC hc
  have h1 : (partsV m).length = 1 := by
    unfold connB at hc
    simpa using hc
  refine ⟨h1, ?_⟩
  have h2 := h1
  rw [partsV_yes hI, List.length_map] at h2
  have h3 : partsL m = [List.range m.length] := by
    unfold partsL at h2 ⊢
    rw [nbG_gr hI] at h2 ⊢
    exact one_ok m.length hI.2.2.2 hI.2.2.1 _ _ _ _ _ _ h2
  unfold partK
  have hs := part_sub (m := m) (k := 0) (by omega)
  rw [subM_yes hs, partsV_yes hI, h3]
  exact pick_all hI
theorem nameO_some {m : List (List Int)} (hc : connB (partsV m).length = true) : nameO m ≠ [] := by
  obtain ⟨h1, h2⟩ := one_part hc
  unfold nameO
  rw [h1, nameS_succ, h2]
  simp only [if_true, List.nil_append]
  unfold nameP
  cases hn : nameT m 17 with
  | none => simp [hc]
  | some t =>
    have ht : t < 17 := List.mem_range.1 (List.mem_of_find?_eq_some hn)
    exact (show ∀ t, t < 17 → namesL.getD t [] ≠ [] by decide) t ht
/-! ### Symmetries -/
theorem comp_ok : ∀ n, n ≤ 4 → ∀ q ∈ ords n, ∀ r ∈ ords n, mapK q r ∈ ords n := by decide +kernel
theorem selT_mem {m : List (List Int)} {q : List Nat} : q ∈ selT m m (ords m.length).length ↔ q ∈ ords m.length ∧ pick m (intL q) = m := by
  unfold selT
  rw [List.take_length, List.mem_filter]
  unfold selP eqM
  rw [decide_eq_true_eq]
/-- The rows of the symmetries, as lists of points. -/
theorem sym_row {m : List (List Int)} {k : Nat} (hk : k < (obV m m).length) : IsC m ∧ ∃ q ∈ ords m.length, (obV m m).getD k [] = intL q ∧ pick m (intL q) = m := by
  by_cases hI : IsC m
  · refine ⟨hI, ?_⟩
    rw [obV_yes hI] at hk ⊢
    rw [tabL_len] at hk
    rw [tabL_get _ _ hk]
    have hm : (selT m m (ords m.length).length).getD k [] ∈ selT m m (ords m.length).length := by
      simp only [List.getD, hk, List.getElem?_eq_getElem, Option.getD_some]
      exact List.getElem_mem hk
    obtain ⟨h1, h2⟩ := selT_mem.1 hm
    exact ⟨_, h1, rfl, h2⟩
  · rw [obV_no hI] at hk; simp at hk
theorem sym_comp {m : List (List Int)} {q r : List Nat} (hI : IsC m) (hq : q ∈ ords m.length) (hr : r ∈ ords m.length) (h1 : pick m (intL q) = m) (h2 : pick m (intL r) = m) : intL (mapK q r) ∈ obV m m := by
  obtain ⟨hql, hqn⟩ := ords_lt m.length hI.2.2.2 q hq
  obtain ⟨hrl, hrn⟩ := ords_lt m.length hI.2.2.2 r hr
  rw [obV_yes hI]
  unfold tabL
  refine List.mem_map_of_mem (selT_mem.2 ⟨comp_ok m.length hI.2.2.2 q hq r hr, ?_⟩)
  rw [← pick_pick m q r (fun i hi => by rw [hql]; exact hrn i (by omega)), h1, h2]
/-- Where an isomorphism is found. -/
theorem iso_found {a b : List (List Int)} (h : isoB a b = true) : IsC a ∧ IsC b ∧ ∃ q ∈ ords a.length, isoL a b = intL q ∧ pick a (intL q) = b ∧ b.length = a.length := by
  have hne : (obV a b).length ≠ 0 := by
    unfold isoB at h
    simpa using h
  by_cases hg : IsC a ∧ IsC b ∧ a.length = b.length
  · obtain ⟨hI, hJ, hl⟩ := hg
    refine ⟨hI, hJ, ?_⟩
    unfold isoL
    rw [obV_yes hI] at hne ⊢
    rw [tabL_len] at hne
    rw [tabL_get _ _ (by omega)]
    have hm : (selT a b (ords a.length).length).getD 0 [] ∈ selT a b (ords a.length).length := by
      have hk : 0 < (selT a b (ords a.length).length).length := by omega
      simp only [List.getD, hk, List.getElem?_eq_getElem, Option.getD_some]
      exact List.getElem_mem hk
    unfold selT at hm
    rw [List.take_length, List.mem_filter] at hm
    have h2 := hm.2
    unfold selP eqM at h2
    rw [decide_eq_true_eq] at h2
    refine ⟨_, hm.1, ?_, ?_, hl.symm⟩
    · unfold selT; rw [List.take_length]
    · exact h2
  · rw [obV_bad hg] at hne; simp at hne
end Go.Proofs.YtcmnkhblnlmfpaaGreatDoor
namespace Go.Proofs.YtcmnkhblnlmfpaaGreatDoor
open Go.RowKit

set_option maxHeartbeats 1000000 in
theorem smS_any (B : Nat) (v v' : Value) (l l' : List Int) (w : World) (h : RowB B w v l) (h' : RowB B w v' l') (hl : l.length ≤ maxLen) (hl' : l'.length ≤ maxLen) :
    Calls Tryz.prog 8 #[v, v'] w fun e w' => e = .returned (.bool (eqL l l')) ∧ ∃ q, w' = w.drewN q := by
  obtain ⟨a, cap, rfl⟩ := h.slice
  obtain ⟨a', cap', rfl⟩ := h'.slice
  have HR := Lib.hid h; clear h
  have HR' := Lib.hid h'; clear h'
  generalize hn : l.length = n at *
  generalize hn' : l'.length = n' at *
  unfold maxLen at hl hl'
  have HN := Lib.hid hn; clear hn
  have HN' := Lib.hid hn'; clear hn'
  by_cases hlen : n = n'
  · subst hlen
    go_enter Tryz.func8, Tryz.ntmps8
    go_wp2_with fail
    go_loopw [5] (fun i wr => ∃ (k q : Nat), k ≤ n ∧ i = .int .i64 k ∧ wr = w.drewN q ∧ Pre l l' k) (fun i _ => n - (intOf i).toNat)
    case atStart => exact ⟨0, 0, Nat.zero_le _, rfl, rfl, rfl⟩
    case round =>
      obtain ⟨k, q, hk, rfl, rfl, hp⟩ := hrel
      have HP := Lib.hid hp; clear hp
      by_cases hlt : k < n
      · obtain ⟨b, off, hkl, rfl, hb, hc⟩ := HR.out.get hlt
        obtain ⟨b', off', hkl', rfl, hb', hc'⟩ := HR'.out.get hlt
        by_cases he : l[k] = l'[k]
        · have hst := pre_step hkl hkl' HP.out he
          have HST := Lib.hid hst; clear hst
          rw [← he] at hc'
          clear he
          generalize l[k] = x at *
          go_wp2_with fail
          go_quiet (fail)
          go_wp2_with fail
          exact ⟨⟨k + 1, q + nq, by omega, by go_num, rfl, HST.out⟩, by simp [intOf]; omega⟩
        · have hne : ¬ l = l' := fun e => he (by subst e; rfl)
          have hv := eqL_no hne
          have HV := Lib.hid hv; clear hv hne
          generalize hx : l[k] = x at *
          generalize hy : l'[k] = y at *
          have hxy : (x != y) = true := by rw [bne_iff_ne]; exact he
          have hxy' : (x == y) = false := by rw [beq_eq_false_iff_ne]; exact he
          clear hx hy he
          go_wp2_with fail
          go_quiet (fail)
          go_wp2_with fail
          go_ret
          exact ⟨ret_boolean HV.out.symm, q + nq, World.drewN_drewN _ _ _⟩
      · obtain rfl : k = n := by omega
        have heq : l = l' := by
          have h1 := HP.out
          unfold Pre at h1
          rw [List.take_of_length_le (by rw [HN.out]; exact Nat.le_refl _), List.take_of_length_le (by rw [HN'.out]; exact Nat.le_refl _)] at h1
          exact h1
        have hv := eqL_yes heq
        have HV := Lib.hid hv; clear hv heq
        go_wp2_with fail
        go_ret
        exact ⟨ret_boolean HV.out.symm, _, rfl⟩
  · have hne : ¬ l = l' := fun e => hlen (by rw [← HN.out, ← HN'.out, e])
    have hv := eqL_no hne
    have HV := Lib.hid hv; clear hv hne
    have hq : ((n : Int) != (n' : Int)) = true := by rw [bne_iff_ne]; omega
    clear hlen
    go_enter Tryz.func8, Tryz.ntmps8
    go_wp2_with fail
    all_goals go_ret
    all_goals exact ⟨ret_boolean HV.out.symm, 0, rfl⟩

set_option maxHeartbeats 1000000 in
theorem smSS_any (B : Nat) (v v' : Value) (m m' : List (List Int)) (w : World) (h : MatB B w v m) (h' : MatB B w v' m') (hf : RowsFit m) (hf' : RowsFit m') :
    Calls Tryz.prog 36 #[v, v'] w fun e w' => e = .returned (.bool (eqM m m')) ∧ ∃ q, w' = w.drewN q := by
  obtain ⟨a, cap, rfl⟩ := h.slice
  obtain ⟨a', cap', rfl⟩ := h'.slice
  have hl := hf.1
  have hl' := hf'.1
  have HR := Lib.hid h; clear h
  have HR' := Lib.hid h'; clear h'
  have HF := Lib.hid hf; clear hf
  have HF' := Lib.hid hf'; clear hf'
  generalize hn : m.length = n at *
  generalize hn' : m'.length = n' at *
  unfold maxLen at hl hl'
  have HN := Lib.hid hn; clear hn
  have HN' := Lib.hid hn'; clear hn'
  by_cases hlen : n = n'
  · subst hlen
    go_enter Tryz.func36, Tryz.ntmps36
    go_wp2_with fail
    go_loopw [5] (fun i wr => ∃ (k q : Nat), k ≤ n ∧ i = .int .i64 k ∧ wr = w.drewN q ∧ PreM m m' k) (fun i _ => n - (intOf i).toNat)
    case atStart => exact ⟨0, 0, Nat.zero_le _, rfl, rfl, rfl⟩
    case round =>
      obtain ⟨k, q, hk, rfl, rfl, hp⟩ := hrel
      have HP := Lib.hid hp; clear hp
      by_cases hlt : k < n
      · obtain ⟨b, off, hkl, rfl, hb, ra, rcap, hc, hrow⟩ := HR.out.get hlt
        obtain ⟨b', off', hkl', rfl, hb', ra', rcap', hc', hrow'⟩ := HR'.out.get hlt
        have HROW := Lib.hid hrow; clear hrow
        have HROW' := Lib.hid hrow'; clear hrow'
        by_cases he : m[k] = m'[k]
        · have hst := preM_step hkl hkl' HP.out he
          have HST := Lib.hid hst; clear hst
          have hcon : ∀ q, Calls Tryz.prog 8 #[.slice ra m[k].length rcap, .slice ra' m'[k].length rcap'] (w.drewN q) fun e w' => e = .returned (.bool true) ∧ ∃ q', w' = (w.drewN q).drewN q' := fun q =>
            (smS_any B _ _ _ _ (w.drewN q) (HROW.out.drewN q) (HROW'.out.drewN q) (HF.out.2 k hkl) (HF'.out.2 k hkl')).mono fun e w' ⟨h1, h2⟩ => ⟨by rw [h1, eqL_yes he], h2⟩
          have HCON := Lib.hid hcon; clear hcon he
          generalize m[k].length = rn at *
          generalize m'[k].length = rn' at *
          go_wp2_with fail
          go_quiet ((go_at_call 8; exact quiet_more HCON.out _ _))
          go_wp2_with fail
          exact ⟨⟨k + 1, q + nq, by omega, by go_num, rfl, HST.out⟩, by simp [intOf]; omega⟩
        · have hne : ¬ m = m' := fun e => he (by subst e; rfl)
          have hv := eqM_no hne
          have HV := Lib.hid hv; clear hv hne
          have hcon : ∀ q, Calls Tryz.prog 8 #[.slice ra m[k].length rcap, .slice ra' m'[k].length rcap'] (w.drewN q) fun e w' => e = .returned (.bool false) ∧ ∃ q', w' = (w.drewN q).drewN q' := fun q =>
            (smS_any B _ _ _ _ (w.drewN q) (HROW.out.drewN q) (HROW'.out.drewN q) (HF.out.2 k hkl) (HF'.out.2 k hkl')).mono fun e w' ⟨h1, h2⟩ => ⟨by rw [h1, eqL_no he], h2⟩
          have HCON := Lib.hid hcon; clear hcon he
          generalize m[k].length = rn at *
          generalize m'[k].length = rn' at *
          go_wp2_with fail
          go_quiet ((go_at_call 8; exact quiet_more HCON.out _ _))
          go_wp2_with fail
          go_ret
          exact ⟨ret_boolean HV.out.symm, q + nq, World.drewN_drewN _ _ _⟩
      · obtain rfl : k = n := by omega
        have heq : m = m' := by
          have h1 := HP.out
          unfold PreM at h1
          rw [List.take_of_length_le (by rw [HN.out]; exact Nat.le_refl _), List.take_of_length_le (by rw [HN'.out]; exact Nat.le_refl _)] at h1
          exact h1
        have hv := eqM_yes heq
        have HV := Lib.hid hv; clear hv heq
        go_wp2_with fail
        go_ret
        exact ⟨ret_boolean HV.out.symm, _, rfl⟩
  · have hne : ¬ m = m' := fun e => hlen (by rw [← HN.out, ← HN'.out, e])
    have hv := eqM_no hne
    have HV := Lib.hid hv; clear hv hne
    have hq : ((n : Int) != (n' : Int)) = true := by rw [bne_iff_ne]; omega
    clear hlen
    go_enter Tryz.func36, Tryz.ntmps36
    go_wp2_with fail
    all_goals go_ret
    all_goals exact ⟨ret_boolean HV.out.symm, 0, rfl⟩


/-! ### inList -/
def inB2 (T : List (List Int)) (p : List Int) : Bool := decide (p ∈ T)
end Go.Proofs.YtcmnkhblnlmfpaaGreatDoor
namespace Go.Proofs.YtcmnkhblnlmfpaaGreatDoor
open Go.RowKit

theorem or_i64_nat (a b : Nat) (ha : a < 9223372036854775808) (hb : b < 9223372036854775808) :
    bits .or .i64 (a : Int) (b : Int) = ((a ||| b : Nat) : Int) := by
  have hx : a ||| b < 2 ^ 63 := Nat.or_lt_two_pow ha hb
  have h1 : (BitVec.ofInt 64 (a : Int)).toNat = a := by
    rw [BitVec.ofInt_natCast, BitVec.toNat_ofNat]; exact Nat.mod_eq_of_lt (by omega)
  have h2 : (BitVec.ofInt 64 (b : Int)).toNat = b := by
    rw [BitVec.ofInt_natCast, BitVec.toNat_ofNat]; exact Nat.mod_eq_of_lt (by omega)
  show IntKind.i64.wrap ((BitVec.ofInt 64 (a : Int) ||| BitVec.ofInt 64 (b : Int)).toNat : Int) = _
  rw [BitVec.toNat_or, h1, h2, IntKind.wrap_i64]
  omega

theorem or_low (a b i : Nat) (hb : b < 2 ^ i) : a * 2 ^ i ||| b = a * 2 ^ i + b := by
  have := Nat.two_pow_add_eq_or_of_lt hb a
  rw [Nat.mul_comm] ; omega

theorem or_byte (a b : Nat) (ha : a ≤ 281474976710655) (hb : b ≤ 255) : bits .or .i64 ((a : Int) * 256) (b : Int) = (a : Int) * 256 + b := by
  have h := or_i64_nat (a * 256) b (by omega) (by omega)
  have e := or_low a b 8 (by omega)
  rw [show ((a : Int) * 256) = ((a * 256 : Nat) : Int) by omega, h]
  rw [show (2 : Nat) ^ 8 = 256 from rfl] at e
  rw [e]; omega

theorem and127_or128 (n : Nat) : bits .or .i64 (bits .and .i64 (n : Int) 127) 128 = 128 + (n : Int) % 128 := by
  rw [i64_and127]
  have h := or_i64_nat (n % 128) 128 (by omega) (by omega)
  have e : (n % 128) ||| 128 = n % 128 + 128 := by
    have := or_low 1 (n % 128) 7 (by omega)
    rw [Nat.or_comm]; simpa [Nat.add_comm] using this
  rw [e] at h
  rw [show ((n : Int) % 128) = ((n % 128 : Nat) : Int) by omega]
  rw [show (128 : Int) = ((128 : Nat) : Int) from rfl, h]
  omega

theorem pow128 (k : Nat) : 2 ^ (7 * k) = 128 ^ k := by rw [Nat.pow_mul]

theorem or_shift (v k : Nat) (B : Int) (b : Nat) (hB : B = b) (hb : b < 256) (hv : v < 128 ^ k) (hk : k < 7) :
    bits .or .i64 (v : Int) (wrap64 (wrap64 (bits .and .u8 B 127) * 2 ^ (7 * k))) = ((v + 128 ^ k * (b % 128) : Nat) : Int) := by
  subst hB
  have e1 : bits .and .u8 (b : Int) 127 = ((b % 128 : Nat) : Int) := by
    have := u8_and_nat b 127 hb (by omega)
    rw [show ((127 : Nat) : Int) = 127 from rfl] at this
    rw [this, show b &&& 127 = b % 128 from Nat.and_two_pow_sub_one_eq_mod b 7]
  have hp : 128 ^ k ≤ 128 ^ 6 := Nat.pow_le_pow_right (by omega) (by omega)
  have hp6 : (128 : Nat) ^ 6 = 4398046511104 := by decide
  have hm : (b % 128) * 128 ^ k ≤ 127 * 4398046511104 := Nat.mul_le_mul (by omega) (by omega)
  have e2 : wrap64 ((b % 128 : Nat) : Int) = ((b % 128 : Nat) : Int) := IntWalk.wrap64_in _ ⟨by omega, by omega⟩
  have e3 : (2 : Int) ^ (7 * k) = ((128 ^ k : Nat) : Int) := by
    rw [← pow128]; simp
  have e4 : wrap64 (((b % 128 : Nat) : Int) * ((128 ^ k : Nat) : Int)) = (((b % 128) * 128 ^ k : Nat) : Int) := by
    rw [← Int.natCast_mul]
    exact IntWalk.wrap64_in _ ⟨by omega, by omega⟩
  rw [e1, e2, e3, e4, or_i64_nat _ _ (by omega) (by omega), Nat.or_comm]
  rw [← pow128] at hv ⊢
  rw [or_low _ _ _ hv, Nat.mul_comm, Nat.add_comm]

/-- A byte in a region that draws its order: the wraps that the walk leaves there. -/
theorem byte_wrap (b : UInt8) : IntKind.i64.wrap (b.toNat : Int) = (b.toNat : Int) := IntWalk.i64_in _ (by have := b.toNat_lt; omega)
theorem byte_tdiv16 (b : UInt8) : ((b.toNat : Int)).tdiv 16 = (b.toNat : Int) / 16 := Int.tdiv_eq_ediv_of_nonneg (by omega)
theorem byte_tmod16 (b : UInt8) : ((b.toNat : Int)).tmod 16 = (b.toNat : Int) % 16 := Int.tmod_eq_emod_of_nonneg (by omega)
theorem byte_wrap16 (b : UInt8) : IntKind.i64.wrap ((b.toNat : Int) / 16) = (b.toNat : Int) / 16 := IntWalk.i64_in _ (by have := b.toNat_lt; omega)

theorem byte_and15 (b : UInt8) : bits .and .u8 (b.toNat : Int) 15 = (b.toNat : Int) % 16 := by
  have := u8_and_nat b.toNat 15 b.toNat_lt (by omega)
  rw [show ((15 : Nat) : Int) = 15 from rfl] at this
  rw [this, show b.toNat &&& 15 = b.toNat % 16 from Nat.and_two_pow_sub_one_eq_mod b.toNat 4]
  omega

theorem nib_or (a b : Nat) (ha : a ≤ 15) (hb : b ≤ 15) : bits .or .u8 ((a : Int) * 16) (b : Int) = ((16 * a + b : Nat) : Int) := by
  have h := u8_or_nat (a * 16) b (by omega) (by omega)
  have e := or_low a b 4 (by omega)
  rw [show (2 : Nat) ^ 4 = 16 from rfl] at e
  rw [show ((a : Int) * 16) = ((a * 16 : Nat) : Int) by omega, h, e]
  omega
end Go.Proofs.YtcmnkhblnlmfpaaGreatDoor
