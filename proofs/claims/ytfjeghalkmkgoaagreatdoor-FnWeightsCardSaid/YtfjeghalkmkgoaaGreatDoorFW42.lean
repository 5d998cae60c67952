/-
  What the law on weights asks besides: texts of weights are read back; the braid relation of a bond; small contracts.
-/
import Derived.Test.YtfjeghalkmkgoaaGreatDoorFW20
import Derived.Test.YtfjeghalkmkgoaaGreatDoorFW24
import Derived.Test.YtfjeghalkmkgoaaGreatDoorFW25
import Derived.Test.YtfjeghalkmkgoaaGreatDoorFW29
import Derived.Test.YtfjeghalkmkgoaaGreatDoorFW35
import Derived.Test.YtfjeghalkmkgoaaGreatDoorFW36
import Derived.Test.YtfjeghalkmkgoaaGreatDoorFW39
import Derived.Test.YtfjeghalkmkgoaaGreatDoorFW40
import Derived.Test.YtfjeghalkmkgoaaGreatDoorFW41
namespace Go.Proofs.YtfjeghalkmkgoaaGreatDoor
open Go.RowKit

/-! ### Texts are read back -/
theorem dec_len (k : Nat) : ∀ n, n < 10 ^ (k + 1) → (Lib.decDigits n).length ≤ k + 1 := by
  induction k with
  | zero => intro n h; rw [dec_small (by simpa using h)]; simp
  | succ k ih =>
    intro n h
    by_cases h' : n < 10
    · rw [dec_small h']; simp
    · rw [dec_big h']
      have := ih (n / 10) (by rw [Nat.pow_succ] at h; omega)
      rw [List.length_append, List.length_singleton]; omega
theorem dec_inj {a b : Nat} (h : Lib.decDigits a = Lib.decDigits b) : a = b := by
  have := (dec_all a).2
  rw [h, (dec_all b).2] at this
  exact this.symm
theorem itoa_inj {x y : Int} (h : Lib.itoa x = Lib.itoa y) : x = y := by
  rcases itoa_cases x with ⟨h1, e1⟩ | ⟨h1, e1⟩ <;> rcases itoa_cases y with ⟨h2, e2⟩ | ⟨h2, e2⟩
  · rw [e1, e2] at h; injection h with _ h3; have := dec_inj h3; omega
  · rw [e1, e2] at h; exact absurd (by rw [← h]; rfl) (dec_head y.toNat)
  · rw [e1, e2] at h; exact absurd (by rw [h]; rfl) (dec_head x.toNat)
  · rw [e1, e2] at h; have := dec_inj h; omega
theorem itoa_free (x : Int) : (44 : UInt8) ∉ Lib.itoa x := by
  have hd : ¬ isDig 44 := by decide
  rcases itoa_cases x with ⟨h1, e1⟩ | ⟨h1, e1⟩
  · rw [e1]; intro h
    rcases List.mem_cons.1 h with h | h
    · exact absurd h (by decide)
    · exact hd ((dec_all _).1 _ h)
  · rw [e1]; intro h; exact hd ((dec_all _).1 _ h)
theorem itoa_read {x : Int} (h : -1000 ≤ x ∧ x ≤ 1000) : POk (Lib.itoa x) ∧ PV (Lib.itoa x) = x := by
  have key : ∀ l : List UInt8, TOk l → pval l (sv (trim l)) = x → Lib.itoa x = l → POk l ∧ PV l = x := fun l h1 h2 h3 => by
    refine ⟨(pok_iff h1).2 (by rw [h2]; exact h3), by rw [pv_tok h1]; exact h2⟩
  rcases itoa_cases x with ⟨h1, e1⟩ | ⟨h1, e1⟩
  · rw [e1]
    have hs : signed (45 :: Lib.decDigits x.natAbs) := rfl
    have ht : trim (45 :: Lib.decDigits x.natAbs) = Lib.decDigits x.natAbs := by unfold trim; rw [if_pos hs]; rfl
    refine key _ ⟨?_, ?_⟩ ?_ e1
    · rw [ht]; have := dec_len 3 x.natAbs (by omega); omega
    · rw [ht]; exact (dec_all _).1
    · rw [ht, (dec_all _).2]; unfold pval; rw [if_pos hs]; omega
  · rw [e1]
    have hs : ¬ signed (Lib.decDigits x.toNat) := dec_head _
    have ht : trim (Lib.decDigits x.toNat) = Lib.decDigits x.toNat := by unfold trim; rw [if_neg hs]
    refine key _ ⟨?_, ?_⟩ ?_ e1
    · rw [ht]; have := dec_len 3 x.toNat (by omega); omega
    · rw [ht]; exact (dec_all _).1
    · rw [ht, (dec_all _).2]; unfold pval; rw [if_neg hs]; omega
theorem pwt_fmt (m : List (List Int)) (l : List Int) : pwtB m (rowT l) = wtB m l ∧ (wtB m l = true → pwtL m (rowT l) = l) := by
  have hiff : (PwtOk m (rowT l) ↔ IsWt m l) ∧ (IsWt m l → rowPV (rowT l) = l) := by
    by_cases h0 : l = []
    · subst h0
      have hn : ¬ IsWt m [] := fun h => by have h1 := h.2.2; have h2 := h.2.1.2.2.1; simp at h1; omega
      refine ⟨⟨fun h => ?_, fun h => absurd h hn⟩, fun h => absurd h hn⟩
      exact absurd (h.1 [] (by rw [show rowT [] = [] from rfl]; simp [cutLD, cutFD])) pok_nil
    · have hc : cutLD 44 (rowT l) = l.map Lib.itoa := by
        unfold rowT
        exact cut_join (by simpa using h0) (fun y hy => by obtain ⟨x, _, rfl⟩ := List.mem_map.1 hy; exact itoa_free x)
      have hpv : (∀ x ∈ l, PV (Lib.itoa x) = x) → rowPV (rowT l) = l := fun h => by
        unfold rowPV
        rw [hc, List.map_map]
        conv => rhs; rw [← List.map_id l]
        exact List.map_congr_left fun x hx => h x hx
      have hsm : IsWt m l → ∀ x ∈ l, POk (Lib.itoa x) ∧ PV (Lib.itoa x) = x := fun h x hx => itoa_read (isWt_mem h x hx)
      refine ⟨⟨fun h => ?_, fun h => ?_⟩, fun h => hpv fun x hx => (hsm h x hx).2⟩
      · have h1 : rowPV (rowT l) = l := hpv fun x hx => by
          have h2 := (h.1 (Lib.itoa x) (by rw [hc]; exact List.mem_map.2 ⟨x, hx, rfl⟩)).2.2
          exact itoa_inj h2
        have h3 := h.2
        rw [h1] at h3
        exact h3
      · refine ⟨fun f hf => ?_, by rw [hpv fun x hx => (hsm h x hx).2]; exact h⟩
        rw [hc] at hf
        obtain ⟨x, hx, rfl⟩ := List.mem_map.1 hf
        exact (hsm h x hx).1
  by_cases h : IsWt m l
  · exact ⟨by rw [pwtB_yes (hiff.1.2 h), wtB_yes h], fun _ => by rw [pwtL_yes (hiff.1.2 h)]; exact hiff.2 h⟩
  · exact ⟨by rw [pwtB_no (fun h' => h (hiff.1.1 h')), wtB_no h], fun h' => by rw [wtB_no h] at h'; cases h'⟩

/-! ### The braid relation -/
theorem isW_two {m : List (List Int)} (hI : IsC m) {ws : List Int} (hl : ws.length ≤ 15) (h : ∀ x ∈ ws, 0 ≤ x ∧ x ≤ (m.length : Int) - 1) : IsW m ws := by
  refine ⟨fun j hj => ?_, hI, hl⟩
  have e : ws.getD j 0 = ws[j] := by simp [List.getD, hj]
  rw [e]; exact h _ (List.getElem_mem hj)
theorem altK_mem {i j x : Int} {k : Nat} (h : x ∈ altK i j k) : x = i ∨ x = j := by
  unfold altK at h
  obtain ⟨t, _, rfl⟩ := List.mem_map.1 h
  split
  · exact .inl rfl
  · exact .inr rfl
theorem bond_cases {m : List (List Int)} (hI : IsC m) {j k : Nat} (hj : j < m.length) (hk : k < m.length) (hne : j ≠ k) (hb : 0 < bond m j k) :
    (bond m j k = 2 ∧ entry m j k = 0 ∧ entry m k j = 0) ∨ (bond m j k = 3 ∧ entry m j k = -1 ∧ entry m k j = -1) ∨ (bond m j k = 4 ∧ ((entry m j k = -1 ∧ entry m k j = -2) ∨ (entry m j k = -2 ∧ entry m k j = -1))) ∨ (bond m j k = 6 ∧ ((entry m j k = -1 ∧ entry m k j = -3) ∨ (entry m j k = -3 ∧ entry m k j = -1))) := by
  have h1 := isc_in hI hj hk hne
  have h2 := isc_in hI hk hj (Ne.symm hne)
  have h3 : entry m j k = 0 ↔ entry m k j = 0 := by
    rcases hI.2.1 j k hj hk with h | h
    · exact absurd h.1 hne
    · exact h.2.2
  rw [bond_ne hI hj hk hne] at hb ⊢
  generalize entry m j k = p at *
  generalize entry m k j = q at *
  rcases four h1 with rfl | rfl | rfl | rfl <;> rcases four h2 with rfl | rfl | rfl | rfl <;> simp [bondP] at * 
theorem braid_law {m : List (List Int)} {l : List Int} {j k : Nat} (hI : IsC m) (hll : l.length = m.length) (hf : Fits l) (hj : j < m.length) (hk : k < m.length) (hb : 0 < bond m j k) :
    actL m (altL j k (bond m j k)) l = actL m (altL k j (bond m j k)) l := by
  by_cases hne : j = k
  · rw [hne]
  have hw : ∀ (x y : Nat), x < m.length → y < m.length → ∀ n, n ≤ 15 → IsW m (altK x y n) := fun x y hx hy n hn => isW_two hI (by rw [altK_len]; exact hn) fun z hz => by
    rcases altK_mem hz with rfl | rfl <;> omega
  have hin : ∀ (x y : Nat), x < m.length → y < m.length → ∀ n, ∀ i ∈ altK x y n, i.toNat < l.length := fun x y hx hy n i hi => by
    rcases altK_mem hi with rfl | rfl <;> omega
  have hd1 := isC_diag hI hj
  have hd2 := isC_diag hI hk
  have hfd : ∀ t, t < l.length → -9223372036854775808 ≤ l.getD t 0 ∧ l.getD t 0 ≤ 9223372036854775807 := fun t _ => hf.getD t
  have key : ∀ n : Nat, n ≤ 15 → (∀ V t, zA m (altK j k n) V t = zA m (altK k j n) V t) → actL m (altL j k n) l = actL m (altL k j n) l := fun n hn hz => by
    have e1 : altL (j : Int) k n = altK j k n := by unfold altL; congr 1; omega
    have e2 : altL (k : Int) j n = altK k j n := by unfold altL; congr 1; omega
    rw [e1, e2, actL_yes ⟨hw j k hj hk n hn, hll⟩, actL_yes ⟨hw k j hk hj n hn, hll⟩]
    exact act_eq hfd (hin j k hj hk n) (hin k j hk hj n) hz
  rcases bond_cases hI hj hk hne hb with ⟨e, hp, hq⟩ | ⟨e, hp, hq⟩ | ⟨e, h⟩ | ⟨e, h⟩
  · rw [e]; exact key 2 (by omega) fun V t => braid2 hd1 hd2 rfl rfl V ⟨hp, hq⟩ t
  · rw [e]; exact key 3 (by omega) fun V t => braid3 hd1 hd2 rfl rfl V ⟨hp, hq⟩ t
  · rw [e]; exact key 4 (by omega) fun V t => braid4 hd1 hd2 rfl rfl V h t
  · rw [e]; exact key 6 (by omega) fun V t => braid6 hd1 hd2 rfl rfl V h t
theorem altL_le (i j n : Int) : (altL i j n).length ≤ 15 := by unfold altL; rw [altK_len]; exact Nat.min_le_right _ _
theorem bond_range (m : List (List Int)) (i j : Int) : -1 ≤ bond m i j ∧ bond m i j ≤ 6 := by
  have hP : ∀ p, -1 ≤ bondP p ∧ bondP p ≤ 6 := fun p => by
    unfold bondP; split
    · omega
    · split
      · omega
      · split
        · omega
        · split <;> omega
  unfold bond
  split
  · split
    · omega
    · exact hP _
  · omega
/-! ### Small contracts -/
theorem RowB.upW {w w' : World} {v : Value} {l : List Int} (h : RowB w.heap.size w v l) (hb : Below w.heap.size w w') : RowB w'.heap.size w' v l := (h.below hb (Nat.le_refl _)).mono hb.size
theorem MatB.upW {w w' : World} {v : Value} {m : List (List Int)} (h : MatB w.heap.size w v m) (hb : Below w.heap.size w w') : MatB w'.heap.size w' v m := (h.below hb (Nat.le_refl _)).mono hb.size
theorem smS_w (v v' : Value) (l : List Int) (w : World) (h : RowB w.heap.size w v l) (h' : RowB w.heap.size w v' l) (hl : l.length ≤ maxLen) :
    Calls Tryz.prog 7 #[v, v'] w fun e w' => e = .returned (.bool true) ∧ Below w.heap.size w w' :=
  (smS_any _ v v' l l w h h' hl hl).mono fun e w' ⟨h1, q, h2⟩ => ⟨by rw [h1, eqL_yes rfl], by rw [h2]; exact below_drewN q⟩
theorem big_w (w : World) (a : Option Addr) (len cap : Nat) (_hl : len ≤ 9223372036854775807) :
    Calls Tryz.prog 4 #[.slice a len cap] w fun e w' => e = .returned (.bool (decide (1048576 < (len : Int)))) ∧ w = w' := by
  go_enter Tryz.func4, Tryz.ntmps4
  go_wp2
  go_ret
  exact ⟨rfl, rfl⟩
set_option maxHeartbeats 1000000 in
theorem at_any (B : Nat) (w : World) (a : Option Addr) (len cap : Nat) (hl : len ≤ 1048576) (hc : CodeB B w (.slice a len cap) len) (i : Nat) (hi : i ≤ 100) :
    Calls Tryz.prog 12 #[.slice a len cap, .int .i64 i] w fun e w' => ∃ r : Nat, r < 256 ∧ e = .returned (.int .i64 r) ∧ w = w' := by
  by_cases h : i < len
  · have hd : decide (i < len) = true := decide_eq_true h
    rcases hc with ⟨⟨a', cap', h1⟩, h0⟩ | ⟨b, off, cap', h1, hb, h3⟩
    · omega
    · injection h1 with e1 e2 e3
      subst e1
      obtain ⟨u, hu⟩ := h3 i h
      have hul := u.toNat_lt
      go_enter Tryz.func12, Tryz.ntmps12
      go_wp2
      go_ret
      exact ⟨u.toNat, by omega, rfl, rfl⟩
  · have hd : decide (i < len) = false := decide_eq_false h
    clear hc
    go_enter Tryz.func12, Tryz.ntmps12
    go_wp2
    go_ret
    refine ⟨(i * 37 + len * 11) % 256, Nat.mod_lt _ (by omega), ?_, rfl⟩
    show Ending.returned (Value.int IntKind.i64 (((i : Int) * 37 + (len : Int) * 11) % 256)) = _
    exact ret_int (by omega)
end Go.Proofs.YtfjeghalkmkgoaaGreatDoor
