/-
  Weights: a reflection undoes itself; two reflections satisfy the braid relation of their bond (no walk here).
  Words: what the model's functions of chapter 5 return.
  Weights: what the model's IsWeight returns.
-/
import Derived.Test.YtfjeghalkmkgoaaGreatDoorFW17
import Derived.Test.YtfjeghalkmkgoaaGreatDoorFW16
import Derived.Test.YtfjeghalkmkgoaaGreatDoorFW05
import Derived.Test.YtfjeghalkmkgoaaGreatDoorFW04
import Derived.Test.YtfjeghalkmkgoaaGreatDoorFW06
import Derived.Test.YtfjeghalkmkgoaaGreatDoorFW07
import Derived.Test.YtfjeghalkmkgoaaGreatDoorFW15
namespace Go.Proofs.YtfjeghalkmkgoaaGreatDoor
open Go.RowKit

theorem wrap_ex (x : Int) : ∃ q, wrap64 x = x + 18446744073709551616 * q := by
  unfold wrap64
  exact ⟨-((x + 9223372036854775808) / 18446744073709551616), by omega⟩
theorem wrap_shift (x q : Int) : wrap64 (x + 18446744073709551616 * q) = wrap64 x := by
  unfold wrap64; omega
theorem wrap_fit {x : Int} (h : -9223372036854775808 ≤ x ∧ x ≤ 9223372036854775807) : wrap64 x = x := by
  unfold wrap64; omega
theorem reflE_eq (m : List (List Int)) (i : Nat) (l : List Int) (k : Nat) : reflE m i l k = wrap64 (l.getD k 0 - l.getD i 0 * entry m k i) := by
  unfold reflE subW mulW
  obtain ⟨q, hq⟩ := wrap_ex (l.getD i 0 * entry m k i)
  rw [hq, show l.getD k 0 - (l.getD i 0 * entry m k i + 18446744073709551616 * q) = (l.getD k 0 - l.getD i 0 * entry m k i) + 18446744073709551616 * (-q) by omega, wrap_shift]
/-- The unbounded reflection. -/
def zR (m : List (List Int)) (i : Nat) (V : Nat → Int) (t : Nat) : Int := V t - V i * entry m t i
def Rep (l : List Int) (V : Nat → Int) : Prop := ∀ t, t < l.length → l.getD t 0 = wrap64 (V t)
theorem reflL_get (m : List (List Int)) (i : Nat) (l : List Int) (t : Nat) (h : t < l.length) : (reflL m i l).getD t 0 = reflE m i l t := by
  unfold reflL reflK; simp [List.getD, h]
theorem rep_step {m : List (List Int)} {i : Nat} {l : List Int} {V : Nat → Int} (h : Rep l V) (hi : i < l.length) : Rep (reflL m i l) (zR m i V) := by
  intro t ht
  rw [reflL_len] at ht
  rw [reflL_get m i l t ht, reflE_eq, h t ht, h i hi]
  obtain ⟨q1, h1⟩ := wrap_ex (V t)
  obtain ⟨q2, h2⟩ := wrap_ex (V i)
  rw [h1, h2]
  unfold zR
  rw [Int.add_mul, show V t + 18446744073709551616 * q1 - (V i * entry m t i + 18446744073709551616 * q2 * entry m t i) = (V t - V i * entry m t i) + 18446744073709551616 * (q1 - q2 * entry m t i) by rw [Int.mul_sub, Int.mul_assoc]; omega, wrap_shift]
theorem rep_base {l : List Int} (h : ∀ t, t < l.length → -9223372036854775808 ≤ l.getD t 0 ∧ l.getD t 0 ≤ 9223372036854775807) : Rep l (fun t => l.getD t 0) := fun t ht => (wrap_fit (h t ht)).symm
theorem rep_eq {l l' : List Int} {V V' : Nat → Int} (h : Rep l V) (h' : Rep l' V') (hl : l.length = l'.length) (hv : ∀ t, t < l.length → V t = V' t) : l = l' := by
  apply List.ext_getElem hl
  intro t h1 h2
  have e1 := h t h1
  have e2 := h' t h2
  simp only [List.getD, List.getElem?_eq_getElem h1, List.getElem?_eq_getElem h2, Option.getD_some] at e1 e2
  rw [e1, e2, hv t h1]
def zA (m : List (List Int)) (ws : List Int) (V : Nat → Int) : Nat → Int := ws.foldr (fun i V => zR m i.toNat V) V
theorem rep_act {m : List (List Int)} {ws l : List Int} {V : Nat → Int} (h : Rep l V) (hw : ∀ i ∈ ws, i.toNat < l.length) : Rep (actW m ws l) (zA m ws V) := by
  induction ws with
  | nil => exact h
  | cons i ws ih =>
    have h1 := ih (fun j hj => hw j (by simp [hj]))
    exact rep_step h1 (by have h2 := actW_len m ws l; have h3 := hw i (by simp); unfold actW at h2; omega)
theorem isC_diag {m : List (List Int)} (h : IsC m) {i : Nat} (hi : i < m.length) : entry m i i = 2 := by
  rcases h.2.1 i i hi hi with h | h
  · exact h.2
  · exact absurd rfl h.1
/-! ### A reflection undoes itself -/
theorem refl_twice {m : List (List Int)} {i : Int} {l : List Int} (hf : ∀ t, t < l.length → -9223372036854775808 ≤ l.getD t 0 ∧ l.getD t 0 ≤ 9223372036854775807) : refwL m i (refwL m i l) = l := by
  by_cases hok : RefOk m i l
  · have hok2 : RefOk m i (refwL m i l) := ⟨hok.1, by rw [refwL_len]; exact hok.2.1, hok.2.2⟩
    rw [refwL_yes hok2, refwL_yes hok]
    have hi : i.toNat < l.length := by have := hok.2.2; have := hok.2.1; omega
    have hb := rep_base hf
    have h2 := rep_step (m := m) (rep_step (m := m) hb hi) (i := i.toNat) (by rw [reflL_len]; exact hi)
    refine rep_eq h2 hb (by rw [reflL_len, reflL_len]) (fun t _ => ?_)
    have hd : entry m i.toNat i.toNat = 2 := isC_diag hok.1 (by have := hok.2.1; omega)
    unfold zR
    rw [hd]
    grind
  · rw [refwL_no hok, refwL_no hok]
/-! ### Braid relations -/
def St (m : List (List Int)) (j k : Nat) (V W : Nat → Int) (a b x y : Int) : Prop := (∀ t, W t = V t - x * entry m t j - y * entry m t k) ∧ W j = a ∧ W k = b
theorem st_zero (m : List (List Int)) (j k : Nat) (V : Nat → Int) : St m j k V V (V j) (V k) 0 0 := ⟨fun t => by omega, rfl, rfl⟩
theorem st_j {m : List (List Int)} {j k : Nat} {V W : Nat → Int} {a b x y q : Int} (h : St m j k V W a b x y) (hd : entry m j j = 2) (hq : entry m k j = q) : St m j k V (zR m j W) (a - a * 2) (b - a * q) (x + a) y := by
  obtain ⟨h1, h2, h3⟩ := h
  refine ⟨fun t => ?_, by unfold zR; rw [hd, h2], by unfold zR; rw [hq, h2, h3]⟩
  unfold zR
  rw [h2, h1 t, Int.add_mul]; omega
theorem st_k {m : List (List Int)} {j k : Nat} {V W : Nat → Int} {a b x y q : Int} (h : St m j k V W a b x y) (hd : entry m k k = 2) (hq : entry m j k = q) : St m j k V (zR m k W) (a - b * q) (b - b * 2) x (y + b) := by
  obtain ⟨h1, h2, h3⟩ := h
  refine ⟨fun t => ?_, by unfold zR; rw [hq, h2, h3], by unfold zR; rw [hd, h3]⟩
  unfold zR
  rw [h3, h1 t, Int.add_mul]; omega
theorem st_eq {m : List (List Int)} {j k : Nat} {V W W' : Nat → Int} {a b x y a' b' x' y' : Int} (h : St m j k V W a b x y) (h' : St m j k V W' a' b' x' y') (hx : x = x') (hy : y = y') (t : Nat) : W t = W' t := by
  rw [h.1 t, h'.1 t, hx, hy]
theorem zA_cons (m : List (List Int)) (i : Int) (ws : List Int) (V : Nat → Int) : zA m (i :: ws) V = zR m i.toNat (zA m ws V) := rfl
theorem zA_nil (m : List (List Int)) (V : Nat → Int) : zA m [] V = V := rfl
theorem braid2 {m : List (List Int)} {j k : Nat} (hj : entry m j j = 2) (hk : entry m k k = 2) {p q : Int} (hp : entry m j k = p) (hq : entry m k j = q) (V : Nat → Int) (h : p = 0 ∧ q = 0) (t : Nat) :
    zA m [(j : Int), k] V t = zA m [(k : Int), j] V t := by
  obtain ⟨rfl, rfl⟩ := h
  simp only [zA_cons, zA_nil, Int.toNat_natCast]
  exact st_eq (st_j (st_k (st_zero m j k V) hk hp) hj hq) (st_k (st_j (st_zero m j k V) hj hq) hk hp) (by omega) (by omega) t
theorem braid3 {m : List (List Int)} {j k : Nat} (hj : entry m j j = 2) (hk : entry m k k = 2) {p q : Int} (hp : entry m j k = p) (hq : entry m k j = q) (V : Nat → Int) (h : p = -1 ∧ q = -1) (t : Nat) :
    zA m [(j : Int), k, j] V t = zA m [(k : Int), j, k] V t := by
  obtain ⟨rfl, rfl⟩ := h
  simp only [zA_cons, zA_nil, Int.toNat_natCast]
  exact st_eq (st_j (st_k (st_j (st_zero m j k V) hj hq) hk hp) hj hq) (st_k (st_j (st_k (st_zero m j k V) hk hp) hj hq) hk hp) (by omega) (by omega) t
theorem braid4 {m : List (List Int)} {j k : Nat} (hj : entry m j j = 2) (hk : entry m k k = 2) {p q : Int} (hp : entry m j k = p) (hq : entry m k j = q) (V : Nat → Int) (h : (p = -1 ∧ q = -2) ∨ (p = -2 ∧ q = -1)) (t : Nat) :
    zA m [(j : Int), k, j, k] V t = zA m [(k : Int), j, k, j] V t := by
  simp only [zA_cons, zA_nil, Int.toNat_natCast]
  rcases h with ⟨rfl, rfl⟩ | ⟨rfl, rfl⟩
  all_goals exact st_eq (st_j (st_k (st_j (st_k (st_zero m j k V) hk hp) hj hq) hk hp) hj hq) (st_k (st_j (st_k (st_j (st_zero m j k V) hj hq) hk hp) hj hq) hk hp) (by omega) (by omega) t
theorem braid6 {m : List (List Int)} {j k : Nat} (hj : entry m j j = 2) (hk : entry m k k = 2) {p q : Int} (hp : entry m j k = p) (hq : entry m k j = q) (V : Nat → Int) (h : (p = -1 ∧ q = -3) ∨ (p = -3 ∧ q = -1)) (t : Nat) :
    zA m [(j : Int), k, j, k, j, k] V t = zA m [(k : Int), j, k, j, k, j] V t := by
  simp only [zA_cons, zA_nil, Int.toNat_natCast]
  rcases h with ⟨rfl, rfl⟩ | ⟨rfl, rfl⟩
  all_goals exact st_eq (st_j (st_k (st_j (st_k (st_j (st_k (st_zero m j k V) hk hp) hj hq) hk hp) hj hq) hk hp) hj hq) (st_k (st_j (st_k (st_j (st_k (st_j (st_zero m j k V) hj hq) hk hp) hj hq) hk hp) hj hq) hk hp) (by omega) (by omega) t
theorem act_eq {m : List (List Int)} {ws ws' l : List Int} (hf : ∀ t, t < l.length → -9223372036854775808 ≤ l.getD t 0 ∧ l.getD t 0 ≤ 9223372036854775807) (hw : ∀ i ∈ ws, i.toNat < l.length) (hw' : ∀ i ∈ ws', i.toNat < l.length)
    (h : ∀ V t, zA m ws V t = zA m ws' V t) : actW m ws l = actW m ws' l :=
  rep_eq (rep_act (rep_base hf) hw) (rep_act (rep_base hf) hw') (by rw [actW_len, actW_len]) (fun t _ => h _ t)
end Go.Proofs.YtfjeghalkmkgoaaGreatDoor
namespace Go.Proofs.YtfjeghalkmkgoaaGreatDoor
open Go.RowKit

theorem RowB.drawn1 {B : Nat} {w : World} {v : Value} {l : List Int} (h : RowB B w v l) (q : Nat) : RowB B (w.drewN q) v l := h.drewN q
set_option maxHeartbeats 2000000 in
set_option maxRecDepth 100000 in
theorem isws_any (B B' : Nat) (v v' : Value) (m : List (List Int)) (l : List Int) (w : World) (h : MatB B w v m) (h' : RowB B' w v' l) (hf : RowsFit m) (hl : l.length ≤ maxLen) :
    Calls Tryz.prog 50 #[v, v'] w fun e w' => e = .returned (.bool (wordB m l)) ∧ ∃ q, w' = w.drewN q := by
  obtain ⟨a, cap, rfl⟩ := h.slice
  obtain ⟨a', cap', rfl⟩ := h'.slice
  have HISC := Lib.hid (fun c (hc : isB m = c) q => isc_q B _ m c hc w h hf q)
  have HL := Lib.hid h'
  have hml := hf.1
  unfold maxLen at hl hml
  clear h h' hf
  have HNO := Lib.hid (fun (k : Nat) (hk : k < l.length) (h : ¬ (0 ≤ l.getD k 0 ∧ l.getD k 0 ≤ (m.length : Int) - 1)) => wordB_no (isW_bad (c := m) hk h))
  have HEND := Lib.hid (fun (h : LetTo m.length l l.length) => show wordB m l = (isB m && decide (l.length ≤ 15)) from by
    by_cases hI : IsC m
    · by_cases h15 : l.length ≤ 15
      · rw [wordB_yes ⟨h, hI, h15⟩, isB_yes hI, decide_eq_true h15]; rfl
      · rw [wordB_no (fun h' => h15 h'.2.2), decide_eq_false h15, Bool.and_false]
    · rw [wordB_no (fun h' => hI h'.2.1), isB_no hI, Bool.false_and])
  generalize wordB m l = R at *
  generalize isB m = ib at *
  generalize m.length = n at *
  generalize hln : l.length = L at *
  have HLN := Lib.hid hln; clear hln
  go_enter Tryz.func50, Tryz.ntmps50
  go_wp2_with fail
  go_loopw [5] (fun i wr => ∃ (k q : Nat), k ≤ L ∧ i = .int .i64 k ∧ wr = w.drewN q ∧ Hid (LetTo n l k)) (fun i _ => L - (intOf i).toNat)
  case atStart => exact ⟨0, 0, Nat.zero_le _, rfl, rfl, Lib.hid (letTo_zero _ _)⟩
  case round =>
    obtain ⟨k, q, hk, rfl, rfl, hs⟩ := hrel
    by_cases hlt : k < L
    · obtain ⟨b, off, rfl, hb, hc⟩ := HL.out.getD hlt
      by_cases hin : 0 ≤ l.getD k 0 ∧ l.getD k 0 ≤ (n : Int) - 1
      · have HST := Lib.hid (letTo_step hs.out hin)
        have HIN := Lib.hid (inB_yes hin)
        clear hin hs
        generalize l.getD k 0 = x at *
        go_wp2_with fail
        refine (l1in_q _ _ _ true HIN.out _ _).mono ?_
        rintro e w' ⟨rfl, nq, rfl⟩
        go_wp2_with fail
        exact ⟨⟨k + 1, q + nq, by omega, by go_num, rfl, HST⟩, by simp [intOf]; omega⟩
      · have HBAD := Lib.hid (HNO.out k hlt hin)
        have HIN := Lib.hid (inB_no hin)
        clear hin hs
        generalize l.getD k 0 = x at *
        go_wp2_with fail
        refine (l1in_q _ _ _ false HIN.out _ _).mono ?_
        rintro e w' ⟨rfl, nq, rfl⟩
        go_wp2_with fail
        go_ret
        exact ⟨ret_boolean HBAD.out.symm, q + nq, rfl⟩
    · obtain rfl : k = L := by omega
      have HE := Lib.hid (HEND.out hs.out)
      have HLK : decide ((k : Int) ≤ 15) = decide (k ≤ 15) := decide_eq_decide.2 (by omega)
      clear HEND HNO hs
      go_wp2_with fail
      refine (HISC.out _ rfl q).mono ?_
      rintro e w' ⟨rfl, nq, rfl⟩
      cases ib
      all_goals
        go_wp2_with fail
        go_ret
        exact ⟨ret_boolean (by rw [HE.out]; first | rfl | (rw [HLK, Bool.true_and])), q + nq, rfl⟩

theorem rev_take {l : List Int} {k : Nat} (h : k < l.length) : (l.drop (k + 1)).reverse ++ [l.getD k 0] = (l.drop k).reverse := by
  rw [List.drop_eq_getElem_cons h, List.reverse_cons]; simp [List.getD, h]
end Go.Proofs.YtfjeghalkmkgoaaGreatDoor
namespace Go.Proofs.YtfjeghalkmkgoaaGreatDoor
open Go.RowKit

set_option maxHeartbeats 2000000 in
set_option maxRecDepth 100000 in
theorem iswts_any (B B' : Nat) (v v' : Value) (m : List (List Int)) (l : List Int) (w : World) (h : MatB B w v m) (h' : RowB B' w v' l) (hf : RowsFit m) (hl : l.length ≤ maxLen) :
    Calls Tryz.prog 10 #[v, v'] w fun e w' => e = .returned (.bool (wtB m l)) ∧ ∃ q, w' = w.drewN q := by
  obtain ⟨a, cap, rfl⟩ := h.slice
  obtain ⟨a', cap', rfl⟩ := h'.slice
  have HISC := Lib.hid (fun c (hc : isB m = c) q => isc_q B _ m c hc w h hf q)
  have HL := Lib.hid h'
  have hml := hf.1
  unfold maxLen at hl hml
  clear h h' hf
  have HNO := Lib.hid (fun (k : Nat) (hk : k < l.length) (h : ¬ (-1000 ≤ l.getD k 0 ∧ l.getD k 0 ≤ 1000)) => wtB_no (isWt_bad (c := m) hk h))
  have HEND := Lib.hid (fun (h : WtTo l l.length) => show wtB m l = (isB m && decide (l.length = m.length)) from by
    rw [wtB_is, wtlB_yes h, Bool.and_true])
  generalize wtB m l = R at *
  generalize isB m = ib at *
  generalize m.length = n at *
  generalize hln : l.length = L at *
  have HLN := Lib.hid hln; clear hln
  go_enter Tryz.func10, Tryz.ntmps10
  go_wp2_with fail
  go_loopw [5] (fun i wr => ∃ (k q : Nat), k ≤ L ∧ i = .int .i64 k ∧ wr = w.drewN q ∧ Hid (WtTo l k)) (fun i _ => L - (intOf i).toNat)
  case atStart => exact ⟨0, 0, Nat.zero_le _, rfl, rfl, Lib.hid (wtTo_zero _)⟩
  case round =>
    obtain ⟨k, q, hk, rfl, rfl, hs⟩ := hrel
    by_cases hlt : k < L
    · obtain ⟨b, off, rfl, hb, hc⟩ := HL.out.getD hlt
      by_cases hin : -1000 ≤ l.getD k 0 ∧ l.getD k 0 ≤ 1000
      · have HST := Lib.hid (wtTo_step hs.out hin)
        have HIN := Lib.hid (inB_yes hin)
        clear hin hs
        generalize l.getD k 0 = x at *
        go_wp2_with fail
        refine (l1in_q _ _ _ true HIN.out _ _).mono ?_
        rintro e w' ⟨rfl, nq, rfl⟩
        go_wp2_with fail
        exact ⟨⟨k + 1, q + nq, by omega, by go_num, rfl, HST⟩, by simp [intOf]; omega⟩
      · have HBAD := Lib.hid (HNO.out k hlt hin)
        have HIN := Lib.hid (inB_no hin)
        clear hin hs
        generalize l.getD k 0 = x at *
        go_wp2_with fail
        refine (l1in_q _ _ _ false HIN.out _ _).mono ?_
        rintro e w' ⟨rfl, nq, rfl⟩
        go_wp2_with fail
        go_ret
        exact ⟨ret_boolean HBAD.out.symm, q + nq, rfl⟩
    · obtain rfl : k = L := by omega
      have HE := Lib.hid (HEND.out hs.out)
      have hdl : decide (k < k) = false := by simp
      have HLK : ((k : Int) == (n : Int)) = decide (k = n) := by
        by_cases h : k = n
        · subst h; simp
        · rw [decide_eq_false h, beq_eq_false_iff_ne]; omega
      have HLK := Lib.hid HLK
      clear HEND HNO hs
      go_wp2_with fail
      refine (HISC.out _ rfl q).mono ?_
      rintro e w' ⟨rfl, nq, rfl⟩
      cases ib
      all_goals
        go_wp2_with fail
        go_ret
        exact ⟨ret_boolean (by rw [HE.out]; first | rfl | (rw [HLK.out, Bool.true_and])), q + nq, rfl⟩
end Go.Proofs.YtfjeghalkmkgoaaGreatDoor
