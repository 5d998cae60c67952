/-
  The draws of words.
  A text that is spoiled: what the call returns.
  Words: what the functions of chapter 5 answer (no walk here).
-/
import Derived.Test.YtfjeghalkmkgoaaGreatDoorFW15
import Derived.Laws.Slices
import Derived.IntWalk
import Derived.Laws.Strings2
import Derived.Laws.Strings3
import Derived.Deep.RegionWith
import Derived.Deep.QuietTactic
import Derived.BigQuiet
import Derived.Test.YtfjeghalkmkgoaaGreatDoorFW13
import Derived.Test.YtfjeghalkmkgoaaGreatDoorFW01
import Derived.Test.YtfjeghalkmkgoaaGreatDoorFW04
import Derived.Test.YtfjeghalkmkgoaaGreatDoorFW05
namespace Go.Proofs.YtfjeghalkmkgoaaGreatDoor
open Go.RowKit

set_option maxHeartbeats 2000000 in
set_option maxRecDepth 100000 in
theorem l5w_any (B C : Nat) (w : World) (cv : Value) (len : Nat) (hd : Dr B C cv len w) (a : Option Addr) (n cap : Nat) (hn : n ≤ 100) (most : Nat) (hm : most ≤ 100) :
    Calls Tryz.prog 41 #[.pointer (some ⟨C, 0, none⟩), .slice a n cap, .int .i64 most] w fun e w' => ∃ x l, e = .returned x ∧ DrTo B C cv len w w' ∧ OwnS w.heap.size w'.heap.size w' x l ∧ l.length ≤ most := by
  have hCw := hd.lt
  have HD := Lib.hid hd; clear hd
  have hb0 : Below w.heap.size w (w.alloc (.cells #[] 3)) := (Below.refl _ _).alloc (Nat.le_refl _) _
  have HD0 := Lib.hid (show DrTo B C cv len w (w.alloc (.cells #[] 3)) from ⟨HD.out.alloc _, grown_of_below hb0⟩)
  have HBE := Lib.hid (below_any B C (w.alloc (.cells #[] 3)) cv len (most + 1) (by omega) (by omega) HD0.out.1)
  have e1 : ((most + 1 : Nat) : Int) = (most : Int) + 1 := by omega
  rw [e1] at HBE
  have HMX := Lib.hid (show ∃ p : Nat, 1 ≤ p ∧ p ≤ 100 ∧ (if (1 : Int) < (n : Int) then (n : Int) else 1) = (p : Int) from by
    by_cases h : 1 < n
    · exact ⟨n, by omega, hn, by rw [if_pos (by omega)]⟩
    · exact ⟨1, by omega, by omega, by rw [if_neg (by omega)]; rfl⟩)
  clear hb0 e1
  go_enter Tryz.func41, Tryz.ntmps41
  go_wp2_with fail
  refine HBE.out.mono ?_
  rintro e w1 ⟨r, hr, rfl, hd1⟩
  have HD1 := Lib.hid (HD0.out.trans hd1)
  have HR1 := Lib.hid ((row_empty w).drawn hCw hd1)
  have hs1 := hd1.2.size
  clear hd1 HBE
  obtain ⟨wz, hwz⟩ : ∃ wz : World, wz = w1 := ⟨_, rfl⟩
  have HWZ := Lib.hid hwz; clear hwz
  go_wp2_with fail
  go_loopw [7, 8] (fun o i wr => ∃ (t : Nat) (l : List Int) (wq : World), wq = wr ∧ t ≤ most ∧ i = .int .i64 t ∧ RowI w.heap.size wq.heap.size wq o l ∧ l.length + t ≤ most ∧ DrTo B C cv len w wq) (fun _ i _ => (intOf i).toNat)
  case atStart => exact ⟨r, [], _, rfl, by omega, rfl, HR1.out, by simp; omega, HD1.out⟩
  case round =>
    obtain ⟨t, l, wq, rfl, ht, rfl, hr', hll, hdq⟩ := hrel
    have HR := Lib.hid hr'; have HDQ := Lib.hid hdq
    have hdr1 : Dr B C cv len wq := hdq.1
    have hsq := hdq.2.size
    clear hr' hdq
    by_cases hlt : 0 < t
    · have hlt' : decide ((0 : Int) < (t : Int)) = true := decide_eq_true (by omega)
      have HB1 := Lib.hid (fun (wx : World) (hx : Dr B C cv len wx) => show Calls Tryz.prog 55 #[.pointer (some ⟨C, 0, none⟩), .int .i64 1] wx fun e w' => ∃ r : Nat, r < 1 ∧ e = .returned (.int .i64 r) ∧ DrTo B C cv len wx w' from below_any B C wx cv len 1 (by omega) (by omega) hx)
      have HDR1 := Lib.hid hdr1
      have HBN := Lib.hid (fun (wx : World) (h1 : 1 ≤ n) (hx : Dr B C cv len wx) => below_any B C wx cv len n h1 (by omega) hx)
      have HL4 := Lib.hid (show l.length ≤ 4194304 by omega)
      go_wp2_with fail
      all_goals
        first
          | (with_reducible refine (HB1.out _ HDR1.out).mono ?_)
          | (with_reducible refine (HBN.out _ (by omega) HDR1.out).mono ?_)
        rintro e w3 ⟨y, hy, rfl, hd3⟩
        have HD3 := Lib.hid (HDQ.out.trans hd3)
        have HR3 := Lib.hid (HR.out.drawn hCw hd3)
        have hs3 := hd3.2.size
        have hsz3 : w.heap.size ≤ w3.heap.size := by omega
        clear hd3 HB1 HBN HDR1 hdr1
        go_wp2_with (at_builtin; go_must (refine append_int HR3.out hsz3 (y : Int) rfl rfl rfl rfl HL4.out ?_; intro v4 w4 hr4 hb4 hz4))
        have HR4 := Lib.hid hr4
        have HD4 := Lib.hid (HD3.out.past (hb4 w3 w.heap.size (Nat.le_refl _) (Below.refl _ _)) hCw)
        clear hr4 hb4 hz4
        go_wp2_with fail
        exact ⟨⟨t - 1, _, _, rfl, by omega, by rw [Int.ofNat_sub (by omega)]; rfl, HR4.out, by rw [List.length_append]; simp; omega, HD4.out⟩, by simp [intOf]; omega⟩
    · obtain rfl : t = 0 := by omega
      go_wp2_with fail
      go_ret
      exact ⟨_, l, rfl, HDQ.out, ⟨HR.out, Nat.le_refl _⟩, by omega⟩

def DrawnMW (w : World) (e : Ending) (w' : World) : Prop :=
  ∃ x y a l, e = .returned (.tuple #[x, y]) ∧ Below w.heap.size w w' ∧ OwnK w.heap.size w'.heap.size w' x a ∧ AnyM a ∧ OwnS w.heap.size w'.heap.size w' y l ∧ l.length ≤ 12
end Go.Proofs.YtfjeghalkmkgoaaGreatDoor
namespace Go.Proofs.YtfjeghalkmkgoaaGreatDoor
open Go.RowKit

theorem some_byte (z : Int) : ∃ b : UInt8, (b.toNat : Int) = IntKind.u8.wrap z := by
  have h : 0 ≤ IntKind.u8.wrap z ∧ IntKind.u8.wrap z ≤ 255 := by
    unfold IntKind.wrap
    simp [IntKind.signed, IntKind.bits]
    omega
  refine ⟨UInt8.ofNat (IntKind.u8.wrap z).toNat, ?_⟩
  rw [UInt8.toNat_ofNat_of_lt' (by have := h.2; show _ < 256; omega)]
  omega
def byteOf (z : Int) : UInt8 := UInt8.ofNat (IntKind.u8.wrap z).toNat
theorem byteOf_eq (z : Int) : ((byteOf z).toNat : Int) = IntKind.u8.wrap z := by
  have h : 0 ≤ IntKind.u8.wrap z ∧ IntKind.u8.wrap z ≤ 255 := by
    unfold IntKind.wrap
    simp [IntKind.signed, IntKind.bits]
    omega
  unfold byteOf
  rw [UInt8.toNat_ofNat_of_lt' (by have := h.2; show _ < 256; omega)]
  omega
theorem byteOf_mod (z : Int) : ((byteOf z).toNat : Int) = z % 256 := by rw [byteOf_eq, IntKind.wrap_u8]
/-- What a call that draws a text leaves. -/
def DrT (B C : Nat) (cv : Value) (len : Nat) (most : Nat) (w : World) (e : Ending) (w' : World) : Prop := ∃ t : ByteArray, t.size ≤ most ∧ e = .returned (.string t) ∧ DrTo B C cv len w w'
set_option maxHeartbeats 2000000 in
set_option maxRecDepth 100000 in
theorem spoil_any (B C : Nat) (w : World) (cv : Value) (len : Nat) (s : ByteArray) (n : Nat) (hn : s.size = n) (hs : n ≤ 100000) (hd : Dr B C cv len w) :
    Calls Tryz.prog 45 #[.pointer (some ⟨C, 0, none⟩), .string s] w (DrT B C cv len (n + 3) w) := by
  have hC := hd.lt
  by_cases h0 : n = 0
  · have hs0 : s = ⟨#[]⟩ := by
      cases s with
      | mk d => simp [ByteArray.size] at hn; have : d = #[] := by apply Array.eq_empty_of_size_eq_zero; omega
                rw [this]
    have HT := Lib.hid (text_any B C w cv len 3 (by omega) hd)
    subst hs0
    clear hd hn
    subst h0
    go_enter Tryz.func45, Tryz.ntmps45
    go_wp2_with fail
    refine HT.out.mono ?_
    rintro e w1 ⟨t, ht, rfl, h1⟩
    have H1 := Lib.hid h1; clear h1
    go_wp2_with fail
    go_ret
    exact ⟨t, by omega, rfl, H1.out⟩
  · have hsn : ((s.size : Int) == 0) = false := by rw [beq_eq_false_iff_ne]; omega
    have HBE := Lib.hid (below_any B C w cv len n (by omega) (by omega) hd)
    clear hd
    go_enter Tryz.func45, Tryz.ntmps45
    go_wp2_with fail
    try rw [hn]
    refine HBE.out.mono ?_
    rintro e w1 ⟨k, hk, rfl, hd1⟩
    have HD1 := Lib.hid hd1
    have hs1 := hd1.2.size
    have HB4 := Lib.hid (below_any B C w1 cv len 4 (by omega) (by omega) hd1.1)
    clear hd1 HBE
    go_wp2_with fail
    refine HB4.out.mono ?_
    rintro e w2 ⟨r, hr, rfl, hd2⟩
    have HD2 := Lib.hid (HD1.out.trans hd2)
    have hs2 := hd2.2.size
    clear hd2 HB4 HD1
    have hks : k < s.size := by omega
    obtain ⟨x1, hx1, hx1s⟩ : ∃ x : ByteArray, s.extract 0 k = x ∧ x.size ≤ n := ⟨_, rfl, by rw [ByteArray.size_extract]; omega⟩
    obtain ⟨x2, hx2, hx2s⟩ : ∃ x : ByteArray, s.extract k n = x ∧ x.size ≤ n := ⟨_, rfl, by rw [ByteArray.size_extract]; omega⟩
    obtain ⟨x3, hx3, hx3s⟩ : ∃ x : ByteArray, s.extract (k + 1) n = x ∧ x.size ≤ n := ⟨_, rfl, by rw [ByteArray.size_extract]; omega⟩
    have hx12 : x1.size + x2.size ≤ n := by rw [← hx1, ← hx2, ByteArray.size_extract, ByteArray.size_extract]; omega
    have hx13 : x1.size + x3.size ≤ n := by rw [← hx1, ← hx3, ByteArray.size_extract, ByteArray.size_extract]; omega
    rcases (show r = 0 ∨ r = 1 ∨ r = 2 ∨ r = 3 by omega) with rfl | rfl | rfl | rfl
    · go_wp2_with fail
      go_quiet (fail)
      go_wp2_with fail
      go_ret
      exact ⟨_, by rw [ByteArray.size_append]; omega, rfl, HD2.out.trans (DrTo.of_below HD2.out.1 (below_drewN _))⟩
    · have HDD := Lib.hid (show Dr B C cv len w2.drew from (DrTo.of_below HD2.out.1 ((Below.refl _ _).drew)).1)
      have HBY := Lib.hid (byte_any B C w2.drew cv len HDD.out)
      go_wp2_with fail
      go_region_with (go_at_call 68; refine HBY.out.mono ?_; rintro e w3 ⟨y, hy, rfl, hd3⟩; have HD3 := Lib.hid hd3; obtain ⟨b, hb⟩ := some_byte (y : Int); have hcv := conv_byte w3 b hb; have hcv2 := conv_byte w3 b (u := (y : Int)) (by rw [hb]; exact IntWalk.u8_in _ (by omega)); clear hb; have hbs : (⟨#[b]⟩ : ByteArray).size ≤ 1 := Nat.le_refl _; have hxb : (x1 ++ ⟨#[b]⟩).size ≤ x1.size + 1 := by rw [ByteArray.size_append]; exact Nat.le_refl _)
      all_goals
        go_wp2_with fail
        go_ret
        exact ⟨_, by rw [ByteArray.size_append]; omega, rfl, (HD2.out.trans ((DrTo.of_below HD2.out.1 (Below.refl _ _).drew).trans HD3.out)).trans (DrTo.of_below HD3.out.1 ((Below.refl _ _).alloc (Nat.le_refl _) _))⟩
    · go_wp2_with fail
      go_ret
      exact ⟨x1, by omega, rfl, HD2.out⟩
    · have HDD := Lib.hid (show Dr B C cv len w2.drew from (DrTo.of_below HD2.out.1 ((Below.refl _ _).drew)).1)
      have HBY := Lib.hid (below_any B C w2.drew cv len 255 (by omega) (by omega) HDD.out)
      go_wp2_with fail
      have hw1 : IntKind.i64.wrap ((k : Int) + 1) = (k : Int) + 1 := IntWalk.i64_in _ (by omega)
      have hw2 : 0 ≤ (k : Int) + 1 := by omega
      have hw3 : ((k : Int) + 1).toNat = k + 1 := by omega
      have hw4 : (k : Int) + 1 ≤ n := by omega
      go_region_with (go_at_call 55; refine HBY.out.mono ?_; rintro e w3 ⟨y, hy, rfl, hd3⟩; have HD3 := Lib.hid hd3; have hcv := fun z : Int => conv_byte w3 (byteOf z) (byteOf_mod z); have hcv3 := fun z : Int => conv_byte w3 (byteOf z) (byteOf_eq z); have hbs : ∀ z, (⟨#[byteOf z]⟩ : ByteArray).size = 1 := fun _ => rfl; have hxb : ∀ z, (x1 ++ ⟨#[byteOf z]⟩).size = x1.size + 1 := fun z => by rw [ByteArray.size_append]; rfl)
      all_goals
        clear hcv hcv3 hbs
        go_wp2_with fail
        go_ret
        exact ⟨_, by rw [ByteArray.size_append, hxb]; omega, rfl, (HD2.out.trans ((DrTo.of_below HD2.out.1 (Below.refl _ _).drew).trans HD3.out)).trans (DrTo.of_below HD3.out.1 ((Below.refl _ _).alloc (Nat.le_refl _) _))⟩
end Go.Proofs.YtfjeghalkmkgoaaGreatDoor
namespace Go.Proofs.YtfjeghalkmkgoaaGreatDoor
open Go.RowKit

/-! ### Words over points -/
def LetTo (n : Nat) (l : List Int) (k : Nat) : Prop := ∀ j, j < k → 0 ≤ l.getD j 0 ∧ l.getD j 0 ≤ (n : Int) - 1
theorem letTo_zero (n : Nat) (l : List Int) : LetTo n l 0 := fun _ hj => absurd hj (Nat.not_lt_zero _)
theorem letTo_step {n k : Nat} {l : List Int} (h : LetTo n l k) (hk : 0 ≤ l.getD k 0 ∧ l.getD k 0 ≤ (n : Int) - 1) : LetTo n l (k + 1) := fun j hj => by
  rcases Nat.lt_or_ge j k with h' | h'
  · exact h j h'
  · obtain rfl : j = k := by omega
    exact hk
def IsW (c : List (List Int)) (l : List Int) : Prop := LetTo c.length l l.length ∧ IsC c ∧ l.length ≤ 15
open Classical in
noncomputable def wordB (c : List (List Int)) (l : List Int) : Bool := decide (IsW c l)
open Classical in
theorem wordB_yes {c : List (List Int)} {l : List Int} (h : IsW c l) : wordB c l = true := decide_eq_true h
open Classical in
theorem wordB_no {c : List (List Int)} {l : List Int} (h : ¬ IsW c l) : wordB c l = false := decide_eq_false h
theorem isW_bad {c : List (List Int)} {l : List Int} {k : Nat} (hk : k < l.length) (h : ¬ (0 ≤ l.getD k 0 ∧ l.getD k 0 ≤ (c.length : Int) - 1)) : ¬ IsW c l := fun h' => h (h'.1 k hk)

/-! ### Which of two words comes first -/
def cmpL : List Int → List Int → Int
  | x :: a, y :: b => if x < y then -1 else if y < x then 1 else cmpL a b
  | _, _ => 0
def cmpW (a b : List Int) : Int := if a.length < b.length then -1 else if b.length < a.length then 1 else cmpL a b
theorem cmpL_same (a : List Int) : ∀ b, cmpL (a ++ b) (a ++ b) = cmpL b b := by
  induction a with
  | nil => intro b; rfl
  | cons x a ih => intro b; simp [cmpL, ih]
theorem cmpL_refl (a : List Int) : cmpL a a = 0 := by
  induction a with
  | nil => rfl
  | cons x a ih => simp [cmpL, ih]
theorem cmpL_front {p a b : List Int} : cmpL (p ++ a) (p ++ b) = cmpL a b := by
  induction p with
  | nil => rfl
  | cons x p ih => simp [cmpL, ih]
theorem cmpL_at {a b : List Int} {k : Nat} (ha : k < a.length) (hb : k < b.length) (he : a.take k = b.take k) (hne : a.getD k 0 ≠ b.getD k 0) : cmpL a b = if a.getD k 0 < b.getD k 0 then -1 else 1 := by
  have e1 : a.getD k 0 = a[k] := by simp [List.getD, ha]
  have e2 : b.getD k 0 = b[k] := by simp [List.getD, hb]
  rw [e1, e2] at hne ⊢
  conv => lhs; rw [← List.take_append_drop k a, ← List.take_append_drop k b, he, cmpL_front, List.drop_eq_getElem_cons ha, List.drop_eq_getElem_cons hb]
  unfold cmpL
  by_cases h1 : a[k] < b[k]
  · rw [if_pos h1, if_pos h1]
  · rw [if_neg h1, if_neg h1, if_pos (by omega)]
theorem cmpW_lt {a b : List Int} (h : a.length < b.length) : cmpW a b = -1 := if_pos h
theorem cmpW_gt {a b : List Int} (h : b.length < a.length) : cmpW a b = 1 := by unfold cmpW; rw [if_neg (by omega), if_pos h]
theorem cmpW_eq {a b : List Int} (h : a.length = b.length) : cmpW a b = cmpL a b := by unfold cmpW; rw [if_neg (by omega), if_neg (by omega)]
theorem cmpW_at {a b : List Int} {k : Nat} (hl : a.length = b.length) (hk : k < a.length) (he : a.take k = b.take k) (hne : a.getD k 0 ≠ b.getD k 0) : cmpW a b = if a.getD k 0 < b.getD k 0 then -1 else 1 := by
  rw [cmpW_eq hl]; exact cmpL_at hk (by omega) he hne
theorem cmpL_zero {a : List Int} : ∀ {b}, a.length = b.length → cmpL a b = 0 → a = b := by
  induction a with
  | nil => intro b h _; cases b with
    | nil => rfl
    | cons y b => simp at h
  | cons x a ih =>
    intro b h hc
    cases b with
    | nil => simp at h
    | cons y b =>
      unfold cmpL at hc
      by_cases h1 : x < y
      · rw [if_pos h1] at hc; omega
      · rw [if_neg h1] at hc
        by_cases h2 : y < x
        · rw [if_pos h2] at hc; omega
        · rw [if_neg h2] at hc
          rw [ih (by simpa using h) hc, show x = y by omega]
theorem cmpW_zero {a b : List Int} : cmpW a b = 0 ↔ a = b := by
  constructor
  · intro h
    rcases Nat.lt_trichotomy a.length b.length with h1 | h1 | h1
    · rw [cmpW_lt h1] at h; omega
    · rw [cmpW_eq h1] at h; exact cmpL_zero h1 h
    · rw [cmpW_gt h1] at h; omega
  · rintro rfl
    rw [cmpW_eq rfl, cmpL_refl]
theorem cmpL_neg (a : List Int) : ∀ b, cmpL b a = - cmpL a b := by
  induction a with
  | nil => intro b; cases b <;> rfl
  | cons x a ih =>
    intro b
    cases b with
    | nil => rfl
    | cons y b =>
      unfold cmpL
      by_cases h1 : x < y
      · rw [if_pos h1, if_neg (by omega), if_pos h1]; rfl
      · by_cases h2 : y < x
        · rw [if_pos h2, if_neg h1, if_pos h2]
        · rw [if_neg h1, if_neg h2, if_neg h2, if_neg h1, ih]
theorem cmpW_neg (a b : List Int) : cmpW b a = - cmpW a b := by
  rcases Nat.lt_trichotomy a.length b.length with h1 | h1 | h1
  · rw [cmpW_lt h1, cmpW_gt h1]; rfl
  · rw [cmpW_eq h1, cmpW_eq h1.symm, cmpL_neg]
  · rw [cmpW_lt h1, cmpW_gt h1]

/-! ### The letters that occur -/
def putS (x : Int) (s : List Int × Bool) (y : Int) : List Int × Bool :=
  let p := s.2 || decide (y = x)
  if decide (x < y) && !p then (s.1 ++ [x, y], true) else (s.1 ++ [y], p)
def putP (x : Int) (l : List Int) : List Int × Bool := l.foldl (putS x) ([], false)
def putL (l : List Int) (x : Int) : List Int := if (putP x l).2 then (putP x l).1 else (putP x l).1 ++ [x]
theorem putP_snoc (x : Int) (l : List Int) (y : Int) : putP x (l ++ [y]) = putS x (putP x l) y := by simp [putP]
theorem putP_take {x : Int} {l : List Int} {k : Nat} (h : k < l.length) : putP x (l.take (k + 1)) = putS x (putP x (l.take k)) (l.getD k 0) := by
  rw [List.take_succ_eq_append_getElem h, putP_snoc]; simp [List.getD, h]
theorem putS_len (x : Int) (s : List Int × Bool) (y : Int) : (putS x s y).1.length + (if (putS x s y).2 then 0 else 1) ≤ s.1.length + 1 + (if s.2 then 0 else 1) := by
  unfold putS
  simp only []
  split
  · rename_i h
    simp only [Bool.and_eq_true, Bool.not_eq_true', Bool.or_eq_false_iff] at h
    rw [h.2.1]; simp
  · cases s.2 <;> simp
    split <;> omega
theorem putP_len (x : Int) (l : List Int) : (putP x l).1.length + (if (putP x l).2 then 0 else 1) ≤ l.length + 1 := by
  have : ∀ (l : List Int) (s : List Int × Bool), (l.foldl (putS x) s).1.length + (if (l.foldl (putS x) s).2 then 0 else 1) ≤ s.1.length + l.length + (if s.2 then 0 else 1) := by
    intro l
    induction l with
    | nil => intro s; exact Nat.le_refl _
    | cons y l ih =>
      intro s
      rw [List.foldl_cons]
      refine Nat.le_trans (ih _) ?_
      have := putS_len x s y
      simp only [List.length_cons]
      omega
  have h := this l ([], false)
  simp at h
  unfold putP
  omega
theorem putL_len (l : List Int) (x : Int) : (putL l x).length ≤ l.length + 1 := by
  have := putP_len x l
  unfold putL
  split
  · rename_i h; rw [h] at this; simp at this; exact this
  · rename_i h
    have h' : (putP x l).2 = false := by simpa using h
    rw [h'] at this; simp at this ⊢; omega
def suppL (w : List Int) : List Int := w.foldl putL []
theorem suppL_take {w : List Int} {k : Nat} (h : k < w.length) : suppL (w.take (k + 1)) = putL (suppL (w.take k)) (w.getD k 0) := by
  rw [List.take_succ_eq_append_getElem h]
  unfold suppL
  rw [List.foldl_append]
  simp [List.getD, h]
theorem suppL_len (w : List Int) : (suppL w).length ≤ w.length := by
  have : ∀ (w l : List Int), (w.foldl putL l).length ≤ l.length + w.length := by
    intro w
    induction w with
    | nil => intro l; simp
    | cons x w ih =>
      intro l
      rw [List.foldl_cons]
      have := putL_len l x
      refine Nat.le_trans (ih _) ?_
      simp only [List.length_cons]
      omega
  simpa [suppL] using this w []

/-! ### Letters in turn -/
def altK (i j : Int) (k : Nat) : List Int := (List.range k).map fun t => if t % 2 = 0 then i else j
theorem altK_len (i j : Int) (k : Nat) : (altK i j k).length = k := by simp [altK]
theorem altK_even {i j : Int} {k : Nat} (h : k % 2 = 0) : altK i j k ++ [i] = altK i j (k + 1) := by simp [altK, List.range_succ, h]
theorem altK_odd {i j : Int} {k : Nat} (h : ¬ k % 2 = 0) : altK i j k ++ [j] = altK i j (k + 1) := by simp [altK, List.range_succ, h]
def altL (i j n : Int) : List Int := altK i j (min n.toNat 15)

/-! ### Texts -/
def letC (x : Int) : UInt8 := UInt8.ofNat (49 + x.toNat)
def fmtTo (w : List Int) (k : Nat) : List UInt8 := (w.take k).map letC
theorem fmtTo_step {w : List Int} {k : Nat} (h : k < w.length) : fmtTo w k ++ [letC (w.getD k 0)] = fmtTo w (k + 1) := by
  unfold fmtTo
  rw [List.take_succ_eq_append_getElem h, List.map_append]; simp [List.getD, h]
theorem fmtTo_len (w : List Int) (k : Nat) : (fmtTo w k).length ≤ k := by simp [fmtTo]; omega
open Classical in
noncomputable def fmtW (w : List Int) : List UInt8 := if LetTo 4 w w.length then (if w = [] then [101] else w.map letC) else []
theorem fmtW_bad {w : List Int} (h : ¬ LetTo 4 w w.length) : fmtW w = [] := if_neg h
theorem fmtW_nil : fmtW [] = [101] := by unfold fmtW; rw [if_pos (show LetTo 4 [] ([] : List Int).length from letTo_zero _ _), if_pos rfl]
theorem fmtW_full {w : List Int} (h : LetTo 4 w w.length) (hne : w ≠ []) : fmtW w = w.map letC := by unfold fmtW; rw [if_pos h, if_neg hne]
def letN (b : UInt8) : Int := (b.toNat : Int) - 49
def parW (l : List UInt8) : List Int := if l = [101] then [] else l.map letN
def PwOk (c : List (List Int)) (l : List UInt8) : Prop := l ≠ [] ∧ IsW c (parW l)
open Classical in
noncomputable def pwB (c : List (List Int)) (l : List UInt8) : Bool := decide (PwOk c l)
open Classical in
theorem pwB_yes {c : List (List Int)} {l : List UInt8} (h : PwOk c l) : pwB c l = true := decide_eq_true h
open Classical in
theorem pwB_no {c : List (List Int)} {l : List UInt8} (h : ¬ PwOk c l) : pwB c l = false := decide_eq_false h
noncomputable def pwL (c : List (List Int)) (l : List UInt8) : List Int := if pwB c l = true then parW l else []
theorem pwL_yes {c : List (List Int)} {l : List UInt8} (h : PwOk c l) : pwL c l = parW l := if_pos (pwB_yes h)
theorem pwL_no {c : List (List Int)} {l : List UInt8} (h : ¬ PwOk c l) : pwL c l = [] := by unfold pwL; rw [pwB_no h]; rfl
end Go.Proofs.YtfjeghalkmkgoaaGreatDoor
