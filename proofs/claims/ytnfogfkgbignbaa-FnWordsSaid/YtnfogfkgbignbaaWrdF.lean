/-
  Words: what the program's FormatWord, ParseWord and AlternatingWord return.
-/
import Derived.Test.YtnfogfkgbignbaaWrdU
import Derived.Test.YtnfogfkgbignbaaWrdI
import Derived.Test.YtnfogfkgbignbaaWrdV
import Derived.Test.YtnfogfkgbignbaaWrdM
import Derived.Test.YtnfogfkgbignbaaZeros
import Derived.Test.YtnfogfkgbignbaaTrI
namespace Go.Proofs.Ytnfogfkgbignbaa
open Go.RowKit

/-! ### FormatWord -/
def fmtSt (l : List Int) (k : Nat) : List UInt8 := (l.take k).map letC ++ List.replicate (l.length - k) 0
theorem fmtSt_len (l : List Int) (k : Nat) (h : k ≤ l.length) : (fmtSt l k).length = l.length := by simp [fmtSt]; omega
theorem fmtSt_zero (l : List Int) : fmtSt l 0 = List.replicate l.length 0 := by simp [fmtSt]
theorem fmtSt_end (l : List Int) : fmtSt l l.length = l.map letC := by simp [fmtSt]
theorem fmtSt_set (l : List Int) (k : Nat) (h : k < l.length) : (fmtSt l k).set k (letC (l.getD k 0)) = fmtSt l (k + 1) := by
  have e : l.length - k = (l.length - (k + 1)) + 1 := by omega
  unfold fmtSt
  rw [e, List.replicate_succ, List.set_append_right _ _ (by simp; omega), List.length_map, List.length_take, Nat.min_eq_left (by omega), Nat.sub_self, List.set_cons_zero, List.take_succ_eq_append_getElem h]
  have e2 : l.getD k 0 = l[k] := by simp [List.getD, h]
  rw [e2, List.map_append, List.append_assoc]
  rfl
theorem fmtSt_cells (l : List Int) (k : Nat) (h : k < l.length) : (bytesV (fmtSt l k)).set k (byteV (letC (l.getD k 0))) = bytesV (fmtSt l (k + 1)) := by
  rw [← fmtSt_set l k h]; simp [bytesV, List.map_set]
theorem fmtSt_cell (l : List Int) (k : Nat) (h : k < l.length) : ∃ c, (bytesV (fmtSt l k)).toArray[k]? = some c :=
  ⟨_, Array.getElem?_eq_getElem (by simp [bytesV, fmtSt_len l k (by omega)]; omega)⟩
theorem letC_val {x : Int} (h0 : 0 ≤ x) (h3 : x ≤ 3) : byteV (letC x) = .int .u8 (49 + x) := by
  rcases (show x = 0 ∨ x = 1 ∨ x = 2 ∨ x = 3 by omega) with rfl | rfl | rfl | rfl <;> rfl

set_option maxHeartbeats 2000000 in
set_option maxRecDepth 100000 in
theorem fmt0_any (a : Option Addr) (cap : Nat) (w : World) :
    Calls Try.prog 46 #[.slice a 0 cap] w fun e w' => e = .returned (.string ⟨#[101]⟩) ∧ Below w.heap.size w w' := by
  go_enter Try.func46, Try.ntmps46
  go_wp2_with fail
  go_ret
  exact ⟨rfl, Below.refl _ _⟩
set_option maxHeartbeats 2000000 in
set_option maxRecDepth 100000 in
theorem fmt1_any (B : Nat) (v : Value) (l : List Int) (w : World) (h : RowB B w v l) (hB : B ≤ w.heap.size) (hl : l.length ≤ 1048576) (hne : l ≠ []) :
    Calls Try.prog 46 #[v] w fun e w' => e = .returned (.string ⟨(fmtW l).toArray⟩) ∧ Below w.heap.size w w' := by
  obtain ⟨i0, hi, hz0, hz1, hz2⟩ := info_parts Try.infoU8
  have hmk : (Instr.makeSlice 22 (.int .i64 l.length) (.int .i64 l.length)).run Try.prog w = .ok (.slice (some ⟨w.heap.size, 0, none⟩) l.length l.length) (w.alloc (.cells (bytesV (fmtSt l 0)).toArray 5)) := by
    have h := run_make (P := Try.prog) w 22 5 i0 (.int .u8 0) Try.underlying22 hi hz0 .i64 .i64 (l.length : Int) (l.length : Int) (by omega) (Int.le_refl _) (by rw [hz2]; omega) (by omega)
    rw [h, hz1, Nat.mul_one, fmtSt_zero, ← madeU8, Int.toNat_natCast]
  clear hi hz0 hz1 hz2
  obtain ⟨a, cap, rfl⟩ := h.slice
  have hpos : 0 < l.length := List.length_pos_iff.2 hne
  have HL := Lib.hid h
  have HNO := Lib.hid (fun k (hk : k < l.length) (h : ¬ (0 ≤ l.getD k 0 ∧ l.getD k 0 ≤ ((4 : Nat) : Int) - 1)) => show fmtW l = [] from fmtW_bad (fun h' => h (h' k hk)))
  have HFU := Lib.hid (fun (h : LetTo 4 l l.length) => show fmtW l = l.map letC from fmtW_full h hne)
  have HCE := Lib.hid (fun k (hk : k < l.length) => fmtSt_cell l k hk)
  have HSET := Lib.hid (fun k (hk : k < l.length) => fmtSt_cells l k hk)
  have HEND : Hid (OwnB (w.alloc (.cells (bytesV (fmtSt l l.length)).toArray 5)) w.heap.size (.slice (some ⟨w.heap.size, 0, none⟩) l.length l.length) (l.map letC)) := Lib.hid (by
    have h := ownB_lit w w.heap.size (Nat.le_refl _) (fmtSt l l.length) (by rw [fmtSt_len _ _ (Nat.le_refl _)]; unfold maxLen; omega)
    rw [fmtSt_len _ _ (Nat.le_refl _)] at h
    rw [fmtSt_end] at h ⊢
    exact h)
  clear h hne
  generalize fmtW l = R at *
  generalize hn : l.length = n at *
  have HN := Lib.hid hn; clear hn
  have h0 : ((n : Int) == 0) = false := by rw [beq_eq_false_iff_ne]; omega
  go_enter Try.func46, Try.ntmps46
  go_wp2_with fail
  clear hmk
  go_loopw [14] (fun i wr => ∃ (k : Nat), k ≤ n ∧ i = .int .i64 k ∧ wr = w.alloc (.cells (bytesV (fmtSt l k)).toArray 5) ∧ Hid (LetTo 4 l k)) (fun i _ => n - (intOf i).toNat)
  case atStart => exact ⟨0, Nat.zero_le _, rfl, rfl, Lib.hid (letTo_zero _ _)⟩
  case round =>
    obtain ⟨k, hk, rfl, rfl, hs⟩ := hrel
    by_cases hlt : k < n
    · obtain ⟨b, off, rfl, hb, hc0⟩ := HL.out.getD hlt
      have hbw : b < w.heap.size := by omega
      have hc := (((Below.refl w.heap.size w).alloc (Nat.le_refl _) (.cells (bytesV (fmtSt l k)).toArray 5)).cell (p := ⟨b, off + k, none⟩) hbw).trans hc0
      clear hc0
      by_cases hin : 0 ≤ l.getD k 0 ∧ l.getD k 0 ≤ ((4 : Nat) : Int) - 1
      · have HST := Lib.hid (letTo_step hs.out hin)
        obtain ⟨c, hce⟩ := HCE.out k hlt
        have hset := HSET.out k hlt
        rw [letC_val hin.1 (by omega)] at hset
        have HS := Lib.hid hset
        obtain ⟨hx0, hx3⟩ := hin
        have hx3 : l.getD k 0 ≤ 3 := hx3
        clear hset hs
        generalize l.getD k 0 = x at *
        have hx4 : x < 4 := by omega
        have hd1 : decide (x < 0) = false := decide_eq_false (by omega)
        have hd2 : decide (4 ≤ x) = false := decide_eq_false (by omega)
        go_wp2_with fail
        rw [HS.out]
        exact ⟨⟨k + 1, by omega, by go_num, rfl, HST⟩, by simp [intOf]; omega⟩
      · have HV := Lib.hid (HNO.out k hlt hin)
        have hcase : decide (l.getD k 0 < 0) = true ∨ (decide (l.getD k 0 < 0) = false ∧ decide (4 ≤ l.getD k 0) = true) := by
          by_cases h : l.getD k 0 < 0
          · exact Or.inl (decide_eq_true h)
          · exact Or.inr ⟨decide_eq_false h, decide_eq_true (by omega)⟩
        clear hin hs HNO
        generalize l.getD k 0 = x at *
        rcases hcase with hd | ⟨hd, hd2⟩
        all_goals
          go_wp2_with fail
          go_ret
          exact ⟨ret_string (by rw [HV.out]), (Below.refl _ _).alloc (Nat.le_refl _) _⟩
    · obtain rfl : k = n := by omega
      have hcv := convB HEND.out
      have HE := Lib.hid (HFU.out hs.out)
      clear HNO HFU hs
      go_wp2_with fail
      go_ret
      exact ⟨ret_string (by rw [HE.out]), (Below.refl _ _).alloc (Nat.le_refl _) _⟩
theorem fmt_any (B : Nat) (v : Value) (l : List Int) (w : World) (h : RowB B w v l) (hB : B ≤ w.heap.size) (hl : l.length ≤ 1048576) :
    Calls Try.prog 46 #[v] w fun e w' => e = .returned (.string ⟨(fmtW l).toArray⟩) ∧ Below w.heap.size w w' := by
  by_cases h0 : l = []
  · subst h0
    obtain ⟨a, cap, rfl⟩ := h.slice
    rw [fmtW_nil]
    exact fmt0_any a cap w
  · exact fmt1_any B v l w h hB hl h0
set_option maxRecDepth 100000 in
theorem fmwi_any (B : Nat) (v : Value) (l : List Int) (w : World) (h : RowB B w v l) (hB : B ≤ w.heap.size) (hl : l.length ≤ 1048576) :
    Calls Try.prog 15 #[v] w fun e w' => e = .returned (.string ⟨(fmtW l).toArray⟩) ∧ Below w.heap.size w w' := by
  have HC := Lib.hid (fmt_any B v l w h hB hl)
  clear h hl
  generalize fmtW l = R at *
  go_enter Try.func15, Try.ntmps15
  go_wp2_with fail
  refine HC.out.mono ?_
  rintro e w1 ⟨rfl, hb⟩
  have HB := Lib.hid hb; clear hb
  go_wp2_with fail
  go_ret
  exact ⟨rfl, HB.out⟩

/-! ### ParseWord -/
def letSt (s : List UInt8) (k : Nat) : List Int := (s.take k).map letN ++ List.replicate (s.length - k) 0
theorem letSt_len (l : List UInt8) (k : Nat) (h : k ≤ l.length) : (letSt l k).length = l.length := by simp [letSt]; omega
theorem letSt_zero (l : List UInt8) : letSt l 0 = zerosR l.length := by simp [letSt, zerosR]
theorem letSt_end (l : List UInt8) : letSt l l.length = l.map letN := by simp [letSt]
theorem letSt_set (l : List UInt8) (k : Nat) (h : k < l.length) : (letSt l k).set k (letN l[k]) = letSt l (k + 1) := by
  have e : l.length - k = (l.length - (k + 1)) + 1 := by omega
  unfold letSt
  rw [e, List.replicate_succ, List.set_append_right _ _ (by simp; omega), List.length_map, List.length_take, Nat.min_eq_left (by omega), Nat.sub_self, List.set_cons_zero, List.take_succ_eq_append_getElem h]
  rw [List.map_append, List.append_assoc]
  rfl
theorem letSt_cells (s : ByteArray) (k : Nat) (h : k < s.size) : (intsV (letSt s.data.toList k)).set k (.int .i64 ((s[k].toNat : Int) - 49)) = intsV (letSt s.data.toList (k + 1)) := by
  have h' : k < s.data.toList.length := by simpa using h
  rw [← letSt_set _ k h', ← intsV_set]
  rfl
theorem letSt_cell (l : List UInt8) (k : Nat) (h : k < l.length) : ∃ c, (intsV (letSt l k)).toArray[k]? = some c :=
  ⟨_, Array.getElem?_eq_getElem (by simp [intsV, letSt_len l k (by omega)]; omega)⟩
/-- A row that has just been laid whole. -/
theorem row_whole (w : World) (l : List Int) (h : l.length ≤ 1048576) : RowI w.heap.size (w.alloc (.cells (intsV l).toArray 3)).heap.size (w.alloc (.cells (intsV l).toArray 3)) (.slice (some ⟨w.heap.size, 0, none⟩) l.length l.length) l := by
  refine ⟨World.ownsRow_lit (base := w.heap.size) (e := 3) (size := 1) w (intsV l).toArray l.length (Nat.le_refl _) (by unfold maxLen; omega) (by simp [intsV]), fun g hg => ?_⟩
  have : w.heap.size = g := by simpa [Value.ownBlock] using hg
  simp; omega
theorem makeWord (n : Nat) (hn : n ≤ 1048576) (w : World) : (Instr.makeSlice 50 (.int .i64 n) (.int .i64 n)).run Try.prog w = .ok (.slice (some ⟨w.heap.size, 0, none⟩) n n) (w.alloc (.cells (intsV (zerosR n)).toArray 3)) := by
  obtain ⟨i0, hi, hz0, hz1, hz2⟩ := info_parts Try.infoInt
  have h := run_make (P := Try.prog) w 50 3 i0 (.int .i64 0) Try.underlying50 hi hz0 .i64 .i64 (n : Int) (n : Int) (by omega) (Int.le_refl _) (by rw [hz2]; omega) (by omega)
  rw [h, hz1, Nat.mul_one, Int.toNat_natCast]
  unfold zerosR
  rw [← madeI64]
set_option maxHeartbeats 2000000 in
set_option maxRecDepth 100000 in
theorem lets_any (s : ByteArray) (w : World) (hs : s.size ≤ 1048576) :
    Calls Try.prog 47 #[.string s] w (MakesS w (parW s.data.toList)) := by
  by_cases he : s.data.toList = [101]
  · have hE : (s.toList == [101]) = true := by rw [ByteArray.toList_eq, he]; rfl
    have HPN := Lib.hid (show parW s.data.toList = [] from if_pos he)
    rw [HPN.out]
    clear he HPN
    go_enter Try.func47, Try.ntmps47
    go_wp2_with fail
    go_ret
    exact ⟨_, rfl, ⟨RowI.nilW _ _ _, Nat.le_refl _⟩, Below.refl _ _⟩
  · have hE : (s.toList == [101]) = false := by rw [ByteArray.toList_eq]; rw [beq_eq_false_iff_ne]; exact he
    have HPN := Lib.hid (show parW s.data.toList = s.data.toList.map letN from if_neg he)
    rw [HPN.out]
    have hl : s.data.toList.length = s.size := by simp
    have hmk : (Instr.makeSlice 50 (.int .i64 s.size) (.int .i64 s.size)).run Try.prog w = .ok (.slice (some ⟨w.heap.size, 0, none⟩) s.size s.size) (w.alloc (.cells (intsV (letSt s.data.toList 0)).toArray 3)) := by
      have h := makeWord s.size hs w
      rw [letSt_zero, hl]; exact h
    have HEND : Hid (RowI w.heap.size (w.alloc (.cells (intsV (letSt s.data.toList s.size)).toArray 3)).heap.size (w.alloc (.cells (intsV (letSt s.data.toList s.size)).toArray 3)) (.slice (some ⟨w.heap.size, 0, none⟩) s.size s.size) (s.data.toList.map letN)) := Lib.hid (by
      have h1 := row_whole w (s.data.toList.map letN) (by rw [List.length_map, hl]; exact hs)
      rw [List.length_map, hl] at h1
      have h2 := letSt_end s.data.toList
      rw [hl] at h2
      rw [h2]
      exact h1)
    have HCE := Lib.hid (fun k (hk : k < s.size) => letSt_cell s.data.toList k (by rw [hl]; exact hk))
    have HSET := Lib.hid (fun k (hk : k < s.size) => letSt_cells s k hk)
    clear he HPN hl
    go_enter Try.func47, Try.ntmps47
    go_wp2_with fail
    clear hmk
    go_loopw [12] (fun i wr => ∃ (k : Nat), k ≤ s.size ∧ i = .int .i64 k ∧ wr = w.alloc (.cells (intsV (letSt s.data.toList k)).toArray 3)) (fun i _ => s.size - (intOf i).toNat)
    case atStart => exact ⟨0, Nat.zero_le _, rfl, rfl⟩
    case round =>
      obtain ⟨k, hk, rfl, rfl⟩ := hrel
      by_cases hlt : k < s.size
      · obtain ⟨c, hce⟩ := HCE.out k hlt
        have HS := Lib.hid (HSET.out k hlt)
        have hb0 : 0 ≤ ((s[k]'hlt).toNat : Int) := by omega
        have hb1 : ((s[k]'hlt).toNat : Int) ≤ 255 := by have := (s[k]'hlt).toNat_lt; omega
        go_wp2_with fail
        rw [HS.out]
        exact ⟨⟨k + 1, by omega, by go_num, rfl⟩, by simp [intOf]; omega⟩
      · have hkn : k = s.size := by omega
        have hd : decide (k < s.size) = false := decide_eq_false hlt
        have HKN := Lib.hid hkn
        clear hkn
        go_wp2_with fail
        go_ret
        rw [HKN.out]
        exact ⟨_, rfl, ⟨HEND.out, Nat.le_refl _⟩, (Below.refl _ _).alloc (Nat.le_refl _) _⟩

theorem letN_back {b : UInt8} (h0 : 0 ≤ letN b) (h3 : letN b ≤ 3) : letC (letN b) = b := by
  unfold letN at *
  unfold letC
  have e : 49 + ((b.toNat : Int) - 49).toNat = b.toNat := by omega
  rw [e]; simp
/-- The letters read from a text are a word, and its text is that text: just what is asked. -/
theorem pw_is (m : List (List Int)) (l : List UInt8) : pwB m l = (wordB m (parW l) && decide (fmtW (parW l) = l)) := by
  by_cases hw : IsW m (parW l)
  · rw [wordB_yes hw, Bool.true_and]
    by_cases h0 : l = []
    · subst h0
      rw [pwB_no (fun h => h.1 rfl)]
      have e : parW [] = [] := rfl
      rw [e, fmtW_nil]
      rfl
    · rw [pwB_yes ⟨h0, hw⟩]
      symm
      refine decide_eq_true ?_
      by_cases h1 : l = [101]
      · subst h1
        have e : parW [101] = [] := rfl
        rw [e, fmtW_nil]
      · have e : parW l = l.map letN := if_neg h1
        have h4 := isW_let hw
        have hall := let_all h4
        rw [e] at h4 hall ⊢
        rw [fmtW_full h4 (by simpa using h0), List.map_map]
        conv => rhs; rw [← List.map_id l]
        refine List.map_congr_left fun b hb => ?_
        have := hall (letN b) (List.mem_map.2 ⟨b, hb, rfl⟩)
        exact letN_back this.1 this.2
  · rw [wordB_no hw, Bool.false_and, pwB_no (fun h => hw h.2)]
theorem parW_len (l : List UInt8) : (parW l).length ≤ l.length := by unfold parW; split <;> simp
set_option maxHeartbeats 2000000 in
set_option maxRecDepth 100000 in
theorem pwi_any (B : Nat) (v : Value) (m : List (List Int)) (s : ByteArray) (w : World) (h : MatB B w v m) (hB : B ≤ w.heap.size) (hf : RowsFit m) (hs : s.size ≤ 1048576) :
    Calls Try.prog 16 #[v, .string s] w (MakesS2 w (pwL m s.data.toList) (.bool (pwB m s.data.toList))) := by
  have hpl : (parW s.data.toList).length ≤ 1048576 := by have := parW_len s.data.toList; simp at this; omega
  have HM := Lib.hid h; have HF := Lib.hid hf
  have HLE := Lib.hid (lets_any s w hs)
  have HPL := Lib.hid hpl
  have HP := Lib.hid (pw_is m s.data.toList)
  have HPY := Lib.hid (fun (h : pwB m s.data.toList = true) => show pwL m s.data.toList = parW s.data.toList from if_pos h)
  have HPN := Lib.hid (fun (h : pwB m s.data.toList = false) => show pwL m s.data.toList = [] from if_neg (by rw [h]; decide))
  have HEQ := Lib.hid (show ((⟨(fmtW (parW s.data.toList)).toArray⟩ : ByteArray).toList == s.toList) = decide (fmtW (parW s.data.toList) = s.data.toList) from by
    rw [ByteArray.toList_eq, ByteArray.toList_eq, Bool.eq_iff_iff, beq_iff_eq, decide_eq_true_eq])
  have HFB := Lib.hid hf
  have HIW := Lib.hid (fun (x : Value) (w1 : World) (hb : Below w.heap.size w w1) (hx : OwnS w.heap.size w1.heap.size w1 x (parW s.data.toList)) => iswi_any B w1.heap.size v x m _ w1 (h.below hb hB) hx.1.rowB hf (by unfold maxLen; omega))
  have HFM := Lib.hid (fun (x : Value) (w1 : World) (q : Nat) (hx : OwnS w.heap.size w1.heap.size w1 x (parW s.data.toList)) => fmt_any w1.heap.size x _ (w1.drewN q) (hx.1.rowB.drewN q) (Nat.le_refl _) hpl)
  obtain ⟨ma, mcap, rfl⟩ := h.slice
  clear h hf hpl HM HF HFB HPL
  generalize parW s.data.toList = l at *
  generalize pwL m s.data.toList = P at *
  generalize pwB m s.data.toList = b at *
  generalize fmtW l = f at *
  generalize decide (f = s.data.toList) = d at *
  generalize wordB m l = wb at *
  generalize m.length = n at *
  obtain ⟨fs, hfs⟩ : ∃ fs : ByteArray, fs = ⟨f.toArray⟩ := ⟨_, rfl⟩
  rw [← hfs] at HEQ HFM
  clear hfs
  cases wb with
  | false =>
    have HPE := Lib.hid (HPN.out (by rw [HP.out]; rfl))
    have hbv : b = false := by rw [HP.out]; rfl
    subst hbv
    clear HP HPY HPN HEQ HFM
    go_enter Try.func16, Try.ntmps16
    go_wp2_with fail
    refine HLE.out.mono ?_
    rintro e w1 ⟨x, rfl, hx, hb⟩
    have HX := Lib.hid hx; have HB := Lib.hid hb
    have HI := Lib.hid (HIW.out x w1 hb hx)
    clear hx hb
    go_wp2_with fail
    refine HI.out.mono ?_
    rintro e w2 ⟨rfl, q, rfl⟩
    go_wp2_with fail
    go_ret2
    exact ⟨_, rfl, ⟨by rw [HPE.out]; exact RowI.nilW _ _ _, Nat.le_refl _⟩, HB.out.trans ((below_drewN q).mono HB.out.size)⟩
  | true =>
    cases d with
    | false =>
      have HPE := Lib.hid (HPN.out (by rw [HP.out]; rfl))
      have hbv : b = false := by rw [HP.out]; rfl
      subst hbv
      have hne := HEQ.out
      clear HP HPY HPN HEQ
      go_enter Try.func16, Try.ntmps16
      go_wp2_with fail
      refine HLE.out.mono ?_
      rintro e w1 ⟨x, rfl, hx, hb⟩
      have HX := Lib.hid hx; have HB := Lib.hid hb
      have HI := Lib.hid (HIW.out x w1 hb hx)
      have HF1 := Lib.hid (fun q => HFM.out x w1 q hx)
      clear hx hb
      go_wp2_with fail
      refine HI.out.mono ?_
      rintro e w2 ⟨rfl, q, rfl⟩
      go_wp2_with fail
      refine (HF1.out q).mono ?_
      rintro e w2 ⟨rfl, hb2⟩
      have HB2 := Lib.hid (HB.out.trans ((below_drewN q).mono HB.out.size) |>.trans (hb2.mono HB.out.size))
      clear hb2
      go_wp2_with fail
      go_ret2
      exact ⟨_, rfl, ⟨by rw [HPE.out]; exact RowI.nilW _ _ _, Nat.le_refl _⟩, HB2.out⟩
    | true =>
      have HPE := Lib.hid (HPY.out (by rw [HP.out]; rfl))
      have hbv : b = true := by rw [HP.out]; rfl
      subst hbv
      have hne := HEQ.out
      clear HP HPY HPN HEQ
      go_enter Try.func16, Try.ntmps16
      go_wp2_with fail
      refine HLE.out.mono ?_
      rintro e w1 ⟨x, rfl, hx, hb⟩
      have HX := Lib.hid hx; have HB := Lib.hid hb
      have HI := Lib.hid (HIW.out x w1 hb hx)
      have HF1 := Lib.hid (fun q => HFM.out x w1 q hx)
      clear hx hb
      go_wp2_with fail
      refine HI.out.mono ?_
      rintro e w2 ⟨rfl, q, rfl⟩
      go_wp2_with fail
      refine (HF1.out q).mono ?_
      rintro e w2 ⟨rfl, hb2⟩
      have HB2 := Lib.hid (HB.out.trans ((below_drewN q).mono HB.out.size) |>.trans (hb2.mono HB.out.size))
      have HX2 := Lib.hid ((HX.out.1.same (SameIn.of_below (below_drewN q) (Nat.le_refl _))).step hb2)
      clear hb2
      go_wp2_with fail
      go_ret2
      exact ⟨_, rfl, ⟨by rw [HPE.out]; exact HX2.out, Nat.le_refl _⟩, HB2.out⟩
end Go.Proofs.Ytnfogfkgbignbaa
