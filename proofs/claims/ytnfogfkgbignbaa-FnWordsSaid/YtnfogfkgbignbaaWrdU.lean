/-
  Words: what the model's FormatWord and ParseWord return.
-/
import Derived.Test.YtnfogfkgbignbaaWrdT
import Derived.Test.YtnfogfkgbignbaaFmtS
namespace Go.Proofs.Ytnfogfkgbignbaa
open Go.RowKit

theorem itoa_let {x : Int} (h : 0 ≤ x ∧ x ≤ 3) : Lib.itoa (x + 1) = [letC x] := by
  obtain ⟨n, rfl⟩ := Int.eq_ofNat_of_zero_le h.1
  have h1 := itoa_pos (n + 1)
  rw [dec_small (by omega)] at h1
  have e : ((n + 1 : Nat) : Int) = (n : Int) + 1 := by omega
  rw [e] at h1
  rw [h1]
  unfold letC
  rw [Int.toNat_natCast]
  congr 2
  omega
theorem str_mk_add (a b : List UInt8) : (⟨a.toArray⟩ : ByteArray) ++ ⟨b.toArray⟩ = ⟨(a ++ b).toArray⟩ := by
  apply ByteArray.ext
  rw [ByteArray.data_append]; simp
theorem str_mk_size (a : List UInt8) : (⟨a.toArray⟩ : ByteArray).size = a.length := by show (Array.size _) = _; simp
theorem fmtTo_all (w : List Int) : fmtTo w w.length = w.map letC := by unfold fmtTo; rw [List.take_length]
set_option maxHeartbeats 2000000 in
set_option maxRecDepth 100000 in
theorem fmws_any (B : Nat) (v : Value) (l : List Int) (w : World) (h : RowB B w v l) (hB : B ≤ w.heap.size) (hl : l.length ≤ 1048576) :
    Calls Try.prog 17 #[v] w fun e w' => e = .returned (.string ⟨(fmtW l).toArray⟩) ∧ Below w.heap.size w w' := by
  obtain ⟨a, cap, rfl⟩ := h.slice
  have HL := Lib.hid h; clear h
  have HNO := Lib.hid (fun k (hk : k < l.length) (h : ¬ (0 ≤ l.getD k 0 ∧ l.getD k 0 ≤ ((4 : Nat) : Int) - 1)) => show fmtW l = [] from fmtW_bad (fun h' => h (h' k hk)))
  have HST := Lib.hid (fun k (hk : k < l.length) => fmtTo_step hk)
  have HFL := Lib.hid (fun k => fmtTo_len l k)
  have HNIL := Lib.hid (fun (h : l.length = 0) => show fmtW l = [101] from by rw [List.length_eq_zero_iff.1 h]; exact fmtW_nil)
  have HFU := Lib.hid (fun (h : LetTo 4 l l.length) (h0 : 0 < l.length) => show fmtW l = fmtTo l l.length from by rw [fmtW_full h (fun e => by rw [e] at h0; simp at h0), fmtTo_all])
  have HNE := Lib.hid (fun (h0 : 0 < l.length) => show fmtTo l l.length ≠ [] from by rw [fmtTo_all]; intro e; have := congrArg List.length e; simp at this; rw [this] at h0; simp at h0)
  have H0 := Lib.hid (show (⟨#[]⟩ : ByteArray) = ⟨(fmtTo l 0).toArray⟩ from rfl)
  generalize fmtW l = R at *
  generalize hn : l.length = n at *
  have HN := Lib.hid hn; clear hn
  go_enter Try.func17, Try.ntmps17
  go_wp2_with fail
  go_loopw [3, 4] (fun s i wr => ∃ (k : Nat) (t : ByteArray) (wq : World), wq = wr ∧ k ≤ n ∧ i = .int .i64 k ∧ s = .string t ∧ Hid (t = ⟨(fmtTo l k).toArray⟩) ∧ Hid (LetTo 4 l k) ∧ Below w.heap.size w wq) (fun _ i _ => n - (intOf i).toNat)
  case atStart => exact ⟨0, _, _, rfl, Nat.zero_le _, rfl, rfl, H0, Lib.hid (letTo_zero _ _), Below.refl _ _⟩
  case round =>
    obtain ⟨k, t, wq, rfl, hk, rfl, rfl, ht, hlt4, hb⟩ := hrel
    have hsq := hb.size
    have HB := Lib.hid hb; clear hb
    have hts : t.size ≤ 1048576 := by rw [ht.out, str_mk_size]; have := HFL.out k; omega
    by_cases hlt : k < n
    · obtain ⟨b, off, rfl, hbB, hc0⟩ := HL.out.getD hlt
      have hbw : b < w.heap.size := by omega
      have hc := (HB.out.cell (p := ⟨b, off + k, none⟩) hbw).trans hc0
      clear hc0
      by_cases hin : 0 ≤ l.getD k 0 ∧ l.getD k 0 ≤ ((4 : Nat) : Int) - 1
      · have HLT := Lib.hid (letTo_step hlt4.out hin)
        have HIN := Lib.hid (inB_yes (show 0 ≤ l.getD k 0 ∧ l.getD k 0 ≤ 3 from hin))
        have HFM := Lib.hid (fun (wx : World) => fmts_any (l.getD k 0 + 1) wx (by omega) (by omega))
        have hit := itoa_let (show 0 ≤ l.getD k 0 ∧ l.getD k 0 ≤ 3 from hin)
        have HS := Lib.hid (HST.out k hlt)
        rw [hit] at HFM
        clear hit
        obtain ⟨hx0, hx3⟩ := hin
        obtain ⟨c1, hc1⟩ : ∃ c : ByteArray, c = ⟨#[letC (l.getD k 0)]⟩ := ⟨_, rfl⟩
        have HC1 := Lib.hid hc1
        have hcs : c1.size = 1 := by rw [hc1]; rfl
        have e1 : (⟨([letC (l.getD k 0)] : List UInt8).toArray⟩ : ByteArray) = c1 := hc1.symm
        rw [e1] at HFM
        have HT1 := Lib.hid (show t ++ c1 = ⟨(fmtTo l (k + 1)).toArray⟩ from by rw [ht.out, hc1, show (⟨#[letC (l.getD k 0)]⟩ : ByteArray) = ⟨([letC (l.getD k 0)] : List UInt8).toArray⟩ from rfl, str_mk_add, HS.out])
        clear hc1 e1 HS HST HNO
        generalize l.getD k 0 = x at *
        have hx1 : x + 1 ≤ 4 := by omega
        go_wp2_with fail
        refine (l1in_c _ _ _ true HIN.out _).mono ?_
        rintro e w' ⟨rfl, rfl⟩
        go_wp2_with fail
        refine (HFM.out _).mono ?_
        rintro e w3 ⟨rfl, hb3⟩
        have HB3 := Lib.hid (HB.out.trans (hb3.mono hsq))
        clear hb3 hc
        go_wp2_with fail
        exact ⟨⟨k + 1, _, _, rfl, by omega, by go_num, rfl, HT1, HLT, HB3.out⟩, by simp [intOf]; omega⟩
      · have HV := Lib.hid (HNO.out k hlt hin)
        have HIN := Lib.hid (inB_no (show ¬ (0 ≤ l.getD k 0 ∧ l.getD k 0 ≤ 3) from hin))
        clear hin HST HNO
        generalize l.getD k 0 = x at *
        go_wp2_with fail
        refine (l1in_c _ _ _ false HIN.out _).mono ?_
        rintro e w' ⟨rfl, rfl⟩
        go_wp2_with fail
        go_ret
        exact ⟨ret_string (by rw [HV.out]), HB.out⟩
    · obtain rfl : k = n := by omega
      by_cases h0 : k = 0
      · subst h0
        have HV := Lib.hid (HNIL.out rfl)
        have hte : t.toList.isEmpty = true := by rw [ht.out, ByteArray.toList_eq]; rfl
        go_wp2_with fail
        go_ret
        exact ⟨ret_string (by rw [HV.out]), HB.out⟩
      · have HV := Lib.hid (HFU.out hlt4.out (by omega))
        have hte : t.toList.isEmpty = false := by
          have h1 := HNE.out (by omega)
          rw [ByteArray.toList_eq, ht.out]
          simpa using h1
        go_wp2_with fail
        go_ret
        exact ⟨ret_string (by rw [HV.out, ← ht.out]), HB.out⟩

theorem parW_snoc (s : ByteArray) (k : Nat) (h : k < s.size) : ((s.data.toList.take k).map letN) ++ [((s[k].toNat : Int) - 49)] = (s.data.toList.take (k + 1)).map letN := by
  rw [List.take_succ_eq_append_getElem (by simpa using h), List.map_append]; rfl
/-- What stands behind the loop of ParseWord: the word is asked, and given back if it is one. -/
theorem pwB_is (m : List (List Int)) {l : List UInt8} (h : l ≠ []) : pwB m l = wordB m (parW l) ∧ (wordB m (parW l) = true → pwL m l = parW l) ∧ (wordB m (parW l) = false → pwL m l = []) := by
  by_cases hw : IsW m (parW l)
  · have hok : PwOk m l := ⟨h, hw⟩
    rw [wordB_yes hw]
    exact ⟨pwB_yes hok, (fun _ => pwL_yes hok), (fun h => by cases h)⟩
  · have hok : ¬ PwOk m l := fun h' => hw h'.2
    rw [wordB_no hw]
    exact ⟨pwB_no hok, (fun h => by cases h), (fun _ => pwL_no hok)⟩
set_option maxHeartbeats 4000000 in
set_option maxRecDepth 100000 in
theorem pws_any (B : Nat) (v : Value) (m : List (List Int)) (s : ByteArray) (w : World) (h : MatB B w v m) (hB : B ≤ w.heap.size) (hf : RowsFit m) (hs : s.size ≤ 1048576) :
    Calls Try.prog 24 #[v, .string s] w (MakesS2 w (pwL m s.data.toList) (.bool (pwB m s.data.toList))) := by
  have HM := Lib.hid h
  have HF := Lib.hid hf
  clear h hf
  by_cases h0 : s.data.toList = []
  · have hlen : s.size = 0 := by have := congrArg List.length h0; simpa using this
    have hse : s.toList.isEmpty = true := by rw [ByteArray.toList_eq, h0]; rfl
    have hE : (s.toList == [101]) = false := by rw [ByteArray.toList_eq, h0]; rfl
    have HL := Lib.hid (show pwL m s.data.toList = [] from pwL_no (fun h => h.1 h0))
    have HV := Lib.hid (show pwB m s.data.toList = false from pwB_no (fun h => h.1 h0))
    rw [HL.out, HV.out]
    clear h0 HL HV
    go_enter Try.func24, Try.ntmps24
    go_wp2_with fail
    go_loopw [6, 7] (fun o i wr => o = .slice (some ⟨w.heap.size, 0, none⟩) 0 0 ∧ i = .int .i64 0 ∧ wr = w.alloc (.cells #[] 3)) (fun _ _ _ => 0)
    case atStart => exact ⟨rfl, rfl, rfl⟩
    case round =>
      obtain ⟨rfl, rfl, rfl⟩ := hrel
      go_wp2_with fail
      go_ret2
      have h2 := row_empty (w.alloc (.cells #[] 3))
      exact ⟨_, rfl, ⟨by have h3 := h2.mono (A' := w.heap.size) (by simp) (Nat.le_refl _); simpa using h3, Nat.le_refl _⟩, ((Below.refl _ _).alloc (Nat.le_refl _) _).alloc (by simp) _⟩
  · obtain ⟨hp1, hp2, hp3⟩ := pwB_is m h0
    have HP2 := Lib.hid hp2; have HP3 := Lib.hid hp3
    rw [hp1]
    have hse : s.toList.isEmpty = false := by rw [ByteArray.toList_eq]; simpa using h0
    have HPS := Lib.hid (fun k (hk : k < s.size) => parW_snoc s k hk)
    have HEND : ∀ (x : Value) (wq : World), Hid (RowI w.heap.size wq.heap.size wq x (parW s.data.toList) → Below w.heap.size w wq → Calls Try.prog 19 #[v, x] wq fun e w' => e = .returned (.bool (wordB m (parW s.data.toList))) ∧ ∃ q, w' = wq.drewN q) := fun x wq => Lib.hid fun h1 h2 =>
      isws_any B wq.heap.size v x m _ wq (HM.out.below h2 hB) h1.rowB HF.out (by unfold parW; unfold maxLen; split <;> simp <;> omega)
    have HEN := Lib.hid HEND
    clear HEND hp1 hp2 hp3
    by_cases he : s.data.toList = [101]
    · have hE : (s.toList == [101]) = true := by rw [ByteArray.toList_eq, he]; rfl
      have HPN := Lib.hid (show parW s.data.toList = [] from if_pos he)
      have hlen : s.size = 1 := by have := congrArg List.length he; simpa using this
      clear he h0
      rw [HPN.out] at HP2 HP3 HEN
      rw [HPN.out]
      generalize wordB m [] = R at *
      generalize pwL m s.data.toList = P at *
      go_enter Try.func24, Try.ntmps24
      go_wp2_with fail
      go_loopw [6, 7] (fun o i wr => o = .slice (some ⟨w.heap.size, 0, none⟩) 0 0 ∧ i = .int .i64 0 ∧ wr = w.alloc (.cells #[] 3)) (fun _ _ _ => 0)
      case atStart => exact ⟨rfl, rfl, rfl⟩
      case round =>
        obtain ⟨rfl, rfl, rfl⟩ := hrel
        have HB1 := Lib.hid (show Below w.heap.size w (w.alloc (.cells #[] 3)) from (Below.refl _ _).alloc (Nat.le_refl _) _)
        have HR := Lib.hid (row_empty w)
        have HC := Lib.hid ((HEN.out _ _).out HR.out HB1.out)
        clear HEN
        go_wp2_with fail
        refine HC.out.mono ?_
        rintro e w' ⟨rfl, q, rfl⟩
        clear HC
        cases R with
        | true =>
          have HP := Lib.hid (HP2.out rfl)
          go_wp2_with fail
          go_ret2
          exact ⟨_, rfl, ⟨by rw [HP.out]; exact HR.out.same (SameIn.of_below (below_drewN q) (Nat.le_refl _)), Nat.le_refl _⟩, HB1.out.trans ((below_drewN q).mono (by simp))⟩
        | false =>
          have HP := Lib.hid (HP3.out rfl)
          go_wp2_with fail
          go_ret2
          have h2 := row_empty ((w.alloc (.cells #[] 3)).drewN q)
          exact ⟨_, rfl, ⟨by rw [HP.out]; have h3 := h2.mono (A' := w.heap.size) (by simp) (Nat.le_refl _); simpa using h3, Nat.le_refl _⟩, (HB1.out.trans ((below_drewN q).mono (by simp))).alloc (by simp) _⟩
    · have hE : (s.toList == [101]) = false := by rw [ByteArray.toList_eq]; rw [beq_eq_false_iff_ne]; exact he
      have HPN := Lib.hid (show parW s.data.toList = s.data.toList.map letN from if_neg he)
      have HTA := Lib.hid (show (s.data.toList.take s.size) = s.data.toList from List.take_of_length_le (by simp))
      have HTL := Lib.hid (show ∀ k, k ≤ s.size → ((s.data.toList.take k).map letN).length ≤ 4194304 from fun k hk => by simp; omega)
      clear he h0
      rw [HPN.out] at HP2 HP3 HEN
      rw [HPN.out]
      generalize wordB m (s.data.toList.map letN) = R at *
      generalize pwL m s.data.toList = P at *
      go_enter Try.func24, Try.ntmps24
      go_wp2_with fail
      go_loopw [6, 7] (fun o i wr => ∃ (k : Nat) (wq : World), wq = wr ∧ k ≤ s.size ∧ i = .int .i64 k ∧ RowI w.heap.size wq.heap.size wq o ((s.data.toList.take k).map letN) ∧ Below w.heap.size w wq) (fun _ i _ => s.size - (intOf i).toNat)
      case atStart => exact ⟨0, _, rfl, Nat.zero_le _, rfl, row_empty w, (Below.refl _ _).alloc (Nat.le_refl _) _⟩
      case round =>
        obtain ⟨k, wq, rfl, hk, rfl, hM, hb⟩ := hrel
        have HR := Lib.hid hM; clear hM
        have hsq := hb.size
        have HB := Lib.hid hb; clear hb
        by_cases hlt : k < s.size
        · have hks : k < s.size := hlt
          have HS := Lib.hid (HPS.out k hks)
          have HRL := Lib.hid (HTL.out k hk)
          have hb0 : 0 ≤ ((s[k]'hks).toNat : Int) := by omega
          have hb1 : ((s[k]'hks).toNat : Int) ≤ 255 := by have := (s[k]'hks).toNat_lt; omega
          go_wp2_with (at_builtin; go_must (refine append_int HR.out hsq (((s[k]'hks).toNat : Int) - 49) rfl rfl rfl rfl HRL.out ?_; intro v' w3 hr3 hb3 hz3))
          rw [HS.out] at hr3
          have HR3 := Lib.hid hr3
          have HB3 := Lib.hid (hb3 w w.heap.size (Nat.le_refl _) HB.out)
          clear hr3 hb3 hz3
          go_wp2_with fail
          exact ⟨⟨k + 1, _, rfl, by omega, by go_num, HR3.out, HB3.out⟩, by simp [intOf]; omega⟩
        · have hkn : k = s.size := by omega
          have HKN := Lib.hid hkn
          have hd : decide (k < s.size) = false := decide_eq_false (by omega)
          have hR := HR.out
          rw [hkn, HTA.out] at hR
          have HR1 := Lib.hid hR
          have HC := Lib.hid ((HEN.out _ _).out HR1.out HB.out)
          clear HEN hR hkn
          go_wp2_with fail
          refine HC.out.mono ?_
          rintro e w' ⟨rfl, q, rfl⟩
          clear HC
          cases R with
          | true =>
            have HP := Lib.hid (HP2.out rfl)
            go_wp2_with fail
            go_ret2
            exact ⟨_, rfl, ⟨by rw [HP.out]; exact HR1.out.same (SameIn.of_below (below_drewN q) (Nat.le_refl _)), Nat.le_refl _⟩, HB.out.trans ((below_drewN q).mono hsq)⟩
          | false =>
            have HP := Lib.hid (HP3.out rfl)
            go_wp2_with fail
            go_ret2
            have h2 := row_empty (wq.drewN q)
            exact ⟨_, rfl, ⟨by rw [HP.out]; exact h2.mono (A' := w.heap.size) hsq (Nat.le_refl _), Nat.le_refl _⟩, (HB.out.trans ((below_drewN q).mono hsq)).alloc hsq _⟩
end Go.Proofs.Ytnfogfkgbignbaa
