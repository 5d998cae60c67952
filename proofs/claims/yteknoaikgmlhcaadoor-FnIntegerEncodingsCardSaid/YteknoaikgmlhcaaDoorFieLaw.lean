/-
  Proved here: for every byte slice, the law FnIntegerEncodings answers true: what is drawn from it is encoded and read back, whatever follows: under the tables of internal/strconv and math/bits as the program text lays them (the card ties them).
-/
import Derived.Test.YteknoaikgmlhcaaDoorFie
import Derived.Test.YteknoaikgmlhcaaDoorTie
import Derived.Test.YteknoaikgmlhcaaDoorCards
import Derived.SevenTiedAt
namespace Go.Proofs.YteknoaikgmlhcaaDoor
open Go.ChangeShapes Go.WideShapes Go.ChangeAt Go.ChangeMaps Go.RowKit

set_option maxHeartbeats 8000000 in
set_option maxRecDepth 100000 in
theorem fie_law (a : Option Addr) (len cap : Nat) (w : World) (hl : len ≤ 1048576) (hcode : CodeB w.heap.size w (.slice a len cap) len) (htab : Lib.TabIs Tryd.prog w "internal/strconv.uint64pow10" .u64 Lib.pow10Tab) :
    Calls Tryd.prog 3 #[.slice a len cap] w fun e w' => e = .returned (.bool true) ∧ Below w.heap.size w w' := by
  have HC := Lib.hid hcode; clear hcode
  have HT := Lib.hid htab; clear htab
  have hbig : decide (1048576 < (len : Int)) = false := by rw [decide_eq_false_iff_not]; omega
  go_enter Tryd.func3, Tryd.ntmps3
  go_wp2_with fail
  refine (big_any _ a len cap (by omega)).mono ?_
  rintro e w0 ⟨rfl, rfl⟩
  go_wp2_with fail
  refine (drawv_any w.heap.size _ _ len hl (Nat.le_refl _) HC.out).mono ?_
  rintro e w1 ⟨n, hn, rfl, hb1⟩
  have HN := Lib.hid hn; clear hn
  have HB1 := Lib.hid hb1; clear hb1
  go_wp2_with fail
  refine (drawh_any w.heap.size _ _ len hl HB1.out.size (HC.out.below HB1.out)).mono ?_
  rintro e w2 ⟨t, ht, rfl, hb2⟩
  have HB2 := Lib.hid (HB1.out.trans (hb2.mono HB1.out.size)); clear hb2
  by_cases hv : 0 ≤ n ∧ n ≤ 562949953421311
  · obtain ⟨m, rfl⟩ := Int.eq_ofNat_of_zero_le hv.1
    have hm : m ≤ 562949953421311 := by omega
    have hle : decide ((m : Int) ≤ 562949953421311) = true := by rw [decide_eq_true_eq]; omega
    clear hv
    go_wp2_with fail
    refine (encv_y m _ hm).mono ?_
    rintro e w3 ⟨s, rfl, hs, hb3⟩
    have HB3 := Lib.hid (HB2.out.trans (hb3.mono HB2.out.size)); clear hb3
    obtain ⟨hs1, hs7⟩ := vb_size hm hs
    have hse := nonempty hs1
    have HS := Lib.hid hs; clear hs
    go_wp2_with fail
    refine (decvi_any _ _ (by rw [ByteArray.size_append]; unfold maxLen; omega)).mono ?_
    rintro e w4 ⟨⟨x, k, rfl, hd⟩, rfl⟩
    obtain ⟨rfl, rfl⟩ := dec_vb hm HS.out hd
    clear hd
    go_wp2_with fail
    refine (drawf_any w.heap.size _ _ len hl HB3.out.size (HC.out.below HB3.out)).mono ?_
    rintro e w4 ⟨v, mm, hv, hm1, hm2, rfl, hb4⟩
    have HB4 := Lib.hid (HB3.out.trans (hb4.mono HB3.out.size)); clear hb4
    have HV := Lib.hid hv; clear hv
    by_cases hf : FOk v mm
    · have HF := Lib.hid hf; clear hf
      go_wp2_with fail
      refine (encf_yi v mm _ HV.out HF.out).mono ?_
      rintro e w5 ⟨f, rfl, hff, hb5⟩
      have HB5a := Lib.hid (HB4.out.trans (hb5.mono HB4.out.size)); clear hb5
      have hfz := lb_size HF.out hff
      have hfm : ((f.size : Int) == mm) = true := by rw [beq_iff_eq]; exact hfz
      have hfm' : ((f.size : Int) != mm) = false := by rw [bne_eq_false_iff_eq]; exact hfz
      have hf1 : 1 ≤ f.size := by have := HF.out.1; omega
      have hf8 : f.size ≤ 8 := by omega
      have hfe := nonempty hf1
      have HFF := Lib.hid hff; clear hff hfz
      go_wp2_with fail
      refine (decf_backi _ ht HF.out HFF.out).mono ?_
      rintro e w5' ⟨rfl, rfl⟩
      go_wp2_with fail
      refine (encfs_yi v mm _ HV.out HF.out).mono ?_
      rintro e w5b ⟨f2, rfl, hff2, hb5⟩
      have HB5 := Lib.hid (HB5a.out.trans (hb5.mono HB5a.out.size)); clear hb5
      have hf2z := lb_size HF.out hff2
      have hf2e := nonempty (s := f2) (by have := HF.out.1; omega)
      clear hff2 hf2z
      go_wp2_with fail
      refine (ench_y t _ ht).mono ?_
      rintro e w6 ⟨hx, rfl, hhx, hb6⟩
      have HB6 := Lib.hid (HB5.out.trans (hb6.mono HB5.out.size)); clear hb6
      have hxz := (hex_back hhx).1
      have HXZ := Lib.hid hxz; clear hxz
      have hxs : hx.size ≤ 80 := by have := HXZ.out; omega
      have hxeq : ((hx.size : Int) == 2 * (t.size : Int)) = true := by rw [beq_iff_eq]; have := HXZ.out; omega
      have HHX := Lib.hid hhx; clear hhx
      go_wp2_with fail
      refine (dech_y hx t _ ht HHX.out).mono ?_
      rintro e w7 ⟨rfl, hb7⟩
      have HB7 := Lib.hid (HB6.out.trans (hb7.mono HB6.out.size)); clear hb7
      go_wp2_with fail
      refine (fmti_y v _ HV.out (tab_below HT.out HB7.out)).mono ?_
      rintro e w8 ⟨d, rfl, hdd, hb8⟩
      have HB8 := Lib.hid (HB7.out.trans (hb8.mono HB7.out.size)); clear hb8
      have hdz : d.size ≤ 40 := itoa_size HV.out hdd
      have HDD := Lib.hid hdd; clear hdd
      by_cases hsm : -1000000000 < v ∧ v < 1000000000
      · have HSM := Lib.hid hsm
        have hlo : -1000000000 < v := hsm.1
        have hhi : v < 1000000000 := hsm.2
        clear hsm
        go_wp2_with fail
        refine (par_small v d _ HDD.out (by unfold maxLen; omega) HSM.out (tab_below HT.out HB8.out)).mono ?_
        rintro e w9 ⟨rfl, hb9⟩
        have HB9 := Lib.hid (HB8.out.trans (hb9.mono HB8.out.size)); clear hb9
        go_wp2_with fail
        refine (fmts_y v _ HV.out d HDD.out).mono ?_
        rintro e w10 ⟨rfl, hb10⟩
        have HB10 := Lib.hid (HB9.out.trans (hb10.mono HB9.out.size)); clear hb10
        go_wp2_with fail
        go_ret
        exact ⟨rfl, HB10.out⟩
      · have HSM := Lib.hid hsm
        have hor : v ≤ -1000000000 ∨ 1000000000 ≤ v := by omega
        clear hsm
        rcases hor with hlo | hhi
        · go_wp2_with fail
          refine (par_large v d _ HDD.out (by unfold maxLen; omega) HSM.out (tab_below HT.out HB8.out)).mono ?_
          rintro e w9 ⟨rfl, hb9⟩
          have HB9 := Lib.hid (HB8.out.trans (hb9.mono HB8.out.size)); clear hb9
          go_wp2_with fail
          refine (fmts_y v _ HV.out d HDD.out).mono ?_
          rintro e w10 ⟨rfl, hb10⟩
          have HB10 := Lib.hid (HB9.out.trans (hb10.mono HB9.out.size)); clear hb10
          go_wp2_with fail
          go_ret
          exact ⟨rfl, HB10.out⟩
        · have hq9 : decide (v < 1000000000) = false := by rw [decide_eq_false_iff_not]; omega
          go_wp2_with fail
          refine (par_large v d _ HDD.out (by unfold maxLen; omega) HSM.out (tab_below HT.out HB8.out)).mono ?_
          rintro e w9 ⟨rfl, hb9⟩
          have HB9 := Lib.hid (HB8.out.trans (hb9.mono HB8.out.size)); clear hb9
          go_wp2_with fail
          refine (fmts_y v _ HV.out d HDD.out).mono ?_
          rintro e w10 ⟨rfl, hb10⟩
          have HB10 := Lib.hid (HB9.out.trans (hb10.mono HB9.out.size)); clear hb10
          go_wp2_with fail
          go_ret
          exact ⟨rfl, HB10.out⟩
    · have HF := Lib.hid hf; clear hf
      go_wp2_with fail
      refine (encf_ni v mm _ HV.out HF.out).mono ?_
      rintro e w5 ⟨f, rfl, hff, rfl⟩
      have hfe := isempty hff
      have hf8 : f.size ≤ 8 := by omega
      clear hff
      go_wp2_with fail
      refine (decf_some _ mm _ (by rw [ByteArray.size_append]; unfold maxLen; omega)).mono ?_
      rintro e w5' ⟨y, yb, rfl, rfl⟩
      go_wp2_with fail
      refine (encfs_ni v mm _ HV.out HF.out).mono ?_
      rintro e w5b ⟨f2, rfl, hff2, hb5⟩
      have HB5 := Lib.hid (HB4.out.trans (hb5.mono HB4.out.size)); clear hb5
      have hf2e := isempty hff2
      clear hff2
      go_wp2_with fail
      refine (ench_y t _ ht).mono ?_
      rintro e w6 ⟨hx, rfl, hhx, hb6⟩
      have HB6 := Lib.hid (HB5.out.trans (hb6.mono HB5.out.size)); clear hb6
      have hxz := (hex_back hhx).1
      have HXZ := Lib.hid hxz; clear hxz
      have hxs : hx.size ≤ 80 := by have := HXZ.out; omega
      have hxeq : ((hx.size : Int) == 2 * (t.size : Int)) = true := by rw [beq_iff_eq]; have := HXZ.out; omega
      have HHX := Lib.hid hhx; clear hhx
      go_wp2_with fail
      refine (dech_y hx t _ ht HHX.out).mono ?_
      rintro e w7 ⟨rfl, hb7⟩
      have HB7 := Lib.hid (HB6.out.trans (hb7.mono HB6.out.size)); clear hb7
      go_wp2_with fail
      refine (fmti_y v _ HV.out (tab_below HT.out HB7.out)).mono ?_
      rintro e w8 ⟨d, rfl, hdd, hb8⟩
      have HB8 := Lib.hid (HB7.out.trans (hb8.mono HB7.out.size)); clear hb8
      have hdz : d.size ≤ 40 := itoa_size HV.out hdd
      have HDD := Lib.hid hdd; clear hdd
      by_cases hsm : -1000000000 < v ∧ v < 1000000000
      · have HSM := Lib.hid hsm
        have hlo : -1000000000 < v := hsm.1
        have hhi : v < 1000000000 := hsm.2
        clear hsm
        go_wp2_with fail
        refine (par_small v d _ HDD.out (by unfold maxLen; omega) HSM.out (tab_below HT.out HB8.out)).mono ?_
        rintro e w9 ⟨rfl, hb9⟩
        have HB9 := Lib.hid (HB8.out.trans (hb9.mono HB8.out.size)); clear hb9
        go_wp2_with fail
        refine (fmts_y v _ HV.out d HDD.out).mono ?_
        rintro e w10 ⟨rfl, hb10⟩
        have HB10 := Lib.hid (HB9.out.trans (hb10.mono HB9.out.size)); clear hb10
        go_wp2_with fail
        go_ret
        exact ⟨rfl, HB10.out⟩
      · have HSM := Lib.hid hsm
        have hor : v ≤ -1000000000 ∨ 1000000000 ≤ v := by omega
        clear hsm
        rcases hor with hlo | hhi
        · go_wp2_with fail
          refine (par_large v d _ HDD.out (by unfold maxLen; omega) HSM.out (tab_below HT.out HB8.out)).mono ?_
          rintro e w9 ⟨rfl, hb9⟩
          have HB9 := Lib.hid (HB8.out.trans (hb9.mono HB8.out.size)); clear hb9
          go_wp2_with fail
          refine (fmts_y v _ HV.out d HDD.out).mono ?_
          rintro e w10 ⟨rfl, hb10⟩
          have HB10 := Lib.hid (HB9.out.trans (hb10.mono HB9.out.size)); clear hb10
          go_wp2_with fail
          go_ret
          exact ⟨rfl, HB10.out⟩
        · have hq9 : decide (v < 1000000000) = false := by rw [decide_eq_false_iff_not]; omega
          go_wp2_with fail
          refine (par_large v d _ HDD.out (by unfold maxLen; omega) HSM.out (tab_below HT.out HB8.out)).mono ?_
          rintro e w9 ⟨rfl, hb9⟩
          have HB9 := Lib.hid (HB8.out.trans (hb9.mono HB8.out.size)); clear hb9
          go_wp2_with fail
          refine (fmts_y v _ HV.out d HDD.out).mono ?_
          rintro e w10 ⟨rfl, hb10⟩
          have HB10 := Lib.hid (HB9.out.trans (hb10.mono HB9.out.size)); clear hb10
          go_wp2_with fail
          go_ret
          exact ⟨rfl, HB10.out⟩
  · have HNV := Lib.hid hv
    have hor : n < 0 ∨ 562949953421311 < n := by omega
    clear hv
    rcases hor with hlo' | hhi'
    · go_wp2_with fail
      refine (encv_n n _ HNV.out).mono ?_
      rintro e w3 ⟨s, rfl, hs, rfl⟩
      have HB3 := HB2
      have hse := isempty hs
      have hs7 : s.size ≤ 7 := by omega
      clear hs
      go_wp2_with fail
      refine (decvi_any _ _ (by rw [ByteArray.size_append]; unfold maxLen; omega)).mono ?_
      rintro e w4 ⟨⟨x, k, rfl, hd⟩, rfl⟩
      clear hd
      go_wp2_with fail
      refine (drawf_any w.heap.size _ _ len hl HB3.out.size (HC.out.below HB3.out)).mono ?_
      rintro e w4 ⟨v, mm, hv, hm1, hm2, rfl, hb4⟩
      have HB4 := Lib.hid (HB3.out.trans (hb4.mono HB3.out.size)); clear hb4
      have HV := Lib.hid hv; clear hv
      by_cases hf : FOk v mm
      · have HF := Lib.hid hf; clear hf
        go_wp2_with fail
        refine (encf_yi v mm _ HV.out HF.out).mono ?_
        rintro e w5 ⟨f, rfl, hff, hb5⟩
        have HB5a := Lib.hid (HB4.out.trans (hb5.mono HB4.out.size)); clear hb5
        have hfz := lb_size HF.out hff
        have hfm : ((f.size : Int) == mm) = true := by rw [beq_iff_eq]; exact hfz
        have hfm' : ((f.size : Int) != mm) = false := by rw [bne_eq_false_iff_eq]; exact hfz
        have hf1 : 1 ≤ f.size := by have := HF.out.1; omega
        have hf8 : f.size ≤ 8 := by omega
        have hfe := nonempty hf1
        have HFF := Lib.hid hff; clear hff hfz
        go_wp2_with fail
        refine (decf_backi _ ht HF.out HFF.out).mono ?_
        rintro e w5' ⟨rfl, rfl⟩
        go_wp2_with fail
        refine (encfs_yi v mm _ HV.out HF.out).mono ?_
        rintro e w5b ⟨f2, rfl, hff2, hb5⟩
        have HB5 := Lib.hid (HB5a.out.trans (hb5.mono HB5a.out.size)); clear hb5
        have hf2z := lb_size HF.out hff2
        have hf2e := nonempty (s := f2) (by have := HF.out.1; omega)
        clear hff2 hf2z
        go_wp2_with fail
        refine (ench_y t _ ht).mono ?_
        rintro e w6 ⟨hx, rfl, hhx, hb6⟩
        have HB6 := Lib.hid (HB5.out.trans (hb6.mono HB5.out.size)); clear hb6
        have hxz := (hex_back hhx).1
        have HXZ := Lib.hid hxz; clear hxz
        have hxs : hx.size ≤ 80 := by have := HXZ.out; omega
        have hxeq : ((hx.size : Int) == 2 * (t.size : Int)) = true := by rw [beq_iff_eq]; have := HXZ.out; omega
        have HHX := Lib.hid hhx; clear hhx
        go_wp2_with fail
        refine (dech_y hx t _ ht HHX.out).mono ?_
        rintro e w7 ⟨rfl, hb7⟩
        have HB7 := Lib.hid (HB6.out.trans (hb7.mono HB6.out.size)); clear hb7
        go_wp2_with fail
        refine (fmti_y v _ HV.out (tab_below HT.out HB7.out)).mono ?_
        rintro e w8 ⟨d, rfl, hdd, hb8⟩
        have HB8 := Lib.hid (HB7.out.trans (hb8.mono HB7.out.size)); clear hb8
        have hdz : d.size ≤ 40 := itoa_size HV.out hdd
        have HDD := Lib.hid hdd; clear hdd
        by_cases hsm : -1000000000 < v ∧ v < 1000000000
        · have HSM := Lib.hid hsm
          have hlo : -1000000000 < v := hsm.1
          have hhi : v < 1000000000 := hsm.2
          clear hsm
          go_wp2_with fail
          refine (par_small v d _ HDD.out (by unfold maxLen; omega) HSM.out (tab_below HT.out HB8.out)).mono ?_
          rintro e w9 ⟨rfl, hb9⟩
          have HB9 := Lib.hid (HB8.out.trans (hb9.mono HB8.out.size)); clear hb9
          go_wp2_with fail
          refine (fmts_y v _ HV.out d HDD.out).mono ?_
          rintro e w10 ⟨rfl, hb10⟩
          have HB10 := Lib.hid (HB9.out.trans (hb10.mono HB9.out.size)); clear hb10
          go_wp2_with fail
          go_ret
          exact ⟨rfl, HB10.out⟩
        · have HSM := Lib.hid hsm
          have hor : v ≤ -1000000000 ∨ 1000000000 ≤ v := by omega
          clear hsm
          rcases hor with hlo | hhi
          · go_wp2_with fail
            refine (par_large v d _ HDD.out (by unfold maxLen; omega) HSM.out (tab_below HT.out HB8.out)).mono ?_
            rintro e w9 ⟨rfl, hb9⟩
            have HB9 := Lib.hid (HB8.out.trans (hb9.mono HB8.out.size)); clear hb9
            go_wp2_with fail
            refine (fmts_y v _ HV.out d HDD.out).mono ?_
            rintro e w10 ⟨rfl, hb10⟩
            have HB10 := Lib.hid (HB9.out.trans (hb10.mono HB9.out.size)); clear hb10
            go_wp2_with fail
            go_ret
            exact ⟨rfl, HB10.out⟩
          · have hq9 : decide (v < 1000000000) = false := by rw [decide_eq_false_iff_not]; omega
            go_wp2_with fail
            refine (par_large v d _ HDD.out (by unfold maxLen; omega) HSM.out (tab_below HT.out HB8.out)).mono ?_
            rintro e w9 ⟨rfl, hb9⟩
            have HB9 := Lib.hid (HB8.out.trans (hb9.mono HB8.out.size)); clear hb9
            go_wp2_with fail
            refine (fmts_y v _ HV.out d HDD.out).mono ?_
            rintro e w10 ⟨rfl, hb10⟩
            have HB10 := Lib.hid (HB9.out.trans (hb10.mono HB9.out.size)); clear hb10
            go_wp2_with fail
            go_ret
            exact ⟨rfl, HB10.out⟩
      · have HF := Lib.hid hf; clear hf
        go_wp2_with fail
        refine (encf_ni v mm _ HV.out HF.out).mono ?_
        rintro e w5 ⟨f, rfl, hff, rfl⟩
        have hfe := isempty hff
        have hf8 : f.size ≤ 8 := by omega
        clear hff
        go_wp2_with fail
        refine (decf_some _ mm _ (by rw [ByteArray.size_append]; unfold maxLen; omega)).mono ?_
        rintro e w5' ⟨y, yb, rfl, rfl⟩
        go_wp2_with fail
        refine (encfs_ni v mm _ HV.out HF.out).mono ?_
        rintro e w5b ⟨f2, rfl, hff2, hb5⟩
        have HB5 := Lib.hid (HB4.out.trans (hb5.mono HB4.out.size)); clear hb5
        have hf2e := isempty hff2
        clear hff2
        go_wp2_with fail
        refine (ench_y t _ ht).mono ?_
        rintro e w6 ⟨hx, rfl, hhx, hb6⟩
        have HB6 := Lib.hid (HB5.out.trans (hb6.mono HB5.out.size)); clear hb6
        have hxz := (hex_back hhx).1
        have HXZ := Lib.hid hxz; clear hxz
        have hxs : hx.size ≤ 80 := by have := HXZ.out; omega
        have hxeq : ((hx.size : Int) == 2 * (t.size : Int)) = true := by rw [beq_iff_eq]; have := HXZ.out; omega
        have HHX := Lib.hid hhx; clear hhx
        go_wp2_with fail
        refine (dech_y hx t _ ht HHX.out).mono ?_
        rintro e w7 ⟨rfl, hb7⟩
        have HB7 := Lib.hid (HB6.out.trans (hb7.mono HB6.out.size)); clear hb7
        go_wp2_with fail
        refine (fmti_y v _ HV.out (tab_below HT.out HB7.out)).mono ?_
        rintro e w8 ⟨d, rfl, hdd, hb8⟩
        have HB8 := Lib.hid (HB7.out.trans (hb8.mono HB7.out.size)); clear hb8
        have hdz : d.size ≤ 40 := itoa_size HV.out hdd
        have HDD := Lib.hid hdd; clear hdd
        by_cases hsm : -1000000000 < v ∧ v < 1000000000
        · have HSM := Lib.hid hsm
          have hlo : -1000000000 < v := hsm.1
          have hhi : v < 1000000000 := hsm.2
          clear hsm
          go_wp2_with fail
          refine (par_small v d _ HDD.out (by unfold maxLen; omega) HSM.out (tab_below HT.out HB8.out)).mono ?_
          rintro e w9 ⟨rfl, hb9⟩
          have HB9 := Lib.hid (HB8.out.trans (hb9.mono HB8.out.size)); clear hb9
          go_wp2_with fail
          refine (fmts_y v _ HV.out d HDD.out).mono ?_
          rintro e w10 ⟨rfl, hb10⟩
          have HB10 := Lib.hid (HB9.out.trans (hb10.mono HB9.out.size)); clear hb10
          go_wp2_with fail
          go_ret
          exact ⟨rfl, HB10.out⟩
        · have HSM := Lib.hid hsm
          have hor : v ≤ -1000000000 ∨ 1000000000 ≤ v := by omega
          clear hsm
          rcases hor with hlo | hhi
          · go_wp2_with fail
            refine (par_large v d _ HDD.out (by unfold maxLen; omega) HSM.out (tab_below HT.out HB8.out)).mono ?_
            rintro e w9 ⟨rfl, hb9⟩
            have HB9 := Lib.hid (HB8.out.trans (hb9.mono HB8.out.size)); clear hb9
            go_wp2_with fail
            refine (fmts_y v _ HV.out d HDD.out).mono ?_
            rintro e w10 ⟨rfl, hb10⟩
            have HB10 := Lib.hid (HB9.out.trans (hb10.mono HB9.out.size)); clear hb10
            go_wp2_with fail
            go_ret
            exact ⟨rfl, HB10.out⟩
          · have hq9 : decide (v < 1000000000) = false := by rw [decide_eq_false_iff_not]; omega
            go_wp2_with fail
            refine (par_large v d _ HDD.out (by unfold maxLen; omega) HSM.out (tab_below HT.out HB8.out)).mono ?_
            rintro e w9 ⟨rfl, hb9⟩
            have HB9 := Lib.hid (HB8.out.trans (hb9.mono HB8.out.size)); clear hb9
            go_wp2_with fail
            refine (fmts_y v _ HV.out d HDD.out).mono ?_
            rintro e w10 ⟨rfl, hb10⟩
            have HB10 := Lib.hid (HB9.out.trans (hb10.mono HB9.out.size)); clear hb10
            go_wp2_with fail
            go_ret
            exact ⟨rfl, HB10.out⟩
    · go_wp2_with fail
      refine (encv_n n _ HNV.out).mono ?_
      rintro e w3 ⟨s, rfl, hs, rfl⟩
      have HB3 := HB2
      have hse := isempty hs
      have hs7 : s.size ≤ 7 := by omega
      clear hs
      go_wp2_with fail
      refine (decvi_any _ _ (by rw [ByteArray.size_append]; unfold maxLen; omega)).mono ?_
      rintro e w4 ⟨⟨x, k, rfl, hd⟩, rfl⟩
      clear hd
      go_wp2_with fail
      refine (drawf_any w.heap.size _ _ len hl HB3.out.size (HC.out.below HB3.out)).mono ?_
      rintro e w4 ⟨v, mm, hv, hm1, hm2, rfl, hb4⟩
      have HB4 := Lib.hid (HB3.out.trans (hb4.mono HB3.out.size)); clear hb4
      have HV := Lib.hid hv; clear hv
      by_cases hf : FOk v mm
      · have HF := Lib.hid hf; clear hf
        go_wp2_with fail
        refine (encf_yi v mm _ HV.out HF.out).mono ?_
        rintro e w5 ⟨f, rfl, hff, hb5⟩
        have HB5a := Lib.hid (HB4.out.trans (hb5.mono HB4.out.size)); clear hb5
        have hfz := lb_size HF.out hff
        have hfm : ((f.size : Int) == mm) = true := by rw [beq_iff_eq]; exact hfz
        have hfm' : ((f.size : Int) != mm) = false := by rw [bne_eq_false_iff_eq]; exact hfz
        have hf1 : 1 ≤ f.size := by have := HF.out.1; omega
        have hf8 : f.size ≤ 8 := by omega
        have hfe := nonempty hf1
        have HFF := Lib.hid hff; clear hff hfz
        go_wp2_with fail
        refine (decf_backi _ ht HF.out HFF.out).mono ?_
        rintro e w5' ⟨rfl, rfl⟩
        go_wp2_with fail
        refine (encfs_yi v mm _ HV.out HF.out).mono ?_
        rintro e w5b ⟨f2, rfl, hff2, hb5⟩
        have HB5 := Lib.hid (HB5a.out.trans (hb5.mono HB5a.out.size)); clear hb5
        have hf2z := lb_size HF.out hff2
        have hf2e := nonempty (s := f2) (by have := HF.out.1; omega)
        clear hff2 hf2z
        go_wp2_with fail
        refine (ench_y t _ ht).mono ?_
        rintro e w6 ⟨hx, rfl, hhx, hb6⟩
        have HB6 := Lib.hid (HB5.out.trans (hb6.mono HB5.out.size)); clear hb6
        have hxz := (hex_back hhx).1
        have HXZ := Lib.hid hxz; clear hxz
        have hxs : hx.size ≤ 80 := by have := HXZ.out; omega
        have hxeq : ((hx.size : Int) == 2 * (t.size : Int)) = true := by rw [beq_iff_eq]; have := HXZ.out; omega
        have HHX := Lib.hid hhx; clear hhx
        go_wp2_with fail
        refine (dech_y hx t _ ht HHX.out).mono ?_
        rintro e w7 ⟨rfl, hb7⟩
        have HB7 := Lib.hid (HB6.out.trans (hb7.mono HB6.out.size)); clear hb7
        go_wp2_with fail
        refine (fmti_y v _ HV.out (tab_below HT.out HB7.out)).mono ?_
        rintro e w8 ⟨d, rfl, hdd, hb8⟩
        have HB8 := Lib.hid (HB7.out.trans (hb8.mono HB7.out.size)); clear hb8
        have hdz : d.size ≤ 40 := itoa_size HV.out hdd
        have HDD := Lib.hid hdd; clear hdd
        by_cases hsm : -1000000000 < v ∧ v < 1000000000
        · have HSM := Lib.hid hsm
          have hlo : -1000000000 < v := hsm.1
          have hhi : v < 1000000000 := hsm.2
          clear hsm
          go_wp2_with fail
          refine (par_small v d _ HDD.out (by unfold maxLen; omega) HSM.out (tab_below HT.out HB8.out)).mono ?_
          rintro e w9 ⟨rfl, hb9⟩
          have HB9 := Lib.hid (HB8.out.trans (hb9.mono HB8.out.size)); clear hb9
          go_wp2_with fail
          refine (fmts_y v _ HV.out d HDD.out).mono ?_
          rintro e w10 ⟨rfl, hb10⟩
          have HB10 := Lib.hid (HB9.out.trans (hb10.mono HB9.out.size)); clear hb10
          go_wp2_with fail
          go_ret
          exact ⟨rfl, HB10.out⟩
        · have HSM := Lib.hid hsm
          have hor : v ≤ -1000000000 ∨ 1000000000 ≤ v := by omega
          clear hsm
          rcases hor with hlo | hhi
          · go_wp2_with fail
            refine (par_large v d _ HDD.out (by unfold maxLen; omega) HSM.out (tab_below HT.out HB8.out)).mono ?_
            rintro e w9 ⟨rfl, hb9⟩
            have HB9 := Lib.hid (HB8.out.trans (hb9.mono HB8.out.size)); clear hb9
            go_wp2_with fail
            refine (fmts_y v _ HV.out d HDD.out).mono ?_
            rintro e w10 ⟨rfl, hb10⟩
            have HB10 := Lib.hid (HB9.out.trans (hb10.mono HB9.out.size)); clear hb10
            go_wp2_with fail
            go_ret
            exact ⟨rfl, HB10.out⟩
          · have hq9 : decide (v < 1000000000) = false := by rw [decide_eq_false_iff_not]; omega
            go_wp2_with fail
            refine (par_large v d _ HDD.out (by unfold maxLen; omega) HSM.out (tab_below HT.out HB8.out)).mono ?_
            rintro e w9 ⟨rfl, hb9⟩
            have HB9 := Lib.hid (HB8.out.trans (hb9.mono HB8.out.size)); clear hb9
            go_wp2_with fail
            refine (fmts_y v _ HV.out d HDD.out).mono ?_
            rintro e w10 ⟨rfl, hb10⟩
            have HB10 := Lib.hid (HB9.out.trans (hb10.mono HB9.out.size)); clear hb10
            go_wp2_with fail
            go_ret
            exact ⟨rfl, HB10.out⟩
      · have HF := Lib.hid hf; clear hf
        go_wp2_with fail
        refine (encf_ni v mm _ HV.out HF.out).mono ?_
        rintro e w5 ⟨f, rfl, hff, rfl⟩
        have hfe := isempty hff
        have hf8 : f.size ≤ 8 := by omega
        clear hff
        go_wp2_with fail
        refine (decf_some _ mm _ (by rw [ByteArray.size_append]; unfold maxLen; omega)).mono ?_
        rintro e w5' ⟨y, yb, rfl, rfl⟩
        go_wp2_with fail
        refine (encfs_ni v mm _ HV.out HF.out).mono ?_
        rintro e w5b ⟨f2, rfl, hff2, hb5⟩
        have HB5 := Lib.hid (HB4.out.trans (hb5.mono HB4.out.size)); clear hb5
        have hf2e := isempty hff2
        clear hff2
        go_wp2_with fail
        refine (ench_y t _ ht).mono ?_
        rintro e w6 ⟨hx, rfl, hhx, hb6⟩
        have HB6 := Lib.hid (HB5.out.trans (hb6.mono HB5.out.size)); clear hb6
        have hxz := (hex_back hhx).1
        have HXZ := Lib.hid hxz; clear hxz
        have hxs : hx.size ≤ 80 := by have := HXZ.out; omega
        have hxeq : ((hx.size : Int) == 2 * (t.size : Int)) = true := by rw [beq_iff_eq]; have := HXZ.out; omega
        have HHX := Lib.hid hhx; clear hhx
        go_wp2_with fail
        refine (dech_y hx t _ ht HHX.out).mono ?_
        rintro e w7 ⟨rfl, hb7⟩
        have HB7 := Lib.hid (HB6.out.trans (hb7.mono HB6.out.size)); clear hb7
        go_wp2_with fail
        refine (fmti_y v _ HV.out (tab_below HT.out HB7.out)).mono ?_
        rintro e w8 ⟨d, rfl, hdd, hb8⟩
        have HB8 := Lib.hid (HB7.out.trans (hb8.mono HB7.out.size)); clear hb8
        have hdz : d.size ≤ 40 := itoa_size HV.out hdd
        have HDD := Lib.hid hdd; clear hdd
        by_cases hsm : -1000000000 < v ∧ v < 1000000000
        · have HSM := Lib.hid hsm
          have hlo : -1000000000 < v := hsm.1
          have hhi : v < 1000000000 := hsm.2
          clear hsm
          go_wp2_with fail
          refine (par_small v d _ HDD.out (by unfold maxLen; omega) HSM.out (tab_below HT.out HB8.out)).mono ?_
          rintro e w9 ⟨rfl, hb9⟩
          have HB9 := Lib.hid (HB8.out.trans (hb9.mono HB8.out.size)); clear hb9
          go_wp2_with fail
          refine (fmts_y v _ HV.out d HDD.out).mono ?_
          rintro e w10 ⟨rfl, hb10⟩
          have HB10 := Lib.hid (HB9.out.trans (hb10.mono HB9.out.size)); clear hb10
          go_wp2_with fail
          go_ret
          exact ⟨rfl, HB10.out⟩
        · have HSM := Lib.hid hsm
          have hor : v ≤ -1000000000 ∨ 1000000000 ≤ v := by omega
          clear hsm
          rcases hor with hlo | hhi
          · go_wp2_with fail
            refine (par_large v d _ HDD.out (by unfold maxLen; omega) HSM.out (tab_below HT.out HB8.out)).mono ?_
            rintro e w9 ⟨rfl, hb9⟩
            have HB9 := Lib.hid (HB8.out.trans (hb9.mono HB8.out.size)); clear hb9
            go_wp2_with fail
            refine (fmts_y v _ HV.out d HDD.out).mono ?_
            rintro e w10 ⟨rfl, hb10⟩
            have HB10 := Lib.hid (HB9.out.trans (hb10.mono HB9.out.size)); clear hb10
            go_wp2_with fail
            go_ret
            exact ⟨rfl, HB10.out⟩
          · have hq9 : decide (v < 1000000000) = false := by rw [decide_eq_false_iff_not]; omega
            go_wp2_with fail
            refine (par_large v d _ HDD.out (by unfold maxLen; omega) HSM.out (tab_below HT.out HB8.out)).mono ?_
            rintro e w9 ⟨rfl, hb9⟩
            have HB9 := Lib.hid (HB8.out.trans (hb9.mono HB8.out.size)); clear hb9
            go_wp2_with fail
            refine (fmts_y v _ HV.out d HDD.out).mono ?_
            rintro e w10 ⟨rfl, hb10⟩
            have HB10 := Lib.hid (HB9.out.trans (hb10.mono HB9.out.size)); clear hb10
            go_wp2_with fail
            go_ret
            exact ⟨rfl, HB10.out⟩
end Go.Proofs.YteknoaikgmlhcaaDoor
