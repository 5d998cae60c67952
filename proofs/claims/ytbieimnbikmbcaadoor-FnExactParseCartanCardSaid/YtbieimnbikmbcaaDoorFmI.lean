/-
  FormatCartan of the program: what the call returns.
-/
import Derived.Test.YtbieimnbikmbcaaDoorFmS
import Derived.Test.YtbieimnbikmbcaaDoorLine
import Derived.Test.YtbieimnbikmbcaaDoorLaid
namespace Go.Proofs.YtbieimnbikmbcaaDoor
open Go.RowKit

theorem join_le (sep : List UInt8) (N : Nat) : ∀ xs : List (List UInt8), (∀ x ∈ xs, x.length ≤ N) → (Lib.join xs sep).length ≤ xs.length * (N + sep.length)
  | [], _ => by simp [Lib.join_nil]
  | x :: r, h => by
    rw [Lib.join_cons]
    have hx := h x (by simp)
    have ht : ∀ r : List (List UInt8), (∀ x ∈ r, x.length ≤ N) → (Lib.joinTail sep r).length ≤ r.length * (N + sep.length) := by
      intro r
      induction r with
      | nil => intro _; simp [Lib.joinTail]
      | cons y r ih =>
        intro hr
        have h1 := ih (fun z hz => hr z (by simp [hz]))
        have h2 := hr y (by simp)
        have e : Lib.joinTail sep (y :: r) = sep ++ y ++ Lib.joinTail sep r := by simp [Lib.joinTail]
        rw [e, List.length_append, List.length_append, List.length_cons, Nat.add_mul]
        omega
    have h3 := ht r (fun z hz => h z (by simp [hz]))
    rw [List.length_append, List.length_cons, Nat.add_mul]
    omega
theorem rowT_len {r : List Int} (h : ∀ x ∈ r, -3 ≤ x ∧ x ≤ 2) : (rowT r).length ≤ r.length * 3 := by
  have := join_le [44] 2 (r.map Lib.itoa) (fun x hx => by
    obtain ⟨y, hy, rfl⟩ := List.mem_map.1 hx
    exact itoa_short (h y hy))
  simpa [rowT] using this
theorem isC_mem {m : List (List Int)} (h : IsC m) {k : Nat} (hk : k < m.length) : ∀ x ∈ m.getD k [], -3 ≤ x ∧ x ≤ 2 := by
  intro x hx
  obtain ⟨j, hj, rfl⟩ := List.getElem_of_mem hx
  have hl := h.1 k hk
  have he := isC_entry h hk (j := j) (by omega)
  have : entry m k j = (m.getD k [])[j] := by unfold entry; simp [List.getD] at hj ⊢; simp [hj]
  rwa [this] at he
theorem fmtT_len {m : List (List Int)} (h : IsC m) : (fmtT m).length ≤ 1000 := by
  have h4 := h.2.2.2
  have := join_le [59] 12 (m.map rowT) (fun x hx => by
    obtain ⟨r, hr, rfl⟩ := List.mem_map.1 hx
    obtain ⟨k, hk, rfl⟩ := List.getElem_of_mem hr
    have h1 := rowT_len (isC_mem h hk)
    have h2 := h.1 k hk
    rw [getD_row m k hk] at h1 h2
    omega)
  rw [List.length_map] at this
  have h5 : m.length * (12 + [59].length) ≤ 4 * 13 := Nat.mul_le_mul h4 (by simp)
  unfold fmtT
  omega

def strV (l : List ByteArray) : List Value := l.map Value.string
theorem strV_len (l : List ByteArray) : (strV l).length = l.length := by simp [strV]
theorem Tryd.infoStr : (Tryd.prog.info? 9).map (fun i => (i.zero, i.size, i.bytes)) = some (some (.string ⟨#[]⟩), 1, 16) := by kernel_rfl
theorem make_strs (n : Nat) (hn : n ≤ 1048576) (w : World) : ∃ w1, (Instr.makeSlice 35 (.int .i64 n) (.int .i64 n)).run Tryd.prog w = .ok (.slice (some ⟨w.heap.size, 0, none⟩) n n) w1 ∧
    w1.ownsRow w.heap.size 9 1 (.slice (some ⟨w.heap.size, 0, none⟩) n n) n (strV (List.replicate n ⟨#[]⟩)) ∧ (∀ W C, C ≤ w.heap.size → Below C W w → Below C W w1) ∧ w.heap.size < w1.heap.size := by
  obtain ⟨i0, hi, hz0, hz1, hz2⟩ := info_parts Tryd.infoStr
  have h := run_make (P := Tryd.prog) w 35 9 i0 (.string ⟨#[]⟩) Tryd.underlying35 hi hz0 .i64 .i64 (n : Int) (n : Int) (by omega) (Int.le_refl _) (by rw [hz2]; omega) (by omega)
  rw [Int.toNat_natCast] at h
  refine ⟨_, h, ?_, fun W C hC hb => hb.alloc hC _, by simp⟩
  rw [hz1, Nat.mul_one]
  have e : (madeCells (Value.string ⟨#[]⟩).cells n).toList = strV (List.replicate n ⟨#[]⟩) := by
    apply List.ext_getElem
    · simp [madeCells, strV]
    · intro i h1 h2
      simp [madeCells, strV, Value.cells, Nat.mod_one]
  have := World.ownsRow_lit (base := w.heap.size) (e := 9) (size := 1) w (madeCells (Value.string ⟨#[]⟩).cells n) n (Nat.le_refl _) (by unfold maxLen; omega) (by rw [← Array.length_toList, e]; simp [strV])
  rw [e] at this
  exact this
/-- The first k strings are laid, the others are empty. -/
def laidS (L : List ByteArray) (n k : Nat) : List ByteArray := L.take k ++ List.replicate (n - k) ⟨#[]⟩
theorem laidS_len {L : List ByteArray} {n k : Nat} (hL : L.length = n) (hk : k ≤ n) : (laidS L n k).length = n := by simp [laidS, hL]; omega
theorem laidS_step {L : List ByteArray} {n k : Nat} (hL : L.length = n) (hk : k < n) : (strV (laidS L n k)).set k (.string (L.getD k ⟨#[]⟩)) = strV (laidS L n (k + 1)) := by
  have hg : L.getD k ⟨#[]⟩ = L[k] := by simp [List.getD, hL, hk]
  have h : (L.take k).length = k := by simp [hL]; omega
  unfold laidS strV
  rw [← List.map_set, List.set_append_right _ _ (by omega), h, Nat.sub_self, hg, List.take_succ_eq_append_getElem (show k < L.length by omega)]
  obtain ⟨d, hd⟩ : ∃ d, n - k = d + 1 := ⟨n - k - 1, by omega⟩
  rw [hd, show n - (k + 1) = d by omega, List.replicate_succ, List.set_cons_zero, List.append_assoc]
  rfl
theorem laidS_zero (L : List ByteArray) (n : Nat) : laidS L n 0 = List.replicate n ⟨#[]⟩ := by simp [laidS]
theorem laidS_end {L : List ByteArray} {n : Nat} (hL : L.length = n) : laidS L n n = L := by simp [laidS, ← hL]

/-- A slice of strings of the call's own: what a store leaves. -/
theorem strs_put {A : Nat} {w : World} {g n : Nat} {L : List ByteArray} (h : w.ownsRow A 9 1 (.slice (some ⟨g, 0, none⟩) n n) n (strV L)) {k : Nat} (hk : k < n) (s : ByteArray) :
    ∃ W', w.setCell ⟨g, k, none⟩ (.string s) = W' ∧ W'.ownsRow A 9 1 (.slice (some ⟨g, 0, none⟩) n n) n ((strV L).set k (.string s)) ∧ (∃ c, w.cell? ⟨g, k, none⟩ = some c) ∧ w.frozen? ⟨g, k, none⟩ = false ∧
      (∀ W C, C ≤ A → Below C W w → Below C W W') ∧ W'.heap.size = w.heap.size ∧ w.grownBy W' (some g) := by
  obtain ⟨ho, hg⟩ := h.stored k (.string s)
  have hl := h.1
  refine ⟨_, rfl, ho, ⟨_, (h.cellAt k (by omega)).trans (List.getElem?_eq_getElem (by omega))⟩, h.frozenAt k, fun W C hC hb => hb.setCell (p := ⟨g, k, none⟩) (Nat.le_trans hC (h.lt g rfl).1) _, by simp, hg⟩
theorem strs_cell {A : Nat} {w : World} {g n : Nat} {L : List ByteArray} (h : w.ownsRow A 9 1 (.slice (some ⟨g, 0, none⟩) n n) n (strV L)) : ∀ (j : Nat) x, L[j]? = some x → w.cell? ⟨g, 0 + j, none⟩ = some (.string x) := by
  intro j x hx
  have hl := h.1
  have hj : j < L.length := (List.getElem?_eq_some_iff.1 hx).1
  rw [strV_len] at hl
  rw [Nat.zero_add, h.cellAt j (by omega)]
  simp [strV, hx]
theorem ownS_step {A : Nat} {w w' : World} {g n : Nat} {xs : List Value} (h : w.ownsRow A 9 1 (.slice (some ⟨g, 0, none⟩) n n) n xs) (hb : Below w.heap.size w w') : w'.ownsRow A 9 1 (.slice (some ⟨g, 0, none⟩) n n) n xs :=
  ownsRow_same h (fun g' hg => (h.lt g' hg).2) (SameIn.of_below hb (Nat.le_refl _))

def entS (r : List Int) : List ByteArray := r.map fun x => ⟨(Lib.itoa x).toArray⟩
def rowS (m : List (List Int)) : List ByteArray := m.map fun r => ⟨(rowT r).toArray⟩
theorem entS_join (r : List Int) : Lib.join ((entS r).map (·.data.toList)) [44] = rowT r := by simp [entS, rowT, List.map_map, Function.comp_def]
theorem rowS_join (m : List (List Int)) : Lib.join ((rowS m).map (·.data.toList)) [59] = fmtT m := by simp [rowS, fmtT, List.map_map, Function.comp_def]
theorem entS_get (m : List (List Int)) (k j : Nat) (n : Nat) (hr : (m.getD k []).length = n) (h : j < n) : (entS (m.getD k [])).getD j ⟨#[]⟩ = ⟨(Lib.itoa (entry m k j)).toArray⟩ := by
  unfold entry
  generalize m.getD k [] = r at *
  simp [entS, List.getD, show j < r.length by omega]
theorem rowS_get (m : List (List Int)) (k : Nat) (h : k < m.length) : (rowS m).getD k ⟨#[]⟩ = ⟨(rowT (m.getD k [])).toArray⟩ := by
  rw [getD_row m k h]
  simp [rowS, List.getD, h]

set_option maxHeartbeats 4000000 in
set_option maxRecDepth 100000 in
theorem fmi_yes (B : Nat) (v : Value) (m : List (List Int)) (w : World) (h : MatB B w v m) (hB : B ≤ w.heap.size) (hf : RowsFit m) (hI : IsC m) (htab : Lib.TabIs Tryd.prog w "internal/strconv.uint64pow10" .u64 Lib.pow10Tab) :
    Calls Tryd.prog 8 #[v] w fun e w' => e = .returned (.string ⟨(fmtT m).toArray⟩) ∧ Below w.heap.size w w' := by
  obtain ⟨a, cap, rfl⟩ := h.slice
  have hl := hf.1
  have HT := Lib.hid htab; clear htab
  have HR := Lib.hid h; clear h
  have HF := Lib.hid hf; clear hf
  have hrows : Rows0 m m.length m.length := hI.1
  have hn4 := hI.2.2
  have HC := Lib.hid (isB_yes hI)
  have HE := Lib.hid (fun (i j : Nat) (hi : i < m.length) (hj : j < m.length) => isC_entry hI hi hj)
  have HRL := Lib.hid (fun (k : Nat) (hk : k < m.length) => rowT_len (isC_mem hI hk))
  have HFL := Lib.hid (fmtT_len hI)
  have HRW := Lib.hid hrows
  have HRS := Lib.hid (rowS_get m)
  have HRSL : Hid ((rowS m).length = m.length) := Lib.hid (by simp [rowS])
  have HRJ := Lib.hid (rowS_join m)
  clear hI hrows
  generalize hn : m.length = n at *
  unfold maxLen at hl
  have HN := Lib.hid hn; clear hn
  go_enter Tryd.func8, Tryd.ntmps8
  go_wp2_with fail
  refine (icm_w B _ m true HC.out _ HR.out HF.out).mono ?_
  rintro e w1 ⟨rfl, hb1⟩
  have hs1 := hb1.size
  obtain ⟨w2, hmk, ho2, hb2, hz2⟩ := make_strs n (by omega) w1
  rw [← laidS_zero (rowS m)] at ho2
  have HO2 := Lib.hid ho2
  have HB2 := Lib.hid (hb2 w w.heap.size hs1 hb1)
  clear ho2 hb2 hz2 hb1
  go_wp2_with fail
  clear hmk
  go_loopw [17] (fun i wr => ∃ (k : Nat) (wq : World), wq = wr ∧ k ≤ n ∧ i = .int .i64 k ∧ wq.ownsRow w1.heap.size 9 1 (.slice (some ⟨w1.heap.size, 0, none⟩) n n) n (strV (laidS (rowS m) n k)) ∧ Below w.heap.size w wq) (fun i _ => n - (intOf i).toNat)
  case atStart => exact ⟨0, _, rfl, Nat.zero_le _, rfl, HO2.out, HB2.out⟩
  case round =>
    clear HO2 HB2
    clear w2
    obtain ⟨k, wq, rfl, hk, rfl, ho, hb⟩ := hrel
    have HO := Lib.hid ho; clear ho
    have hsq := hb.size
    have HB := Lib.hid hb; clear hb
    by_cases hlt : k < n
    · obtain ⟨b, off, rb, roff, rcap, rfl, hbB, hrB, hc1, hx⟩ := HR.out.line HRW.out hlt
      have hc1' := (HB.out.cell (p := ⟨b, off + k, none⟩) (by show b < _; omega)).trans hc1
      have HX := Lib.hid hx
      obtain ⟨w3, hmk, ho3, hb3, hz3⟩ := make_strs n (by omega) wq
      rw [← laidS_zero (entS (m.getD k []))] at ho3
      have HO3 := Lib.hid ho3
      have HB3 := Lib.hid (hb3 wq wq.heap.size (Nat.le_refl _) (Below.refl _ _))
      clear ho3 hb3 hz3 hc1 hx
      have hel : (m.getD k []).length = n := HRW.out k hlt
      have HEL : Hid ((entS (m.getD k [])).length = n) := Lib.hid (by rw [← hel]; simp [entS])
      have HEG := Lib.hid (fun (j : Nat) (hj : j < n) => entS_get m k j n hel hj)
      go_wp2_with fail
      clear hmk hc1'
      go_loopw [27] (fun i wr => ∃ (j : Nat) (wi : World), wi = wr ∧ j ≤ n ∧ i = .int .i64 j ∧ wi.ownsRow wq.heap.size 9 1 (.slice (some ⟨wq.heap.size, 0, none⟩) n n) n (strV (laidS (entS (m.getD k [])) n j)) ∧ Below wq.heap.size wq wi) (fun i _ => n - (intOf i).toNat)
      case atStart => exact ⟨0, _, rfl, Nat.zero_le _, rfl, HO3.out, HB3.out⟩
      case round =>
        clear HO3 HB3
        clear w3
        obtain ⟨j, wi, rfl, hj, rfl, ho, hb⟩ := hrel
        have HOI := Lib.hid ho; clear ho
        have hsi := hb.size
        have HBI := Lib.hid hb; clear hb
        by_cases hjn : j < n
        · have hbwi : Below w.heap.size w wi := HB.out.trans (HBI.out.mono hsq)
          have hxc := (hbwi.cell (p := ⟨rb, roff + j, none⟩) (by show rb < _; omega)).trans (HX.out j hjn)
          have htb := tab_below HT.out hbwi
          have HTB := Lib.hid htb
          have hen := HE.out k j hlt hjn
          have hst := laidS_step HEL.out hjn
          rw [HEG.out j hjn] at hst
          have HST := Lib.hid hst
          clear htb hbwi hst
          generalize entry m k j = x at *
          go_wp2_with fail
          refine (fmti_any x _ (by omega) (by omega) HTB.out).mono ?_
          rintro e w5 ⟨rfl, hb5⟩
          have ho5 := ownS_step HOI.out hb5
          have HB5 := Lib.hid (HBI.out.trans (hb5.mono hsi))
          obtain ⟨W6, e6, ho6, ⟨c6, hc6⟩, hf6, hb6, hz6, hg6⟩ := strs_put ho5 hjn ⟨(Lib.itoa x).toArray⟩
          rw [HST.out] at ho6
          have HO6 := Lib.hid ho6
          have HB6 := Lib.hid (hb6 wq wq.heap.size (Nat.le_refl _) HB5.out)
          clear ho6 hb6 ho5 hb5 hg6 hz6
          go_wp2_with fail
          exact ⟨⟨j + 1, _, rfl, by omega, by go_num, HO6.out, HB6.out⟩, by simp [intOf]; omega⟩
        · obtain rfl : j = n := by omega
          have ho := HOI.out
          rw [laidS_end HEL.out] at ho
          have hbwi : Below w.heap.size w wi := HB.out.trans (HBI.out.mono hsq)
          have hrlen := HRL.out k hlt
          have hj := Tryd.strings_Join wq.heap.size 0 j (entS (m.getD k [])) ⟨#[44]⟩ wi (strs_cell ho) (ho.lt _ rfl).2 (by rw [HEL.out]; omega) (by rw [HEL.out]; exact Nat.le_refl _) (by rw [show (⟨#[44]⟩ : ByteArray).data.toList = [44] from rfl, entS_join]; rw [hel] at hrlen; omega)
          rw [HEL.out, show (⟨#[44]⟩ : ByteArray).data.toList = [44] from rfl, entS_join] at hj
          have HJ := Lib.hid hj
          have hst := laidS_step HRSL.out hlt
          rw [HRS.out k hlt] at hst
          have HST := Lib.hid hst
          clear hj hst ho hbwi
          generalize rowT (m.getD k []) = y at *
          go_wp2_with fail
          refine HJ.out.mono ?_
          rintro e w5 ⟨rfl, hb5⟩
          have hb5' : Below wq.heap.size wq w5 := HBI.out.trans (hb5.mono hsi)
          have ho5 := ownS_step HO.out hb5'
          obtain ⟨W6, e6, ho6, ⟨c6, hc6⟩, hf6, hb6, hz6, hg6⟩ := strs_put ho5 hlt ⟨y.toArray⟩
          rw [HST.out] at ho6
          have HO6 := Lib.hid ho6
          have HB6 := Lib.hid (hb6 w w.heap.size hs1 (HB.out.trans (hb5'.mono hsq)))
          clear ho6 hb6 ho5 hb5 hg6 hz6 hb5'
          go_wp2_with fail
          exact ⟨⟨k + 1, _, rfl, by omega, by go_num, HO6.out, HB6.out⟩, by simp [intOf]; omega⟩
    · obtain rfl : k = n := by omega
      have ho := HO.out
      rw [laidS_end HRSL.out] at ho
      have hj := Tryd.strings_Join w1.heap.size 0 k (rowS m) ⟨#[59]⟩ wq (strs_cell ho) (ho.lt _ rfl).2 (by rw [HRSL.out]; omega) (by rw [HRSL.out]; exact Nat.le_refl _) (by rw [show (⟨#[59]⟩ : ByteArray).data.toList = [59] from rfl, HRJ.out]; have := HFL.out; omega)
      rw [HRSL.out, show (⟨#[59]⟩ : ByteArray).data.toList = [59] from rfl, HRJ.out] at hj
      have HJ := Lib.hid hj
      clear hj ho
      go_wp2_with fail
      refine HJ.out.mono ?_
      rintro e w5 ⟨rfl, hb5⟩
      have HB5 := Lib.hid (HB.out.trans (hb5.mono hsq))
      clear hb5
      go_wp2_with fail
      go_ret
      exact ⟨rfl, HB5.out⟩

set_option maxHeartbeats 1000000 in
theorem fmi_any (B : Nat) (v : Value) (m : List (List Int)) (w : World) (h : MatB B w v m) (hB : B ≤ w.heap.size) (hf : RowsFit m) (htab : Lib.TabIs Tryd.prog w "internal/strconv.uint64pow10" .u64 Lib.pow10Tab) :
    Calls Tryd.prog 8 #[v] w fun e w' => e = .returned (.string ⟨(fmtM m).toArray⟩) ∧ Below w.heap.size w w' := by
  by_cases hI : IsC m
  · rw [fmtM_yes hI]
    exact fmi_yes B v m w h hB hf hI htab
  · rw [fmtM_no hI]
    have HC := Lib.hid (isB_no hI)
    go_enter Tryd.func8, Tryd.ntmps8
    go_wp2_with fail
    refine (icm_w B _ m false HC.out _ h hf).mono ?_
    rintro e w1 ⟨rfl, hb1⟩
    have HB1 := Lib.hid hb1; clear hb1
    go_wp2_with fail
    go_ret
    exact ⟨rfl, HB1.out⟩
end Go.Proofs.YtbieimnbikmbcaaDoor
