/-
  FormatCartan of the model: what the call returns.
  What the condition of FnCartans' row on the listed tables gives.
  FormatCartan of the program: what the call returns.
-/
import Derived.Lib.Join
import Derived.Test.YtppimgkampkfjaaGreatDoorFcg02
import Derived.Test.YtppimgkampkfjaaGreatDoorFcg29
import Derived.Test.YtppimgkampkfjaaGreatDoorRows
import Derived.LaidMore
import Derived.OpenShut
import Derived.Stop.Joined
import Derived.Lib.LaidTab
import Derived.Stop.LaidErr
import Derived.Lib.ItoaNum
import Derived.Below
import Derived.Test.YtppimgkampkfjaaGreatDoorFcg22
import Derived.Test.YtppimgkampkfjaaGreatDoorFcg03
namespace Go.Proofs.YtppimgkampkfjaaGreatDoor
open Go.RowKit

theorem join_snoc (l : List (List UInt8)) (x sep : List UInt8) (h : l ≠ []) : Lib.join (l ++ [x]) sep = Lib.join l sep ++ sep ++ x := by
  cases l with
  | nil => exact absurd rfl h
  | cons y r =>
    rw [List.cons_append, Lib.join_cons, Lib.join_cons]
    simp [Lib.joinTail]
theorem map_take_ne {α β : Type} (f : α → β) (l : List α) (k : Nat) (hk : 0 < k) (hl : k ≤ l.length) : (l.take k).map f ≠ [] := by
  intro e
  have h : ((l.take k).map f).length = 0 := by rw [e]; rfl
  rw [List.length_map, List.length_take] at h
  omega
theorem ba_app_size (a b : ByteArray) : (a ++ b).size = a.size + b.size := ByteArray.size_append
theorem ba_one (c : UInt8) : (⟨#[c]⟩ : ByteArray).size = 1 := rfl
theorem ba_list (l : List UInt8) : (⟨l.toArray⟩ : ByteArray).size = l.length := rfl
def rowT (r : List Int) : List UInt8 := Lib.join (r.map Lib.itoa) [44]
def fmtT (m : List (List Int)) : List UInt8 := Lib.join (m.map rowT) [59]
/-- What stands before the k-th row. -/
def preT (m : List (List Int)) (k : Nat) : List UInt8 := if k = 0 then [] else Lib.join ((m.take k).map rowT) [59] ++ [59]
theorem preT_join (m : List (List Int)) (k : Nat) (h : k < m.length) : preT m k ++ rowT (m.getD k []) = Lib.join ((m.take (k + 1)).map rowT) [59] := by
  rw [getD_row m k h, List.take_succ_eq_append_getElem h, List.map_append]
  unfold preT
  by_cases h0 : k = 0
  · subst h0
    rw [if_pos rfl]
    simp [Lib.join_one]
  · rw [if_neg h0, List.map_cons, List.map_nil, join_snoc _ _ _ (map_take_ne _ _ _ (by omega) (by omega))]
theorem rowT_step (r : List Int) (j : Nat) (h : j < r.length) : (if j = 0 then [] else Lib.join ((r.take j).map Lib.itoa) [44] ++ [44]) ++ Lib.itoa (r.getD j 0) = Lib.join ((r.take (j + 1)).map Lib.itoa) [44] := by
  have hg : r.getD j 0 = r[j] := by simp [List.getD, h]
  rw [hg, List.take_succ_eq_append_getElem h, List.map_append]
  by_cases h0 : j = 0
  · subst h0
    rw [if_pos rfl]
    simp [Lib.join_one]
  · rw [if_neg h0, List.map_cons, List.map_nil, join_snoc _ _ _ (map_take_ne _ _ _ (by omega) (by omega))]
theorem itoa_short {x : Int} (h : -3 ≤ x ∧ x ≤ 2) : (Lib.itoa x).length ≤ 2 := by
  by_cases h0 : x < 0
  · obtain ⟨m, rfl⟩ : ∃ m : Nat, x = -(m : Int) := ⟨x.natAbs, by omega⟩
    rw [itoa_neg m (by omega), dec_small (by omega)]
    simp
  · obtain ⟨m, rfl⟩ := Int.eq_ofNat_of_zero_le (show 0 ≤ x by omega)
    rw [itoa_pos m, dec_small (by omega)]
    simp
theorem isC_entry {m : List (List Int)} (h : IsC m) {i j : Nat} (hi : i < m.length) (hj : j < m.length) : -3 ≤ entry m i j ∧ entry m i j ≤ 2 := by
  rcases h.2.1 i j hi hj with h | h
  · omega
  · omega
noncomputable def fmtM (m : List (List Int)) : List UInt8 := if isB m = true then fmtT m else []
theorem fmtM_yes {m : List (List Int)} (h : IsC m) : fmtM m = fmtT m := if_pos (isB_yes h)
theorem fmtM_no {m : List (List Int)} (h : ¬ IsC m) : fmtM m = [] := by unfold fmtM; rw [isB_no h]; rfl
theorem isc_wD (B : Nat) (v : Value) (m : List (List Int)) (c : Bool) (hc : isB m = c) (w : World) (h : MatB B w v m) (hf : RowsFit m) :
    Calls Tryz.prog 11 #[v] w fun e w' => e = .returned (.bool c) ∧ Below w.heap.size w w' :=
  (isc_0 B v m c hc w h hf).mono fun e w' ⟨h1, q, h2⟩ => ⟨h1, by rw [h2]; exact below_drewN q⟩
theorem icm_wD (B : Nat) (v : Value) (m : List (List Int)) (c : Bool) (hc : isB m = c) (w : World) (h : MatB B w v m) (hf : RowsFit m) :
    Calls Tryz.prog 13 #[v] w fun e w' => e = .returned (.bool c) ∧ Below w.heap.size w w' :=
  (icm_any B v m w h hf).mono fun e w' ⟨h1, q, h2⟩ => ⟨by rw [h1]; exact ret_boolean hc, by rw [h2]; exact below_drewN q⟩
theorem str_ofl {s : ByteArray} {l : List UInt8} (h : s.data.toList = l) : s = ⟨l.toArray⟩ := by subst h; rfl
theorem size_of_l {s : ByteArray} {l : List UInt8} (h : s.data.toList = l) : s.size = l.length := by subst h; exact Array.length_toList.symm

set_option maxHeartbeats 2000000 in
set_option maxRecDepth 100000 in
theorem fms_yes (B : Nat) (v : Value) (m : List (List Int)) (w : World) (h : MatB B w v m) (hB : B ≤ w.heap.size) (hf : RowsFit m) (hI : IsC m) :
    Calls Tryz.prog 10 #[v] w fun e w' => e = .returned (.string ⟨(fmtT m).toArray⟩) ∧ Below w.heap.size w w' := by
  obtain ⟨a, cap, rfl⟩ := h.slice
  have hl := hf.1
  have HR := Lib.hid h; clear h
  have HF := Lib.hid hf; clear hf
  have hrows : Rows0 m m.length m.length := hI.1
  have hn4 := hI.2.2
  have HC := Lib.hid (isB_yes hI)
  have HE := Lib.hid (fun (i j : Nat) (hi : i < m.length) (hj : j < m.length) => isC_entry hI hi hj)
  have HRW := Lib.hid hrows
  have HPJ := Lib.hid (preT_join m)
  have HALL : Hid (Lib.join ((m.take m.length).map rowT) [59] = fmtT m) := Lib.hid (by rw [List.take_length]; rfl)
  clear hI hrows
  generalize hn : m.length = n at *
  unfold maxLen at hl
  have HN := Lib.hid hn; clear hn
  go_enter Tryz.func10, Tryz.ntmps10
  go_wp2_with fail
  refine (isc_wD B _ m true HC.out _ HR.out HF.out).mono ?_
  rintro e w1 ⟨rfl, hb1⟩
  have HB1 := Lib.hid hb1; clear hb1
  go_wp2_with fail
  go_loopw [3, 4] (fun sv i wr => ∃ (k : Nat) (s : ByteArray) (wq : World), wq = wr ∧ k ≤ n ∧ i = .int .i64 k ∧ sv = .string s ∧ Hid (s.data.toList = Lib.join ((m.take k).map rowT) [59]) ∧ s.size ≤ 50 * k ∧ Below w.heap.size w wq) (fun _ i _ => n - (intOf i).toNat)
  case atStart => exact ⟨0, ⟨#[]⟩, _, rfl, Nat.zero_le _, rfl, rfl, rfl, Nat.le_refl _, HB1.out⟩
  case round =>
    clear HB1
    clear w1
    obtain ⟨k, s, wq, rfl, hk, rfl, rfl, HS, hss, hb⟩ := hrel
    have HB := Lib.hid hb; clear hb
    by_cases hlt : k < n
    · obtain ⟨s1, hs1, hs2, hcase⟩ : ∃ s1 : ByteArray, s1.data.toList = preT m k ∧ s1.size ≤ 50 * k + 1 ∧ ((0 < k ∧ s1 = s ++ ⟨#[59]⟩) ∨ (¬ 0 < k ∧ s1 = s)) := by
        by_cases h0 : 0 < k
        · refine ⟨s ++ ⟨#[59]⟩, ?_, by rw [ba_app_size, ba_one]; omega, Or.inl ⟨h0, rfl⟩⟩
          rw [str_app, HS.out]; unfold preT; rw [if_neg (by omega)]
        · refine ⟨s, ?_, by omega, Or.inr ⟨h0, rfl⟩⟩
          obtain rfl : k = 0 := by omega
          rw [HS.out]; rfl
      have HS1 := Lib.hid hs1; clear hs1
      have hmid : ∀ (X : Prop), (s1 = s1 → X) → X := fun X h => h rfl
      clear hmid
      have hrl : (m.getD k []).length = n := HRW.out k hlt
      have hjn := HPJ.out k hlt
      have HJN := Lib.hid hjn; clear hjn
      rcases hcase with ⟨h0, he⟩ | ⟨h0, he⟩
      all_goals
        have HEQ := Lib.hid he.symm
        clear he
        go_wp2_with fail
        try rw [HEQ.out]
        go_loopw [3, 5] (fun sv i wr => ∃ (j : Nat) (t : ByteArray) (wq : World), wq = wr ∧ j ≤ n ∧ i = .int .i64 j ∧ sv = .string t ∧ Hid (t.data.toList = preT m k ++ Lib.join (((m.getD k []).take j).map Lib.itoa) [44]) ∧ t.size ≤ 50 * k + 1 + 3 * j ∧ Below w.heap.size w wq) (fun _ i _ => n - (intOf i).toNat)
        case atStart => exact ⟨0, s1, _, rfl, Nat.zero_le _, rfl, by first | rfl | rw [HEQ.out], by show Hid _; unfold Hid; rw [HS1.out]; simp [Lib.join_nil], hs2, HB.out⟩
        case round =>
          clear HB
          clear wq
          obtain ⟨j, t, wq, rfl, hj, rfl, rfl, HTT, hts, hb⟩ := hrel
          have HB := Lib.hid hb; clear hb
          by_cases hjn : j < n
          · obtain ⟨b, off, rb, roff, rcap, rfl, hc1, hx⟩ := (HR.out.below HB.out hB).entry HRW.out hlt hjn
            have hen := HE.out k j hlt hjn
            have hst := rowT_step (m.getD k []) j (by rw [hrl]; exact hjn)
            rw [show (m.getD k []).getD j 0 = entry m k j from rfl] at hst
            generalize entry m k j = x at *
            have hlx := itoa_short hen
            obtain ⟨t1, ht1, ht2, hcase1⟩ : ∃ t1 : ByteArray, t1.data.toList = preT m k ++ (if j = 0 then [] else Lib.join (((m.getD k []).take j).map Lib.itoa) [44] ++ [44]) ∧ t1.size ≤ 50 * k + 2 + 3 * j ∧ ((0 < j ∧ t1 = t ++ ⟨#[44]⟩) ∨ (¬ 0 < j ∧ t1 = t)) := by
              by_cases h1 : 0 < j
              · refine ⟨t ++ ⟨#[44]⟩, ?_, by rw [ba_app_size, ba_one]; omega, Or.inl ⟨h1, rfl⟩⟩
                rw [str_app, HTT.out, if_neg (by omega), List.append_assoc]
              · refine ⟨t, ?_, by omega, Or.inr ⟨h1, rfl⟩⟩
                obtain rfl : j = 0 := by omega
                rw [HTT.out]; simp [Lib.join_nil]
            have hfin : (t1 ++ ⟨(Lib.itoa x).toArray⟩).data.toList = preT m k ++ Lib.join (((m.getD k []).take (j + 1)).map Lib.itoa) [44] := by
              rw [str_app, ht1, List.append_assoc, hst]
            have hfs : (t1 ++ ⟨(Lib.itoa x).toArray⟩).size ≤ 50 * k + 1 + 3 * (j + 1) := by
              rw [ba_app_size, ba_list (Lib.itoa x)]
              rcases hcase1 with ⟨h1, rfl⟩ | ⟨h1, rfl⟩
              · rw [ba_app_size, ba_one]; omega
              · omega
            have hsx : (⟨(Lib.itoa x).toArray⟩ : ByteArray).size ≤ 2 := by rw [ba_list]; exact hlx
            have HFIN := Lib.hid hfin
            have HFS := Lib.hid hfs
            clear hfin hfs hst ht1 hlx
            rcases hcase1 with ⟨h1, he1⟩ | ⟨h1, he1⟩
            all_goals
              have HEQ1 := Lib.hid he1.symm
              clear he1
              go_wp2_with fail
              try rw [HEQ1.out]
              refine (fmts_any x _ (by omega) (by omega)).mono ?_
              rintro e w5 ⟨rfl, hb5⟩
              have HB5 := Lib.hid (HB.out.trans (hb5.mono HB.out.size))
              clear hb5
              generalize (⟨(Lib.itoa x).toArray⟩ : ByteArray) = y at *
              go_wp2_with fail
              try rw [HEQ1.out]
              exact ⟨⟨j + 1, _, _, rfl, by omega, by go_num, rfl, HFIN.out, HFS.out, HB5.out⟩, by simp [intOf]; omega⟩
          · obtain rfl : j = n := by omega
            have hfin : t.data.toList = Lib.join ((m.take (k + 1)).map rowT) [59] := by
              rw [HTT.out, List.take_of_length_le (by omega)]; exact HJN.out
            have HFIN := Lib.hid hfin
            clear hfin
            go_wp2_with fail
            exact ⟨⟨k + 1, _, _, rfl, by omega, by go_num, rfl, HFIN.out, by omega, HB.out⟩, by simp [intOf]; omega⟩
    · obtain rfl : k = n := by omega
      go_wp2_with fail
      go_ret
      refine ⟨?_, HB.out⟩
      exact congrArg (fun x => Ending.returned (.string x)) (str_ofl (HS.out.trans HALL.out))

set_option maxHeartbeats 1000000 in
theorem fms_any (B : Nat) (v : Value) (m : List (List Int)) (w : World) (h : MatB B w v m) (hB : B ≤ w.heap.size) (hf : RowsFit m) :
    Calls Tryz.prog 10 #[v] w fun e w' => e = .returned (.string ⟨(fmtM m).toArray⟩) ∧ Below w.heap.size w w' := by
  by_cases hI : IsC m
  · rw [fmtM_yes hI]
    exact fms_yes B v m w h hB hf hI
  · rw [fmtM_no hI]
    have HC := Lib.hid (isB_no hI)
    go_enter Tryz.func10, Tryz.ntmps10
    go_wp2_with fail
    refine (isc_wD B _ m false HC.out _ h hf).mono ?_
    rintro e w1 ⟨rfl, hb1⟩
    have HB1 := Lib.hid hb1; clear hb1
    go_wp2_with fail
    go_ret
    exact ⟨rfl, HB1.out⟩
end Go.Proofs.YtppimgkampkfjaaGreatDoor
namespace Go.Proofs.YtppimgkampkfjaaGreatDoor
open Go.ChangeShapes Go.WideShapes Go.ChangeAt Go.RowKit

abbrev cartLaid : List (String × DataW Unit) := Rows.fnCartansRow.laid

theorem tab_of_cart {W : World} (h : laidMetH Tryz.prog cartLaid W) : Lib.TabIs Tryz.prog W "internal/strconv.uint64pow10" .u64 Lib.pow10Tab := by
  rw [MakeChecks.laidMetH_plain _ _ _ (by kernel_rfl)] at h
  exact Lib.tabIs_of_head (g := 4) (t := 160) (e := 142) (n := 20) (by kernel_rfl) (by kernel_rfl) (by kernel_rfl) (by kernel_rfl) (by kernel_rfl) (by kernel_rfl) (laidMet.tail (laidMet.tail h))

theorem tab_below {W W' : World} {name : String} {k : IntKind} {zs : List Int} (h : Lib.TabIs Tryz.prog W name k zs) (hb : Below W.heap.size W W') : Lib.TabIs Tryz.prog W' name k zs := by
  unfold Lib.TabIs World.var? at h ⊢
  cases hg : Tryz.prog.globalNamed name with
  | none => rw [hg] at h; exact h
  | some g =>
    rw [hg] at h
    simp only [Option.bind_some] at h ⊢
    have hlt : g < W.heap.size := by
      cases hh : W.heap[g]? with
      | none => rw [hh] at h; cases h
      | some o => exact (Array.getElem?_eq_some_iff.1 hh).1
    rw [hb.block g hlt]; exact h
end Go.Proofs.YtppimgkampkfjaaGreatDoor
namespace Go.Proofs.YtppimgkampkfjaaGreatDoor
open Go.RowKit

theorem join_le (sep : List UInt8) (N : Nat) : ∀ xs : List (List UInt8), (∀ x ∈ xs, x.length ≤ N) → (Lib.join xs sep).length ≤ xs.length * (N + sep.length)
  | [], _ => by simp [Lib.join_nil]
  | x :: r, h => by
    rw [Lib.join_cons]
    have hx := h x (by simp)
    have ht : ∀ r : List (List UInt8), (∀ x ∈ r, x.length ≤ N) → (Lib.joinTail sep r).length ≤ r.length * (N + sep.length) := by
      intro r
      induction r with
      | nil => intro _; simp [Lib.joinTail]
      | cons y r ih =>
        intro hr
        have h1 := ih (fun z hz => hr z (by simp [hz]))
        have h2 := hr y (by simp)
        have e : Lib.joinTail sep (y :: r) = sep ++ y ++ Lib.joinTail sep r := by simp [Lib.joinTail]
        rw [e, List.length_append, List.length_append, List.length_cons, Nat.add_mul]
        omega
    have h3 := ht r (fun z hz => h z (by simp [hz]))
    rw [List.length_append, List.length_cons, Nat.add_mul]
    omega
theorem rowT_len {r : List Int} (h : ∀ x ∈ r, -3 ≤ x ∧ x ≤ 2) : (rowT r).length ≤ r.length * 3 := by
  have := join_le [44] 2 (r.map Lib.itoa) (fun x hx => by
    obtain ⟨y, hy, rfl⟩ := List.mem_map.1 hx
    exact itoa_short (h y hy))
  simpa [rowT] using this
theorem isC_mem {m : List (List Int)} (h : IsC m) {k : Nat} (hk : k < m.length) : ∀ x ∈ m.getD k [], -3 ≤ x ∧ x ≤ 2 := by
  intro x hx
  obtain ⟨j, hj, rfl⟩ := List.getElem_of_mem hx
  have hl := h.1 k hk
  have he := isC_entry h hk (j := j) (by omega)
  have : entry m k j = (m.getD k [])[j] := by unfold entry; simp [List.getD] at hj ⊢; simp [hj]
  rwa [this] at he
theorem fmtT_len {m : List (List Int)} (h : IsC m) : (fmtT m).length ≤ 1000 := by
  have h4 := h.2.2.2
  have := join_le [59] 12 (m.map rowT) (fun x hx => by
    obtain ⟨r, hr, rfl⟩ := List.mem_map.1 hx
    obtain ⟨k, hk, rfl⟩ := List.getElem_of_mem hr
    have h1 := rowT_len (isC_mem h hk)
    have h2 := h.1 k hk
    rw [getD_row m k hk] at h1 h2
    omega)
  rw [List.length_map] at this
  have h5 : m.length * (12 + [59].length) ≤ 4 * 13 := Nat.mul_le_mul h4 (by simp)
  unfold fmtT
  omega

def strVD (l : List ByteArray) : List Value := l.map Value.string
theorem strV_len (l : List ByteArray) : (strVD l).length = l.length := by simp [strVD]
theorem Tryz.infoStr : (Tryz.prog.info? 9).map (fun i => (i.zero, i.size, i.bytes)) = some (some (.string ⟨#[]⟩), 1, 16) := by kernel_rfl
theorem make_strs (n : Nat) (hn : n ≤ 1048576) (w : World) : ∃ w1, (Instr.makeSlice 56 (.int .i64 n) (.int .i64 n)).run Tryz.prog w = .ok (.slice (some ⟨w.heap.size, 0, none⟩) n n) w1 ∧
    w1.ownsRow w.heap.size 9 1 (.slice (some ⟨w.heap.size, 0, none⟩) n n) n (strVD (List.replicate n ⟨#[]⟩)) ∧ (∀ W C, C ≤ w.heap.size → Below C W w → Below C W w1) ∧ w.heap.size < w1.heap.size := by
  obtain ⟨i0, hi, hz0, hz1, hz2⟩ := info_parts Tryz.infoStr
  have h := run_make (P := Tryz.prog) w 56 9 i0 (.string ⟨#[]⟩) Tryz.underlying56 hi hz0 .i64 .i64 (n : Int) (n : Int) (by omega) (Int.le_refl _) (by rw [hz2]; omega) (by omega)
  rw [Int.toNat_natCast] at h
  refine ⟨_, h, ?_, fun W C hC hb => hb.alloc hC _, by simp⟩
  rw [hz1, Nat.mul_one]
  have e : (madeCells (Value.string ⟨#[]⟩).cells n).toList = strVD (List.replicate n ⟨#[]⟩) := by
    apply List.ext_getElem
    · simp [madeCells, strVD]
    · intro i h1 h2
      simp [madeCells, strVD, Value.cells, Nat.mod_one]
  have := World.ownsRow_lit (base := w.heap.size) (e := 9) (size := 1) w (madeCells (Value.string ⟨#[]⟩).cells n) n (Nat.le_refl _) (by unfold maxLen; omega) (by rw [← Array.length_toList, e]; simp [strVD])
  rw [e] at this
  exact this
/-- The first k strings are laid, the others are empty. -/
def laidS (L : List ByteArray) (n k : Nat) : List ByteArray := L.take k ++ List.replicate (n - k) ⟨#[]⟩
theorem laidS_len {L : List ByteArray} {n k : Nat} (hL : L.length = n) (hk : k ≤ n) : (laidS L n k).length = n := by simp [laidS, hL]; omega
theorem laidS_step {L : List ByteArray} {n k : Nat} (hL : L.length = n) (hk : k < n) : (strVD (laidS L n k)).set k (.string (L.getD k ⟨#[]⟩)) = strVD (laidS L n (k + 1)) := by
  have hg : L.getD k ⟨#[]⟩ = L[k] := by simp [List.getD, hL, hk]
  have h : (L.take k).length = k := by simp [hL]; omega
  unfold laidS strVD
  rw [← List.map_set, List.set_append_right _ _ (by omega), h, Nat.sub_self, hg, List.take_succ_eq_append_getElem (show k < L.length by omega)]
  obtain ⟨d, hd⟩ : ∃ d, n - k = d + 1 := ⟨n - k - 1, by omega⟩
  rw [hd, show n - (k + 1) = d by omega, List.replicate_succ, List.set_cons_zero, List.append_assoc]
  rfl
theorem laidS_zero (L : List ByteArray) (n : Nat) : laidS L n 0 = List.replicate n ⟨#[]⟩ := by simp [laidS]
theorem laidS_end {L : List ByteArray} {n : Nat} (hL : L.length = n) : laidS L n n = L := by simp [laidS, ← hL]

/-- A slice of strings of the call's own: what a store leaves. -/
theorem strs_put {A : Nat} {w : World} {g n : Nat} {L : List ByteArray} (h : w.ownsRow A 9 1 (.slice (some ⟨g, 0, none⟩) n n) n (strVD L)) {k : Nat} (hk : k < n) (s : ByteArray) :
    ∃ W', w.setCell ⟨g, k, none⟩ (.string s) = W' ∧ W'.ownsRow A 9 1 (.slice (some ⟨g, 0, none⟩) n n) n ((strVD L).set k (.string s)) ∧ (∃ c, w.cell? ⟨g, k, none⟩ = some c) ∧ w.frozen? ⟨g, k, none⟩ = false ∧
      (∀ W C, C ≤ A → Below C W w → Below C W W') ∧ W'.heap.size = w.heap.size ∧ w.grownBy W' (some g) := by
  obtain ⟨ho, hg⟩ := h.stored k (.string s)
  have hl := h.1
  refine ⟨_, rfl, ho, ⟨_, (h.cellAt k (by omega)).trans (List.getElem?_eq_getElem (by omega))⟩, h.frozenAt k, fun W C hC hb => hb.setCell (p := ⟨g, k, none⟩) (Nat.le_trans hC (h.lt g rfl).1) _, by simp, hg⟩
theorem strs_cell {A : Nat} {w : World} {g n : Nat} {L : List ByteArray} (h : w.ownsRow A 9 1 (.slice (some ⟨g, 0, none⟩) n n) n (strVD L)) : ∀ (j : Nat) x, L[j]? = some x → w.cell? ⟨g, 0 + j, none⟩ = some (.string x) := by
  intro j x hx
  have hl := h.1
  have hj : j < L.length := (List.getElem?_eq_some_iff.1 hx).1
  rw [strV_len] at hl
  rw [Nat.zero_add, h.cellAt j (by omega)]
  simp [strVD, hx]
theorem ownS_step {A : Nat} {w w' : World} {g n : Nat} {xs : List Value} (h : w.ownsRow A 9 1 (.slice (some ⟨g, 0, none⟩) n n) n xs) (hb : Below w.heap.size w w') : w'.ownsRow A 9 1 (.slice (some ⟨g, 0, none⟩) n n) n xs :=
  ownsRow_same h (fun g' hg => (h.lt g' hg).2) (SameIn.of_below hb (Nat.le_refl _))

def entS (r : List Int) : List ByteArray := r.map fun x => ⟨(Lib.itoa x).toArray⟩
def rowS (m : List (List Int)) : List ByteArray := m.map fun r => ⟨(rowT r).toArray⟩
theorem entS_join (r : List Int) : Lib.join ((entS r).map (·.data.toList)) [44] = rowT r := by simp [entS, rowT, List.map_map, Function.comp_def]
theorem rowS_join (m : List (List Int)) : Lib.join ((rowS m).map (·.data.toList)) [59] = fmtT m := by simp [rowS, fmtT, List.map_map, Function.comp_def]
theorem entS_get (m : List (List Int)) (k j : Nat) (n : Nat) (hr : (m.getD k []).length = n) (h : j < n) : (entS (m.getD k [])).getD j ⟨#[]⟩ = ⟨(Lib.itoa (entry m k j)).toArray⟩ := by
  unfold entry
  generalize m.getD k [] = r at *
  simp [entS, List.getD, show j < r.length by omega]
theorem rowS_get (m : List (List Int)) (k : Nat) (h : k < m.length) : (rowS m).getD k ⟨#[]⟩ = ⟨(rowT (m.getD k [])).toArray⟩ := by
  rw [getD_row m k h]
  simp [rowS, List.getD, h]

set_option maxHeartbeats 4000000 in
set_option maxRecDepth 100000 in
theorem fmi_yes (B : Nat) (v : Value) (m : List (List Int)) (w : World) (h : MatB B w v m) (hB : B ≤ w.heap.size) (hf : RowsFit m) (hI : IsC m) (htab : Lib.TabIs Tryz.prog w "internal/strconv.uint64pow10" .u64 Lib.pow10Tab) :
    Calls Tryz.prog 8 #[v] w fun e w' => e = .returned (.string ⟨(fmtT m).toArray⟩) ∧ Below w.heap.size w w' := by
  obtain ⟨a, cap, rfl⟩ := h.slice
  have hl := hf.1
  have HT := Lib.hid htab; clear htab
  have HR := Lib.hid h; clear h
  have HF := Lib.hid hf; clear hf
  have hrows : Rows0 m m.length m.length := hI.1
  have hn4 := hI.2.2
  have HC := Lib.hid (isB_yes hI)
  have HE := Lib.hid (fun (i j : Nat) (hi : i < m.length) (hj : j < m.length) => isC_entry hI hi hj)
  have HRL := Lib.hid (fun (k : Nat) (hk : k < m.length) => rowT_len (isC_mem hI hk))
  have HFL := Lib.hid (fmtT_len hI)
  have HRW := Lib.hid hrows
  have HRS := Lib.hid (rowS_get m)
  have HRSL : Hid ((rowS m).length = m.length) := Lib.hid (by simp [rowS])
  have HRJ := Lib.hid (rowS_join m)
  clear hI hrows
  generalize hn : m.length = n at *
  unfold maxLen at hl
  have HN := Lib.hid hn; clear hn
  go_enter Tryz.func8, Tryz.ntmps8
  go_wp2_with fail
  refine (icm_wD B _ m true HC.out _ HR.out HF.out).mono ?_
  rintro e w1 ⟨rfl, hb1⟩
  have hs1 := hb1.size
  obtain ⟨w2, hmk, ho2, hb2, hz2⟩ := make_strs n (by omega) w1
  rw [← laidS_zero (rowS m)] at ho2
  have HO2 := Lib.hid ho2
  have HB2 := Lib.hid (hb2 w w.heap.size hs1 hb1)
  clear ho2 hb2 hz2 hb1
  go_wp2_with fail
  clear hmk
  go_loopw [17] (fun i wr => ∃ (k : Nat) (wq : World), wq = wr ∧ k ≤ n ∧ i = .int .i64 k ∧ wq.ownsRow w1.heap.size 9 1 (.slice (some ⟨w1.heap.size, 0, none⟩) n n) n (strVD (laidS (rowS m) n k)) ∧ Below w.heap.size w wq) (fun i _ => n - (intOf i).toNat)
  case atStart => exact ⟨0, _, rfl, Nat.zero_le _, rfl, HO2.out, HB2.out⟩
  case round =>
    clear HO2 HB2
    clear w2
    obtain ⟨k, wq, rfl, hk, rfl, ho, hb⟩ := hrel
    have HO := Lib.hid ho; clear ho
    have hsq := hb.size
    have HB := Lib.hid hb; clear hb
    by_cases hlt : k < n
    · obtain ⟨b, off, rb, roff, rcap, rfl, hbB, hrB, hc1, hx⟩ := HR.out.line HRW.out hlt
      have hc1' := (HB.out.cell (p := ⟨b, off + k, none⟩) (by show b < _; omega)).trans hc1
      have HX := Lib.hid hx
      obtain ⟨w3, hmk, ho3, hb3, hz3⟩ := make_strs n (by omega) wq
      rw [← laidS_zero (entS (m.getD k []))] at ho3
      have HO3 := Lib.hid ho3
      have HB3 := Lib.hid (hb3 wq wq.heap.size (Nat.le_refl _) (Below.refl _ _))
      clear ho3 hb3 hz3 hc1 hx
      have hel : (m.getD k []).length = n := HRW.out k hlt
      have HEL : Hid ((entS (m.getD k [])).length = n) := Lib.hid (by rw [← hel]; simp [entS])
      have HEG := Lib.hid (fun (j : Nat) (hj : j < n) => entS_get m k j n hel hj)
      go_wp2_with fail
      clear hmk hc1'
      go_loopw [27] (fun i wr => ∃ (j : Nat) (wi : World), wi = wr ∧ j ≤ n ∧ i = .int .i64 j ∧ wi.ownsRow wq.heap.size 9 1 (.slice (some ⟨wq.heap.size, 0, none⟩) n n) n (strVD (laidS (entS (m.getD k [])) n j)) ∧ Below wq.heap.size wq wi) (fun i _ => n - (intOf i).toNat)
      case atStart => exact ⟨0, _, rfl, Nat.zero_le _, rfl, HO3.out, HB3.out⟩
      case round =>
        clear HO3 HB3
        clear w3
        obtain ⟨j, wi, rfl, hj, rfl, ho, hb⟩ := hrel
        have HOI := Lib.hid ho; clear ho
        have hsi := hb.size
        have HBI := Lib.hid hb; clear hb
        by_cases hjn : j < n
        · have hbwi : Below w.heap.size w wi := HB.out.trans (HBI.out.mono hsq)
          have hxc := (hbwi.cell (p := ⟨rb, roff + j, none⟩) (by show rb < _; omega)).trans (HX.out j hjn)
          have htb := tab_below HT.out hbwi
          have HTB := Lib.hid htb
          have hen := HE.out k j hlt hjn
          have hst := laidS_step HEL.out hjn
          rw [HEG.out j hjn] at hst
          have HST := Lib.hid hst
          clear htb hbwi hst
          generalize entry m k j = x at *
          go_wp2_with fail
          refine (fmti_any x _ (by omega) (by omega) HTB.out).mono ?_
          rintro e w5 ⟨rfl, hb5⟩
          have ho5 := ownS_step HOI.out hb5
          have HB5 := Lib.hid (HBI.out.trans (hb5.mono hsi))
          obtain ⟨W6, e6, ho6, ⟨c6, hc6⟩, hf6, hb6, hz6, hg6⟩ := strs_put ho5 hjn ⟨(Lib.itoa x).toArray⟩
          rw [HST.out] at ho6
          have HO6 := Lib.hid ho6
          have HB6 := Lib.hid (hb6 wq wq.heap.size (Nat.le_refl _) HB5.out)
          clear ho6 hb6 ho5 hb5 hg6 hz6
          go_wp2_with fail
          exact ⟨⟨j + 1, _, rfl, by omega, by go_num, HO6.out, HB6.out⟩, by simp [intOf]; omega⟩
        · obtain rfl : j = n := by omega
          have ho := HOI.out
          rw [laidS_end HEL.out] at ho
          have hbwi : Below w.heap.size w wi := HB.out.trans (HBI.out.mono hsq)
          have hrlen := HRL.out k hlt
          have hj := Tryz.strings_Join wq.heap.size 0 j (entS (m.getD k [])) ⟨#[44]⟩ wi (strs_cell ho) (ho.lt _ rfl).2 (by rw [HEL.out]; omega) (by rw [HEL.out]; exact Nat.le_refl _) (by rw [show (⟨#[44]⟩ : ByteArray).data.toList = [44] from rfl, entS_join]; rw [hel] at hrlen; omega)
          rw [HEL.out, show (⟨#[44]⟩ : ByteArray).data.toList = [44] from rfl, entS_join] at hj
          have HJ := Lib.hid hj
          have hst := laidS_step HRSL.out hlt
          rw [HRS.out k hlt] at hst
          have HST := Lib.hid hst
          clear hj hst ho hbwi
          generalize rowT (m.getD k []) = y at *
          go_wp2_with fail
          refine HJ.out.mono ?_
          rintro e w5 ⟨rfl, hb5⟩
          have hb5' : Below wq.heap.size wq w5 := HBI.out.trans (hb5.mono hsi)
          have ho5 := ownS_step HO.out hb5'
          obtain ⟨W6, e6, ho6, ⟨c6, hc6⟩, hf6, hb6, hz6, hg6⟩ := strs_put ho5 hlt ⟨y.toArray⟩
          rw [HST.out] at ho6
          have HO6 := Lib.hid ho6
          have HB6 := Lib.hid (hb6 w w.heap.size hs1 (HB.out.trans (hb5'.mono hsq)))
          clear ho6 hb6 ho5 hb5 hg6 hz6 hb5'
          go_wp2_with fail
          exact ⟨⟨k + 1, _, rfl, by omega, by go_num, HO6.out, HB6.out⟩, by simp [intOf]; omega⟩
    · obtain rfl : k = n := by omega
      have ho := HO.out
      rw [laidS_end HRSL.out] at ho
      have hj := Tryz.strings_Join w1.heap.size 0 k (rowS m) ⟨#[59]⟩ wq (strs_cell ho) (ho.lt _ rfl).2 (by rw [HRSL.out]; omega) (by rw [HRSL.out]; exact Nat.le_refl _) (by rw [show (⟨#[59]⟩ : ByteArray).data.toList = [59] from rfl, HRJ.out]; have := HFL.out; omega)
      rw [HRSL.out, show (⟨#[59]⟩ : ByteArray).data.toList = [59] from rfl, HRJ.out] at hj
      have HJ := Lib.hid hj
      clear hj ho
      go_wp2_with fail
      refine HJ.out.mono ?_
      rintro e w5 ⟨rfl, hb5⟩
      have HB5 := Lib.hid (HB.out.trans (hb5.mono hsq))
      clear hb5
      go_wp2_with fail
      go_ret
      exact ⟨rfl, HB5.out⟩

set_option maxHeartbeats 1000000 in
theorem fmi_any (B : Nat) (v : Value) (m : List (List Int)) (w : World) (h : MatB B w v m) (hB : B ≤ w.heap.size) (hf : RowsFit m) (htab : Lib.TabIs Tryz.prog w "internal/strconv.uint64pow10" .u64 Lib.pow10Tab) :
    Calls Tryz.prog 8 #[v] w fun e w' => e = .returned (.string ⟨(fmtM m).toArray⟩) ∧ Below w.heap.size w w' := by
  by_cases hI : IsC m
  · rw [fmtM_yes hI]
    exact fmi_yes B v m w h hB hf hI htab
  · rw [fmtM_no hI]
    have HC := Lib.hid (isB_no hI)
    go_enter Tryz.func8, Tryz.ntmps8
    go_wp2_with fail
    refine (icm_wD B _ m false HC.out _ h hf).mono ?_
    rintro e w1 ⟨rfl, hb1⟩
    have HB1 := Lib.hid hb1; clear hb1
    go_wp2_with fail
    go_ret
    exact ⟨rfl, HB1.out⟩
end Go.Proofs.YtppimgkampkfjaaGreatDoor
