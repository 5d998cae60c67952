/-
  The draws of FnFinite: a matrix that is relabelled at will.
  SizeByName of the program: what the call returns.
  What the law on finite types asks, by one truth value and one size (no walk here), and the program's SizeByName where the library's variable MaxLen holds some number.
-/
import Derived.Test.YtppimgkampkfjaaGreatDoorFfg30
import Derived.Test.YtppimgkampkfjaaGreatDoorFfg31
import Derived.Test.YtppimgkampkfjaaGreatDoorShelfS
import Derived.Shelf.Vars
import Derived.Test.YtppimgkampkfjaaGreatDoorFfg32
namespace Go.Proofs.YtppimgkampkfjaaGreatDoor
open Go.RowKit

set_option maxHeartbeats 2000000 in
set_option maxRecDepth 100000 in
theorem relb_any (B : Nat) (w : World) (cv : Value) (len : Nat) (hl : len ≤ 1048576) (hc : CodeB B w cv len) (hB : B ≤ w.heap.size) :
    Calls Tryz.prog 109 #[cv] w (DrawnM w) := by
  have HN := Lib.hid (new_any B w cv len hl hB hc)
  clear hc
  go_enter Tryz.func109, Tryz.ntmps109
  go_wp2_with fail
  refine HN.out.mono ?_
  rintro e w1 ⟨rfl, hd, hg⟩
  have HG := Lib.hid hg
  have hs1 := hg.size
  have hC1 := hd.lt
  have HA := Lib.hid (any_any B w.heap.size w1 cv len hd)
  clear hd hg HN
  go_wp2_with fail
  refine HA.out.mono ?_
  rintro e w2 ⟨x, a, rfl, hd2, hx, ha⟩
  have HD2 := Lib.hid hd2
  have HX := Lib.hid hx
  have HAM := Lib.hid ha
  have hs2 := hd2.2.size
  obtain ⟨xa, xcap, rfl⟩ := hx.mat.slice
  have hn5 := ha.1
  have hn1 := ha.2.2
  clear hd2 hx ha HA
  generalize hn : a.length = n at *
  have HLN := Lib.hid hn; clear hn
  have HO := Lib.hid (ord_any B w.heap.size w2 cv len HD2.out.1 n (min n 4) (by omega) rfl)
  go_wp2_with fail
  refine HO.out.mono ?_
  rintro e w4 ⟨o, q, rfl, hd4, ho, hq⟩
  have HD4 := Lib.hid (HD2.out.trans hd4)
  have HX4 := Lib.hid (HX.out.on hd4.2 hC1)
  have hs4 := hd4.2.size
  have HOO := Lib.hid ho
  have HQ := Lib.hid hq
  clear hd4 ho hq HO HX HD2
  go_wp2_with fail
  refine (rels_any w4.heap.size w4.heap.size _ o a (intL q) w4 HX4.out.mat HOO.out.rowB (Nat.le_refl _) (Nat.le_refl _) HAM.out.fit (by rw [intL_len, HQ.out]; unfold maxLen; omega) HOO.out.capOk).mono ?_
  rintro e w5 ⟨y, rfl, hy, hb5⟩
  have HY := Lib.hid hy
  have HX5 := Lib.hid (HX4.out.up hb5)
  have hs5 := hb5.size
  have hbw5 := (draw_below HG.out HD4.out).trans (hb5.mono (by omega))
  have HB5 := Lib.hid hbw5
  clear hy hb5 hbw5
  by_cases hr : relB a (intL q) = true
  · have HRM := Lib.hid (rel_anyM hr)
    rw [hr]
    clear hr
    go_wp2_with fail
    go_ret
    exact ⟨y, _, rfl, HB5.out, HY.out.ownK.wide (by omega), HRM.out⟩
  · have hr' : relB a (intL q) = false := by simpa using hr
    rw [hr']
    clear hr hr'
    go_wp2_with fail
    go_ret
    exact ⟨_, a, rfl, HB5.out, HX5.out.wide (by omega), HAM.out⟩
set_option maxRecDepth 100000 in
theorem drawWit_any (B : Nat) (w : World) (cv : Value) (len : Nat) (hl : len ≤ 1048576) (hc : CodeB B w cv len) (hB : B ≤ w.heap.size) :
    Calls Tryz.prog 56 #[cv] w (DrawnM w) := by
  have HN := Lib.hid (relb_any B w cv len hl hc hB)
  clear hc
  go_enter Tryz.func56, Tryz.ntmps56
  go_wp2_with fail
  refine HN.out.mono ?_
  rintro e w1 ⟨x, m, rfl, h1, h2, h3⟩
  have H1 := Lib.hid h1; have H2 := Lib.hid h2; have H3 := Lib.hid h3
  clear h1 h2 h3
  go_wp2_with fail
  go_ret
  exact ⟨x, m, rfl, H1.out, H2.out, H3.out⟩
set_option maxRecDepth 100000 in
theorem drawNmp_any (B : Nat) (w : World) (cv : Value) (len : Nat) (hl : len ≤ 1048576) (hc : CodeB B w cv len) (hB : B ≤ w.heap.size) :
    Calls Tryz.prog 67 #[cv] w (DrawnM w) := by
  have HN := Lib.hid (relb_any B w cv len hl hc hB)
  clear hc
  go_enter Tryz.func67, Tryz.ntmps67
  go_wp2_with fail
  refine HN.out.mono ?_
  rintro e w1 ⟨x, m, rfl, h1, h2, h3⟩
  have H1 := Lib.hid h1; have H2 := Lib.hid h2; have H3 := Lib.hid h3
  clear h1 h2 h3
  go_wp2_with fail
  go_ret
  exact ⟨x, m, rfl, H1.out, H2.out, H3.out⟩
def nmL : List (List UInt8) := [[65, 49], [65, 50], [66, 51], [68, 52], [70, 52], [71, 50], [65, 49, 126], [63], [], [67, 52]]
def mrL : List (List UInt8) := [[65, 49], [66, 50], [65, 50]]
theorem nm_short : ∀ l ∈ nmL, l.length ≤ 3 := by decide
theorem mr_two : ∀ l ∈ mrL, l.length = 2 := by decide
theorem str_add (a b : List UInt8) : (⟨a.toArray⟩ : ByteArray) ++ ⟨b.toArray⟩ = ⟨(a ++ b).toArray⟩ := by
  apply ByteArray.ext
  rw [ByteArray.data_append]; simp
def DrawnT (w : World) (e : Ending) (w' : World) : Prop := ∃ s : ByteArray, s.size ≤ 64 ∧ e = .returned (.string s) ∧ Below w.heap.size w w'
set_option maxHeartbeats 2000000 in
set_option maxRecDepth 100000 in
theorem drawSbn_any (B : Nat) (w : World) (cv : Value) (len : Nat) (hl : len ≤ 1048576) (hc : CodeB B w cv len) (hB : B ≤ w.heap.size) :
    Calls Tryz.prog 68 #[cv] w (DrawnT w) := by
  have HN := Lib.hid (new_any B w cv len hl hB hc)
  clear hc
  go_enter Tryz.func68, Tryz.ntmps68
  go_wp2_with fail
  refine HN.out.mono ?_
  rintro e w1 ⟨rfl, hd, hg⟩
  have HG1 := Lib.hid hg
  have hs1 := hg.size
  have hC1 := hd.lt
  have HG := Lib.hid (show (w1.alloc (.cells (strsD nmL).toArray 9)).heap[w1.heap.size]? = some (.cells (strsD nmL).toArray 9 (0, 0)) from (MapKept.heap_alloc w1 _).1)
  have HD0 := Lib.hid (hd.alloc (.cells (strsD nmL).toArray 9))
  have hg0 : w1.grownBy (w1.alloc (.cells (strsD nmL).toArray 9)) (some w.heap.size) := World.grownBy_alloc _ _ _
  have HG0 := Lib.hid hg0
  have hlit : (strsD nmL).toArray = #[.string ⟨#[65, 49]⟩, .string ⟨#[65, 50]⟩, .string ⟨#[66, 51]⟩, .string ⟨#[68, 52]⟩, .string ⟨#[70, 52]⟩, .string ⟨#[71, 50]⟩, .string ⟨#[65, 49, 126]⟩, .string ⟨#[63]⟩, .string ⟨#[]⟩, .string ⟨#[67, 52]⟩] := rfl
  rw [hlit] at HD0 HG0
  have HLI := Lib.hid hlit
  clear hd hg hg0 hlit HN
  go_wp2_with fail
  refine (picks_any B w.heap.size _ cv len w1.heap.size nmL 10 rfl (by omega) (by omega) (by first | exact HG.out | (rw [← HLI.out]; exact HG.out)) (by omega) HD0.out).mono ?_
  rintro e w2 ⟨l, hl2, rfl, hd2⟩
  have HL2 := Lib.hid (nm_short l hl2)
  have hw2 : DrTo B w.heap.size cv len w1 w2 := ⟨hd2.1, HG0.out.trans hd2.2⟩
  have HW2 := Lib.hid hw2
  have hs2 := hw2.2.size
  have HBE := Lib.hid (below_any B w.heap.size w2 cv len 4 (by omega) (by omega) hw2.1)
  clear hw2 hd2 hl2 HD0 HG0 HG HLI
  go_wp2_with fail
  refine HBE.out.mono ?_
  rintro e w3 ⟨r, hr, rfl, hd3⟩
  have HW3 := Lib.hid (HW2.out.trans hd3)
  have hs3 := hd3.2.size
  clear hd3 HBE HW2
  obtain ⟨wz, hwz⟩ : ∃ wz : World, wz = w3 := ⟨_, rfl⟩
  have HWZ := Lib.hid hwz; clear hwz
  go_wp2_with fail
  go_loopw [4, 5] (fun s n wr => ∃ (k : Nat) (t : ByteArray) (wq : World), wq = wr ∧ k ≤ 3 ∧ n = .int .i64 k ∧ s = .string t ∧ Hid (t.size + 3 * k ≤ 12) ∧ Hid (DrTo B w.heap.size cv len w1 wq)) (fun _ n _ => (intOf n).toNat)
  case atStart => exact ⟨r, _, _, rfl, by omega, rfl, rfl, Lib.hid (by have := HL2.out; simp [ByteArray.size]; omega), HW3⟩
  case round =>
    obtain ⟨k, t, wq, rfl, hk, rfl, rfl, HT, HD⟩ := hrel
    by_cases hk0 : 0 < k
    · have hk1 : decide ((0 : Int) < k) = true := decide_eq_true (by omega)
      have ht := HT.out
      have hbs : (⟨#[120]⟩ : ByteArray).size = 1 := rfl
      have ht1 : (t ++ ⟨#[120]⟩).size ≤ t.size + 1 := by rw [ByteArray.size_append]; omega
      obtain ⟨t1, ht1e⟩ : ∃ t1 : ByteArray, t1 = t ++ ⟨#[120]⟩ := ⟨_, rfl⟩
      rw [← ht1e] at ht1
      have HT1 := Lib.hid ht1e
      have HD0 := Lib.hid (HD.out.1.alloc (.cells (strsD mrL).toArray 9))
      have HG := Lib.hid (show (wq.alloc (.cells (strsD mrL).toArray 9)).heap[wq.heap.size]? = some (.cells (strsD mrL).toArray 9 (0, 0)) from (MapKept.heap_alloc wq _).1)
      have hg0 : wq.grownBy (wq.alloc (.cells (strsD mrL).toArray 9)) (some w.heap.size) := World.grownBy_alloc _ _ _
      have HG0 := Lib.hid hg0
      have hlit : (strsD mrL).toArray = #[.string ⟨#[65, 49]⟩, .string ⟨#[66, 50]⟩, .string ⟨#[65, 50]⟩] := rfl
      rw [hlit] at HD0 HG0
      have HLI := Lib.hid hlit
      have hsq : w1.heap.size ≤ wq.heap.size := HD.out.2.size
      clear hg0 hlit hbs ht1e
      go_wp2_with fail
      rw [← HT1.out]
      refine (picks_any B w.heap.size _ cv len wq.heap.size mrL 3 rfl (by omega) (by omega) (by first | exact HG.out | (rw [← HLI.out]; exact HG.out)) (by omega) HD0.out).mono ?_
      rintro e w4 ⟨l2, hl2, rfl, hd4⟩
      have h2 := mr_two l2 hl2
      have hsz2 : (⟨l2.toArray⟩ : ByteArray).size ≤ 2 := by simp [ByteArray.size]; omega
      have HW4 := Lib.hid (HD.out.trans ⟨hd4.1, HG0.out.trans hd4.2⟩)
      clear hd4 hl2 HG HG0 HD0 HLI h2
      have hfs : (t1 ++ ⟨l2.toArray⟩).size ≤ t1.size + 2 := by rw [ByteArray.size_append]; omega
      have HFS := Lib.hid hfs; clear hfs
      go_wp2_with fail
      exact ⟨⟨k - 1, _, _, rfl, by omega, by rw [Int.ofNat_sub (by omega)]; rfl, rfl, Lib.hid (by have := HFS.out; omega), HW4⟩, by simp [intOf]; omega⟩
    · obtain rfl : k = 0 := by omega
      go_wp2_with fail
      go_ret
      exact ⟨t, by have := HT.out; omega, rfl, draw_below HG1.out HD.out⟩
end Go.Proofs.YtppimgkampkfjaaGreatDoor
namespace Go.Proofs.YtppimgkampkfjaaGreatDoor
open Go.RowKit

theorem idx_find4 (c : UInt8) : ∀ (l : List UInt8), (Lib.indexByte l c = -1 ∧ c ∉ l) ∨ ∃ a b, l = a ++ c :: b ∧ c ∉ a ∧ Lib.indexByte l c = (a.length : Int)
  | [] => .inl ⟨rfl, by simp⟩
  | x :: l => by
    unfold Lib.indexByte
    by_cases hx : x = c
    · exact .inr ⟨[], l, by simp [hx], by simp, by simp [hx]⟩
    · rcases idx_find4 c l with ⟨h, hn⟩ | ⟨a, b, h, hn, hi⟩
      · exact .inl ⟨by simp [hx, h], by simp [hn, Ne.symm hx]⟩
      · exact .inr ⟨x :: a, b, by simp [h], by simp [hn, Ne.symm hx], by rw [hi]; simp [hx]⟩
/-- The pieces of strings.SplitN at one byte. -/
theorem split_cut (c : UInt8) : ∀ (k : Nat) (l : List UInt8), ((cutL c l).length ≤ k + 1 → Lib.splitK [c] 0 k l = cutL c l) ∧ (k + 1 < (cutL c l).length → (Lib.splitK [c] 0 k l).length = k + 1)
  | 0, l => by
    refine ⟨fun h => ?_, fun _ => rfl⟩
    rcases idx_find4 c l with ⟨_, hn⟩ | ⟨a, b, rfl, hn, _⟩
    · rw [cutL_free c l hn]; rfl
    · rw [cutL_at c a b hn] at h
      have := List.length_pos_iff.2 (cutL_ne c b)
      rw [List.length_cons] at h
      omega
  | k + 1, l => by
    rcases idx_find4 c l with ⟨hi, hn⟩ | ⟨a, b, rfl, hn, hi⟩
    · have e : Lib.splitK [c] 0 (k + 1) l = [l] := by
        unfold Lib.splitK
        rw [Lib.index_one, hi]; rfl
      rw [e, cutL_free c l hn]
      exact ⟨fun _ => rfl, fun h => by simp at h⟩
    · have e : Lib.splitK [c] 0 (k + 1) (a ++ c :: b) = a :: Lib.splitK [c] 0 k b := by
        conv => lhs; unfold Lib.splitK
        rw [Lib.index_one, hi]
        have hne : ((a.length : Int) == -1) = false := by rw [beq_eq_false_iff_ne]; omega
        simp [hne]
      rw [e, cutL_at c a b hn]
      obtain ⟨h1, h2⟩ := split_cut c k b
      refine ⟨fun h => by rw [h1 (by simpa using h)], fun h => by rw [List.length_cons, h2 (by simpa using h)]⟩
def pieceB (s : ByteArray) : List ByteArray := Lib.splitB ⟨#[120]⟩ 0 (min 5 (s.size + 1) - 1) s
theorem pieces_few (s : ByteArray) (h : (cutL 120 s.data.toList).length ≤ 4) : pieceB s = toB (cutL 120 s.data.toList) := by
  have h1 := Lib.splitB_data ⟨#[120]⟩ 0 (min 5 (s.size + 1) - 1) s
  have h2 := (split_cut 120 (min 5 (s.size + 1) - 1) s.data.toList).1 (by have := cutL_len 120 s.data.toList; simp at this; omega)
  have h3 : (pieceB s).map (·.data.toList) = cutL 120 s.data.toList := by
    unfold pieceB
    rw [h1]; exact h2
  rw [← h3]
  unfold toB
  rw [List.map_map]
  exact (List.map_id _).symm
theorem pieces_many (s : ByteArray) (h : 4 < (cutL 120 s.data.toList).length) : 4 < (pieceB s).length := by
  have hc := cutL_len 120 s.data.toList
  have hsz : s.data.toList.length = s.size := by simp
  have h1 := Lib.splitB_data ⟨#[120]⟩ 0 (min 5 (s.size + 1) - 1) s
  have hk : min 5 (s.size + 1) - 1 = 4 := by omega
  have hl : (pieceB s).length = (Lib.splitK [120] 0 4 s.data.toList).length := by
    have := congrArg List.length h1
    rw [List.length_map] at this
    unfold pieceB
    rw [this, hk]
  rw [hl]
  rcases Nat.lt_or_ge 5 (cutL 120 s.data.toList).length with h5 | h5
  · rw [(split_cut 120 4 s.data.toList).2 h5]; decide
  · rw [(split_cut 120 4 s.data.toList).1 h5]; exact h
theorem pieces_le (s : ByteArray) : (pieceB s).length ≤ min 5 (s.size + 1) := by
  have := Lib.splitB_length_le ⟨#[120]⟩ 0 (min 5 (s.size + 1) - 1) s
  unfold pieceB
  omega
theorem cellsOf_get {P : List ByteArray} {N j : Nat} {x : ByteArray} (h : P[j]? = some x) : (Lib.cellsOf P N)[j]? = some (.string x) := by
  unfold Lib.cellsOf
  have hj := (List.getElem?_eq_some_iff.1 h).1
  rw [List.getElem?_toArray, List.getElem?_append_left (by simpa using hj), List.getElem?_map, h]; rfl

set_option maxHeartbeats 2000000 in
set_option maxRecDepth 100000 in
theorem szi_any (s : ByteArray) (x : Int) (w : World) (hs : s.size ≤ 1048576) (hm : w.cell? ⟨1, 0, none⟩ = some (.int .i64 x)) : Calls Tryz.prog 66 #[.string s] w fun e w' => e = .returned (.int .i64 (sizeO s.data.toList)) ∧ Below w.heap.size w w' := by
  have hSP := Tryz.strings_SplitN s ⟨#[120]⟩ 5 x w (by omega) hm (Nat.le_refl _) (by omega) (by omega)
  rw [show Lib.splitB ⟨#[120]⟩ 0 (min 5 (s.size + 1) - 1) s = pieceB s from rfl, show ((5 : Nat) : Int) = 5 from rfl] at hSP
  have hO : sizeO s.data.toList = if (cutL 120 s.data.toList).length > 4 then 0 else prodN (cutL 120 s.data.toList) (cutL 120 s.data.toList).length := rfl
  have hpf := pieces_few s
  have hpm := pieces_many s
  have hST := prodN_next (cutL 120 s.data.toList)
  have hLE := prodN_le (cutL 120 s.data.toList)
  generalize sizeO s.data.toList = R at *
  generalize cutL 120 s.data.toList = P at *
  generalize pieceB s = PB at *
  generalize min 5 (s.size + 1) = N5 at *
  have hb0 : Below w.heap.size w (w.alloc (.cells (Lib.cellsOf PB N5) 9)) := (Below.refl _ _).alloc (Nat.le_refl _) _
  have hcell : ∀ j y, PB[j]? = some y → (w.alloc (.cells (Lib.cellsOf PB N5) 9)).cell? ⟨w.heap.size, j, none⟩ = some (.string y) := fun j y hy => by
    rw [cell_of_row _ w.heap.size j _ _ _ (MapKept.heap_alloc w _).1]; exact cellsOf_get hy
  have HSP := Lib.hid hSP; have HB0 := Lib.hid hb0; have HCELL := Lib.hid hcell
  clear hSP hb0 hcell hm
  generalize hw1 : w.alloc (.cells (Lib.cellsOf PB N5) 9) = w1 at *
  generalize hPL : PB.length = L at *
  have HPL := Lib.hid hPL; clear hPL
  by_cases h4 : P.length > 4
  · have hR : R = 0 := by rw [hO, if_pos h4]
    subst hR
    have hL4 := hpm h4
    have hL4' : decide (4 < L) = true := decide_eq_true hL4
    clear hO hpf hpm hST hLE
    go_enter Tryz.func66, Tryz.ntmps66
    go_wp2_with fail
    refine HSP.out.mono ?_
    rintro e w2 ⟨rfl, rfl⟩
    go_wp2_with fail
    go_ret
    exact ⟨rfl, HB0.out⟩
  · have hR : R = prodN P P.length := by rw [hO, if_neg h4]
    have hPB := hpf (by omega)
    have hLP : P.length = L := by rw [← HPL.out, hPB]; simp [toB]
    have HG : Hid (∀ j, j < L → PB[j]? = some ⟨(P.getD j []).toArray⟩) := Lib.hid (fun j h => by rw [← hLP] at h; rw [hPB]; simp [toB, h, List.getD])
    rw [hLP] at hR h4 hST hLE
    have hL4' : decide (4 < L) = false := decide_eq_false (by omega)
    have HST := Lib.hid hST; have HLE := Lib.hid hLE; have HR := Lib.hid hR
    clear hO hpf hpm hPB hST hLE hR hLP
    go_enter Tryz.func66, Tryz.ntmps66
    go_wp2_with fail
    refine HSP.out.mono ?_
    rintro e w2 ⟨rfl, rfl⟩
    go_wp2_with fail
    go_loopw [4, 14] (fun n i wr => ∃ t : Nat, t ≤ L ∧ i = .int .i64 t ∧ n = .int .i64 (prodN P t : Nat) ∧ wr = w2) (fun _ i _ => L - (intOf i).toNat)
    case atStart => exact ⟨0, Nat.zero_le _, rfl, rfl, rfl⟩
    case round =>
      obtain ⟨t, ht, rfl, rfl, rfl⟩ := hrel
      by_cases hlt : t < L
      · have hlt' : decide (t < L) = true := decide_eq_true hlt
        have hc := HCELL.out t _ (HG.out t hlt)
        have HSZ := Lib.hid (szp_any ⟨(P.getD t []).toArray⟩ wr)
        have HST' := Lib.hid (HST.out t hlt)
        have hle := HLE.out t (by omega)
        have hp4 : 1152 ^ t ≤ 1528823808 := by
          rcases (show t = 0 ∨ t = 1 ∨ t = 2 ∨ t = 3 by omega) with rfl | rfl | rfl | rfl <;> decide
        have hN : prodN P t ≤ 1528823808 := Nat.le_trans hle hp4
        have hz := sizeN_le (P.getD t [])
        simp only [List.toList_toArray] at HSZ
        clear hle hp4
        generalize P.getD t [] = pl at *
        generalize prodN P t = N at *
        generalize sizeN pl = z at *
        have hmul : N * z ≤ 1528823808 * 1152 := Nat.mul_le_mul hN hz
        have hcast : (N : Int) * (z : Int) = ((N * z : Nat) : Int) := (Int.natCast_mul N z).symm
        generalize N * z = q at *
        go_wp2_with (go_at_call 115; refine HSZ.out.mono ?_; rintro e w3 ⟨rfl, rfl⟩)
        exact ⟨⟨t + 1, by omega, by go_num, by rw [HST'.out], trivial⟩, by simp [intOf]; omega⟩
      · obtain rfl : t = L := by omega
        have hlt' : decide (t < t) = false := by simp
        rw [← HR.out]
        go_wp2_with fail
        go_ret
        exact ⟨rfl, HB0.out⟩
end Go.Proofs.YtppimgkampkfjaaGreatDoor
namespace Go.Proofs.YtppimgkampkfjaaGreatDoor
open Go.RowKit

/-- The library's variable MaxLen holds some number. -/
def MaxIsF (w : World) : Prop := (∃ x, w.cell? ⟨1, 0, none⟩ = some (.int .i64 x)) ∧ 1 < w.heap.size
theorem MaxIsF.below {W W' : World} (h : MaxIsF W) (hb : Below W.heap.size W W') : MaxIsF W' := ⟨by obtain ⟨x, hx⟩ := h.1; exact ⟨x, (hb.cell (p := ⟨1, 0, none⟩) h.2).trans hx⟩, Nat.lt_of_lt_of_le h.2 hb.size⟩
theorem max_shapeF {W : World} (h : W.ShapedOpen Tryz.prog) : MaxIsF W := by
  have hc : ∃ x, W.cell? ⟨1, 0, none⟩ = some (.int .i64 x) := cell_of_shapedOpen_int (t := 3) (zero := #[.int .i64 0]) h (of_decide_eq_true (by kernel_rfl)) (by kernel_rfl) rfl (by kernel_rfl) (by kernel_rfl) Tryz.underlying3
  refine ⟨hc, ?_⟩
  obtain ⟨x, hx⟩ := hc
  rcases Nat.lt_or_ge 1 W.heap.size with h | h
  · exact h
  · simp [World.cell?, Array.getElem?_eq_none h] at hx
theorem szi_f (s : ByteArray) (n : Nat) (hn : sizeO s.data.toList = n) (w : World) (hs : s.size ≤ 1048576) (hm : MaxIsF w) : Calls Tryz.prog 66 #[.string s] w fun e w' => e = .returned (.int .i64 n) ∧ Below w.heap.size w w' := by
  obtain ⟨⟨x, hx⟩, _⟩ := hm
  subst hn
  exact szi_any s x w hs hx
theorem szs_f (s : ByteArray) (n : Nat) (hn : sizeO s.data.toList = n) (w : World) (hs : s.size ≤ 1048576) : Calls Tryz.prog 71 #[.string s] w fun e w' => e = .returned (.int .i64 n) ∧ Below w.heap.size w w' := by
  subst hn
  exact szs_any s w hs
theorem nmo_e (v : Value) (m : List (List Int)) (s : ByteArray) (hs : s = ⟨(nameO m).toArray⟩) (w : World) (h : MatB w.heap.size w v m) (hf : RowsFit m) :
    Calls Tryz.prog 65 #[v] w fun e w' => e = .returned (.string s) ∧ Below w.heap.size w w' := by
  subst hs
  exact nmo_any _ v m w h (Nat.le_refl _) hf
theorem nmp_e (v : Value) (m : List (List Int)) (s : ByteArray) (hs : s = ⟨(nameP m).toArray⟩) (w : World) (h : MatB w.heap.size w v m) (hf : RowsFit m) :
    Calls Tryz.prog 70 #[v] w fun e w' => e = .returned (.string s) ∧ Below w.heap.size w w' := by
  subst hs
  exact nmp_any _ v m w h (Nat.le_refl _) hf
theorem nmpi_e (v : Value) (m : List (List Int)) (s : ByteArray) (hs : s = ⟨(nameP m).toArray⟩) (w : World) (h : MatB w.heap.size w v m) (hf : RowsFit m) (hN : NamesIs w namesL) :
    Calls Tryz.prog 69 #[v] w fun e w' => e = .returned (.string s) ∧ Below w.heap.size w w' := by
  subst hs
  exact nmpi_any _ v m w h (Nat.le_refl _) hf hN
theorem name_size {m : List (List Int)} {s : ByteArray} (hs : s = ⟨(nameO m).toArray⟩) : s.size ≤ 1048576 := by
  have h1 : (nameO m).length ≤ 4 * (partsV m).length := nameS_len m _
  have h2 := partsV_len m
  have h3 : s.size = (nameO m).length := by rw [hs]; rfl
  omega
theorem name_list {m : List (List Int)} {s : ByteArray} (hs : s = ⟨(nameO m).toArray⟩) : s.data.toList = nameO m := by rw [hs]
theorem size_small (s : ByteArray) : sizeO s.data.toList ≤ 1761205026816 := by
  unfold sizeO
  split
  · omega
  · rename_i h
    refine Nat.le_trans (prodN_le _ _ (Nat.le_refl _)) (Nat.le_trans (Nat.pow_le_pow_right (by omega) (show _ ≤ 4 by omega)) (by decide))
/-- All of the minors up to k are positive. -/
def posK (l : List Int) (k : Nat) : Bool := (l.take k).all fun x => decide (0 < x)
theorem posK_zero (l : List Int) : posK l 0 = true := rfl
theorem posK_succ {l : List Int} {k : Nat} (h : k < l.length) : posK l (k + 1) = (posK l k && decide (0 < l[k])) := by
  unfold posK
  rw [List.take_succ_eq_append_getElem h, List.all_append]
  simp
theorem posK_all {l : List Int} : posK l l.length = l.all fun x => decide (0 < x) := by unfold posK; rw [List.take_length]
/-- All that the law asks of a matrix that is valid. -/
theorem fin_all {m : List (List Int)} (hI : IsC m) {s : ByteArray} (hs : s = ⟨(nameO m).toArray⟩) {n : Nat} (hn : sizeO s.data.toList = n) :
    posK (minV m) (minV m).length = finB m ∧ (finB m = true ↔ (witV m).length = 0) ∧ (finB m = true ↔ 0 < n) ∧ finB (trM m) = finB m := by
  refine ⟨by rw [posK_all, minV_all hI], ?_, ?_, fin_tr hI⟩
  · rw [wit_fin hI, decide_eq_true_eq]
  · rw [← size_fin hI, ← name_list hs, hn]
end Go.Proofs.YtppimgkampkfjaaGreatDoor
