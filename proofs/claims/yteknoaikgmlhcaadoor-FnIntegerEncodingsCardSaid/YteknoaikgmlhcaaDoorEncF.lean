/-
  EncodeFixed of the model and of the program: what each call returns.
-/
import Derived.Test.YteknoaikgmlhcaaDoorBytes
import Derived.Test.YteknoaikgmlhcaaDoorDecF
import Derived.Test.YteknoaikgmlhcaaDoorVar
namespace Go.Proofs.YteknoaikgmlhcaaDoor
open Go.RowKit

/-- The last i bytes of n, the most significant one first. -/
def lb (n : Nat) : Nat → List UInt8
  | 0 => []
  | i + 1 => UInt8.ofNat (n / 256 ^ i % 256) :: lb n i
theorem lb_len (n : Nat) : ∀ i, (lb n i).length = i
  | 0 => rfl
  | i + 1 => by simp [lb, lb_len n i]
theorem lb_get (n : Nat) : ∀ (m j : Nat), j < m → (lb n m)[j]? = some (UInt8.ofNat (n / 256 ^ (m - 1 - j) % 256))
  | 0, j, h => by omega
  | m + 1, 0, _ => by simp [lb]
  | m + 1, j + 1, h => by
    have := lb_get n m j (by omega)
    simp only [lb, List.getElem?_cons_succ, this]
    rw [show m + 1 - 1 - (j + 1) = m - 1 - j by omega]

/-- A string of one byte, out of a slice that was just made. -/
theorem conv_one (w : World) (x : Nat) : (convert 22 9 (.slice (some ⟨w.heap.size, 0, none⟩) 1 1)).run Tryd.prog (w.alloc (.cells #[.int .u8 ((x : Int) % 256)] 5)) = .ok (.string ⟨[UInt8.ofNat (x % 256)].toArray⟩) (w.alloc (.cells #[.int .u8 ((x : Int) % 256)] 5)) := by
  have h := convB (ownB_lit w w.heap.size (Nat.le_refl _) [UInt8.ofNat (x % 256)] (by simp [maxLen]))
  have e : byteV (UInt8.ofNat (x % 256)) = .int .u8 ((x : Int) % 256) := by
    unfold byteV; rw [u8_nat _ (by omega)]; congr 1
  simp only [bytesV, List.map_cons, List.map_nil, e] at h
  exact h

/-- What both encoders answer. -/
def fixE (n m : Nat) : List UInt8 := if n / 256 ^ m = 0 then lb n m else []
theorem lb_step (n k : Nat) (b t : List UInt8) (hb : b = [UInt8.ofNat (n / 256 ^ k % 256)]) (ht : t = lb n k) : b ++ t = lb n (k + 1) := by rw [hb, ht]; rfl

/-- What the model's loop keeps. -/
def FRel (B n k q : Nat) (s : ByteArray) (w wr : World) : Prop := q = n / 256 ^ k ∧ s.data.toList = lb n k ∧ Below B w wr
theorem data_app (a b : ByteArray) : (a ++ b).data.toList = a.data.toList ++ b.data.toList := by
  cases a; cases b
  rw [ByteArray.mk_append_mk]
theorem cat_size (b : UInt8) (s : ByteArray) {k : Nat} (h : s.size ≤ k) : ((⟨#[b]⟩ : ByteArray) ++ s).size ≤ k + 1 := by
  rw [ByteArray.size_append]
  have : (⟨#[b]⟩ : ByteArray).size = 1 := rfl
  omega
theorem frel_step {B n k q : Nat} {s : ByteArray} {w wr : World} (h : FRel B n k q s w wr) (hz : B ≤ wr.heap.size) (o : Obj) : FRel B n (k + 1) (q / 256) (⟨#[UInt8.ofNat (q % 256)]⟩ ++ s) w (wr.alloc o) := by
  obtain ⟨rfl, h2, h3⟩ := h
  refine ⟨by rw [Nat.pow_succ, Nat.div_div_eq_div_mul], ?_, h3.alloc hz o⟩
  rw [data_app]
  exact lb_step n k _ _ rfl h2
theorem ret_str {a b : ByteArray} (h : a = b) : Ending.returned (.string a) = .returned (.string b) := by rw [h]
theorem bytes_of {s : ByteArray} {l : List UInt8} (h : s.data.toList = l) : s = ⟨l.toArray⟩ := by
  subst h; rfl

set_option maxHeartbeats 400000 in
set_option maxRecDepth 100000 in
theorem encfs_yes (n m : Nat) (w : World) (hn : n ≤ 9223372036854775807) (h1 : 1 ≤ m) (h7 : m ≤ 7) :
    Calls Tryd.prog 14 #[.int .i64 n, .int .i64 m] w fun e w' => e = .returned (.string ⟨(fixE n m).toArray⟩) ∧ Below w.heap.size w w' := by
  have hd0 : decide ((n : Int) < 0) = false := by simp
  go_enter Tryd.func14, Tryd.ntmps14
  go_wp2_with (go_at_call 26; refine (in_yes _ _ _ _ (by omega) (by omega)).mono ?_; rintro e w' ⟨rfl, rfl⟩)
  go_loopw [0, 5, 6] (fun a o i wr => ∃ (k q : Nat) (s : ByteArray), k ≤ m ∧ i = .int .i64 k ∧ a = .int .i64 q ∧ o = .string s ∧ q ≤ n ∧ s.size ≤ k ∧ FRel w.heap.size n k q s w wr ∧ w.heap.size ≤ wr.heap.size) (fun _ _ i _ => m - (intOf i).toNat)
  case atStart => exact ⟨0, n, ⟨#[]⟩, Nat.zero_le _, rfl, rfl, rfl, Nat.le_refl _, Nat.le_refl _, ⟨by simp, rfl, Below.refl _ _⟩, Nat.le_refl _⟩
  case round =>
    obtain ⟨k, q, s, hk, rfl, rfl, rfl, hq, hs, hr, hz⟩ := hrel
    have HR := Lib.hid hr; clear hr
    by_cases hlt : k < m
    · rename_i wr
      have hcv := conv_one wr q
      go_wp2_with fail
      go_roundw
      case rel =>
        exact ⟨k + 1, q / 256, _, by omega, by go_num, by go_num, rfl, by omega, cat_size _ s hs, frel_step HR.out hz _, by simp; omega⟩
      case measure => simp [intOf]; omega
    · obtain rfl : k = m := by omega
      by_cases h0 : 0 < q
      · have hne : ¬ q = 0 := by omega
        go_wp2_with fail
        go_ret
        refine ⟨ret_str ?_, HR.out.2.2⟩
        unfold fixE
        rw [if_neg (by rw [← HR.out.1]; exact hne)]
      · go_wp2_with fail
        go_ret
        refine ⟨ret_str ?_, HR.out.2.2⟩
        unfold fixE
        rw [if_pos (by rw [← HR.out.1]; omega)]
        exact bytes_of HR.out.2.1

set_option maxHeartbeats 400000 in
theorem encfs_no (n m : Int) (w : World) (h : ¬ (1 ≤ m ∧ m ≤ 7)) :
    Calls Tryd.prog 14 #[.int .i64 n, .int .i64 m] w fun e w' => e = .returned (.string ⟨#[]⟩) ∧ w = w' := by
  go_enter Tryd.func14, Tryd.ntmps14
  go_wp2_with (go_at_call 26; refine (in_no _ _ _ _ h).mono ?_; rintro e w' ⟨rfl, rfl⟩)
  go_ret
  exact ⟨rfl, rfl⟩
set_option maxHeartbeats 400000 in
theorem encfs_neg (n m : Int) (w : World) (h1 : 1 ≤ m) (h7 : m ≤ 7) (hn : n < 0) :
    Calls Tryd.prog 14 #[.int .i64 n, .int .i64 m] w fun e w' => e = .returned (.string ⟨#[]⟩) ∧ w = w' := by
  go_enter Tryd.func14, Tryd.ntmps14
  go_wp2_with (go_at_call 26; refine (in_yes _ _ _ _ h1 h7).mono ?_; rintro e w' ⟨rfl, rfl⟩)
  go_ret
  exact ⟨rfl, rfl⟩
set_option maxHeartbeats 400000 in
theorem encfi_no (n m : Int) (w : World) (h : ¬ (1 ≤ m ∧ m ≤ 7)) :
    Calls Tryd.prog 12 #[.int .i64 n, .int .i64 m] w fun e w' => e = .returned (.string ⟨#[]⟩) ∧ w = w' := by
  go_enter Tryd.func12, Tryd.ntmps12
  go_wp2_with (go_at_call 25; refine (isw_no _ _ h).mono ?_; rintro e w' ⟨rfl, rfl⟩)
  go_ret
  exact ⟨rfl, rfl⟩
set_option maxHeartbeats 400000 in
theorem encfi_neg (n m : Int) (w : World) (h1 : 1 ≤ m) (h7 : m ≤ 7) (hn : n < 0) :
    Calls Tryd.prog 12 #[.int .i64 n, .int .i64 m] w fun e w' => e = .returned (.string ⟨#[]⟩) ∧ w = w' := by
  go_enter Tryd.func12, Tryd.ntmps12
  go_wp2_with (go_at_call 25; refine (isw_yes _ _ h1 h7).mono ?_; rintro e w' ⟨rfl, rfl⟩)
  go_ret
  exact ⟨rfl, rfl⟩

/-- What the program's own array holds behind k rounds. -/
def fixSt (n m k : Nat) : List UInt8 := (lb n m).take k ++ List.replicate (m - k) 0
theorem fixSt_zero (n m : Nat) : fixSt n m 0 = List.replicate m 0 := by simp [fixSt]
theorem fixSt_end (n m : Nat) : fixSt n m m = lb n m := by
  have : (lb n m).take m = lb n m := List.take_of_length_le (by rw [lb_len]; exact Nat.le_refl _)
  simp [fixSt, this]
theorem fixSt_len (n m k : Nat) (h : k ≤ m) : (fixSt n m k).length = m := by
  simp only [fixSt, List.length_append, List.length_take, lb_len, List.length_replicate]; omega
theorem fixSt_step (n m k : Nat) (h : k < m) : fixSt n m (k + 1) = (fixSt n m k).set k (UInt8.ofNat (n / 256 ^ (m - 1 - k) % 256)) := by
  have hl := fixSt_len n m k (by omega)
  apply List.ext_getElem?
  intro i
  rw [List.getElem?_set]
  by_cases hi : k = i
  · subst hi
    rw [if_pos rfl, if_pos (by omega)]
    unfold fixSt
    rw [List.getElem?_append_left (by rw [List.length_take, lb_len]; omega), List.getElem?_take_of_lt (by omega), lb_get n m k h]
  · rw [if_neg hi]
    unfold fixSt
    rcases Nat.lt_or_ge i k with h1 | h1
    · rw [List.getElem?_append_left (by rw [List.length_take, lb_len]; omega), List.getElem?_append_left (by rw [List.length_take, lb_len]; omega), List.getElem?_take_of_lt (by omega), List.getElem?_take_of_lt h1]
    · rw [List.getElem?_append_right (by rw [List.length_take, lb_len]; omega), List.getElem?_append_right (by rw [List.length_take, lb_len]; omega)]
      simp only [List.length_take, lb_len, List.getElem?_replicate]
      rw [Nat.min_eq_left (by omega), Nat.min_eq_left (by omega)]
      by_cases h2 : i < m
      · rw [if_pos (by omega), if_pos (by omega)]
      · rw [if_neg (by omega), if_neg (by omega)]

theorem pow256 (k : Nat) : (2 : Nat) ^ (8 * k) = 256 ^ k := by rw [Nat.pow_mul]
theorem shr_cast (n k : Nat) : (n : Int) / 2 ^ (8 * k) = ((n / 256 ^ k : Nat) : Int) := by
  rw [← pow256]; simp

theorem fixSt_cells (n m k : Nat) (h : k < m) : (bytesV (fixSt n m k)).set k (.int .u8 ((n : Int) / 2 ^ (8 * (m - 1 - k)) % 256)) = bytesV (fixSt n m (k + 1)) := by
  rw [fixSt_step n m k h, shr_cast]
  have e : byteV (UInt8.ofNat (n / 256 ^ (m - 1 - k) % 256)) = .int .u8 (((n / 256 ^ (m - 1 - k) : Nat) : Int) % 256) := by
    unfold byteV; rw [u8_nat _ (by omega)]; congr 1
  rw [← e]
  simp [bytesV, List.map_set]
theorem fixSt_cell (n m k : Nat) (h : k < m) : ∃ c : Value, (bytesV (fixSt n m k))[k]? = some c := by
  have hl := fixSt_len n m k (by omega)
  exact ⟨_, List.getElem?_eq_getElem (by rw [bytesV_length]; omega)⟩

set_option maxHeartbeats 400000 in
set_option maxRecDepth 100000 in
theorem encfi_big (n m : Nat) (w : World) (hn : n ≤ 9223372036854775807) (h1 : 1 ≤ m) (h7 : m ≤ 7) (hb : ¬ n / 256 ^ m = 0) :
    Calls Tryd.prog 12 #[.int .i64 n, .int .i64 m] w fun e w' => e = .returned (.string ⟨#[]⟩) ∧ w = w' := by
  have hd0 : decide ((n : Int) < 0) = false := by simp
  have hsh : ((n : Int) / 2 ^ (8 * m) != 0) = true := by rw [bne_iff_ne, shr_cast]; omega
  clear hb
  go_enter Tryd.func12, Tryd.ntmps12
  go_wp2_with (go_at_call 25; refine (isw_yes _ _ (by omega) (by omega)).mono ?_; rintro e w' ⟨rfl, rfl⟩)
  go_ret
  exact ⟨rfl, rfl⟩

set_option maxHeartbeats 400000 in
set_option maxRecDepth 100000 in
theorem encfi_yes (n m : Nat) (w : World) (hn : n ≤ 9223372036854775807) (h1 : 1 ≤ m) (h7 : m ≤ 7) (hb : n / 256 ^ m = 0) :
    Calls Tryd.prog 12 #[.int .i64 n, .int .i64 m] w fun e w' => e = .returned (.string ⟨(lb n m).toArray⟩) ∧ Below w.heap.size w w' := by
  obtain ⟨i0, hi, hz0, hz1, hz2⟩ := info_parts Tryd.infoU8
  have hmk : (Instr.makeSlice 22 (.int .i64 m) (.int .i64 m)).run Tryd.prog w = .ok (.slice (some ⟨w.heap.size, 0, none⟩) m m) (w.alloc (.cells (bytesV (fixSt n m 0)).toArray 5)) := by
    have h := run_make (P := Tryd.prog) w 22 5 i0 (.int .u8 0) Tryd.underlying22 hi hz0 .i64 .i64 (m : Int) (m : Int) (by omega) (Int.le_refl _) (by rw [hz2]; omega) (by omega)
    rw [h, hz1, Nat.mul_one, fixSt_zero, ← madeU8, Int.toNat_natCast]
  clear hi hz0 hz1 hz2
  have hd0 : decide ((n : Int) < 0) = false := by simp
  have hsh : ((n : Int) / 2 ^ (8 * m) != 0) = false := by rw [bne_eq_false_iff_eq, shr_cast]; omega
  clear hb
  go_enter Tryd.func12, Tryd.ntmps12
  go_wp2_with (go_at_call 25; refine (isw_yes _ _ (by omega) (by omega)).mono ?_; rintro e w' ⟨rfl, rfl⟩)
  go_loopw [25] (fun i wr => ∃ k : Nat, k ≤ m ∧ i = .int .i64 k ∧ wr = w.alloc (.cells (bytesV (fixSt n m k)).toArray 5)) (fun i _ => m - (intOf i).toNat)
  case atStart => exact ⟨0, Nat.zero_le _, rfl, rfl⟩
  case round =>
    obtain ⟨k, hk, rfl, rfl⟩ := hrel
    by_cases hlt : k < m
    · obtain ⟨c, hc⟩ := fixSt_cell n m k hlt
      have hset := fixSt_cells n m k hlt
      have HS := Lib.hid hset; clear hset
      go_wp2_with fail
      rw [HS.out]
      exact ⟨⟨k + 1, by omega, by go_num, rfl⟩, by simp [intOf]; omega⟩
    · obtain rfl : k = m := by omega
      have hown : OwnB (w.alloc (.cells (bytesV (fixSt n k k)).toArray 5)) w.heap.size (.slice (some ⟨w.heap.size, 0, none⟩) k k) (fixSt n k k) := by
        have h := ownB_lit w w.heap.size (Nat.le_refl _) (fixSt n k k) (by rw [fixSt_len _ _ _ (Nat.le_refl _)]; unfold maxLen; omega)
        rw [fixSt_len _ _ _ (Nat.le_refl _)] at h
        exact h
      have hcv := convB hown
      have HO := Lib.hid hown; clear hown
      have he := fixSt_end n k
      have HE := Lib.hid he; clear he
      go_wp2_with fail
      go_ret
      refine ⟨?_, (Below.refl _ _).alloc (Nat.le_refl _) _⟩
      rw [← HE.out]; rfl
end Go.Proofs.YteknoaikgmlhcaaDoor
