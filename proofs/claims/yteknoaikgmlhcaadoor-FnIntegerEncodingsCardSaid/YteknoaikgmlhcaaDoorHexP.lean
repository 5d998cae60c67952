/-
  Plain facts on hexadecimal texts: the digits' values, and what a text of digits decodes to.
-/
import Derived.Test.YteknoaikgmlhcaaDoorEncH
import Derived.Test.YteknoaikgmlhcaaDoorVar
namespace Go.Proofs.YteknoaikgmlhcaaDoor

def isHex (b : UInt8) : Prop := (48 ≤ b.toNat ∧ b.toNat ≤ 57) ∨ (97 ≤ b.toNat ∧ b.toNat ≤ 102)
instance (b : UInt8) : Decidable (isHex b) := by unfold isHex; exact inferInstance
def hvN (b : UInt8) : Nat := if b.toNat ≤ 57 then b.toNat - 48 else b.toNat - 87
theorem hvN_lt {b : UInt8} (h : isHex b) : hvN b < 16 := by unfold isHex at h; unfold hvN; split <;> omega
theorem hexd_nat (k : Nat) (h : k < 16) : (hexd k).toNat = if k < 10 then 48 + k else 87 + k := by
  unfold hexd; rw [UInt8.toNat_ofNat']; split <;> omega
theorem hexd_iff (k : Nat) (h : k < 16) (b : UInt8) : (hexd k).toNat = b.toNat ↔ isHex b ∧ hvN b = k := by
  rw [hexd_nat k h]; unfold isHex hvN; have := b.toNat_lt; split <;> split <;> omega

def pairB (s : ByteArray) (j : Nat) : UInt8 := UInt8.ofNat (16 * hvN (s.data.toList.getD (2 * j) 0) + hvN (s.data.toList.getD (2 * j + 1) 0))
def hexD (s : ByteArray) (j : Nat) : List UInt8 := (List.range j).map (pairB s)
theorem hexD_len (s : ByteArray) (j : Nat) : (hexD s j).length = j := by simp [hexD]
theorem hexD_succ (s : ByteArray) (j : Nat) : hexD s (j + 1) = hexD s j ++ [pairB s j] := by simp [hexD, List.range_succ]
def allHex (s : ByteArray) (k : Nat) : Prop := ∀ i, i < k → isHex (s.data.toList.getD i 0)
theorem allHex_zero (s : ByteArray) : allHex s 0 := fun i h => by omega
theorem allHex_step {s : ByteArray} {k : Nat} (h : allHex s k) (hb : isHex (s.data.toList.getD k 0)) : allHex s (k + 1) := fun i hi => by
  rcases Nat.lt_or_ge i k with h' | h'
  · exact h i h'
  · have : i = k := by omega
    subst this; exact hb

/-- What the program's own array holds behind k digits. -/
def hexSt (s : ByteArray) (k : Nat) : List UInt8 := (List.range (s.size / 2)).map fun j => if 2 * j + 1 < k then pairB s j else if 2 * j < k then UInt8.ofNat (hvN (s.data.toList.getD (2 * j) 0)) else 0
theorem hexSt_len (s : ByteArray) (k : Nat) : (hexSt s k).length = s.size / 2 := by simp [hexSt]
theorem hexSt_zero (s : ByteArray) : hexSt s 0 = List.replicate (s.size / 2) 0 := by
  apply List.ext_getElem
  · simp [hexSt]
  · intro i h1 h2; simp [hexSt]
theorem hexSt_end (s : ByteArray) (he : s.size % 2 = 0) : hexSt s s.size = hexD s (s.size / 2) := by
  apply List.ext_getElem
  · simp [hexSt, hexD]
  · intro i h1 h2
    have hi : i < s.size / 2 := by simpa [hexSt] using h1
    simp [hexSt, hexD, show 2 * i + 1 < s.size by omega]
theorem hexSt_get (s : ByteArray) (k : Nat) (hk : k < s.size) (he : s.size % 2 = 0) : (hexSt s k)[k / 2]? = some (if k % 2 = 0 then 0 else UInt8.ofNat (hvN (s.data.toList.getD (k - 1) 0))) := by
  have hi : k / 2 < s.size / 2 := by omega
  simp only [hexSt, List.getElem?_map, List.getElem?_range hi, Option.map_some]
  rw [if_neg (by omega)]
  by_cases h : k % 2 = 0
  · rw [if_pos h, if_neg (by omega)]
  · rw [if_neg h, if_pos (by omega), show 2 * (k / 2) = k - 1 by omega]
theorem hexSt_step (s : ByteArray) (k : Nat) (hk : k < s.size) (he : s.size % 2 = 0) (b : UInt8)
    (hb : b.toNat = (if k % 2 = 0 then 0 else 16 * hvN (s.data.toList.getD (k - 1) 0)) + hvN (s.data.toList.getD k 0)) : hexSt s (k + 1) = (hexSt s k).set (k / 2) b := by
  apply List.ext_getElem
  · simp [hexSt]
  · intro i h1 h2
    have hi : i < s.size / 2 := by simpa [hexSt] using h1
    rw [List.getElem_set]
    by_cases h : k / 2 = i
    · subst h
      rw [if_pos rfl]
      simp only [hexSt, List.getElem_map, List.getElem_range]
      by_cases h0 : k % 2 = 0
      · rw [if_neg (by omega), if_pos (by omega), show 2 * (k / 2) = k by omega, u8_ext]
        rw [if_pos h0] at hb
        have := b.toNat_lt
        rw [u8_natN _ (by omega), hb]; omega
      · rw [if_pos (by omega), u8_ext]
        unfold pairB
        rw [if_neg h0] at hb
        have := b.toNat_lt
        rw [show 2 * (k / 2) + 1 = k by omega, show 2 * (k / 2) = k - 1 by omega, u8_natN _ (by omega), hb]
    · rw [if_neg h]
      simp only [hexSt, List.getElem_map, List.getElem_range]
      by_cases h1 : 2 * i + 1 < k
      · rw [if_pos h1, if_pos (by omega)]
      · rw [if_neg h1, if_neg (by omega), if_neg (by omega), if_neg (by omega)]

/-- What both decoders answer. -/
def UnhexAns (s : ByteArray) (e : Ending) : Prop :=
  ((s.size % 2 = 0 ∧ allHex s s.size) ∧ e = .returned (.tuple #[.string ⟨(hexD s (s.size / 2)).toArray⟩, .bool true])) ∨ (¬ (s.size % 2 = 0 ∧ allHex s s.size) ∧ e = .returned (.tuple #[.string ⟨#[]⟩, .bool false]))
theorem unhexAns_one {s : ByteArray} {e e' : Ending} (h : UnhexAns s e) (h' : UnhexAns s e') : e = e' := by
  rcases h with ⟨h1, rfl⟩ | ⟨h1, rfl⟩ <;> rcases h' with ⟨h2, rfl⟩ | ⟨h2, rfl⟩
  · rfl
  · exact absurd h1 h2
  · exact absurd h2 h1
  · rfl
theorem unhex_odd (s : ByteArray) (h : s.size % 2 = 1) : UnhexAns s (.returned (.tuple #[.string ⟨#[]⟩, .bool false])) := Or.inr ⟨fun ⟨h', _⟩ => by omega, rfl⟩
theorem unhex_bad (s : ByteArray) (i : Nat) (hi : i < s.size) (h : ¬ isHex (s.data.toList.getD i 0)) : UnhexAns s (.returned (.tuple #[.string ⟨#[]⟩, .bool false])) := Or.inr ⟨fun ⟨_, h'⟩ => h (h' i hi), rfl⟩
theorem unhex_good (s : ByteArray) (he : s.size % 2 = 0) (h : allHex s s.size) : UnhexAns s (.returned (.tuple #[.string ⟨(hexD s (s.size / 2)).toArray⟩, .bool true])) := Or.inl ⟨⟨he, h⟩, rfl⟩
end Go.Proofs.YteknoaikgmlhcaaDoor
