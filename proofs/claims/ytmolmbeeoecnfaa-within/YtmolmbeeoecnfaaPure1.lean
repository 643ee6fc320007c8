/- Own work: the plain mathematics of reading bytes. Names nothing of the program. -/
import Derived.WalkKit
namespace Go.Proofs.Ytmolmbeeoecnfaa

/-- The byte at place i; 0 behind the end. -/
def byte (s : ByteArray) (i : Nat) : UInt8 := if h : i < s.size then s[i] else 0

theorem byte_in (s : ByteArray) (i : Nat) (h : i < s.size) : byte s i = s[i] := by simp [byte, h]
theorem byte_out (s : ByteArray) (i : Nat) (h : ¬ i < s.size) : byte s i = 0 := by simp [byte, h]

def isD (c : UInt8) : Bool := 48 ≤ c && c ≤ 57

/-- The first place from i on at which no digit stands; f: fuel. -/
def dendF (s : ByteArray) : Nat → Nat → Nat
  | 0, i => i
  | f + 1, i => if isD (byte s i) = true then dendF s f (i + 1) else i
def dend (s : ByteArray) (i : Nat) : Nat := dendF s (s.size - i) i

theorem isD_in (s : ByteArray) (i : Nat) (h : isD (byte s i) = true) : i < s.size := by
  by_cases e : i < s.size
  · exact e
  · rw [byte_out s i e] at h; simp [isD] at h

theorem dend_go (s : ByteArray) (i : Nat) (h : isD (byte s i) = true) : i < s.size ∧ dend s i = dend s (i + 1) := by
  have hi := isD_in s i h
  refine ⟨hi, ?_⟩
  unfold dend
  rw [show s.size - i = (s.size - (i + 1)) + 1 by omega]
  simp only [dendF]
  rw [if_pos h]

theorem dend_stop (s : ByteArray) (i : Nat) (h : isD (byte s i) = false) : dend s i = i := by
  unfold dend
  cases hn : s.size - i with
  | zero => rfl
  | succ n => simp [dendF, h]

theorem dend_ge (s : ByteArray) (i : Nat) : i ≤ dend s i := by
  unfold dend
  generalize s.size - i = n
  induction n generalizing i with
  | zero => exact Nat.le_refl _
  | succ n ih =>
    simp only [dendF]
    split
    · have := ih (i + 1); omega
    · exact Nat.le_refl _

theorem dend_le (s : ByteArray) (i : Nat) (h : i ≤ s.size) : dend s i ≤ s.size := by
  unfold dend
  generalize hn : s.size - i = n
  induction n generalizing i with
  | zero => exact h
  | succ n ih =>
    simp only [dendF]
    split
    · exact ih (i + 1) (by omega) (by omega)
    · exact h

/-- What stands from i on, up to j. -/
def cut (s : ByteArray) (i j : Nat) : ByteArray := ⟨((s.data.toList.drop i).take (j - i)).toArray⟩

theorem cut_self (s : ByteArray) (i : Nat) : cut s i i = ByteArray.empty := by
  simp [cut]; rfl
theorem cut_snoc (s : ByteArray) (i j : Nat) (hij : i ≤ j) (h : j < s.size) : cut s i (j + 1) = cut s i j ++ ⟨#[byte s j]⟩ := by
  apply ByteArray.ext
  rw [ByteArray.data_append]
  unfold cut
  rw [byte_in s j h]
  apply Array.toList_inj.1
  simp only [Array.toList_append]
  rw [show j + 1 - i = (j - i) + 1 by omega, List.take_succ_eq_append_getElem (by simp; exact (by have : s.data.size = s.size := rfl; omega))]
  simp only [List.getElem_drop]
  congr 2
  simp only [show i + (j - i) = j by omega]
  rfl

theorem cut_size (s : ByteArray) (i j : Nat) (hij : i ≤ j) (h : j ≤ s.size) : (cut s i j).size = j - i := by
  have e : s.data.size = s.size := rfl
  show (List.toArray _).size = _
  simp only [List.size_toArray, List.length_take, List.length_drop, Array.length_toList]
  omega

theorem isD_iff (c : UInt8) : isD c = true ↔ (48 : Int) ≤ c.toNat ∧ (c.toNat : Int) ≤ 57 := by
  simp only [isD, Bool.and_eq_true, decide_eq_true_eq, UInt8.le_iff_toNat_le]
  show (48 ≤ c.toNat ∧ c.toNat ≤ 57) ↔ _
  omega

end Go.Proofs.Ytmolmbeeoecnfaa
