/-
Plain functions on bytes: which bytes are plain, bytes as letters. No program in it, no conditions.
-/
import Derived.Test.YtccjagjbldofaaaDoorFigHexMath
namespace Go.Proofs.YtccjagjbldofaaaDoor.Qu
open Go.RowKit Fig

def ink (c : UInt8) : Bool := decide (32 < (c.toNat : Int)) && decide ((c.toNat : Int) ≤ 126) && decide ((c.toNat : Int) ≠ 61)
def blank (c : UInt8) : Bool := decide ((c.toNat : Int) = 32) || decide ((c.toNat : Int) = 9)
def plainB (c : UInt8) (more : Bool) : Bool := ink c || (blank c && more)
/-- A byte's letters: itself, or a mark and two digits. -/
def unit (c : UInt8) (more : Bool) : List UInt8 := if plainB c more then [c] else 61 :: hexOf [c]
def enc : List UInt8 → List UInt8
  | [] => []
  | c :: r => unit c (!r.isEmpty) ++ enc r

theorem unit_plain {c : UInt8} {m : Bool} (h : plainB c m = true) : unit c m = [c] := by unfold unit; rw [if_pos h]
theorem unit_not {c : UInt8} {m : Bool} (h : ¬ plainB c m = true) : unit c m = [61] ++ hexOf [c] := by unfold unit; rw [if_neg h]; rfl
theorem unit_length (c : UInt8) (m : Bool) : (unit c m).length ≤ 3 := by
  unfold unit; split
  · simp
  · simp [hexOf]
theorem enc_length (l : List UInt8) : (enc l).length ≤ 3 * l.length := by
  induction l with
  | nil => simp [enc]
  | cons c r ih => have := unit_length c (!r.isEmpty); simp [enc]; omega

/-- All bytes of l are plain. -/
def plainAll : List UInt8 → Bool
  | [] => true
  | c :: r => plainB c (!r.isEmpty) && plainAll r
theorem enc_ge (l : List UInt8) : l.length ≤ (enc l).length := by
  induction l with
  | nil => simp
  | cons c r ih =>
    have : 1 ≤ (unit c (!r.isEmpty)).length := by unfold unit; split <;> simp
    simp [enc]; omega
theorem enc_self (l : List UInt8) : (enc l = l) = (plainAll l = true) := by
  induction l with
  | nil => simp [enc, plainAll]
  | cons c r ih =>
    by_cases h : plainB c (!r.isEmpty) = true
    · rw [enc, unit_plain h, plainAll, h, Bool.true_and, ← ih]; simp
    · rw [enc, unit_not h, plainAll]
      have : plainB c (!r.isEmpty) = false := by simpa using h
      rw [this, Bool.false_and]
      apply propext
      constructor
      · intro e
        have := congrArg List.length e
        have h2 := enc_ge r
        simp [hexOf] at this
        omega
      · intro e; cases e
theorem enc_beq (l : List UInt8) : (enc l == l) = plainAll l := by
  have h := enc_self l
  by_cases e : enc l = l
  · rw [beq_iff_eq.2 e]; exact (h.mp e).symm
  · rw [beq_eq_false_iff_ne.2 e]
    cases hp : plainAll l
    · rfl
    · exact absurd (h.mpr hp) e

/-! At a place of a text. -/
theorem drop_at (s : ByteArray) (k : Nat) (h : k < s.size) : s.data.toList.drop k = s[k] :: s.data.toList.drop (k + 1) := by
  rw [List.drop_eq_getElem_cons (by simpa using h)]; rfl
theorem more_at (s : ByteArray) (k : Nat) : (!(s.data.toList.drop (k + 1)).isEmpty) = decide (k + 1 < s.size) := by
  by_cases h : k + 1 < s.size
  · have : (s.data.toList.drop (k + 1)).isEmpty = false := by
      rw [List.isEmpty_eq_false_iff]; intro e; have := congrArg List.length e; simp at this; omega
    rw [this]; simp [h]
  · have : s.data.toList.drop (k + 1) = [] := List.drop_eq_nil_of_le (by simp; omega)
    rw [this]; simp [h]
theorem enc_at (s : ByteArray) (k : Nat) (h : k < s.size) : enc (s.data.toList.drop k) = unit s[k] (decide (k + 1 < s.size)) ++ enc (s.data.toList.drop (k + 1)) := by
  rw [drop_at s k h, enc, more_at]
theorem plainAll_at (s : ByteArray) (k : Nat) (h : k < s.size) : plainAll (s.data.toList.drop k) = (plainB s[k] (decide (k + 1 < s.size)) && plainAll (s.data.toList.drop (k + 1))) := by
  rw [drop_at s k h, plainAll, more_at]
theorem drop_end (s : ByteArray) {k : Nat} (h : ¬ k < s.size) : s.data.toList.drop k = [] := List.drop_eq_nil_of_le (by simp; omega)
/-- The text of the one byte at a place. -/
theorem one_at (s : ByteArray) (k : Nat) (h : k < s.size) : (s.extract k (k + 1)).data.toList = [s[k]] := by
  rw [ByteArray.data_extract, Array.toList_extract, List.extract_eq_take_drop]
  have := drop_at s k h
  rw [this]; simp
end Go.Proofs.YtccjagjbldofaaaDoor.Qu
