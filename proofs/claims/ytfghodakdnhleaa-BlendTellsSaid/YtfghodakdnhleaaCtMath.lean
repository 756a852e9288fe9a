/-
The order of fields, in plain words. No program in it, no conditions.
-/
import Derived.WalkKit
import Derived.Lib.Bytealg
namespace Go.Proofs.Ytfghodakdnhleaa.Ct
open Go.Lib

theorem less_cons (a b : UInt8) (x y : List UInt8) : Op.bytesLess (a :: x) (b :: y) = (decide (a < b) || (a == b && Op.bytesLess x y)) := rfl
theorem cmp_self : ∀ (a : List UInt8), Lib.compareBytes a a = 0
  | [] => rfl
  | a :: x => by
    rw [Lib.compareBytes, if_neg (by simp), if_neg (by simp)]; exact cmp_self x
/-- The two orders of texts are one. -/
theorem cmp_less : ∀ (a b : List UInt8), Lib.compareBytes a b = if Op.bytesLess a b = true then -1 else if Op.bytesLess b a = true then 1 else 0
  | [], [] => rfl
  | [], _ :: _ => rfl
  | _ :: _, [] => rfl
  | a :: x, b :: y => by
    rw [Lib.compareBytes, less_cons, less_cons]
    by_cases h1 : a < b
    · rw [if_pos h1, if_pos (by simp [h1])]
    · rw [if_neg h1]
      by_cases h2 : b < a
      · have hne : ¬ a = b := fun e => by subst e; exact absurd h2 (by simp)
        rw [if_pos h2, if_neg (by simp [h1, hne]), if_pos (by simp [h2])]
      · have e : a = b := UInt8.le_antisymm (UInt8.not_lt.1 h2) (UInt8.not_lt.1 h1)
        subst e
        rw [if_neg h2, cmp_less x y]
        simp
theorem cmp_zero : ∀ {a b : List UInt8}, Lib.compareBytes a b = 0 → a = b
  | [], [], _ => rfl
  | [], _ :: _, h => by cases h
  | _ :: _, [], h => by cases h
  | a :: x, b :: y, h => by
    rw [Lib.compareBytes] at h
    split at h
    · cases h
    · split at h
      · cases h
      · rename_i h1 h2
        have e : a = b := UInt8.le_antisymm (UInt8.not_lt.1 h2) (UInt8.not_lt.1 h1)
        rw [e, cmp_zero h]
/-- A field: its name, its label, its text. -/
abbrev Fd := ByteArray × ByteArray × ByteArray
def cmpS (a b : ByteArray) : Int := Lib.compareBytes a.data.toList b.data.toList
/-- Which field comes first. -/
def cmpF (x y : Fd) : Int := if cmpS x.1 y.1 ≠ 0 then cmpS x.1 y.1 else if cmpS x.2.1 y.2.1 ≠ 0 then cmpS x.2.1 y.2.1 else cmpS x.2.2 y.2.2
theorem cmpS_zero {a b : ByteArray} : cmpS a b = 0 ↔ a = b := by
  constructor
  · intro h
    have := cmp_zero h
    cases a; cases b
    simp only at this
    rw [Array.toList_inj.1 this]
  · rintro rfl; exact cmp_self _
/-- Are two fields the same? -/
def eqF (x y : Fd) : Bool := decide (x = y)
/-- Are the fields the same, one by one? -/
def eqL : List Fd → List Fd → Bool
  | [], [] => true
  | x :: l, y :: k => decide (x = y) && eqL l k
  | _, _ => false
/-- The first field of a name. -/
def getF : List Fd → ByteArray → Option ByteArray
  | [], _ => none
  | x :: l, s => if x.1 = s then some x.2.2 else getF l s
end Go.Proofs.Ytfghodakdnhleaa.Ct
