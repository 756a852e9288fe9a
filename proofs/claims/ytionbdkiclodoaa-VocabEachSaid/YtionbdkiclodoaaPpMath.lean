/-
Names and values of properties in plain words, over lists of bytes. No program in it, no conditions.
-/
import Derived.WalkKit
import Derived.Lib.Hide
namespace Go.Proofs.Ytionbdkiclodoaa.Pp

theorem list_size (s : ByteArray) : s.data.toList.length = s.size := by rw [Array.length_toList]; rfl
/-- A capital. -/
def lett (c : UInt8) : Bool := decide (65 ≤ (c.toNat : Int) ∧ (c.toNat : Int) ≤ 90)
/-- A byte of a name. -/
def nmc (c : UInt8) : Bool := lett c || decide (48 ≤ (c.toNat : Int) ∧ (c.toNat : Int) ≤ 57) || decide ((c.toNat : Int) = 45)
/-- A byte of a parameter's value. -/
def valc (c : UInt8) : Bool := decide (33 ≤ (c.toNat : Int) ∧ (c.toNat : Int) ≤ 126 ∧ ¬ (c.toNat : Int) = 59 ∧ ¬ (c.toNat : Int) = 58 ∧ ¬ (c.toNat : Int) = 61)
/-- A byte that no value of a property has. -/
def oddb (c : UInt8) : Bool := decide ((c.toNat : Int) = 0 ∨ (c.toNat : Int) = 10 ∨ (c.toNat : Int) = 13)
/-- Not a small letter. -/
def capb (c : UInt8) : Bool := !decide (97 ≤ (c.toNat : Int) ∧ (c.toNat : Int) ≤ 122)
def nameL (l : List UInt8) : Bool := match l with | [] => false | c :: r => decide ((c :: r).length ≤ 32) && lett c && (c :: r).all nmc
def valL (l : List UInt8) : Bool := match l with | [] => false | c :: r => decide ((c :: r).length ≤ 32) && (c :: r).all valc
def nameB (s : ByteArray) : Bool := nameL s.data.toList
def valB (s : ByteArray) : Bool := valL s.data.toList
def paramB (n v : ByteArray) : Bool := (decide (n.size = 0) || nameB n) && valB v

theorem str_none {t : ByteArray} (h : t.size = 0) : t.toList.isEmpty = true := by
  rw [ByteArray.toList_eq, List.isEmpty_iff]; exact List.eq_nil_of_length_eq_zero (by rw [list_size, h])
theorem str_some {t : ByteArray} (h : ¬ t.size = 0) : t.toList.isEmpty = false := by
  rw [ByteArray.toList_eq]; cases e : t.data.toList with
  | nil => have := list_size t; rw [e] at this; simp at this; omega
  | cons a r => rfl

theorem all_no {P : UInt8 → Bool} {s : ByteArray} {k : Nat} (h : k < s.size) (hp : P s[k] = false) : (s.data.toList.drop k).all P = false := by
  rw [List.drop_eq_getElem_cons (by rw [list_size]; exact h), List.all_cons]
  have : s.data.toList[k]'(by rw [list_size]; exact h) = s[k] := by simp; rfl
  rw [this, hp]; rfl
theorem all_yes {P : UInt8 → Bool} {s : ByteArray} {k : Nat} (h : k < s.size) (hp : P s[k] = true) : (s.data.toList.drop k).all P = (s.data.toList.drop (k + 1)).all P := by
  rw [List.drop_eq_getElem_cons (by rw [list_size]; exact h), List.all_cons]
  have : s.data.toList[k]'(by rw [list_size]; exact h) = s[k] := by simp; rfl
  rw [this, hp]; rfl
theorem all_end {P : UInt8 → Bool} {s : ByteArray} : (s.data.toList.drop s.size).all P = true := by
  rw [List.drop_eq_nil_of_le (by rw [list_size]; exact Nat.le_refl _)]; rfl

theorem nameB_none {s : ByteArray} (h : s.size = 0) : nameB s = false := by
  unfold nameB; rw [List.eq_nil_of_length_eq_zero (l := s.data.toList) (by rw [list_size, h])]; rfl
theorem nameB_long {s : ByteArray} (h : ¬ s.size ≤ 32) : nameB s = false := by
  unfold nameB nameL; rw [← list_size] at h
  cases e : s.data.toList with
  | nil => rfl
  | cons a r => rw [e] at h; simp only; rw [decide_eq_false h]; rfl
theorem nameB_some {s : ByteArray} (h : 0 < s.size) (h' : s.size ≤ 32) : nameB s = (lett s[0] && s.data.toList.all nmc) := by
  unfold nameB nameL
  have h0 : s.data.toList[0]'(by rw [list_size]; exact h) = s[0] := by simp; rfl
  have hl := list_size s
  cases e : s.data.toList with
  | nil => rw [e] at hl; simp at hl; omega
  | cons a r =>
    simp only [e, List.getElem_cons_zero] at h0
    rw [e] at hl
    simp only
    rw [decide_eq_true (by rw [hl]; exact h'), h0, Bool.true_and]
theorem valB_none {s : ByteArray} (h : s.size = 0) : valB s = false := by
  unfold valB; rw [List.eq_nil_of_length_eq_zero (l := s.data.toList) (by rw [list_size, h])]; rfl
theorem valB_long {s : ByteArray} (h : ¬ s.size ≤ 32) : valB s = false := by
  unfold valB valL; rw [← list_size] at h
  cases e : s.data.toList with
  | nil => rfl
  | cons a r => rw [e] at h; simp only; rw [decide_eq_false h]; rfl
theorem valB_some {s : ByteArray} (h : 0 < s.size) (h' : s.size ≤ 32) : valB s = s.data.toList.all valc := by
  unfold valB valL
  have hl := list_size s
  cases e : s.data.toList with
  | nil => rw [e] at hl; simp at hl; omega
  | cons a r =>
    rw [e] at hl
    simp only
    rw [decide_eq_true (by rw [hl]; exact h'), Bool.true_and]
end Go.Proofs.Ytionbdkiclodoaa.Pp
