/-
Plain functions on bytes: capitals of ASCII alone, byte by byte; the names of charsets. No program in it, no conditions.
-/
import Derived.WalkKit
import Derived.Lib.Hide
namespace Go.Proofs.YtccgpemcdbcjeaaDoor.Cs
open Go.RowKit

/-- A to Z for a to z. -/
def cap1 (c : UInt8) : UInt8 := if 97 ≤ c.toNat ∧ c.toNat ≤ 122 then UInt8.ofNat (c.toNat - 32) else c
theorem cap1_yes {c : UInt8} (h : 97 ≤ (c.toNat : Int)) (h' : (c.toNat : Int) ≤ 122) : ((cap1 c).toNat : Int) = (c.toNat : Int) - 32 := by
  unfold cap1
  rw [if_pos ⟨by omega, by omega⟩, UInt8.toNat_ofNat', Nat.mod_eq_of_lt (by omega)]
  omega
theorem cap1_no {c : UInt8} (h : ¬ (97 ≤ (c.toNat : Int) ∧ (c.toNat : Int) ≤ 122)) : cap1 c = c := by
  unfold cap1
  rw [if_neg (by omega)]
/-- The first k bytes in capitals. -/
def capK (l : List UInt8) (k : Nat) : List UInt8 := (l.take k).map cap1 ++ l.drop k
theorem capK_zero (l : List UInt8) : capK l 0 = l := by simp [capK]
theorem capK_all {l : List UInt8} {k : Nat} (h : l.length ≤ k) : capK l k = l.map cap1 := by
  unfold capK; rw [List.take_of_length_le h, List.drop_eq_nil_of_le h, List.append_nil]
theorem capK_length (l : List UInt8) (k : Nat) : (capK l k).length = l.length := by
  unfold capK; rw [List.length_append, List.length_map, List.length_take, List.length_drop]; omega
theorem capK_at {l : List UInt8} {k : Nat} (h : k < l.length) : (capK l k)[k]? = some l[k] := by
  unfold capK
  rw [List.getElem?_append_right (by rw [List.length_map, List.length_take]; omega), List.length_map, List.length_take, List.getElem?_drop, show k + (k - min k l.length) = k by omega, List.getElem?_eq_getElem h]
theorem capK_set {l : List UInt8} {k : Nat} (h : k < l.length) : (capK l k).set k (cap1 l[k]) = capK l (k + 1) := by
  unfold capK
  rw [List.set_append_right _ _ (by rw [List.length_map, List.length_take]; omega), List.length_map, List.length_take, show k - min k l.length = 0 by omega, List.drop_eq_getElem_cons h, List.set_cons_zero, List.take_succ_eq_append_getElem h, List.map_append, List.append_assoc]
  rfl
theorem capK_same {l : List UInt8} {k : Nat} (h : k < l.length) (hs : cap1 l[k] = l[k]) : capK l (k + 1) = capK l k := by
  rw [← capK_set h, hs]
  have hk := capK_at h
  apply List.ext_getElem?
  intro i
  rw [List.getElem?_set]
  split
  · subst_vars
    rw [hk]; split
    · rfl
    · rw [capK_length] at *; omega
  · rfl

/-- A charset's name. -/
def nm (k : Int) : ByteArray := if k = 1 then ⟨#[85, 83, 45, 65, 83, 67, 73, 73]⟩ else if k = 2 then ⟨#[73, 83, 79, 45, 56, 56, 53, 57, 45, 49]⟩ else if k = 3 then ⟨#[85, 84, 70, 45, 56]⟩ else ⟨#[]⟩
/-- Which of them a text in capitals is. -/
def whichN (u : ByteArray) : Int := if (u.toList == (nm 1).toList) = true then 1 else if (u.toList == (nm 2).toList) = true then 2 else if (u.toList == (nm 3).toList) = true then 3 else 0
def named (l : List UInt8) : Int := whichN ⟨(l.map cap1).toArray⟩
theorem nm_toList1 : (nm 1).toList = [85, 83, 45, 65, 83, 67, 73, 73] := by decide +kernel
theorem named_utf8 : named [85, 116, 102, 45, 56] = 3 := by decide +kernel
end Go.Proofs.YtccgpemcdbcjeaaDoor.Cs
