/-
Plain functions on bytes: digits of bytes, and bytes of digits. No program in it, no conditions.
-/
import Derived.WalkKit
import Derived.Lib.Hide
namespace Go.Proofs.YtccjagjbldofaaaDoor.Fig
open Go.RowKit

/-- The digit of a number below 16. -/
def hexd (n : Nat) : UInt8 := if n < 10 then UInt8.ofNat (48 + n) else UInt8.ofNat (55 + n)
/-- Two digits for each byte. -/
def hexOf (l : List UInt8) : List UInt8 := l.flatMap fun c => [hexd (c.toNat / 16), hexd (c.toNat % 16)]

theorem hexd_toNat (n : Nat) (h : n < 16) : (hexd n).toNat = if n < 10 then 48 + n else 55 + n := by
  unfold hexd; split <;> simp <;> omega
theorem hexOf_length (l : List UInt8) : (hexOf l).length = 2 * l.length := by
  induction l with
  | nil => rfl
  | cons c r ih => simp [hexOf] at ih ⊢; omega
theorem hexOf_snoc (l : List UInt8) (c : UInt8) : hexOf (l ++ [c]) = hexOf l ++ [hexd (c.toNat / 16), hexd (c.toNat % 16)] := by
  simp [hexOf]
theorem take_snoc (s : ByteArray) (k : Nat) (h : k < s.size) : s.data.toList.take (k + 1) = s.data.toList.take k ++ [s[k]] := by
  rw [List.take_succ_eq_append_getElem (by simpa using h)]; rfl
theorem hexOf_step (s : ByteArray) (k : Nat) (h : k < s.size) : hexOf (s.data.toList.take (k + 1)) = hexOf (s.data.toList.take k) ++ [hexd (s[k].toNat / 16), hexd (s[k].toNat % 16)] := by
  rw [take_snoc s k h, hexOf_snoc]
theorem hexOf_take_length (s : ByteArray) (k : Nat) (h : k ≤ s.size) : (hexOf (s.data.toList.take k)).length = 2 * k := by
  rw [hexOf_length, List.length_take]; simp; omega
end Go.Proofs.YtccjagjbldofaaaDoor.Fig
