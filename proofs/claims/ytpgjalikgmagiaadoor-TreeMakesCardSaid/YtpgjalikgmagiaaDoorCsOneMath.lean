/-
The letter at a text's beginning, by cases of its first byte: plain arithmetic. No program in it, no conditions.
-/
import Derived.Test.YtpgjalikgmagiaaDoorCsMath
namespace Go.Proofs.YtpgjalikgmagiaaDoor.Cs
open Go.Lib

/-- The letter at a text's beginning, and how many bytes it has; 0: it is none. -/
def oneP (l : List UInt8) : Nat × Nat := if l = [] then (0, 0) else if bad l = true then (0, 0) else decodeL l
def oneN (n b0 b1 b2 b3 : Nat) : Nat × Nat := if (decodeN n b0 b1 b2 b3).1 = 65533 ∧ (decodeN n b0 b1 b2 b3).2 = 1 then (0, 0) else decodeN n b0 b1 b2 b3
theorem oneP_N {l : List UInt8} (h : l ≠ []) : oneP l = oneN l.length (l.getD 0 0).toNat (l.getD 1 0).toNat (l.getD 2 0).toNat (l.getD 3 0).toNat := by
  unfold oneP oneN bad
  rw [if_neg h, decodeL_N]
  simp only [decide_eq_true_eq]
theorem one0 {n b0 b1 b2 b3 : Nat} (h : b0 < 128) : oneN n b0 b1 b2 b3 = (b0, 1) := by
  unfold oneN decodeN
  rw [if_pos h, if_neg (fun e => by have : b0 = 65533 := e.1; omega)]
theorem oneX {n b0 b1 b2 b3 : Nat} (h : (128 ≤ b0 ∧ b0 < 192) ∨ (248 ≤ b0 ∧ b0 < 256)) : oneN n b0 b1 b2 b3 = (0, 0) := by
  unfold oneN
  rw [show decodeN n b0 b1 b2 b3 = (65533, 1) by unfold decodeN; rw [if_neg (by omega), if_neg (by omega), if_neg (by omega), if_neg (by omega)]]
  rfl
theorem one2 {n b0 b1 b2 b3 : Nat} (h : 192 ≤ b0 ∧ b0 < 224) (h1 : b1 < 256) :
    oneN n b0 b1 b2 b3 = if n < 2 ∨ (b1 < 128 ∨ 192 ≤ b1) ∨ 64 * (b0 % 32) + b1 % 64 < 128 then (0, 0) else (64 * (b0 % 32) + b1 % 64, 2) := by
  unfold oneN
  by_cases c : n < 2 ∨ (b1 < 128 ∨ 192 ≤ b1) ∨ 64 * (b0 % 32) + b1 % 64 < 128
  · rw [if_pos c, show decodeN n b0 b1 b2 b3 = (65533, 1) by
      unfold decodeN
      repeat' split
      all_goals first | rfl | (exfalso; omega)]
    rfl
  · rw [if_neg c, show decodeN n b0 b1 b2 b3 = (64 * (b0 % 32) + b1 % 64, 2) by
      unfold decodeN
      repeat' split
      all_goals first | (exfalso; omega) | (apply Prod.ext <;> simp only <;> omega)]
    rw [if_neg (fun e => by have := e.2; simp at this)]
theorem one3 {n b0 b1 b2 b3 : Nat} (h : 224 ≤ b0 ∧ b0 < 240) (h1 : b1 < 256) (h2 : b2 < 256) :
    oneN n b0 b1 b2 b3 = if n < 3 ∨ (b1 < 128 ∨ 192 ≤ b1) ∨ (b2 < 128 ∨ 192 ≤ b2) ∨ 64 * (64 * (b0 % 16) + b1 % 64) + b2 % 64 < 2048 ∨ (55296 ≤ 64 * (64 * (b0 % 16) + b1 % 64) + b2 % 64 ∧ 64 * (64 * (b0 % 16) + b1 % 64) + b2 % 64 < 57344) then (0, 0) else (64 * (64 * (b0 % 16) + b1 % 64) + b2 % 64, 3) := by
  unfold oneN
  by_cases c : n < 3 ∨ (b1 < 128 ∨ 192 ≤ b1) ∨ (b2 < 128 ∨ 192 ≤ b2) ∨ 64 * (64 * (b0 % 16) + b1 % 64) + b2 % 64 < 2048 ∨ (55296 ≤ 64 * (64 * (b0 % 16) + b1 % 64) + b2 % 64 ∧ 64 * (64 * (b0 % 16) + b1 % 64) + b2 % 64 < 57344)
  · rw [if_pos c, show decodeN n b0 b1 b2 b3 = (65533, 1) by
      unfold decodeN
      repeat' split
      all_goals first | rfl | (exfalso; omega)]
    rfl
  · rw [if_neg c, show decodeN n b0 b1 b2 b3 = (64 * (64 * (b0 % 16) + b1 % 64) + b2 % 64, 3) by
      unfold decodeN
      repeat' split
      all_goals first | (exfalso; omega) | (apply Prod.ext <;> simp only <;> omega)]
    rw [if_neg (fun e => by have := e.2; simp at this)]
theorem one4 {n b0 b1 b2 b3 : Nat} (h : 240 ≤ b0 ∧ b0 < 248) (h1 : b1 < 256) (h2 : b2 < 256) (h3 : b3 < 256) :
    oneN n b0 b1 b2 b3 = if n < 4 ∨ (b1 < 128 ∨ 192 ≤ b1) ∨ (b2 < 128 ∨ 192 ≤ b2) ∨ (b3 < 128 ∨ 192 ≤ b3) ∨ 64 * (64 * (64 * (b0 % 8) + b1 % 64) + b2 % 64) + b3 % 64 < 65536 ∨ 1114111 < 64 * (64 * (64 * (b0 % 8) + b1 % 64) + b2 % 64) + b3 % 64 then (0, 0) else (64 * (64 * (64 * (b0 % 8) + b1 % 64) + b2 % 64) + b3 % 64, 4) := by
  unfold oneN
  by_cases c : n < 4 ∨ (b1 < 128 ∨ 192 ≤ b1) ∨ (b2 < 128 ∨ 192 ≤ b2) ∨ (b3 < 128 ∨ 192 ≤ b3) ∨ 64 * (64 * (64 * (b0 % 8) + b1 % 64) + b2 % 64) + b3 % 64 < 65536 ∨ 1114111 < 64 * (64 * (64 * (b0 % 8) + b1 % 64) + b2 % 64) + b3 % 64
  · rw [if_pos c, show decodeN n b0 b1 b2 b3 = (65533, 1) by
      unfold decodeN
      repeat' split
      all_goals first | rfl | (exfalso; omega)]
    rfl
  · rw [if_neg c, show decodeN n b0 b1 b2 b3 = (64 * (64 * (64 * (b0 % 8) + b1 % 64) + b2 % 64) + b3 % 64, 4) by
      unfold decodeN
      repeat' split
      all_goals first | (exfalso; omega) | (apply Prod.ext <;> simp only <;> omega)]
    rw [if_neg (fun e => by have := e.2; simp at this)]
end Go.Proofs.YtpgjalikgmagiaaDoor.Cs
