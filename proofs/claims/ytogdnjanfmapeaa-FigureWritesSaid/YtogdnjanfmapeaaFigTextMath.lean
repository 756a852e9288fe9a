/-
Plain functions on numbers: their digits. No program in it, no conditions.
-/
import Derived.WalkKit
import Derived.Lib.Hide
import Derived.IntWalk
namespace Go.Proofs.Ytogdnjanfmapeaa.Fig
open Go.RowKit

/-- The digit of m at place j, as a byte. -/
def dig (m j : Nat) : UInt8 := UInt8.ofNat (48 + m / 10 ^ j % 10)
/-- The lowest j digits of m, the highest of them first. -/
def low (m : Nat) : Nat → List UInt8
  | 0 => []
  | j + 1 => dig m j :: low m j
/-- How many digits m has. -/
def widF : Nat → Nat → Nat
  | 0, _ => 1
  | f + 1, m => if m < 10 then 1 else widF f (m / 10) + 1
def wid (m : Nat) : Nat := widF 20 m
/-- A number's text. -/
def txt (n : Int) : List UInt8 := (if n < 0 then [45] else []) ++ low n.natAbs (wid n.natAbs)

theorem widF_pos (f m : Nat) : 1 ≤ widF f m := by
  cases f with
  | zero => exact Nat.le_refl _
  | succ f => unfold widF; split <;> omega
theorem widF_lt : ∀ (f m : Nat), m < 10 ^ (f + 1) → m < 10 ^ widF f m
  | 0, m, h => by simpa [widF] using h
  | f + 1, m, h => by
    unfold widF
    split
    · simpa using ‹m < 10›
    · have ih := widF_lt f (m / 10) (by rw [Nat.pow_succ] at h; omega)
      rw [Nat.pow_succ]; omega
theorem widF_ge : ∀ (f m : Nat), widF f m = 1 ∨ 10 ^ (widF f m - 1) ≤ m
  | 0, m => .inl rfl
  | f + 1, m => by
    unfold widF
    split
    · exact .inl rfl
    · refine .inr ?_
      have hp := widF_pos f (m / 10)
      rw [Nat.add_sub_cancel]
      rcases widF_ge f (m / 10) with h | h
      · rw [h]; omega
      · obtain ⟨k, hk⟩ : ∃ k, widF f (m / 10) = k + 1 := ⟨_, (Nat.succ_pred_eq_of_pos hp).symm⟩
        rw [hk] at h ⊢
        rw [Nat.add_sub_cancel] at h
        rw [Nat.pow_succ]; omega
theorem wid_pos (m : Nat) : 1 ≤ wid m := widF_pos _ _
theorem wid_lt {m : Nat} (h : m < 18446744073709551616) : m < 10 ^ wid m := widF_lt 20 m (by
  have : (18446744073709551616 : Nat) ≤ 10 ^ (20 + 1) := by decide +kernel
  omega)
theorem wid_ge (m : Nat) : wid m = 1 ∨ 10 ^ (wid m - 1) ≤ m := widF_ge _ _
theorem pow_lt {a b : Nat} (h : 10 ^ a < 10 ^ b) : a < b := by
  rcases Nat.lt_or_ge a b with h' | h'
  · exact h'
  · have := Nat.pow_le_pow_right (show 10 > 0 by decide) h'; omega
theorem wid_unique {m k : Nat} (hm : m < 18446744073709551616) (h1 : k = 0 ∨ 10 ^ k ≤ m) (h2 : m < 10 ^ (k + 1)) : wid m = k + 1 := by
  have a := wid_lt hm
  have b := wid_ge m
  have p := wid_pos m
  have c : k < wid m := by
    rcases h1 with h | h
    · omega
    · exact pow_lt (Nat.lt_of_le_of_lt h a)
  rcases b with h | h
  · omega
  · have d : wid m - 1 < k + 1 := pow_lt (Nat.lt_of_le_of_lt h h2)
    omega
theorem low_length (m j : Nat) : (low m j).length = j := by
  induction j with
  | zero => rfl
  | succ j ih => simp [low, ih]
theorem wid_le (m : Nat) (h : m < 18446744073709551616) : wid m ≤ 20 := by
  rcases wid_ge m with h' | h'
  · omega
  · have : wid m - 1 < 20 := pow_lt (Nat.lt_of_le_of_lt h' (Nat.lt_of_lt_of_le h (by decide +kernel)))
    omega
theorem dig_toNat (m j : Nat) : (dig m j).toNat = 48 + m / 10 ^ j % 10 := by
  unfold dig
  have : m / 10 ^ j % 10 < 10 := Nat.mod_lt _ (by decide)
  simp; omega
theorem dig_bd (m j : Nat) : 48 ≤ (dig m j).toNat ∧ (dig m j).toNat ≤ 57 := by
  rw [dig_toNat]; have : m / 10 ^ j % 10 < 10 := Nat.mod_lt _ (by decide); omega
theorem div_pow_succ (m j : Nat) : m / 10 ^ (j + 1) = m / 10 ^ j / 10 := by rw [Nat.pow_succ, Nat.div_div_eq_div_mul]
theorem unit_div (j : Nat) : 10 ^ (j + 1) / 10 = 10 ^ j := by rw [Nat.pow_succ, Nat.mul_div_cancel _ (by decide)]
theorem pow_pos' (j : Nat) : 1 ≤ 10 ^ j := Nat.pow_pos (by decide)
theorem txt_length (n : Int) (h : n.natAbs < 18446744073709551616) : (txt n).length ≤ 21 := by
  unfold txt
  rw [List.length_append, low_length]
  have := wid_le _ h
  split <;> simp <;> omega
theorem txt_pos (n : Int) : 0 < (txt n).length := by
  unfold txt
  rw [List.length_append, low_length]
  have := wid_pos n.natAbs
  omega
end Go.Proofs.Ytogdnjanfmapeaa.Fig
