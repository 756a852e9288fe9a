/-
Plain functions on bytes: what digits say. No program in it, no conditions.
-/
import Derived.WalkKit
import Derived.Lib.Hide
import Derived.Laws.BitsAllLaws
namespace Go.Proofs.YtccjagjbldofaaaDoor.Fig
open Go.RowKit

/-- What a digit counts; -1: it is none. -/
def hvI (x : Int) : Int := if 48 ≤ x ∧ x ≤ 57 then x - 48 else if 65 ≤ x ∧ x ≤ 70 then x - 55 else -1
theorem hvI_dec {x : Int} (h : 48 ≤ x ∧ x ≤ 57) : hvI x = x - 48 := by unfold hvI; rw [if_pos h]
theorem hvI_alpha {x : Int} (h : 65 ≤ x ∧ x ≤ 70) : hvI x = x - 55 := by unfold hvI; rw [if_neg (by omega), if_pos h]
theorem hvI_no {x : Int} (h : ¬ (48 ≤ x ∧ x ≤ 57)) (h' : ¬ (65 ≤ x ∧ x ≤ 70)) : hvI x = -1 := by unfold hvI; rw [if_neg h, if_neg h']
theorem hvI_bd (x : Int) : -1 ≤ hvI x ∧ hvI x ≤ 15 := by
  by_cases h : 48 ≤ x ∧ x ≤ 57
  · rw [hvI_dec h]; omega
  · by_cases h' : 65 ≤ x ∧ x ≤ 70
    · rw [hvI_alpha h']; omega
    · rw [hvI_no h h']; omega
def hv (c : UInt8) : Int := hvI (c.toNat : Int)
theorem hv_bd (c : UInt8) : -1 ≤ hv c ∧ hv c ≤ 15 := hvI_bd _

/-- The bytes that pairs of digits say. -/
def pairs : List UInt8 → List UInt8
  | a :: b :: r => UInt8.ofNat (16 * hv a + hv b).toNat :: pairs r
  | _ => []
/-- A text of digits as bytes, with its error. -/
def unhex (l : List UInt8) : List UInt8 × Nat :=
  if l.any (fun c => decide (hv c < 0)) then ([], 3) else if l.length % 2 = 1 then ([], 1) else (pairs l, 0)

theorem unhex_field {l : List UInt8} {k : Nat} (h : k < l.length) (hc : hv l[k] < 0) : unhex l = ([], 3) := by
  unfold unhex; rw [if_pos]
  rw [List.any_eq_true]; exact ⟨l[k], List.getElem_mem h, by simpa using hc⟩
theorem any_false {l : List UInt8} (h : ∀ i (hi : i < l.length), 0 ≤ hv l[i]) : l.any (fun c => decide (hv c < 0)) = false := by
  rw [List.any_eq_false]
  intro c hc
  obtain ⟨i, hi, rfl⟩ := List.mem_iff_getElem.1 hc
  have := h i hi
  simp; omega
theorem unhex_short {l : List UInt8} (h : ∀ i (hi : i < l.length), 0 ≤ hv l[i]) (ho : l.length % 2 = 1) : unhex l = ([], 1) := by
  unfold unhex; rw [any_false h, if_neg (by decide), if_pos ho]
theorem unhex_ok {l : List UInt8} (h : ∀ i (hi : i < l.length), 0 ≤ hv l[i]) (ho : l.length % 2 = 0) : unhex l = (pairs l, 0) := by
  unfold unhex; rw [any_false h, if_neg (by decide), if_neg (by omega)]

theorem pairs_even : ∀ (l : List UInt8) (a b : UInt8), l.length % 2 = 0 → pairs (l ++ [a, b]) = pairs l ++ [UInt8.ofNat (16 * hv a + hv b).toNat]
  | [], a, b, _ => rfl
  | [x], a, b, h => by simp at h
  | x :: y :: r, a, b, h => by
    have ih := pairs_even r a b (by simp at h; omega)
    show _ :: pairs (r ++ [a, b]) = _
    rw [ih]; rfl
theorem pairs_odd : ∀ (l : List UInt8) (a : UInt8), l.length % 2 = 0 → pairs (l ++ [a]) = pairs l
  | [], a, _ => rfl
  | [x], a, h => by simp at h
  | x :: y :: r, a, h => by
    have ih := pairs_odd r a (by simp at h; omega)
    show _ :: pairs (r ++ [a]) = _
    rw [ih]; rfl
theorem pairs_length : ∀ (l : List UInt8), (pairs l).length = l.length / 2
  | [] => rfl
  | [_] => by simp [pairs]
  | _ :: _ :: r => by
    have ih := pairs_length r
    simp [pairs, ih]; omega
theorem byte_of {x : Int} (h : 0 ≤ x ∧ x < 256) : ((UInt8.ofNat x.toNat).toNat : Int) = x := by
  simp; omega

theorem tk_snoc (s : ByteArray) (k : Nat) (h : k < s.size) : s.data.toList.take (k + 1) = s.data.toList.take k ++ [s[k]] := by
  rw [List.take_succ_eq_append_getElem (by simpa using h)]; rfl
theorem tk_len (s : ByteArray) (k : Nat) (h : k ≤ s.size) : (s.data.toList.take k).length = k := by
  rw [List.length_take]; simp; omega
theorem tk_pairs_odd (s : ByteArray) (k : Nat) (h : k < s.size) (he : k % 2 = 0) : pairs (s.data.toList.take (k + 1)) = pairs (s.data.toList.take k) := by
  rw [tk_snoc s k h, pairs_odd _ _ (by rw [tk_len s k (by omega)]; exact he)]
theorem tk_pairs_even (s : ByteArray) (k : Nat) (h : k + 1 < s.size) (he : k % 2 = 0) :
    pairs (s.data.toList.take (k + 2)) = pairs (s.data.toList.take k) ++ [UInt8.ofNat (16 * hv s[k] + hv s[k + 1]).toNat] := by
  rw [tk_snoc s (k + 1) h, tk_snoc s k (by omega), List.append_assoc]
  exact pairs_even _ _ _ (by rw [tk_len s k (by omega)]; exact he)

theorem or16 (a b : Int) (h0 : 0 ≤ a) (h1 : a < 16) (h2 : 0 ≤ b) (h3 : b < 16) : bits .or .u8 (a * 16) b = 16 * a + b := by
  obtain ⟨A, rfl⟩ := Int.eq_ofNat_of_zero_le h0
  obtain ⟨B, rfl⟩ := Int.eq_ofNat_of_zero_le h2
  have h := u8_or_nat (A * 16) B (by omega) (by omega)
  rw [show (((A * 16 : Nat)) : Int) = (A : Int) * 16 by omega] at h
  rw [h, Nat.mul_comm A 16, ← Nat.two_pow_add_eq_or_of_lt (i := 4) (by omega)]
  omega
theorem hvAll_data {s : ByteArray} (h : ∀ i (hi : i < s.size), 0 ≤ hv s[i]) : ∀ i (hi : i < s.data.toList.length), 0 ≤ hv s.data.toList[i] := fun i hi => h i (by simpa using hi)
theorem ux_field {s : ByteArray} {k : Nat} (h : k < s.size) (hc : hv s[k] < 0) : unhex s.data.toList = ([], 3) := unhex_field (k := k) (by simpa using h) hc
theorem ux_short {s : ByteArray} (h : ∀ i (hi : i < s.size), 0 ≤ hv s[i]) (ho : s.size % 2 = 1) : unhex s.data.toList = ([], 1) := unhex_short (hvAll_data h) (by simpa using ho)
theorem ux_ok {s : ByteArray} (h : ∀ i (hi : i < s.size), 0 ≤ hv s[i]) (ho : s.size % 2 = 0) : unhex s.data.toList = (pairs s.data.toList, 0) := unhex_ok (hvAll_data h) (by simpa using ho)
theorem retS {a : List UInt8} {b : Nat} {p : List UInt8 × Nat} (h : p = (a, b)) : Ending.returned (.tuple #[.string ⟨a.toArray⟩, .int .i64 (b : Int)]) = Ending.returned (.tuple #[.string ⟨p.1.toArray⟩, .int .i64 (p.2 : Int)]) := by rw [h]
end Go.Proofs.YtccjagjbldofaaaDoor.Fig
