/-
Plain functions on bytes: what figure's calls answer. No program in it, no conditions.
-/
import Derived.WalkKit
namespace Go.Proofs.Ytogdnjanfmapeaa.Fig

/-- The rest of a count's digits, behind the number m. -/
def steps (m : Nat) : List UInt8 → Nat × Nat
  | [] => (m, 0)
  | c :: r => if c.toNat < 48 ∨ 57 < c.toNat then (0, 3) else if 268435456 < 10 * m + (c.toNat - 48) then (0, 2) else steps (10 * m + (c.toNat - 48)) r

/-- A text as a count, with its error. -/
def count (l : List UInt8) : Nat × Nat :=
  if l = [] then (0, 1) else if l.head? = some 48 ∧ 1 < l.length then (0, 3) else steps 0 l

theorem count_nil {l : List UInt8} (h : l = []) : count l = (0, 1) := by simp [count, h]
theorem count_nought {l : List UInt8} (h : l ≠ []) (h0 : l.head? = some 48) (h1 : 1 < l.length) : count l = (0, 3) := by simp [count, h, h0, h1]
theorem count_else {l : List UInt8} (h : l ≠ []) (h0 : ¬ (l.head? = some 48 ∧ 1 < l.length)) : count l = steps 0 l := by
  unfold count; rw [if_neg h, if_neg h0]

theorem steps_end {m : Nat} {l : List UInt8} {k : Nat} (h : l.length ≤ k) : steps m (l.drop k) = (m, 0) := by
  rw [List.drop_of_length_le h]; rfl
theorem steps_field {m : Nat} {l : List UInt8} {k : Nat} (h : k < l.length) (hc : l[k].toNat < 48 ∨ 57 < l[k].toNat) : steps m (l.drop k) = (0, 3) := by
  rw [List.drop_eq_getElem_cons h, steps, if_pos hc]
theorem steps_range {m : Nat} {l : List UInt8} {k : Nat} (h : k < l.length) (hc : 48 ≤ l[k].toNat ∧ l[k].toNat ≤ 57) (hm : 268435456 < 10 * m + (l[k].toNat - 48)) : steps m (l.drop k) = (0, 2) := by
  rw [List.drop_eq_getElem_cons h, steps, if_neg (by omega), if_pos hm]
theorem steps_next {m : Nat} {l : List UInt8} {k : Nat} (h : k < l.length) (hc : 48 ≤ l[k].toNat ∧ l[k].toNat ≤ 57) (hm : 10 * m + (l[k].toNat - 48) ≤ 268435456) :
    steps m (l.drop k) = steps (10 * m + (l[k].toNat - 48)) (l.drop (k + 1)) := by
  rw [List.drop_eq_getElem_cons h, steps, if_neg (by omega), if_neg (by omega)]

open Go.RowKit

theorem len_data (s : ByteArray) : s.data.toList.length = s.size := by simp
theorem isEmpty_true {s : ByteArray} (h : s.size = 0) : s.toList.isEmpty = true := by
  rw [ByteArray.toList_eq, List.isEmpty_iff]; exact List.eq_nil_of_length_eq_zero (by rw [len_data, h])
theorem isEmpty_false {s : ByteArray} (h : 0 < s.size) : s.toList.isEmpty = false := by
  rw [ByteArray.toList_eq]
  cases e : s.data.toList with
  | nil => have := len_data s; rw [e] at this; simp at this; omega
  | cons _ _ => rfl
theorem get_data (s : ByteArray) (k : Nat) (h : k < s.size) : s.data.toList[k]'(by rw [len_data]; exact h) = s[k] := rfl
theorem head_data {s : ByteArray} (h : 0 < s.size) : s.data.toList.head? = some s[0] := by
  rw [List.head?_eq_getElem?, List.getElem?_eq_getElem (by rw [len_data]; exact h)]; rfl
theorem ne_nil {s : ByteArray} (h : 0 < s.size) : s.data.toList ≠ [] := by
  intro e; have := len_data s; rw [e] at this; simp at this; omega

theorem rd_zero {s : ByteArray} (h : s.size = 0) : count s.data.toList = (0, 1) := count_nil (List.eq_nil_of_length_eq_zero (by rw [len_data, h]))
theorem rd_nought {s : ByteArray} (h0 : 0 < s.size) (h4 : (s[0].toNat : Int) = 48) (h3 : 1 < s.size) : count s.data.toList = (0, 3) :=
  count_nought (ne_nil h0) (by rw [head_data h0]; congr 1; apply UInt8.toNat_inj.1; show _ = 48; omega) (by rw [len_data]; omega)
theorem rd_start {s : ByteArray} (h0 : 0 < s.size) (h1 : ¬ ((s[0].toNat : Int) = 48 ∧ 1 < s.size)) : count s.data.toList = steps 0 (s.data.toList.drop 0) := by
  rw [count_else (ne_nil h0), List.drop_zero]
  rw [head_data h0, len_data]
  intro h
  apply h1
  refine ⟨?_, h.2⟩
  have := Option.some.inj h.1
  rw [this]; rfl
theorem rd_end {s : ByteArray} {m k : Nat} (HS : Hid (count s.data.toList = steps m (s.data.toList.drop k))) (h : ¬ k < s.size) : count s.data.toList = (m, 0) := by
  rw [HS.out]; exact steps_end (by rw [len_data]; omega)
theorem rd_field {s : ByteArray} {m k : Nat} (HS : Hid (count s.data.toList = steps m (s.data.toList.drop k))) (hk : k < s.size) (h : (s[k].toNat : Int) < 48 ∨ 57 < (s[k].toNat : Int)) :
    count s.data.toList = (0, 3) := by
  rw [HS.out]; exact steps_field (by rw [len_data]; exact hk) (by rw [get_data s k hk]; omega)
theorem rd_range {s : ByteArray} {m k : Nat} (HS : Hid (count s.data.toList = steps m (s.data.toList.drop k))) (hk : k < s.size) (h1 : 48 ≤ (s[k].toNat : Int)) (h2 : (s[k].toNat : Int) ≤ 57)
    (hm : 268435456 < 10 * (m : Int) + ((s[k].toNat : Int) - 48)) : count s.data.toList = (0, 2) := by
  rw [HS.out]; exact steps_range (by rw [len_data]; exact hk) (by rw [get_data s k hk]; omega) (by rw [get_data s k hk]; omega)
theorem rd_next {s : ByteArray} {m k : Nat} (HS : Hid (count s.data.toList = steps m (s.data.toList.drop k))) (hk : k < s.size) (h1 : 48 ≤ (s[k].toNat : Int)) (h2 : (s[k].toNat : Int) ≤ 57)
    (hm : 10 * (m : Int) + ((s[k].toNat : Int) - 48) ≤ 268435456) : Hid (count s.data.toList = steps (10 * m + (s[k].toNat - 48)) (s.data.toList.drop (k + 1))) := by
  show _ = _
  rw [HS.out]; exact steps_next (by rw [len_data]; exact hk) (by rw [get_data s k hk]; omega) (by rw [get_data s k hk]; omega)
theorem steps_le : ∀ (l : List UInt8) (m : Nat), m ≤ 268435456 → (steps m l).1 ≤ 268435456
  | [], m, h => h
  | c :: r, m, h => by
    unfold steps
    split
    · exact Nat.zero_le _
    · split
      · exact Nat.zero_le _
      · exact steps_le r _ (by omega)
theorem count_le (l : List UInt8) : (count l).1 ≤ 268435456 := by
  unfold count
  split
  · exact Nat.zero_le _
  · split
    · exact Nat.zero_le _
    · exact steps_le _ _ (Nat.zero_le _)
theorem steps_err : ∀ (l : List UInt8) (m : Nat), (steps m l).2 ≤ 3
  | [], m => Nat.zero_le _
  | c :: r, m => by
    unfold steps
    split
    · exact Nat.le_refl _
    · split
      · exact (by decide : (2 : Nat) ≤ 3)
      · exact steps_err r _
theorem count_err (l : List UInt8) : (count l).2 ≤ 3 := by
  unfold count
  split
  · exact (by decide : (1 : Nat) ≤ 3)
  · split
    · exact Nat.le_refl _
    · exact steps_err _ _
theorem ret2 {a b : Nat} {p : Nat × Nat} (h : p = (a, b)) : Ending.returned (.tuple #[.int .i64 (a : Int), .int .i64 (b : Int)]) = Ending.returned (.tuple #[.int .i64 (p.1 : Int), .int .i64 (p.2 : Int)]) := by rw [h]
end Go.Proofs.Ytogdnjanfmapeaa.Fig
