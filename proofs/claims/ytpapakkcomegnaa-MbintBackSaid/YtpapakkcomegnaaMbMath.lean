/-
Plain functions on bytes: what layer 2's calls answer. No program in it, no conditions.
-/
import Derived.WalkKit
import Derived.Lib.Hide
namespace Go.Proofs.Ytpapakkcomegnaa.Mb
open Go.RowKit

/-- The byte of m at place j, counted from its end: with its mark, but the last one. -/
def sev (m : Nat) : Nat → UInt8
  | 0 => UInt8.ofNat (m % 128)
  | j + 1 => UInt8.ofNat (128 + m / 128 ^ (j + 1) % 128)
/-- The last j + 1 bytes of m. -/
def low7 (m : Nat) : Nat → List UInt8
  | 0 => [sev m 0]
  | j + 1 => sev m (j + 1) :: low7 m j
/-- How many bytes m has, less one. -/
def wid7 (m : Nat) : Nat := if m < 128 then 0 else if m < 16384 then 1 else if m < 2097152 then 2 else if m < 268435456 then 3 else 4
/-- A number's bytes. -/
def mb (m : Nat) : List UInt8 := low7 m (wid7 m)

theorem low7_length (m j : Nat) : (low7 m j).length = j + 1 := by
  induction j with
  | zero => rfl
  | succ j ih => simp [low7, ih]
theorem wid7_le (m : Nat) : wid7 m ≤ 4 := by unfold wid7; repeat' split
                                             all_goals omega
theorem mb_length (m : Nat) : (mb m).length = wid7 m + 1 := low7_length _ _
theorem mb_pos (m : Nat) : 0 < (mb m).length := by rw [mb_length]; omega
theorem sev0_toNat (m : Nat) : (sev m 0).toNat = m % 128 := by
  have : m % 128 < 128 := Nat.mod_lt _ (by decide)
  simp [sev]; omega
theorem sev_toNat (m j : Nat) : (sev m (j + 1)).toNat = 128 + m / 128 ^ (j + 1) % 128 := by
  have : m / 128 ^ (j + 1) % 128 < 128 := Nat.mod_lt _ (by decide)
  unfold sev; simp; omega
theorem pow7 : (128 : Nat) ^ 1 = 128 ∧ (128 : Nat) ^ 2 = 16384 ∧ (128 : Nat) ^ 3 = 2097152 ∧ (128 : Nat) ^ 4 = 268435456 ∧ (128 : Nat) ^ 5 = 34359738368 := by decide
/-- Where the bytes end. -/
theorem wid7_of {m j : Nat} (hm : m < 4294967296) (h1 : j = 0 ∨ 128 ^ j ≤ m) (h2 : m < 128 ^ (j + 1)) : wid7 m = j := by
  obtain ⟨p1, p2, p3, p4, p5⟩ := pow7
  match j, h1, h2 with
  | 0, h1, h2 => unfold wid7; rw [if_pos (by simpa using h2)]
  | 1, h1, h2 => unfold wid7; rw [if_neg (by omega), if_pos (by omega)]
  | 2, h1, h2 => unfold wid7; rw [if_neg (by omega), if_neg (by omega), if_pos (by omega)]
  | 3, h1, h2 => unfold wid7; rw [if_neg (by omega), if_neg (by omega), if_neg (by omega), if_pos (by omega)]
  | 4, h1, h2 => unfold wid7; rw [if_neg (by omega), if_neg (by omega), if_neg (by omega), if_neg (by omega)]
  | j + 5, h1, h2 =>
    have h3 : (128 : Nat) ^ 5 ≤ 128 ^ (j + 5) := Nat.pow_le_pow_right (by decide) (by omega)
    omega
theorem pow7_pos (j : Nat) : 0 < 128 ^ j := Nat.pow_pos (by decide)
/-- The relation of the loops: a is what is left of m behind j bytes. -/
theorem left_succ {m j a : Nat} (h : a = m / 128 ^ j) : a / 128 = m / 128 ^ (j + 1) := by rw [h, Nat.pow_succ, Nat.div_div_eq_div_mul]
theorem pow_le_of {m j a : Nat} (h : a = m / 128 ^ j) (h0 : 0 < a) : 128 ^ j ≤ m := by
  subst h
  have := (Nat.le_div_iff_mul_le (pow7_pos j)).1 h0
  omega
theorem lt_pow_of {m j a : Nat} (h : a = m / 128 ^ j) (h0 : a = 0) : m < 128 ^ j := by
  subst h
  exact (Nat.div_eq_zero_iff_lt (pow7_pos j)).1 h0
theorem five_of {m j : Nat} (hm : m < 4294967296) (h : 128 ^ j ≤ m) : j ≤ 4 := by
  rcases Nat.lt_or_ge j 5 with h5 | h5
  · omega
  · have h3 : (128 : Nat) ^ 5 ≤ 128 ^ j := Nat.pow_le_pow_right (by decide) h5
    have := pow7.2.2.2.2
    omega

/-- A number's bytes, read on: m is what was read, k bytes were taken. -/
def nsteps (m k : Nat) : List UInt8 → Nat × Nat × Nat
  | [] => (0, 0, 1)
  | c :: r => if 33554432 ≤ m then (0, 0, 2) else if c.toNat < 128 then (128 * m + c.toNat, k + 1, 0) else nsteps (128 * m + (c.toNat - 128)) (k + 1) r
/-- The number at a text's beginning, how many bytes it has, what is wrong. -/
def numOf (l : List UInt8) : Nat × Nat × Nat := if l.head? = some 128 then (0, 0, 3) else nsteps 0 0 l
/-- The byte at a text's beginning. -/
def bytOf : List UInt8 → Nat × Nat × Nat
  | [] => (0, 0, 1)
  | c :: _ => (c.toNat, 1, 0)
/-- n bytes at a text's beginning. -/
def takOf (n : Int) (l : List UInt8) : List UInt8 × Nat × Nat := if n < 0 then ([], 0, 2) else if (l.length : Int) < n then ([], 0, 1) else (l.take n.toNat, n.toNat, 0)
/-- The text at a text's beginning, up to a nought. -/
def txtOf (l : List UInt8) : List UInt8 × Nat × Nat := if l.idxOf 0 < l.length then (l.take (l.idxOf 0), l.idxOf 0 + 1, 0) else ([], 0, 1)

theorem nsteps_short (m k : Nat) {l : List UInt8} {j : Nat} (h : l.length ≤ j) : nsteps m k (l.drop j) = (0, 0, 1) := by rw [List.drop_of_length_le h]; rfl
theorem nsteps_range {m k : Nat} {l : List UInt8} {j : Nat} (h : j < l.length) (hm : 33554432 ≤ m) : nsteps m k (l.drop j) = (0, 0, 2) := by
  rw [List.drop_eq_getElem_cons h, nsteps, if_pos hm]
theorem nsteps_last {m k : Nat} {l : List UInt8} {j : Nat} (h : j < l.length) (hm : m < 33554432) (hc : l[j].toNat < 128) : nsteps m k (l.drop j) = (128 * m + l[j].toNat, k + 1, 0) := by
  rw [List.drop_eq_getElem_cons h, nsteps, if_neg (by omega), if_pos hc]
theorem nsteps_next {m k : Nat} {l : List UInt8} {j : Nat} (h : j < l.length) (hm : m < 33554432) (hc : 128 ≤ l[j].toNat) : nsteps m k (l.drop j) = nsteps (128 * m + (l[j].toNat - 128)) (k + 1) (l.drop (j + 1)) := by
  rw [List.drop_eq_getElem_cons h, nsteps, if_neg (by omega), if_neg (by omega)]

theorem nsteps_le : ∀ (l : List UInt8) (m k : Nat), (nsteps m k l).2.1 ≤ k + l.length ∧ (nsteps m k l).1 < 4294967296 ∧ (nsteps m k l).2.2 ≤ 3
  | [], m, k => ⟨Nat.zero_le _, (by decide : 0 < 4294967296), (by decide : 1 ≤ 3)⟩
  | c :: r, m, k => by
    unfold nsteps
    split
    · exact ⟨Nat.zero_le _, (by decide : 0 < 4294967296), (by decide : 2 ≤ 3)⟩
    · split
      · refine ⟨by simp, ?_, (by decide : 0 ≤ 3)⟩
        show 128 * m + c.toNat < 4294967296
        omega
      · have := nsteps_le r (128 * m + (c.toNat - 128)) (k + 1)
        simp only [List.length_cons]
        omega
theorem numOf_le (l : List UInt8) : (numOf l).2.1 ≤ l.length ∧ (numOf l).1 < 4294967296 ∧ (numOf l).2.2 ≤ 3 := by
  unfold numOf
  split
  · exact ⟨Nat.zero_le _, (by decide : 0 < 4294967296), (by decide : 3 ≤ 3)⟩
  · have := nsteps_le l 0 0
    omega
theorem takOf_le (n : Int) (l : List UInt8) : (takOf n l).2.1 ≤ l.length := by
  unfold takOf
  split
  · exact Nat.zero_le _
  · split
    · exact Nat.zero_le _
    · simp only; omega
theorem txtOf_le (l : List UInt8) : (txtOf l).2.1 ≤ l.length := by
  unfold txtOf
  split
  · simp only; omega
  · exact Nat.zero_le _
theorem bytOf_le (l : List UInt8) : (bytOf l).2.1 ≤ l.length := by
  unfold bytOf
  split
  · exact Nat.zero_le _
  · simp

/-- What a read answers: v of k bytes, or e' is wrong; e was wrong before, i bytes were taken. -/
def ansV {α : Type} (e : Int) (v0 : α) (r : α × Nat × Nat) : α := if e = 0 ∧ r.2.2 = 0 then r.1 else v0
def ansI {α : Type} (e : Int) (i : Nat) (r : α × Nat × Nat) : Nat := if e = 0 ∧ r.2.2 = 0 then i + r.2.1 else i
def ansE {α : Type} (e : Int) (r : α × Nat × Nat) : Int := if e = 0 then (r.2.2 : Int) else e
theorem ansV_ok {α : Type} {v0 : α} {r : α × Nat × Nat} (h : r.2.2 = 0) : ansV 0 v0 r = r.1 := by simp [ansV, h]
theorem ansI_ok {α : Type} {i : Nat} {r : α × Nat × Nat} (h : r.2.2 = 0) : ansI 0 i r = i + r.2.1 := by simp [ansI, h]
theorem ansV_bad {α : Type} {e : Int} {v0 : α} {r : α × Nat × Nat} (h : r.2.2 ≠ 0) : ansV e v0 r = v0 := by simp [ansV, h]
theorem ansI_bad {α : Type} {e : Int} {i : Nat} {r : α × Nat × Nat} (h : r.2.2 ≠ 0) : ansI e i r = i := by simp [ansI, h]
theorem ansE_zero {α : Type} {r : α × Nat × Nat} : ansE 0 r = (r.2.2 : Int) := by simp [ansE]
theorem ansV_was {α : Type} {e : Int} {v0 : α} {r : α × Nat × Nat} (h : e ≠ 0) : ansV e v0 r = v0 := by simp [ansV, h]
theorem ansI_was {α : Type} {e : Int} {i : Nat} {r : α × Nat × Nat} (h : e ≠ 0) : ansI e i r = i := by simp [ansI, h]
theorem ansE_was {α : Type} {e : Int} {r : α × Nat × Nat} (h : e ≠ 0) : ansE e r = e := by simp [ansE, h]
theorem ansI_le {α : Type} {e : Int} {i n : Nat} {r : α × Nat × Nat} (h : i ≤ n) (hr : r.2.1 ≤ n - i) : ansI e i r ≤ n := by
  unfold ansI; split <;> omega

/-- Texts. -/
theorem len_data (s : ByteArray) : s.data.toList.length = s.size := by simp
theorem get_data (s : ByteArray) (k : Nat) (h : k < s.size) : s.data.toList[k]'(by rw [len_data]; exact h) = s[k] := rfl
theorem isEmpty_true {s : ByteArray} (h : s.size = 0) : s.toList.isEmpty = true := by
  rw [ByteArray.toList_eq, List.isEmpty_iff]; exact List.eq_nil_of_length_eq_zero (by rw [len_data, h])
theorem isEmpty_false {s : ByteArray} (h : 0 < s.size) : s.toList.isEmpty = false := by
  rw [ByteArray.toList_eq]
  cases e : s.data.toList with
  | nil => have := len_data s; rw [e] at this; simp at this; omega
  | cons _ _ => rfl
theorem ext_data (s : ByteArray) (i j : Nat) : (s.extract i j).data.toList = (s.data.toList.drop i).take (j - i) := by
  rw [ByteArray.data_extract]; simp [Array.toList_extract, List.extract_eq_take_drop]
theorem rest_data (s : ByteArray) (i : Nat) : (s.extract i s.size).data.toList = s.data.toList.drop i := by
  rw [ext_data, List.take_of_length_le (by simp)]
theorem str_of {a b : ByteArray} (h : a.data.toList = b.data.toList) : a = b := by
  cases a; cases b; simpa using h
theorem str_mk (a : ByteArray) : (⟨a.data.toList.toArray⟩ : ByteArray) = a := by simp
end Go.Proofs.Ytpapakkcomegnaa.Mb
