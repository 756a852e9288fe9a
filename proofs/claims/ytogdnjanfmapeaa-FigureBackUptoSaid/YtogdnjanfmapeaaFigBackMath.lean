/-
Plain facts: a number's digits are a count just if it is one; bytes in digits come back. No program in it, no conditions.
-/
import Derived.Test.YtogdnjanfmapeaaFigMath
import Derived.Test.YtogdnjanfmapeaaFigTextMath
import Derived.Test.YtogdnjanfmapeaaFigHexMath
import Derived.Test.YtogdnjanfmapeaaFigUnhexMath
namespace Go.Proofs.Ytogdnjanfmapeaa.Fig
open Go.RowKit

theorem steps_low (m : Nat) : ∀ j, m / 10 ^ j ≤ 268435456 → steps (m / 10 ^ j) (low m j) = if m ≤ 268435456 then (m, 0) else (0, 2)
  | 0, h => by
    simp at h
    rw [if_pos h]; simp [low, steps]
  | j + 1, h => by
    have hb := dig_bd m j
    have hd := dig_toNat m j
    have hs := div_pow_succ m j
    have hstep : 10 * (m / 10 ^ (j + 1)) + ((dig m j).toNat - 48) = m / 10 ^ j := by
      rw [hd, hs]; omega
    show steps _ (dig m j :: low m j) = _
    rw [steps, if_neg (by omega)]
    rw [hstep]
    by_cases hk : m / 10 ^ j ≤ 268435456
    · rw [if_neg (by omega)]
      exact steps_low m j hk
    · rw [if_pos (by omega), if_neg]
      have : m / 10 ^ j ≤ m := Nat.div_le_self _ _
      omega

theorem head_low (m : Nat) (hm : m < 18446744073709551616) : ¬ ((low m (wid m)).head? = some 48 ∧ 1 < (low m (wid m)).length) := by
  rintro ⟨h1, h2⟩
  rw [low_length] at h2
  obtain ⟨k, hk⟩ : ∃ k, wid m = k + 1 := ⟨wid m - 1, by omega⟩
  rw [hk] at h1
  have h3 : dig m k = 48 := by simpa [low] using h1
  have h4 := dig_toNat m k
  rw [h3] at h4
  have h5 : (48 : UInt8).toNat = 48 := rfl
  have hlt := wid_lt hm
  have hge := wid_ge m
  rw [hk] at hlt hge
  rw [Nat.add_sub_cancel] at hge
  have hge' : 10 ^ k ≤ m := by rcases hge with h | h; · omega
                               · exact h
  have hq : 1 ≤ m / 10 ^ k := (Nat.le_div_iff_mul_le (pow_pos' k)).2 (by omega)
  have hq2 : m / 10 ^ k < 10 := (Nat.div_lt_iff_lt_mul (pow_pos' k)).2 (by rw [Nat.mul_comm, ← Nat.pow_succ]; exact hlt)
  omega

theorem count_low (m : Nat) (hm : m < 18446744073709551616) : count (low m (wid m)) = if m ≤ 268435456 then (m, 0) else (0, 2) := by
  have hne : low m (wid m) ≠ [] := by
    intro h; have := low_length m (wid m); rw [h] at this; have := wid_pos m; simp at *; omega
  rw [count_else hne (head_low m hm)]
  have h0 : m / 10 ^ wid m = 0 := Nat.div_eq_of_lt (wid_lt hm)
  have := steps_low m (wid m) (by omega)
  rwa [h0] at this
theorem count_txt_ok (n : Int) (h0 : 0 ≤ n) (h1 : n ≤ 268435456) : count (txt n) = (n.toNat, 0) := by
  unfold txt
  rw [if_neg (by omega), List.nil_append, count_low _ (by omega), if_pos (by omega)]
  congr 1; omega
theorem count_txt_big (n : Int) (h0 : 268435456 < n) (h1 : n ≤ 9223372036854775807) : count (txt n) = (0, 2) := by
  unfold txt
  rw [if_neg (by omega), List.nil_append, count_low _ (by omega), if_neg (by omega)]
theorem count_txt_neg (n : Int) (h0 : n < 0) : count (txt n) = (0, 3) := by
  unfold txt
  rw [if_pos h0]
  show count (45 :: low _ _) = _
  rw [count_else (by simp) (by simp), steps, if_pos (by decide)]

theorem hv_hexd {k : Nat} (h : k < 16) : hv (hexd k) = k := by
  unfold hv
  rw [hexd_toNat k h]
  by_cases h' : k < 10
  · rw [if_pos h', hvI_dec (by omega)]; omega
  · rw [if_neg h', hvI_alpha (by omega)]; omega
theorem any_hexOf : ∀ l : List UInt8, (hexOf l).any (fun c => decide (hv c < 0)) = false
  | [] => rfl
  | c :: r => by
    have hc : c.toNat < 256 := c.toNat_lt
    have ih := any_hexOf r
    show (hexd (c.toNat / 16) :: hexd (c.toNat % 16) :: hexOf r).any _ = false
    rw [List.any_cons, List.any_cons, ih, hv_hexd (by omega), hv_hexd (by omega)]
    simp; omega
theorem pairs_hexOf : ∀ l : List UInt8, pairs (hexOf l) = l
  | [] => rfl
  | c :: r => by
    have hc : c.toNat < 256 := c.toNat_lt
    show pairs (hexd (c.toNat / 16) :: hexd (c.toNat % 16) :: hexOf r) = _
    rw [pairs, pairs_hexOf r, hv_hexd (by omega), hv_hexd (by omega)]
    congr 1
    apply UInt8.toNat_inj.1
    have : (16 * ((c.toNat / 16 : Nat) : Int) + ((c.toNat % 16 : Nat) : Int)).toNat = c.toNat := by omega
    rw [this]; simp
theorem unhex_hexOf (l : List UInt8) : unhex (hexOf l) = (l, 0) := by
  unfold unhex
  rw [any_hexOf, if_neg (by decide), hexOf_length, if_neg (by omega), pairs_hexOf]
theorem toArray_data (s : ByteArray) : (⟨s.data.toList.toArray⟩ : ByteArray) = s := by simp
end Go.Proofs.Ytogdnjanfmapeaa.Fig
