/-
Numbers are read as they were written: the plain functions 'mb' and 'numOf'. No program in it, no conditions.
-/
import Derived.Test.YtpapakkcomegnaaMbMath
namespace Go.Proofs.Ytpapakkcomegnaa.Mb
open Go.RowKit

theorem lt_wid' {n : Nat} (hn : n < 4294967296) : n < 128 ^ (wid7 n + 1) := by
  obtain ⟨p1, p2, p3, p4, p5⟩ := pow7
  unfold wid7
  split
  · simp; omega
  · split
    · simp; omega
    · split
      · simp; omega
      · split
        · simp; omega
        · simp; omega
theorem wid7_ge (n j : Nat) (h : wid7 n = j + 1) : 128 ^ (j + 1) ≤ n := by
  obtain ⟨p1, p2, p3, p4, p5⟩ := pow7
  unfold wid7 at h
  split at h
  · omega
  · split at h
    · obtain rfl : j = 0 := by omega
      simp; omega
    · split at h
      · obtain rfl : j = 1 := by omega
        simp; omega
      · split at h
        · obtain rfl : j = 2 := by omega
          simp; omega
        · obtain rfl : j = 3 := by omega
          simp; omega

/-- The bytes of n from place j on, behind what stood before them. -/
theorem nsteps_low7 {n : Nat} (hn : n < 4294967296) (l : List UInt8) : ∀ (j k : Nat), nsteps (n / 128 ^ (j + 1)) k (low7 n j ++ l) = (n, k + j + 1, 0)
  | 0, k => by
    have hc := sev0_toNat n
    have h1 : n / 128 ^ (0 + 1) = n / 128 := by simp
    rw [h1, low7, List.singleton_append, nsteps, if_neg (by omega), if_pos (by omega), hc]
    congr 1
    omega
  | j + 1, k => by
    have hc := sev_toNat n j
    have hd : n / 128 ^ (j + 1 + 1) = n / 128 ^ (j + 1) / 128 := by rw [Nat.pow_succ, Nat.div_div_eq_div_mul]
    have hle : n / 128 ^ (j + 1) ≤ n := Nat.div_le_self ..
    rw [low7, List.cons_append, nsteps, if_neg (by omega), if_neg (by omega), hc,
      show 128 * (n / 128 ^ (j + 1 + 1)) + (128 + n / 128 ^ (j + 1) % 128 - 128) = n / 128 ^ (j + 1) by omega, nsteps_low7 hn l j (k + 1)]
    congr 2
    omega

theorem numOf_mb {n : Nat} (hn : n < 4294967296) (l : List UInt8) : numOf (mb n ++ l) = (n, (mb n).length, 0) := by
  have hlt := lt_wid' hn
  have h := nsteps_low7 hn l (wid7 n) 0
  rw [Nat.div_eq_of_lt hlt] at h
  unfold numOf
  rw [if_neg]
  · rw [mb_length]
    show nsteps 0 0 (low7 n (wid7 n) ++ l) = _
    rw [h]
    congr 2
    omega
  · unfold mb
    intro hh
    cases hw : wid7 n with
    | zero =>
      rw [hw, low7, List.singleton_append, List.head?_cons] at hh
      have := congrArg UInt8.toNat (Option.some.inj hh)
      rw [sev0_toNat] at this
      have h2 : (128 : UInt8).toNat = 128 := rfl
      omega
    | succ j =>
      rw [hw, low7, List.cons_append, List.head?_cons] at hh
      have := congrArg UInt8.toNat (Option.some.inj hh)
      rw [sev_toNat] at this
      have h2 : (128 : UInt8).toNat = 128 := rfl
      have h3 := wid7_ge n j hw
      rw [hw] at hlt
      have h4 : 1 ≤ n / 128 ^ (j + 1) := (Nat.le_div_iff_mul_le (pow7_pos _)).2 (by omega)
      have h5 : n / 128 ^ (j + 1) < 128 := Nat.div_lt_of_lt_mul (by rw [← Nat.pow_succ]; exact hlt)
      omega

theorem nsteps_back : ∀ (l : List UInt8) (m k x k' : Nat), nsteps m k l = (x, k', 0) → ∃ j, k' = k + j + 1 ∧ j < l.length ∧ l.take (j + 1) = low7 x j ∧ x / 128 ^ (j + 1) = m ∧ x < 4294967296
  | [], m, k, x, k', h => by simp [nsteps] at h
  | c :: r, m, k, x, k', h => by
    unfold nsteps at h
    split at h
    · simp at h
    · split at h
      · simp only [Prod.mk.injEq] at h
        obtain ⟨rfl, rfl, _⟩ := h
        refine ⟨0, by omega, by simp, ?_, by simp; omega, by omega⟩
        simp only [List.take_succ_cons, List.take_zero, low7, List.cons.injEq, and_true]
        apply UInt8.toNat_inj.1
        rw [sev0_toNat]
        omega
      · obtain ⟨j, h1, h2, h3, h4, h5⟩ := nsteps_back r _ _ _ _ h
        have hb : c.toNat < 256 := c.toNat_lt
        refine ⟨j + 1, by omega, by simp; omega, ?_, ?_, h5⟩
        · rw [List.take_succ_cons, h3, low7]
          congr 1
          apply UInt8.toNat_inj.1
          rw [sev_toNat, h4]
          omega
        · rw [Nat.pow_succ, ← Nat.div_div_eq_div_mul, h4]
          omega

theorem numOf_back {l : List UInt8} {x k : Nat} (h : numOf l = (x, k, 0)) : l.take k = mb x := by
  unfold numOf at h
  split at h
  · simp at h
  · rename_i hh
    obtain ⟨j, rfl, h2, h3, h4, h5⟩ := nsteps_back l _ _ _ _ h
    rw [Nat.zero_add, h3]
    have hlt : x < 128 ^ (j + 1) := lt_pow_of h4.symm rfl
    have hw : wid7 x = j := by
      refine wid7_of h5 ?_ hlt
      cases j with
      | zero => exact .inl rfl
      | succ j =>
        right
        rcases Nat.lt_or_ge x (128 ^ (j + 1)) with h6 | h6
        · exfalso
          apply hh
          have h7 : (l.take (j + 1 + 1)).head? = some (sev x (j + 1)) := by rw [h3]; rfl
          rw [List.head?_take, if_neg (by omega)] at h7
          rw [h7]
          congr 1
          apply UInt8.toNat_inj.1
          rw [sev_toNat, Nat.div_eq_of_lt h6]
          rfl
        · exact h6
    unfold mb
    rw [hw]
end Go.Proofs.Ytpapakkcomegnaa.Mb
