/-
For every two numbers below 2^32 the law MbintOrder returns true and changes nothing that was there. Conditions: those bounds.
-/
import Derived.Test.YtpapakkcomegnaaMbWorks
import Derived.WalkLawsBesides
namespace Go.Proofs.Ytpapakkcomegnaa.MbLaw
open Go.RowKit Mb

theorem lt_iff (a b : UInt8) : decide (a < b) = decide (a.toNat < b.toNat) := by
  rw [Bool.eq_iff_iff]; simp [UInt8.lt_iff_toNat_lt]
theorem eq_iff (a b : UInt8) : (a == b) = decide (a.toNat = b.toNat) := by
  rw [Bool.eq_iff_iff]; simp [UInt8.toNat_inj]
theorem mod_succ (n k : Nat) : n % 128 ^ (k + 2) = n / 128 ^ (k + 1) % 128 * 128 ^ (k + 1) + n % 128 ^ (k + 1) := by
  rw [show (128 : Nat) ^ (k + 2) = 128 ^ (k + 1) * 128 from Nat.pow_succ .., Nat.mod_mul, Nat.mul_comm, Nat.add_comm]
theorem head_cmp {a b x y P : Nat} (hx : x < P) (hy : y < P) : (decide (128 + a < 128 + b) || (decide (128 + a = 128 + b) && decide (x < y))) = decide (a * P + x < b * P + y) := by
  rw [Bool.eq_iff_iff]
  simp only [Bool.or_eq_true, Bool.and_eq_true, decide_eq_true_eq]
  constructor
  · rintro (h | ⟨h, h'⟩)
    · have h1 : a + 1 ≤ b := by omega
      have h2 := Nat.mul_le_mul_right P h1
      rw [Nat.add_mul] at h2
      omega
    · have : a = b := by omega
      subst this
      omega
  · intro h
    rcases Nat.lt_trichotomy a b with h1 | h1 | h1
    · exact .inl (by omega)
    · subst h1; exact .inr ⟨rfl, by omega⟩
    · have h2 := Nat.mul_le_mul_right P (show b + 1 ≤ a from h1)
      rw [Nat.add_mul] at h2
      omega
theorem less_low7 (n m : Nat) : ∀ k, Op.bytesLess (low7 n k) (low7 m k) = decide (n % 128 ^ (k + 1) < m % 128 ^ (k + 1))
  | 0 => by
    simp only [low7, Op.bytesLess, lt_iff, sev0_toNat, Bool.and_false, Bool.or_false, Nat.zero_add, Nat.pow_one]
  | k + 1 => by
    have hp := pow7_pos (k + 1)
    simp only [low7, Op.bytesLess, lt_iff, eq_iff, sev_toNat, less_low7 n m k]
    rw [mod_succ n k, mod_succ m k]
    exact head_cmp (Nat.mod_lt _ hp) (Nat.mod_lt _ hp)
theorem lt_wid {n : Nat} (hn : n < 4294967296) : n < 128 ^ (wid7 n + 1) := by
  obtain ⟨p1, p2, p3, p4, p5⟩ := pow7
  unfold wid7
  split
  · simp; omega
  · split
    · simp; omega
    · split
      · simp; omega
      · split
        · simp; omega
        · simp; omega
theorem wid7_mono {n m : Nat} (h : n ≤ m) : wid7 n ≤ wid7 m := by
  unfold wid7
  repeat' split
  all_goals omega
/-- How two numbers' bytes compare. -/
theorem mb_cmp {n m : Nat} (hn : n < 4294967296) (hm : m < 4294967296) :
    (n < m ∧ (mb n).length < (mb m).length) ∨ (n < m ∧ (mb n).length = (mb m).length ∧ Op.bytesLess (mb n) (mb m) = true) ∨ (m ≤ n ∧ (mb m).length < (mb n).length) ∨ (m ≤ n ∧ (mb n).length = (mb m).length ∧ Op.bytesLess (mb n) (mb m) = false) := by
  rw [mb_length, mb_length]
  by_cases h : n < m
  · have := wid7_mono (Nat.le_of_lt h)
    rcases Nat.lt_or_ge (wid7 n) (wid7 m) with h1 | h1
    · exact .inl ⟨h, by omega⟩
    · refine .inr (.inl ⟨h, by omega, ?_⟩)
      have e : wid7 n = wid7 m := by omega
      have g1 := lt_wid hn
      have g2 := lt_wid hm
      unfold mb
      rw [e] at g1 ⊢
      rw [less_low7, Nat.mod_eq_of_lt g1, Nat.mod_eq_of_lt g2]
      exact decide_eq_true h
  · have := wid7_mono (show m ≤ n by omega)
    rcases Nat.lt_or_ge (wid7 m) (wid7 n) with h1 | h1
    · exact .inr (.inr (.inl ⟨by omega, by omega⟩))
    · refine .inr (.inr (.inr ⟨by omega, by omega, ?_⟩))
      have e : wid7 n = wid7 m := by omega
      have g1 := lt_wid hn
      have g2 := lt_wid hm
      unfold mb
      rw [e] at g1 ⊢
      rw [less_low7, Nat.mod_eq_of_lt g1, Nat.mod_eq_of_lt g2]
      exact decide_eq_false h

set_option maxHeartbeats 1000000 in
theorem order_of (n m : Nat) (a b : ByteArray) (w : World) (CA : Hid (∀ W : World, Calls Try.prog 7 #[.int .u32 (n : Int)] W fun x w' => x = .returned (.string a) ∧ Below W.heap.size W w'))
    (CB : Hid (∀ W : World, Calls Try.prog 7 #[.int .u32 (m : Int)] W fun x w' => x = .returned (.string b) ∧ Below W.heap.size W w'))
    (h : (n < m ∧ a.size < b.size) ∨ (n < m ∧ a.size = b.size ∧ Op.bytesLess a.toList b.toList = true) ∨ (m ≤ n ∧ b.size < a.size) ∨ (m ≤ n ∧ a.size = b.size ∧ Op.bytesLess a.toList b.toList = false)) :
    Calls Try.prog 6 #[.int .u32 (n : Int), .int .u32 (m : Int)] w fun e w' => e = .returned (.bool true) ∧ Below w.heap.size w w' := by
  have hcase : (n < m ∧ a.size < b.size) ∨ (n < m ∧ ((a.size : Int) == b.size) = true ∧ ¬ a.size < b.size ∧ Op.bytesLess a.toList b.toList = true) ∨ (¬ n < m ∧ ((a.size : Int) == b.size) = false ∧ ¬ a.size < b.size) ∨ (¬ n < m ∧ ((a.size : Int) == b.size) = true ∧ ¬ a.size < b.size ∧ Op.bytesLess a.toList b.toList = false) := by
    rcases h with ⟨h1, h2⟩ | ⟨h1, h2, h3⟩ | ⟨h1, h2⟩ | ⟨h1, h2, h3⟩
    · exact .inl ⟨h1, h2⟩
    · exact .inr (.inl ⟨h1, by simp [h2], by omega, h3⟩)
    · exact .inr (.inr (.inl ⟨by omega, by rw [beq_eq_false_iff_ne]; omega, by omega⟩))
    · exact .inr (.inr (.inr ⟨by omega, by simp [h2], by omega, h3⟩))
  clear h
  rcases hcase with ⟨h1, h2⟩ | ⟨h1, h2, h3, h4⟩ | ⟨h1, h2, h3⟩ | ⟨h1, h2, h3, h4⟩
  all_goals
    go_enter Try.func6, Try.ntmps6
    go_wp2_with fail
    refine (works_any _).mono ?_
    rintro e w0 ⟨rfl, b0⟩
    go_wp2_with fail
    refine (CA.out _).mono ?_
    rintro e w1 ⟨rfl, b1⟩
    go_wp2_with fail
    refine (CB.out _).mono ?_
    rintro e w2 ⟨rfl, b2⟩
    go_wp2_with fail
    go_ret
    exact ⟨by first | rfl | (rw [h4]; rfl) | simp [h4], (b0.trans (b1.mono b0.size)).trans (b2.mono (Nat.le_trans b0.size b1.size))⟩

theorem size_of (l : List UInt8) : (⟨l.toArray⟩ : ByteArray).size = l.length := by simp [ByteArray.size]
theorem toList_of (l : List UInt8) : (⟨l.toArray⟩ : ByteArray).toList = l := by rw [ByteArray.toList_eq]

theorem order (n m : Int) (w : World) (h0 : 0 ≤ n) (h1 : n ≤ 4294967295) (k0 : 0 ≤ m) (k1 : m ≤ 4294967295) :
    Calls Try.prog 6 #[.int .u32 n, .int .u32 m] w fun e w' => e = .returned (.bool true) ∧ Below w.heap.size w w' := by
  obtain ⟨a, rfl⟩ := Int.eq_ofNat_of_zero_le h0
  obtain ⟨b, rfl⟩ := Int.eq_ofNat_of_zero_le k0
  refine order_of a b ⟨(mb a).toArray⟩ ⟨(mb b).toArray⟩ w (Lib.hid fun W => write_any a W (by omega)) (Lib.hid fun W => write_any b W (by omega)) ?_
  rw [size_of, size_of, toList_of, toList_of]
  exact mb_cmp (by omega) (by omega)
end Go.Proofs.Ytpapakkcomegnaa.MbLaw
