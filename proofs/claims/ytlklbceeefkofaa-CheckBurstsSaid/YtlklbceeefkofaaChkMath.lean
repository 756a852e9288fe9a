/-
Plain mathematics of a register of sixteen bits: what it becomes bit by bit, and that bits turned within sixteen places are told. No program in it, no conditions.
-/
import Derived.WalkKit
import Derived.Lib.Hide
import Derived.Laws.BitsAllLaws
namespace Go.Proofs.Ytlklbceeefkofaa.Chk
open Go.RowKit

/-- The polynomial without its highest bit. -/
def poly : BitVec 16 := 0x1021#16
/-- The register behind one bit more. -/
def st (x : BitVec 16) (b : Bool) : BitVec 16 := (x <<< 1) ^^^ (if x.msb ^^ b then poly else 0#16)
/-- The register behind k bits more. -/
def run (x : BitVec 16) (f : Nat → Bool) : Nat → BitVec 16
  | 0 => x
  | k + 1 => st (run x f k) (f k)
/-- Bit j of a text, each byte's highest first. -/
def bit (l : List UInt8) (j : Nat) : Bool := ((l[j / 8]?).getD 0).toNat.testBit (7 - j % 8)
/-- A byte's bits, the highest first. -/
def cbit (c : UInt8) (k : Nat) : Bool := c.toNat.testBit (7 - k)
/-- The sum of the first bytes of a text. -/
def crcN (l : List UInt8) (k : Nat) : BitVec 16 := run 0xffff#16 (bit l) (8 * k)
/-- The sum of a text. -/
def crc (l : List UInt8) : BitVec 16 := crcN l l.length

theorem run_congr {x : BitVec 16} {f g : Nat → Bool} {n : Nat} (h : ∀ k, k < n → f k = g k) : run x f n = run x g n := by
  induction n with
  | zero => rfl
  | succ n ih => simp only [run]; rw [ih fun k hk => h k (by omega), h n (by omega)]
theorem run_add (x : BitVec 16) (f : Nat → Bool) (a b : Nat) : run x f (a + b) = run (run x f a) (fun k => f (a + k)) b := by
  induction b with
  | zero => rfl
  | succ b ih => rw [← Nat.add_assoc]; simp only [run]; rw [ih]

theorem st_xor (x y : BitVec 16) (a b : Bool) : st x a ^^^ st y b = st (x ^^^ y) (a ^^ b) := by
  unfold st
  rw [BitVec.msb_xor, BitVec.shiftLeft_xor_distrib]
  cases x.msb <;> cases y.msb <;> cases a <;> cases b <;> simp <;> first | ac_rfl | (rw [show x <<< 1 ^^^ poly ^^^ (y <<< 1 ^^^ poly) = (poly ^^^ poly) ^^^ (x <<< 1 ^^^ y <<< 1) by ac_rfl]; simp)
theorem run_xor (x y : BitVec 16) (f g : Nat → Bool) (n : Nat) : run x f n ^^^ run y g n = run (x ^^^ y) (fun k => f k ^^ g k) n := by
  induction n with
  | zero => rfl
  | succ n ih => simp only [run]; rw [st_xor, ih]

/-- A step that leaves no low bit took none in. -/
theorem st_low {x : BitVec 16} {b : Bool} {k : Nat} (hk : k < 16) (h : st x b <<< k = 0#16) : x <<< (k + 1) = 0#16 ∧ (x.msb ^^ b) = false := by
  have h0 : (st x b).getLsbD 0 = false := by
    have := congrArg (fun z => BitVec.getLsbD z k) h
    simpa [BitVec.getLsbD_shiftLeft, hk] using this
  have hb : (x.msb ^^ b) = false := by
    unfold st at h0
    rw [BitVec.getLsbD_xor] at h0
    cases e : (x.msb ^^ b) with
    | false => rfl
    | true => rw [e] at h0; simp [poly] at h0
  refine ⟨?_, hb⟩
  unfold st at h
  rw [hb] at h
  simp only [Bool.false_eq_true, if_false, BitVec.xor_zero] at h
  rw [← h, ← BitVec.shiftLeft_add, Nat.add_comm]
theorem run_low (x : BitVec 16) (f : Nat → Bool) : ∀ m k, m + k ≤ 16 → run x f m <<< k = 0#16 → x <<< (m + k) = 0#16
  | 0, k, _, h => by rw [Nat.zero_add]; exact h
  | m + 1, k, hk, h => by
    have := run_low x f m (k + 1) (by omega) (st_low (by omega) h).1
    rw [show m + 1 + k = m + (k + 1) by omega]; exact this
theorem st_zero {x : BitVec 16} (h : st x false = 0#16) : x = 0#16 := by
  obtain ⟨h1, h2⟩ := st_low (k := 0) (by decide) (by simpa using h)
  have hm : x.msb = false := by simpa using h2
  apply BitVec.eq_of_getLsbD_eq
  intro i hi
  rcases Nat.lt_or_ge i 15 with h | h
  · have := congrArg (fun z => BitVec.getLsbD z (i + 1)) h1
    simp [BitVec.getLsbD_shiftLeft] at this
    simpa using this (by omega)
  · obtain rfl : i = 15 := by omega
    have : x.getLsbD 15 = false := by rw [BitVec.msb_eq_getLsbD_last] at hm; exact hm
    simpa using this
theorem run_zeros (x : BitVec 16) (f : Nat → Bool) : ∀ n, (∀ k, k < n → f k = false) → run x f n = 0#16 → x = 0#16
  | 0, _, h => h
  | n + 1, hf, h => by
    simp only [run] at h
    rw [hf n (by omega)] at h
    exact run_zeros x f n (fun k hk => hf k (by omega)) (st_zero h)
theorem st_zero_false : st 0#16 false = 0#16 := by decide
theorem run_none (f : Nat → Bool) : ∀ n, (∀ k, k < n → f k = false) → run 0#16 f n = 0#16
  | 0, _ => rfl
  | n + 1, hf => by
    simp only [run]
    rw [hf n (by omega), run_none f n fun k hk => hf k (by omega)]
    exact st_zero_false

theorem first_true (f : Nat → Bool) : ∀ n, (∃ j, j < n ∧ f j = true) → ∃ a, a < n ∧ f a = true ∧ ∀ k, k < a → f k = false
  | 0, ⟨j, h, _⟩ => absurd h (by omega)
  | n + 1, ⟨j, h, hj⟩ => by
    by_cases hx : ∃ j, j < n ∧ f j = true
    · obtain ⟨a, ha, h1, h2⟩ := first_true f n hx
      exact ⟨a, by omega, h1, h2⟩
    · have hjn : j = n := by
        rcases Nat.lt_or_ge j n with h' | h'
        · exact absurd ⟨j, h', hj⟩ hx
        · omega
      refine ⟨n, by omega, by rw [← hjn]; exact hj, fun k hk => ?_⟩
      cases e : f k with
      | false => rfl
      | true => exact absurd ⟨k, hk, e⟩ hx

theorem poly_low : ∀ k, k ≤ 15 → poly <<< k ≠ 0#16 := by decide
/-- Bits turned within sixteen places leave the register other than it was. -/
theorem burst (e : Nat → Bool) (s n : Nat) (hs : ∀ j, e j = true → s ≤ j ∧ j < s + 16) (hx : ∃ j, j < n ∧ e j = true) : run 0#16 e n ≠ 0#16 := by
  intro h0
  obtain ⟨a, han, ha, hlt⟩ := first_true e n hx
  have hsa := hs a ha
  have hra : run 0#16 e a = 0#16 := run_none e a hlt
  have hra1 : run 0#16 e (a + 1) = poly := by simp only [run]; rw [hra, ha]; decide
  -- the place behind which all is as it was
  rcases Nat.lt_or_ge n (a + 16) with hn | hn
  · obtain ⟨m, rfl⟩ : ∃ m, n = a + 1 + m := ⟨n - (a + 1), by omega⟩
    rw [run_add, hra1] at h0
    have := run_low poly _ m 0 (by omega) (by simpa using h0)
    exact poly_low m (by omega) (by simpa using this)
  · obtain ⟨m, rfl⟩ : ∃ m, n = a + 16 + m := ⟨n - (a + 16), by omega⟩
    rw [run_add] at h0
    have h1 := run_zeros _ _ m (fun k _ => by
      cases e1 : e (a + 16 + k) with
      | false => rfl
      | true => have := hs _ e1; omega) h0
    rw [show a + 16 = a + 1 + 15 by omega, run_add, hra1] at h1
    have := run_low poly _ 15 0 (by omega) (by simpa using h1)
    exact poly_low 15 (by omega) (by simpa using this)

/-- A register that is fed its own bits is empty. -/
theorem run_self (x : BitVec 16) (f : Nat → Bool) (hf : ∀ k, k < 16 → f k = x.getLsbD (15 - k)) : ∀ m, m ≤ 16 → run x f m = x <<< m
  | 0, _ => by simp [run]
  | m + 1, hm => by
    simp only [run]
    rw [run_self x f hf m (by omega), hf m (by omega)]
    have hmsb : (x <<< m).msb = x.getLsbD (15 - m) := by
      rw [BitVec.msb_eq_getLsbD_last, BitVec.getLsbD_shiftLeft]
      simp
      intro _; omega
    unfold st
    rw [hmsb]
    simp [← BitVec.shiftLeft_add]

theorem getLsbD_byte (x : BitVec 16) (i : Nat) : (x.toNat % 256).testBit i = (decide (i < 8) && x.getLsbD i) := by
  rw [show (256 : Nat) = 2 ^ 8 by decide, Nat.testBit_mod_two_pow]; rfl
theorem getLsbD_high (x : BitVec 16) (i : Nat) : (x.toNat / 256).testBit i = x.getLsbD (8 + i) := by
  rw [show (256 : Nat) = 2 ^ 8 by decide, Nat.testBit_div_two_pow, Nat.add_comm]; rfl

/-- The two bytes of a sum. -/
def tail2 (x : BitVec 16) : List UInt8 := [UInt8.ofNat (x.toNat / 256), UInt8.ofNat (x.toNat % 256)]
theorem toNat_hi (x : BitVec 16) : (UInt8.ofNat (x.toNat / 256)).toNat = x.toNat / 256 := by
  have := x.isLt; simp; omega
theorem toNat_lo (x : BitVec 16) : (UInt8.ofNat (x.toNat % 256)).toNat = x.toNat % 256 := by
  simp
theorem bit_left (l r : List UInt8) (j : Nat) (h : j < 8 * l.length) : bit (l ++ r) j = bit l j := by
  unfold bit; rw [List.getElem?_append_left (by omega)]
theorem bit_tail (l : List UInt8) (x : BitVec 16) (k : Nat) (h : k < 16) : bit (l ++ tail2 x) (8 * l.length + k) = x.getLsbD (15 - k) := by
  unfold bit
  rw [List.getElem?_append_right (by omega)]
  rcases Nat.lt_or_ge k 8 with hk | hk
  · rw [show (8 * l.length + k) / 8 - l.length = 0 by omega, show (8 * l.length + k) % 8 = k by omega]
    show (UInt8.ofNat (x.toNat / 256)).toNat.testBit (7 - k) = _
    rw [toNat_hi, getLsbD_high]
    congr 1; omega
  · rw [show (8 * l.length + k) / 8 - l.length = 1 by omega, show (8 * l.length + k) % 8 = k - 8 by omega]
    show (UInt8.ofNat (x.toNat % 256)).toNat.testBit (7 - (k - 8)) = _
    rw [toNat_lo, getLsbD_byte]
    rw [show 7 - (k - 8) = 15 - k by omega, decide_eq_true (by omega : 15 - k < 8), Bool.true_and]

/-- Behind its sum the register is empty. -/
theorem sealed_zero (l : List UInt8) : run 0xffff#16 (bit (l ++ tail2 (crc l))) (8 * (l.length + 2)) = 0#16 := by
  rw [show 8 * (l.length + 2) = 8 * l.length + 16 by omega, run_add]
  have h1 : run 0xffff#16 (bit (l ++ tail2 (crc l))) (8 * l.length) = crc l := run_congr fun k hk => bit_left _ _ _ hk
  rw [h1, run_self (crc l) _ (fun k hk => bit_tail l (crc l) k hk) 16 (by omega)]
  simp

/-- Two sealed texts of one length that part within sixteen places alone are one. -/
theorem told (l m : List UInt8) (hlen : l.length = m.length) (s : Nat)
    (hs : ∀ j, bit (l ++ tail2 (crc l)) j ≠ bit (m ++ tail2 (crc m)) j → s ≤ j ∧ j < s + 16) :
    ∀ j, j < 8 * (l.length + 2) → bit (l ++ tail2 (crc l)) j = bit (m ++ tail2 (crc m)) j := by
  intro j hj
  rcases Classical.em (bit (l ++ tail2 (crc l)) j = bit (m ++ tail2 (crc m)) j) with h | h
  · exact h
  · exfalso
    have hz := run_xor 0xffff#16 0xffff#16 (bit (l ++ tail2 (crc l))) (bit (m ++ tail2 (crc m))) (8 * (l.length + 2))
    rw [sealed_zero l] at hz
    rw [show 8 * (l.length + 2) = 8 * (m.length + 2) by omega, sealed_zero m, ← hlen] at hz
    simp only [BitVec.xor_self] at hz
    refine burst (fun k => bit (l ++ tail2 (crc l)) k ^^ bit (m ++ tail2 (crc m)) k) s (8 * (l.length + 2)) (fun j hj => hs j (fun e => by simp [e] at hj)) ⟨j, hj, by simpa using h⟩ hz.symm

theorem st_self (d : BitVec 16) : st d d.msb = d <<< 1 := by unfold st; simp
/-- What is turned in ahead of a step. -/
theorem st_over (y d : BitVec 16) : st (y ^^^ d) false = st y d.msb ^^^ (d <<< 1) := by
  rw [← st_self d, st_xor, Bool.xor_self]
theorem msb_byte (c : UInt8) (k : Nat) (h : k < 8) : (BitVec.ofNat 16 c.toNat <<< (8 + k)).msb = cbit c k := by
  rw [BitVec.msb_eq_getLsbD_last, BitVec.getLsbD_shiftLeft, BitVec.getLsbD_ofNat]
  unfold cbit
  rw [show 16 - 1 - (8 + k) = 7 - k by omega, decide_eq_true (show 16 - 1 < 16 by omega), decide_eq_false (show ¬ 16 - 1 < 8 + k by omega), decide_eq_true (show 7 - k < 16 by omega)]
  simp
theorem bit_byte (l : List UInt8) (i k : Nat) (c : UInt8) (hc : l[i]? = some c) (hk : k < 8) : bit l (8 * i + k) = cbit c k := by
  unfold bit cbit
  rw [show (8 * i + k) / 8 = i by omega, show (8 * i + k) % 8 = k by omega, hc]; rfl
theorem crcN_succ (l : List UInt8) (i : Nat) (c : UInt8) (hc : l[i]? = some c) : run (crcN l i) (cbit c) 8 = crcN l (i + 1) := by
  unfold crcN
  rw [show 8 * (i + 1) = 8 * i + 8 by omega, run_add]
  exact run_congr fun k hk => (bit_byte l i k c hc hk).symm

-- the same as numbers
theorem toNat_shl (y : BitVec 16) : (y <<< 1).toNat = y.toNat * 2 % 65536 := by
  rw [BitVec.toNat_shiftLeft, Nat.shiftLeft_eq]
theorem msb_div (y : BitVec 16) : y.toNat / 32768 = if y.msb then 1 else 0 := by
  have h := BitVec.msb_eq_decide y
  have hy := y.isLt
  rw [h]
  by_cases e : 32768 ≤ y.toNat
  · rw [decide_eq_true (by simpa using e)]; simp; omega
  · rw [decide_eq_false (by simpa using e)]; simp; omega
theorem wrap_dbl (y : BitVec 16) : IntKind.u16.wrap ((y.toNat : Int) * 2) = (((y <<< 1).toNat : Nat) : Int) := by
  rw [IntKind.wrap_u16, toNat_shl]; omega
theorem xor_num (a b : BitVec 16) : bits .xor .u16 (a.toNat : Int) (b.toNat : Int) = ((a ^^^ b).toNat : Int) := by
  rw [u16_xor_nat _ _ a.isLt b.isLt, BitVec.toNat_xor]
theorem quo_num (y : BitVec 16) : (y.toNat : Int) / 32768 * 4129 = ((if y.msb then poly else 0#16).toNat : Int) := by
  have h := msb_div y
  have e : (y.toNat : Int) / 32768 = ((y.toNat / 32768 : Nat) : Int) := by omega
  rw [e, h]
  cases y.msb <;> rfl
theorem step_num (y : BitVec 16) : bits .xor .u16 (IntKind.u16.wrap ((y.toNat : Int) * 2)) ((y.toNat : Int) / 32768 * 4129) = ((st y false).toNat : Int) := by
  rw [wrap_dbl, quo_num, xor_num]
  unfold st
  rw [Bool.xor_false]
theorem feed_num (x : BitVec 16) (c : UInt8) : bits .xor .u16 (x.toNat : Int) ((c.toNat : Int) * 256) = ((x ^^^ (BitVec.ofNat 16 c.toNat <<< 8)).toNat : Int) := by
  have hc := c.toNat_lt
  have e : (c.toNat : Int) * (256 : Int) = ((BitVec.ofNat 16 c.toNat <<< 8).toNat : Int) := by
    rw [BitVec.toNat_shiftLeft, Nat.shiftLeft_eq, BitVec.toNat_ofNat]; omega
  rw [e, xor_num]
theorem bit_num (c : UInt8) (j : Nat) : (IntKind.u16.wrap ((c.toNat : Int) / 2 ^ (7 - j))).tmod 2 = if cbit c j then 1 else 0 := by
  have hc := c.toNat_lt
  have e : (c.toNat : Int) / 2 ^ (7 - j) = ((c.toNat / 2 ^ (7 - j) : Nat) : Int) := by simp
  have hle : c.toNat / 2 ^ (7 - j) ≤ c.toNat := Nat.div_le_self _ _
  unfold cbit
  rw [e, IntKind.wrap_u16, Nat.testBit_eq_decide_div_mod_eq]
  generalize c.toNat / 2 ^ (7 - j) = q at hle
  rw [show ((q : Int) % 65536) = (q : Int) by omega, Int.tmod_eq_emod_of_nonneg (by omega)]
  by_cases h : q % 2 = 1
  · rw [decide_eq_true h]; simp; omega
  · rw [decide_eq_false h]; simp; omega
theorem top_num (z : BitVec 16) : (z.toNat : Int) / 32768 = if z.msb then 1 else 0 := by
  have h := msb_div z
  have e : (z.toNat : Int) / 32768 = ((z.toNat / 32768 : Nat) : Int) := by omega
  rw [e, h]; cases z.msb <;> rfl
theorem test_num (c : UInt8) (z : BitVec 16) (j : Nat) : ((IntKind.u16.wrap ((c.toNat : Int) / 2 ^ (7 - j))).tmod 2 != (z.toNat : Int) / 32768) = (z.msb ^^ cbit c j) := by
  rw [bit_num, top_num]
  cases z.msb <;> cases cbit c j <;> rfl
theorem turn_num (z : BitVec 16) (b : Bool) (h : (z.msb ^^ b) = true) : bits .xor .u16 (IntKind.u16.wrap ((z.toNat : Int) * 2)) 4129 = ((st z b).toNat : Int) := by
  rw [wrap_dbl, show (4129 : Int) = (poly.toNat : Int) from rfl, xor_num]
  unfold st; rw [h]; rfl
theorem keep_num (z : BitVec 16) (b : Bool) (h : (z.msb ^^ b) = false) : IntKind.u16.wrap ((z.toNat : Int) * 2) = ((st z b).toNat : Int) := by
  rw [wrap_dbl]
  unfold st; rw [h]; simp
end Go.Proofs.Ytlklbceeefkofaa.Chk
