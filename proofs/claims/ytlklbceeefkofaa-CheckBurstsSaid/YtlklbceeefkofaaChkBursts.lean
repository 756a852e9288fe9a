/-
For every text, place and bits the law CheckBursts returns true and changes nothing that was there. Conditions: the text's length is at most 2^47 bytes; the bits are a uint16.
-/
import Derived.Test.YtlklbceeefkofaaChkOne
namespace Go.Proofs.Ytlklbceeefkofaa.Chk
open Go.RowKit

theorem Row.at_ {w : World} {g j : Nat} {d : List UInt8} (h : Row w g d) (hj : j < d.length) : ∃ c, d[j]? = some c ∧ w.cell? ⟨g, j, none⟩ = some (.int .u8 (c.toNat : Int)) ∧ w.frozen? ⟨g, j, none⟩ = false :=
  ⟨d[j], List.getElem?_eq_getElem hj, (h.2 j hj).1, (h.2 j hj).2⟩
/-- Whether bit m of a burst is turned. -/
def inB (q m : Nat) : Bool := decide (m = 0) || q.testBit m
/-- Bit x of a text turned. -/
def flip (d : List UInt8) (x : Nat) (c : UInt8) : List UInt8 := d.set (x / 8) (c ^^^ UInt8.ofNat (2 ^ (7 - x % 8)))
theorem bit_flip {d : List UInt8} {x : Nat} {c : UInt8} (hc : d[x / 8]? = some c) (j : Nat) : bit (flip d x c) j = (bit d j ^^ decide (j = x)) := by
  by_cases e : j / 8 = x / 8
  · have hlt : x / 8 < d.length := (List.getElem?_eq_some_iff.1 hc).1
    have h1 := bit_byte d (x / 8) (j % 8) c hc (by omega)
    have h2 := bit_byte (flip d x c) (x / 8) (j % 8) (c ^^^ UInt8.ofNat (2 ^ (7 - x % 8))) (by unfold flip; rw [List.getElem?_set_self hlt]) (by omega)
    rw [show 8 * (x / 8) + j % 8 = j by omega] at h1 h2
    rw [h1, h2]
    unfold cbit
    have hm : (UInt8.ofNat (2 ^ (7 - x % 8))).toNat = 2 ^ (7 - x % 8) := by
      rw [UInt8.toNat_ofNat']
      exact Nat.mod_eq_of_lt (Nat.pow_lt_pow_right (by decide) (by omega))
    rw [UInt8.toNat_xor, Nat.testBit_xor, hm, Nat.testBit_two_pow]
    congr 1
    rw [Bool.eq_iff_iff]
    simp; omega
  · unfold flip
    rw [bit_set e, decide_eq_false (fun h => e (by rw [h])), Bool.xor_false]
theorem flip_num (c : UInt8) (x : Nat) : bits .xor .u8 (c.toNat : Int) ((2 : Int) ^ (7 - x % 8) % 256) = ((c ^^^ UInt8.ofNat (2 ^ (7 - x % 8))).toNat : Int) := by
  have hp : 2 ^ (7 - x % 8) < 256 := Nat.pow_lt_pow_right (n := 8) (by decide) (by omega)
  have hm : (UInt8.ofNat (2 ^ (7 - x % 8))).toNat = 2 ^ (7 - x % 8) := by
    rw [UInt8.toNat_ofNat']
    exact Nat.mod_eq_of_lt hp
  have e : (2 : Int) ^ (7 - x % 8) % 256 = ((2 ^ (7 - x % 8) : Nat) : Int) := by
    have : (2 : Int) ^ (7 - x % 8) = ((2 ^ (7 - x % 8) : Nat) : Int) := by simp
    rw [this]; omega
  rw [e, u8_xor_nat _ _ c.toNat_lt hp, UInt8.toNat_xor, hm]
theorem in_num {q : Int} {k : Nat} (q0 : 0 ≤ q) (hk : ¬ k = 0) : ((q / 2 ^ k).tmod 2 == 1) = inB q.toNat k := by
  obtain ⟨m, rfl⟩ := Int.eq_ofNat_of_zero_le q0
  unfold inB
  rw [decide_eq_false hk, Bool.false_or, Int.toNat_natCast, Nat.testBit_eq_decide_div_mod_eq]
  have e : (m : Int) / 2 ^ k = ((m / 2 ^ k : Nat) : Int) := by simp
  rw [e]
  generalize m / 2 ^ k = z
  rw [Int.tmod_eq_emod_of_nonneg (by omega)]
  rw [Bool.eq_iff_iff]
  simp; omega
theorem Row.flip {w : World} {g : Nat} {d : List UInt8} (h : Row w g d) (x : Nat) (c : UInt8) : Row (w.setCell ⟨g, x / 8, none⟩ (.int .u8 ((c ^^^ UInt8.ofNat (2 ^ (7 - x % 8))).toNat : Int))) g (Chk.flip d x c) := h.set _ _
theorem flip_length (d : List UInt8) (x : Nat) (c : UInt8) : (Chk.flip d x c).length = d.length := by unfold Chk.flip; rw [List.length_set]
/-- The first k bits of a burst from place i on are turned. -/
def Turned (t d : List UInt8) (i k q : Nat) : Prop := ∀ j, bit d j = (bit t j ^^ (decide (i ≤ j ∧ j < i + k) && inB q (j - i)))
theorem Turned.none {t : List UInt8} {i q : Nat} : Turned t t i 0 q := fun j => by
  rw [decide_eq_false (by omega), Bool.false_and, Bool.xor_false]
theorem Turned.pass {t d : List UInt8} {i k q : Nat} (h : Turned t d i k q) (hb : inB q k = false) : Turned t d i (k + 1) q := fun j => by
  rw [h j]
  congr 1
  by_cases e : j = i + k
  · subst e
    rw [decide_eq_false (by omega), decide_eq_true (by omega), show i + k - i = k by omega, hb]; rfl
  · rw [show decide (i ≤ j ∧ j < i + (k + 1)) = decide (i ≤ j ∧ j < i + k) by rw [Bool.eq_iff_iff]; simp; omega]
theorem Turned.turn {t d : List UInt8} {i k q : Nat} {c : UInt8} (h : Turned t d i k q) (hb : inB q k = true) (hc : d[(i + k) / 8]? = some c) : Turned t (flip d (i + k) c) i (k + 1) q := fun j => by
  rw [bit_flip hc, h j, Bool.xor_assoc]
  congr 1
  by_cases e : j = i + k
  · subst e
    rw [decide_eq_false (show ¬ (i ≤ i + k ∧ i + k < i + k) by omega), decide_eq_true (show i ≤ i + k ∧ i + k < i + (k + 1) by omega), show i + k - i = k by omega, hb]; simp
  · rw [show decide (i ≤ j ∧ j < i + (k + 1)) = decide (i ≤ j ∧ j < i + k) by rw [Bool.eq_iff_iff]; simp; omega, decide_eq_false e, Bool.xor_false]
end Go.Proofs.Ytlklbceeefkofaa.Chk
namespace Go.Proofs.Ytlklbceeefkofaa.ChkLaw
open Go.RowKit Chk

set_option maxHeartbeats 400000 in
theorem bursts_of (s t : ByteArray) (n q : Int) (i : Nat) (w : World) (hl : s.size ≤ 3000) (ht : t.size = s.size + 2) (hi : i < 8 * (s.size + 2)) (q0 : 0 ≤ q)
    (hmod : wrap64 ((IntKind.u64.wrap n).tmod (8 * ((s.size : Int) + 2))) = (i : Int))
    (C1 : Hid (∀ W : World, Calls Try.prog 11 #[.string s] W fun e w' => e = .returned (.string t) ∧ Below W.heap.size W w'))
    (C2 : Hid (∀ (d : List UInt8) (k : Nat) (W : World), Turned t.data.toList d i k q.toNat → d.length = s.size + 2 → 1 ≤ k → k ≤ 16 → Calls Try.prog 9 #[.string ⟨d.toArray⟩] W fun e w' => e = .returned (.tuple #[.string .empty, .bool false]) ∧ Below W.heap.size W w')) :
    Calls Try.prog 5 #[.string s, .int .i64 n, .int .u16 q] w fun e w' => e = .returned (.bool true) ∧ Below w.heap.size w w' := by
  have HZ : Hid (t.data.toList.length = s.size + 2) := Lib.hid (by rw [Array.length_toList]; exact ht)
  go_enter Try.func5, Try.ntmps5
  go_wp2_with fail
  refine (C1.out _).mono ?_
  rintro e w1 ⟨rfl, b1⟩
  obtain ⟨cap, w2, hrun, hrow, b2⟩ := bytes_new w1 t
  have hb2 := b1.trans (b2.mono b1.size)
  go_wp2_with fail
  rw [hmod]
  clear hmod hrun
  go_loopw [10, 11] (fun kk _ wr => ∃ (k : Nat) (d : List UInt8), k ≤ 16 ∧ i + k ≤ 8 * (s.size + 2) ∧ kk = .int .i64 k ∧ Row wr w1.heap.size d ∧ Hid (d.length = s.size + 2) ∧ Below w.heap.size w wr ∧ Hid (Turned t.data.toList d i k q.toNat)) (fun kk _ _ => 16 - (intOf kk).toNat)
  case atStart => exact ⟨0, t.data.toList, by omega, by omega, rfl, hrow, HZ, hb2, Turned.none⟩
  case round =>
    obtain ⟨k, d, hk, hik, rfl, hrow, HD, hbel, HT⟩ := hrel
    by_cases h16 : k < 16
    · by_cases hin : i + k < 8 * (s.size + 2)
      · by_cases hk0 : k = 0
        · subst hk0
          obtain ⟨c, hc, hcell, hfr⟩ := hrow.at_ (j := i / 8) (by rw [HD.out]; omega)
          have HC := Lib.hid hc
          have HR := Lib.hid hrow
          have hfn := flip_num c i
          clear hc hrow
          go_wp2
          go_roundw
          case rel =>
            have hrow2 := HR.out.flip i c
            have hlen2 : Hid ((Chk.flip d i c).length = s.size + 2) := Lib.hid (by rw [flip_length]; exact HD.out)
            exact ⟨1, Chk.flip d i c, by omega, by omega, rfl, hrow2, hlen2, hbel.setCell b1.size _, HT.out.turn (k := 0) rfl HC.out⟩
          case measure => simp [intOf]
        · have hkb : ((k : Int) == 0) = false := by rw [beq_eq_false_iff_ne]; omega
          obtain ⟨c, hc, hcell, hfr⟩ := hrow.at_ (j := (i + k) / 8) (by rw [HD.out]; omega)
          have HC := Lib.hid hc
          have HR := Lib.hid hrow
          have hfn := flip_num c (i + k)
          have hin2 := in_num q0 hk0
          clear hc hrow
          cases hq : inB q.toNat k with
          | true =>
            rw [hq] at hin2
            have HQ := Lib.hid hq
            clear hq
            go_wp2
            go_roundw
            case rel =>
              have hrow2 := HR.out.flip (i + k) c
              have hlen2 : Hid ((Chk.flip d (i + k) c).length = s.size + 2) := Lib.hid (by rw [flip_length]; exact HD.out)
              exact ⟨k + 1, Chk.flip d (i + k) c, by omega, by omega, by go_num, hrow2, hlen2, hbel.setCell b1.size _, HT.out.turn HQ.out HC.out⟩
            case measure => simp [intOf]; omega
          | false =>
            rw [hq] at hin2
            have HQ := Lib.hid hq
            clear hq
            go_wp2
            go_roundw
            case rel => exact ⟨k + 1, d, by omega, by omega, by go_num, HR.out, HD, hbel, HT.out.pass HQ.out⟩
            case measure => simp [intOf]; omega
      · have htx := hrow.text (cap := cap) (n := s.size + 2) HD.out.symm
        clear hrow
        go_wp2_with fail
        refine (C2.out d k _ HT.out HD.out (by omega) hk).mono ?_
        rintro e w3 ⟨rfl, b4⟩
        go_wp2_with fail
        go_ret
        exact ⟨rfl, hbel.trans (b4.mono hbel.size)⟩
    · have htx := hrow.text (cap := cap) (n := s.size + 2) HD.out.symm
      clear hrow
      go_wp2_with fail
      refine (C2.out d k _ HT.out HD.out (by omega) hk).mono ?_
      rintro e w3 ⟨rfl, b4⟩
      go_wp2_with fail
      go_ret
      exact ⟨rfl, hbel.trans (b4.mono hbel.size)⟩

theorem bursts (s : ByteArray) (n q : Int) (w : World) (hs : s.size ≤ maxLen) (q0 : 0 ≤ q) :
    Calls Try.prog 5 #[.string s, .int .i64 n, .int .u16 q] w fun e w' => e = .returned (.bool true) ∧ Below w.heap.size w w' := by
  unfold maxLen at hs
  by_cases hl : 3000 < s.size
  · go_enter Try.func5, Try.ntmps5
    go_wp2
    go_ret
    exact ⟨rfl, Below.refl _ _⟩
  · have hz := sealed_size s
    have hm0 : 0 ≤ IntKind.u64.wrap n := wrap_u64_nonneg n
    have hm1 := Int.emod_nonneg (IntKind.u64.wrap n) (b := 8 * ((s.size : Int) + 2)) (by omega)
    have hm2 := Int.emod_lt_of_pos (IntKind.u64.wrap n) (b := 8 * ((s.size : Int) + 2)) (by omega)
    obtain ⟨i, hi⟩ := Int.eq_ofNat_of_zero_le hm1
    have hi2 : i < 8 * (s.size + 2) := by omega
    have hlen : (sealed s).data.toList.length = s.size + 2 := by rw [Array.length_toList]; exact hz
    refine bursts_of s (sealed s) n q i w (by omega) hz hi2 q0 ?_ (Lib.hid fun W => seal_any s W (by omega)) (Lib.hid fun d k W hT hd hk hk2 => open_no _ W ?_ ?_)
    · rw [Int.tmod_eq_emod_of_nonneg hm0, hi]
      exact IntWalk.wrap64_in (i : Int) ⟨by omega, by omega⟩
    · rw [size_of, hd]; omega
    · have hdd : (⟨d.toArray⟩ : ByteArray).data.toList = d := by simp
      refine not_sealed (s := s) i (by rw [hdd, hd]) ?_ ?_
      · intro j hj
        rw [hdd, hT j] at hj
        by_cases e : i ≤ j ∧ j < i + k
        · omega
        · rw [decide_eq_false e] at hj; simp at hj
      · refine ⟨i, hi2, ?_⟩
        rw [hdd, hT i, decide_eq_true (show i ≤ i ∧ i < i + k by omega), Nat.sub_self]
        show bit _ i ≠ (bit _ i ^^ (true && true))
        cases bit (sealed s).data.toList i <;> decide
end Go.Proofs.Ytlklbceeefkofaa.ChkLaw
