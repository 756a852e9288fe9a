/-
check.Of and the document's own sum answer the register behind a text's bits. Conditions: the text has at most 2^40 bytes.
-/
import Derived.Test.YtlklbceeefkofaaRows
import Derived.Test.YtlklbceeefkofaaChkMath
import Derived.ProofKit
import Derived.OpenShut
import Derived.Laws.BitsAllLaws
import Derived.IntWalk
namespace Go.Proofs.Ytlklbceeefkofaa.Chk
open Go.RowKit

theorem withByte_any (x : BitVec 16) (c : UInt8) (w : World) :
    Calls Try.prog 13 #[.int .u16 (x.toNat : Int), .int .u8 (c.toNat : Int)] w fun e w' => e = .returned (.int .u16 ((run x (cbit c) 8).toNat : Int)) ∧ w = w' := by
  have hx := x.isLt
  have hc := c.toNat_lt
  go_enter Try.func13, Try.ntmps13
  go_wp2
  go_loop [0, 11, 5] (fun s i _ => ∃ (k : Nat) (y : BitVec 16), k ≤ 8 ∧ i = .int .i64 k ∧ s = .int .u16 (y.toNat : Int) ∧ Hid (y = run x (cbit c) k ^^^ ((BitVec.ofNat 16 c.toNat) <<< (8 + k)))) (fun _ i _ => 8 - (intOf i).toNat)
  case atStart => exact ⟨0, x ^^^ (BitVec.ofNat 16 c.toNat <<< 8), by omega, rfl, by rw [feed_num], rfl⟩
  case round =>
    obtain ⟨k, y, hk, rfl, rfl, HY⟩ := hrel
    have hy := y.isLt
    by_cases hlt : k < 8
    · go_wp2
      go_round
      case rel =>
        refine ⟨k + 1, st y false, by omega, by go_num, by rw [step_num], ?_⟩
        show st y false = _
        rw [HY.out, st_over, msb_byte c k hlt, ← BitVec.shiftLeft_add]; rfl
      case measure => simp [intOf]; omega
    · obtain rfl : k = 8 := by omega
      obtain rfl : y = run x (cbit c) 8 := by
        rw [HY.out]; simp
      go_wp2
      go_ret
      exact ⟨rfl, rfl⟩

theorem of_any (s : ByteArray) (w : World) (hs : s.size ≤ 1099511627776) :
    Calls Try.prog 7 #[.string s] w fun e w' => e = .returned (.int .u16 ((crc s.data.toList).toNat : Int)) ∧ w = w' := by
  go_enter Try.func7, Try.ntmps7
  go_wp2
  go_loop [3, 7] (fun r i => ∃ k : Nat, k ≤ s.size ∧ i = .int .i64 k ∧ r = .int .u16 ((crcN s.data.toList k).toNat : Int)) (fun _ i => s.size - (intOf i).toNat)
  case atStart => exact ⟨0, by omega, rfl, rfl⟩
  case round =>
    obtain ⟨k, hk, rfl, rfl⟩ := hrel
    by_cases hlt : k < s.size
    · have C := Lib.hid (fun W => withByte_any (crcN s.data.toList k) s[k] W)
      rw [crcN_succ s.data.toList k s[k] (by simp [hlt]; rfl)] at C
      have hx := (crcN s.data.toList k).isLt
      go_wp2_with (go_at_call 13; refine (C.out _).mono ?_; rintro e w' ⟨rfl, rfl⟩)
      go_round
      case rel => exact ⟨k + 1, by omega, by go_num, rfl⟩
      case measure => simp [intOf]; omega
    · go_wp2
      go_ret
      exact ⟨by rw [show k = s.data.toList.length by simp; omega]; rfl, rfl⟩

theorem refOf_any (s : ByteArray) (w : World) (hs : s.size ≤ 1099511627776) :
    Calls Try.prog 8 #[.string s] w fun e w' => e = .returned (.int .u16 ((crc s.data.toList).toNat : Int)) ∧ w = w' := by
  go_enter Try.func8, Try.ntmps8
  go_wp2
  go_loop [3, 4] (fun r i => ∃ k : Nat, k ≤ s.size ∧ i = .int .i64 k ∧ r = .int .u16 ((crcN s.data.toList k).toNat : Int)) (fun _ i => s.size - (intOf i).toNat)
  case atStart => exact ⟨0, by omega, rfl, rfl⟩
  case round =>
    obtain ⟨k, hk, rfl, rfl⟩ := hrel
    by_cases hlt : k < s.size
    · have hN := crcN_succ s.data.toList k s[k] (by simp [hlt]; rfl)
      have hx := (crcN s.data.toList k).isLt
      go_wp2
      go_loop [3, 5] (fun r i => ∃ (j : Nat) (z : BitVec 16), j ≤ 8 ∧ i = .int .i64 (7 - (j : Int)) ∧ r = .int .u16 (z.toNat : Int) ∧ Hid (z = run (crcN s.data.toList k) (cbit s[k]) j)) (fun _ i => (intOf i + 1).toNat)
      case atStart => exact ⟨0, _, by omega, by go_num, rfl, rfl⟩
      case round =>
        obtain ⟨j, z, hj, rfl, rfl, HZ⟩ := hrel
        have hz := z.isLt
        by_cases hlt2 : j < 8
        · have ht := test_num s[k] z j
          have hst : run (crcN s.data.toList k) (cbit s[k]) (j + 1) = st z (cbit s[k] j) := by rw [HZ.out]; rfl
          have HST := Lib.hid hst
          clear hst hN
          by_cases hb : (z.msb ^^ cbit s[k] j) = true
          · rw [hb] at ht
            have HB := Lib.hid hb
            clear hb
            go_wp2
            go_round
            case rel => exact ⟨j + 1, st z (cbit s[k] j), by omega, by go_num, by rw [turn_num z _ HB.out], HST.out.symm⟩
            case measure => simp [intOf]; omega
          · rw [Bool.not_eq_true] at hb
            rw [hb] at ht
            have HB := Lib.hid hb
            clear hb
            go_wp2
            go_round
            case rel => exact ⟨j + 1, st z (cbit s[k] j), by omega, by go_num, by rw [keep_num z _ HB.out], HST.out.symm⟩
            case measure => simp [intOf]; omega
        · obtain rfl : j = 8 := by omega
          obtain rfl : z = _ := HZ.out
          rw [hN]
          go_wp2
          go_round
          case rel => exact ⟨k + 1, by omega, by go_num, rfl⟩
          case measure => simp [intOf]; omega
    · go_wp2
      go_ret
      exact ⟨by rw [show k = s.data.toList.length by simp; omega]; rfl, rfl⟩
end Go.Proofs.Ytlklbceeefkofaa.Chk
