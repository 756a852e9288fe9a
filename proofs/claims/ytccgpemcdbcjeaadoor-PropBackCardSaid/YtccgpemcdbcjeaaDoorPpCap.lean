/-
The law's own question whether a text has no small letter: the answer is the plain function's. Conditions: the text has at most 2^40 bytes.
-/
import Derived.Test.YtccgpemcdbcjeaaDoorPpRef1
namespace Go.Proofs.YtccgpemcdbcjeaaDoor.Pp
open Go.RowKit

set_option maxHeartbeats 400000 in
theorem capital_any (s : ByteArray) (w : World) (hs : s.size ≤ 1099511627776) :
    Calls Tryd.prog 12 #[.string s] w fun e w' => e = .returned (.bool (s.data.toList.all capb)) ∧ w = w' := by
  obtain ⟨r, hr⟩ : ∃ r, s.data.toList.all capb = r := ⟨_, rfl⟩
  rw [hr]
  have HE := Lib.hid (all_end (P := capb) (s := s))
  go_enter Tryd.func12, Tryd.ntmps12
  go_wp2
  go_loop [3] (fun iv => ∃ k : Nat, iv = .int .i64 k ∧ k ≤ s.size ∧ Hid ((s.data.toList.drop k).all capb = r)) (fun iv => s.size - (intOf iv).toNat)
  case atStart => exact ⟨0, rfl, Nat.zero_le _, Lib.hid (by rw [List.drop_zero]; exact hr)⟩
  case round =>
    obtain ⟨k, rfl, hk, HK⟩ := hrel
    by_cases hlt : k < s.size
    · have HN := Lib.hid (all_no (P := capb) hlt)
      have HY := Lib.hid (all_yes (P := capb) hlt)
      obtain ⟨c, hc⟩ : ∃ c : UInt8, s[k] = c := ⟨_, rfl⟩
      have hb := c.toNat_lt
      rw [hc] at HN HY
      by_cases h1 : 97 ≤ (c.toNat : Int)
      · by_cases h2 : (c.toNat : Int) ≤ 122
        · obtain rfl : false = r := by rw [← HK.out]; exact (HN.out (by unfold capb; rw [decide_eq_true ⟨h1, h2⟩]; rfl)).symm
          go_wp2
          go_ret
          exact ⟨rfl, rfl⟩
        · have HK' := Lib.hid ((HY.out (by unfold capb; rw [decide_eq_false (fun h => h2 h.2)]; rfl)).symm.trans HK.out)
          go_wp2
          go_round
          case rel => exact ⟨k + 1, by go_num, by omega, HK'⟩
          case measure => simp [intOf]; omega
      · have HK' := Lib.hid ((HY.out (by unfold capb; rw [decide_eq_false (fun h => h1 h.1)]; rfl)).symm.trans HK.out)
        go_wp2
        go_round
        case rel => exact ⟨k + 1, by go_num, by omega, HK'⟩
        case measure => simp [intOf]; omega
    · obtain rfl : k = s.size := by omega
      obtain rfl : true = r := by rw [← HK.out]; exact HE.out.symm
      go_wp2
      go_ret
      exact ⟨rfl, rfl⟩
end Go.Proofs.YtccgpemcdbcjeaaDoor.Pp
