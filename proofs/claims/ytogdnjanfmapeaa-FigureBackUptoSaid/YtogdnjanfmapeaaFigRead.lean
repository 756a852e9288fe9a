/-
figure.Read and the document's own Read answer the same at every text: both are the plain function 'count'. Conditions: the text's length is at most maxLen.
-/
import Derived.Test.YtogdnjanfmapeaaRows
import Derived.Test.YtogdnjanfmapeaaFigMath
import Derived.WalkKit
import Derived.ProofKit
import Derived.OpenShut
import Derived.Lib.Hide
namespace Go.Proofs.Ytogdnjanfmapeaa.Fig
open Go.RowKit

set_option maxHeartbeats 400000 in
theorem read_any (s : ByteArray) (w : World) (hs : s.size ≤ maxLen) :
    Calls Try.prog 11 #[.string s] w fun e w' => e = .returned (.tuple #[.int .i64 (count s.data.toList).1, .int .i64 (count s.data.toList).2]) ∧ w = w' := by
  unfold maxLen at hs
  by_cases h0 : s.size = 0
  · have he := isEmpty_true h0
    go_enter Try.func11, Try.ntmps11
    go_wp2
    go_ret2
    exact ⟨ret2 (rd_zero h0), rfl⟩
  · have h0' : 0 < s.size := by omega
    have he := isEmpty_false h0'
    by_cases h1 : (s[0].toNat : Int) = 48 ∧ 1 < s.size
    · obtain ⟨h2, h3⟩ := h1
      go_enter Try.func11, Try.ntmps11
      go_wp2
      go_ret2
      exact ⟨ret2 (rd_nought h0' h2 h3), rfl⟩
    · have HS0 := Lib.hid (rd_start h0' h1)
      by_cases h48 : (s[0].toNat : Int) = 48
      all_goals
        first
          | (have h2 : s.size ≤ 1 := by have := fun h => h1 ⟨h48, h⟩; omega)
          | skip
        clear h1
        go_enter Try.func11, Try.ntmps11
        go_wp2
        go_loop [19, 4] (fun i n => ∃ k m : Nat, k ≤ s.size ∧ m ≤ 268435456 ∧ i = .int .i64 k ∧ n = .int .i64 m ∧ Hid (count s.data.toList = steps m (s.data.toList.drop k))) (fun i _ => s.size - (intOf i).toNat)
        case atStart => exact ⟨0, 0, by omega, by omega, rfl, rfl, HS0⟩
        case round =>
          obtain ⟨k, m, hk, hm, rfl, rfl, HS⟩ := hrel
          by_cases hlt : k < s.size
          · by_cases hd : (s[k].toNat : Int) < 48 ∨ 57 < (s[k].toNat : Int)
            · have hr := Lib.hid (rd_field HS hlt hd)
              go_wp2
              all_goals (go_ret2; exact ⟨ret2 hr.out, rfl⟩)
            · have d1 : 48 ≤ (s[k].toNat : Int) := by omega
              have d2 : (s[k].toNat : Int) ≤ 57 := by omega
              by_cases hr : 268435456 < 10 * (m : Int) + ((s[k].toNat : Int) - 48)
              · have hr' := Lib.hid (rd_range HS hlt d1 d2 hr)
                have hq : (268435456 - ((s[k].toNat : Int) - 48)) / 10 < (m : Int) := by omega
                go_wp2
                go_ret2
                exact ⟨ret2 hr'.out, rfl⟩
              · have hn := rd_next HS hlt d1 d2 (by omega)
                have hq : (m : Int) ≤ (268435456 - ((s[k].toNat : Int) - 48)) / 10 := by omega
                go_wp2
                go_round
                case rel => exact ⟨k + 1, 10 * m + (s[k].toNat - 48), by omega, by omega, by go_num, by congr 1; omega, hn⟩
                case measure => simp [intOf]; omega
          · have hr := Lib.hid (rd_end HS hlt)
            go_wp2
            go_ret2
            exact ⟨ret2 hr.out, rfl⟩
end Go.Proofs.Ytogdnjanfmapeaa.Fig
