/-
Small letters read as capitals, by the program: the answer is the plain function's. Conditions: the text has at most 2^47 bytes.
-/
import Derived.Test.YtccgpemcdbcjeaaDoorBytesRow
import Derived.Test.YtccgpemcdbcjeaaDoorCsNamesMath
import Derived.RegionTactic
import Derived.IntWalk
namespace Go.Proofs.YtccgpemcdbcjeaaDoor.Cs
open Go.RowKit Bytes

theorem list_size (s : ByteArray) : s.data.toList.length = s.size := by rw [Array.length_toList]; rfl

set_option maxHeartbeats 800000 in
theorem caps_any (s : ByteArray) (w : World) (hs : s.size ≤ 140737488355328) :
    Calls Tryd.prog 32 #[.string s] w fun e w' => e = .returned (.string ⟨(s.data.toList.map cap1).toArray⟩) ∧ Below w.heap.size w w' := by
  obtain ⟨cap, w2, hrun, hrow, b2⟩ := bytes_new w s
  have HA : Hid (∀ k, k < s.size → ∃ c, (capK s.data.toList k)[k]? = some c ∧ (capK s.data.toList k).set k (cap1 c) = capK s.data.toList (k + 1) ∧ (cap1 c = c → capK s.data.toList (k + 1) = capK s.data.toList k)) :=
    Lib.hid (fun k h => ⟨_, capK_at (by rw [list_size]; exact h), capK_set (by rw [list_size]; exact h), capK_same (by rw [list_size]; exact h)⟩)
  have HE := Lib.hid (capK_all (l := s.data.toList) (k := s.size) (by rw [list_size]; exact Nat.le_refl _))
  have HL := Lib.hid (fun k => show (capK s.data.toList k).length = s.size by rw [capK_length, list_size])
  rw [← capK_zero s.data.toList] at hrow
  generalize s.data.toList = l at HA HE HL hrow ⊢
  go_enter Tryd.func32, Tryd.ntmps32
  go_wp2_with fail
  clear hrun
  go_loopw [10] (fun iv wr => ∃ k : Nat, k ≤ s.size ∧ iv = .int .i64 k ∧ Row wr w.heap.size (capK l k) ∧ Below w.heap.size w wr) (fun iv _ => s.size - (intOf iv).toNat)
  case atStart => exact ⟨0, Nat.zero_le _, rfl, hrow, b2⟩
  case round =>
    obtain ⟨k, hk, rfl, hrow, hbel⟩ := hrel
    by_cases hlt : k < s.size
    · obtain ⟨c, hc0, hset, hsame⟩ := HA.out k hlt
      obtain ⟨c', hc, hcell, hfr⟩ := hrow.at_ (by rw [HL.out]; exact hlt : k < _)
      obtain rfl : c' = c := by rw [hc0] at hc; exact (Option.some.inj hc).symm
      have HC := Lib.hid hset
      have HC2 := Lib.hid hsame
      have hc8 := c'.toNat_lt
      clear hc0 hc hset hsame
      by_cases hlo : 97 ≤ (c'.toNat : Int)
      · by_cases hhi : (c'.toNat : Int) ≤ 122
        · have HN := Lib.hid (cap1_yes hlo hhi)
          go_wp2_with fail
          go_roundw
          case rel => exact ⟨k + 1, by omega, by go_num, by have h := hrow.set k (cap1 c'); rw [HC.out, HN.out] at h; rw [show (c'.toNat : Int) - 97 + 65 = (c'.toNat : Int) - 32 by omega]; exact h, hbel.setCell (Nat.le_refl _) _⟩
          case measure => simp [intOf]; omega
        · have HN := Lib.hid (HC2.out (cap1_no (fun h => hhi h.2)))
          go_wp2_with fail
          go_roundw
          case rel => exact ⟨k + 1, by omega, by go_num, by rw [HN.out]; exact hrow, hbel⟩
          case measure => simp [intOf]; omega
      · have HN := Lib.hid (HC2.out (cap1_no (fun h => hlo h.1)))
        go_wp2_with fail
        go_roundw
        case rel => exact ⟨k + 1, by omega, by go_num, by rw [HN.out]; exact hrow, hbel⟩
        case measure => simp [intOf]; omega
    · obtain rfl : k = s.size := by omega
      rw [HE.out] at hrow
      have htx := hrow.text (cap := cap) (n := s.size) (by rw [← HE.out, HL.out])
      go_wp2_with fail
      go_ret
      exact ⟨rfl, hbel⟩
end Go.Proofs.YtccgpemcdbcjeaaDoor.Cs
