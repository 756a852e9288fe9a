/-
The document's capitals of a text (layer 8): byte by byte. Conditions: the text has at most 2^47 bytes.
-/
import Derived.Test.YtccgpemcdbcjeaaDoorBytesRow
import Derived.Test.YtccgpemcdbcjeaaDoorCsNamesMath
import Derived.Test.YtccgpemcdbcjeaaDoorPpRef1
namespace Go.Proofs.YtccgpemcdbcjeaaDoor.Pp
open Go.RowKit Bytes Cs

/-- A text in capitals. -/
def up (l : List UInt8) : List UInt8 := l.map cap1
set_option maxHeartbeats 800000 in
theorem rUpper_any (s : ByteArray) (w : World) (hs : s.size ≤ 140737488355328) :
    Calls Tryd.prog 17 #[.string s] w fun e w' => e = .returned (.string ⟨(up s.data.toList).toArray⟩) ∧ Below w.heap.size w w' := by
  obtain ⟨cap, w2, hrun, hrow, b2⟩ := bytes_new w s
  have HA : Hid (∀ k, k < s.size → ∃ c, (capK s.data.toList k)[k]? = some c ∧ (capK s.data.toList k).set k (cap1 c) = capK s.data.toList (k + 1) ∧ (cap1 c = c → capK s.data.toList (k + 1) = capK s.data.toList k)) :=
    Lib.hid (fun k h => ⟨_, capK_at (by rw [list_size]; exact h), capK_set (by rw [list_size]; exact h), capK_same (by rw [list_size]; exact h)⟩)
  have HE := Lib.hid (capK_all (l := s.data.toList) (k := s.size) (by rw [list_size]; exact Nat.le_refl _))
  have HL := Lib.hid (fun k => show (capK s.data.toList k).length = s.size by rw [capK_length, list_size])
  rw [← capK_zero s.data.toList] at hrow
  unfold up
  generalize s.data.toList = l at HA HE HL hrow ⊢
  go_enter Tryd.func17, Tryd.ntmps17
  go_wp2_with fail
  clear hrun
  go_loopw [4] (fun iv wr => ∃ k : Nat, k ≤ s.size ∧ iv = .int .i64 k ∧ Row wr w.heap.size (capK l k) ∧ Below w.heap.size w wr) (fun iv _ => s.size - (intOf iv).toNat)
  case atStart => exact ⟨0, Nat.zero_le _, rfl, hrow, b2⟩
  case round =>
    obtain ⟨k, hk, rfl, hrow, hbel⟩ := hrel
    by_cases hlt : k < s.size
    · obtain ⟨c, hc0, hset, hsame⟩ := HA.out k hlt
      obtain ⟨c', hc, hcell, hfr⟩ := hrow.at_ (by rw [HL.out]; exact hlt : k < _)
      obtain rfl : c' = c := by rw [hc0] at hc; exact (Option.some.inj hc).symm
      have HC := Lib.hid hset
      have HC2 := Lib.hid hsame
      have hc8 := c'.toNat_lt
      clear hc0 hc hset hsame
      by_cases hlo : 97 ≤ (c'.toNat : Int)
      · by_cases hhi : (c'.toNat : Int) ≤ 122
        · have HN := Lib.hid (cap1_yes hlo hhi)
          go_wp2_with fail
          go_roundw
          case rel => exact ⟨k + 1, by omega, by go_num, by have h := hrow.set k (cap1 c'); rw [HC.out, HN.out] at h; exact h, hbel.setCell (Nat.le_refl _) _⟩
          case measure => simp [intOf]; omega
        · have HN := Lib.hid (HC2.out (cap1_no (fun h => hhi h.2)))
          go_wp2_with fail
          go_roundw
          case rel => exact ⟨k + 1, by omega, by go_num, by rw [HN.out]; exact hrow, hbel⟩
          case measure => simp [intOf]; omega
      · have HN := Lib.hid (HC2.out (cap1_no (fun h => hlo h.1)))
        go_wp2_with fail
        go_roundw
        case rel => exact ⟨k + 1, by omega, by go_num, by rw [HN.out]; exact hrow, hbel⟩
        case measure => simp [intOf]; omega
    · obtain rfl : k = s.size := by omega
      rw [HE.out] at hrow
      have htx := hrow.text (cap := cap) (n := s.size) (by rw [← HE.out, HL.out])
      go_wp2_with fail
      go_ret
      exact ⟨rfl, hbel⟩
end Go.Proofs.YtccgpemcdbcjeaaDoor.Pp
