/-
Where a byte is in a text that is made of pieces; capitals said twice. No program in it.
-/
import Derived.Test.YtccgpemcdbcjeaaDoorPpBackMath
namespace Go.Proofs.YtccgpemcdbcjeaaDoor.Pp
open Cs

theorem findN_at {A B C : List UInt8} {c : UInt8} {z : Nat} (hB : c ∉ B) (hz : A.length + B.length < z) : findN (A ++ (B ++ c :: C)) A.length z c = A.length + B.length := by
  unfold findN
  congr 1
  rw [List.drop_take, List.drop_left]
  obtain ⟨k, hk⟩ : ∃ k, z - A.length = B.length + (k + 1) := ⟨z - A.length - B.length - 1, by omega⟩
  rw [hk, List.take_append, List.take_of_length_le (by omega), show B.length + (k + 1) - B.length = k + 1 by omega, List.take_succ_cons, List.idxOf_append, if_neg hB, List.idxOf_cons_self, Nat.zero_add]
theorem findN_none {A B C : List UInt8} {c : UInt8} (hB : c ∉ B) : findN (A ++ (B ++ C)) A.length (A.length + B.length) c = A.length + B.length := by
  unfold findN
  congr 1
  rw [List.drop_take, List.drop_left, show A.length + B.length - A.length = B.length by omega, List.take_left]
  exact List.idxOf_eq_length hB
theorem cap1_capb {c : UInt8} (h : capb c = true) : cap1 c = c := by
  unfold capb at h
  refine cap1_no (fun h' => ?_)
  rw [decide_eq_true h'] at h
  cases h
theorem capb_cap1 (c : UInt8) : capb (cap1 c) = true := by
  unfold capb
  by_cases h : 97 ≤ (c.toNat : Int) ∧ (c.toNat : Int) ≤ 122
  · have h2 := cap1_yes h.1 h.2
    rw [decide_eq_false (by omega)]; rfl
  · rw [cap1_no h, decide_eq_false h]; rfl
theorem upB_caps {s : ByteArray} (h : s.data.toList.all capb = true) : upB s = s := by
  unfold upB up
  have hm : s.data.toList.map cap1 = s.data.toList := by
    rw [List.all_eq_true] at h
    conv => rhs; rw [← List.map_id s.data.toList]
    exact List.map_congr_left (fun c hc => cap1_capb (h c hc))
  rw [hm]
theorem upB_up (s : ByteArray) : (upB s).data.toList.all capb = true := by
  unfold upB up
  rw [List.all_eq_true]
  intro c hc
  simp only [List.mem_map] at hc
  obtain ⟨d, _, rfl⟩ := hc
  exact capb_cap1 d
theorem upB_upB (s : ByteArray) : upB (upB s) = upB s := upB_caps (upB_up s)
theorem upB_size (s : ByteArray) : (upB s).size = s.size := by
  rw [← list_size, ← list_size]
  unfold upB up
  simp
/-- A right name is capitals, and has none of the signs that part a line. -/
theorem nmc_caps {c : UInt8} (h : nmc c = true) : capb c = true ∧ ¬ c = 46 ∧ ¬ c = 58 ∧ ¬ c = 59 ∧ ¬ c = 61 := by
  unfold nmc lett at h
  simp only [Bool.or_eq_true, decide_eq_true_eq] at h
  refine ⟨?_, ?_, ?_, ?_, ?_⟩
  · unfold capb; rw [decide_eq_false (by omega)]; rfl
  all_goals (rintro rfl; revert h; decide)
theorem valc_signs {c : UInt8} (h : valc c = true) : ¬ c = 58 ∧ ¬ c = 59 ∧ ¬ c = 61 := by
  unfold valc at h
  simp only [decide_eq_true_eq] at h
  refine ⟨?_, ?_, ?_⟩
  all_goals (rintro rfl; revert h; decide)
end Go.Proofs.YtccgpemcdbcjeaaDoor.Pp
