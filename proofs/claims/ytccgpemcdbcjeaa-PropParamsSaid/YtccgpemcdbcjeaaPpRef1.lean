/-
The document's small questions about bytes, names and values: their answers are the plain functions'. No conditions.
-/
import Derived.Test.YtccgpemcdbcjeaaPpMath
import Derived.Test.YtccgpemcdbcjeaaRows
import Derived.RegionTactic
import Derived.IntWalk
namespace Go.Proofs.Ytccgpemcdbcjeaa.Pp
open Go.RowKit

theorem ret_bool {a b : Bool} (h : a = b) : Ending.returned (.bool a) = .returned (.bool b) := by rw [h]

theorem rLetter_any (c : UInt8) (w : World) :
    Calls Try.prog 32 #[.int .u8 (c.toNat : Int)] w fun e w' => e = .returned (.bool (lett c)) ∧ w = w' := by
  have hb := c.toNat_lt
  go_enter Try.func32, Try.ntmps32
  go_wp2
  all_goals (go_ret; exact ⟨ret_bool (by unfold lett; rw [Bool.eq_iff_iff]; simp; try omega), rfl⟩)
theorem rOdd_any (c : UInt8) (w : World) :
    Calls Try.prog 29 #[.int .u8 (c.toNat : Int)] w fun e w' => e = .returned (.bool (oddb c)) ∧ w = w' := by
  have hb := c.toNat_lt
  go_enter Try.func29, Try.ntmps29
  go_wp2
  all_goals (go_ret; exact ⟨ret_bool (by unfold oddb; rw [Bool.eq_iff_iff]; simp; try omega), rfl⟩)
end Go.Proofs.Ytccgpemcdbcjeaa.Pp
