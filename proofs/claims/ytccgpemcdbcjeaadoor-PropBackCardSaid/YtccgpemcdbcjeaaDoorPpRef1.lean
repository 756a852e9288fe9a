/-
The document's small questions about bytes, names and values: their answers are the plain functions'. No conditions.
-/
import Derived.Test.YtccgpemcdbcjeaaDoorPpMath
import Derived.Test.YtccgpemcdbcjeaaDoorRows
import Derived.RegionTactic
import Derived.IntWalk
namespace Go.Proofs.YtccgpemcdbcjeaaDoor.Pp
open Go.RowKit

theorem ret_bool {a b : Bool} (h : a = b) : Ending.returned (.bool a) = .returned (.bool b) := by rw [h]

theorem rLetter_any (c : UInt8) (w : World) :
    Calls Tryd.prog 26 #[.int .u8 (c.toNat : Int)] w fun e w' => e = .returned (.bool (lett c)) ∧ w = w' := by
  have hb := c.toNat_lt
  go_enter Tryd.func26, Tryd.ntmps26
  go_wp2
  all_goals (go_ret; exact ⟨ret_bool (by unfold lett; rw [Bool.eq_iff_iff]; simp; try omega), rfl⟩)
theorem rOdd_any (c : UInt8) (w : World) :
    Calls Tryd.prog 20 #[.int .u8 (c.toNat : Int)] w fun e w' => e = .returned (.bool (oddb c)) ∧ w = w' := by
  have hb := c.toNat_lt
  go_enter Tryd.func20, Tryd.ntmps20
  go_wp2
  all_goals (go_ret; exact ⟨ret_bool (by unfold oddb; rw [Bool.eq_iff_iff]; simp; try omega), rfl⟩)
end Go.Proofs.YtccgpemcdbcjeaaDoor.Pp
