/-
The document's small questions about bytes, names and values: their answers are the plain functions'. No conditions.
-/
import Derived.Test.YtfgaabjpkmmpdaaPpMath
import Derived.Test.YtfgaabjpkmmpdaaRows
import Derived.RegionTactic
import Derived.IntWalk
namespace Go.Proofs.Ytfgaabjpkmmpdaa.Pp
open Go.RowKit

theorem ret_bool {a b : Bool} (h : a = b) : Ending.returned (.bool a) = .returned (.bool b) := by rw [h]

theorem rLetter_any (c : UInt8) (w : World) :
    Calls Try.prog 25 #[.int .u8 (c.toNat : Int)] w fun e w' => e = .returned (.bool (lett c)) ∧ w = w' := by
  have hb := c.toNat_lt
  go_enter Try.func25, Try.ntmps25
  go_wp2
  all_goals (go_ret; exact ⟨ret_bool (by unfold lett; rw [Bool.eq_iff_iff]; simp; try omega), rfl⟩)
theorem rOdd_any (c : UInt8) (w : World) :
    Calls Try.prog 22 #[.int .u8 (c.toNat : Int)] w fun e w' => e = .returned (.bool (oddb c)) ∧ w = w' := by
  have hb := c.toNat_lt
  go_enter Try.func22, Try.ntmps22
  go_wp2
  all_goals (go_ret; exact ⟨ret_bool (by unfold oddb; rw [Bool.eq_iff_iff]; simp; try omega), rfl⟩)
end Go.Proofs.Ytfgaabjpkmmpdaa.Pp
