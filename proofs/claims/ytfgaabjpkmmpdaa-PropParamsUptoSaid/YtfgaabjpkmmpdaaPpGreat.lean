/-
Whether a property is great, as the law asks it. No conditions.
-/
import Derived.Test.YtfgaabjpkmmpdaaPpChk
namespace Go.Proofs.Ytfgaabjpkmmpdaa.Pp
open Go.RowKit

set_option maxHeartbeats 400000 in
theorem great_any (g n : ByteArray) (pa : Option Addr) (k pc : Nat) (v : ByteArray) (av : Value) (w : World) :
    Calls Try.prog 5 #[prV g n (.slice pa k pc) v av] w fun e w' => e = .returned (.bool (decide (20 < k) || decide (5000 < v.size))) ∧ Below w.heap.size w w' := by
  unfold prV
  by_cases h1 : 20 < (k : Int)
  · rw [decide_eq_true (show 20 < k by omega), Bool.true_or]
    go_enter Try.func5, Try.ntmps5
    go_wp2_with fail
    go_ret
    exact ⟨rfl, (Below.refl _ _).alloc (Nat.le_refl _) _⟩
  rw [decide_eq_false (show ¬ 20 < k by omega), Bool.false_or]
  by_cases h2 : 5000 < (v.size : Int)
  · rw [decide_eq_true (show 5000 < v.size by omega)]
    go_enter Try.func5, Try.ntmps5
    go_wp2_with fail
    go_ret
    exact ⟨rfl, (Below.refl _ _).alloc (Nat.le_refl _) _⟩
  rw [decide_eq_false (show ¬ 5000 < v.size by omega)]
  go_enter Try.func5, Try.ntmps5
  go_wp2_with fail
  go_ret
  exact ⟨rfl, (Below.refl _ _).alloc (Nat.le_refl _) _⟩
end Go.Proofs.Ytfgaabjpkmmpdaa.Pp
