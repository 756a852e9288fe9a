/-
A look-up in a map that is empty. No conditions.
-/
import Derived.Test.YtfgaabjpkmmpdaaRows
import Derived.WalkKit
import Derived.ProofKit
import Derived.WideKeyElems
namespace Go.Proofs.Ytfgaabjpkmmpdaa.Pp
open Go.RowKit

theorem check_key (em : Bool) (N : Nat) (a : Option Addr) (n : Int) (W : World) : (Instr.checkKey em (N + 2) 58 (.agg #[.pointer a, .int .i64 n])).run Try.prog W = .ok () W := by
  have h1 : ∀ W, (Instr.checkKey em (N + 1) 53 (.pointer a)).run Try.prog W = .ok () W := fun W => by
    simp [Instr.checkKey, run_underlying Try.underlying53, Result.andThen]
  have h2 : ∀ W, (Instr.checkKey em (N + 1) 3 (.int .i64 n)).run Try.prog W = .ok () W := fun W => by
    simp [Instr.checkKey, run_underlying Try.underlying3, Result.andThen]
  rw [Instr.checkKey]
  simp [run_underlying Try.underlying58, Result.andThen, go_sem, h1, h2]
theorem lookup_none (mb clock : Nat) (a : Option Addr) (n : Int) (W : World) (h : W.heap[mb]? = some (.map #[] clock)) :
    (Instr.lookup 50 (.map (some mb)) (.agg #[.pointer a, .int .i64 n]) false).run Try.prog W = .ok (.slice none 0 0) W := by
  have hk := check_key true 9998 a n W
  rw [show 9998 + 2 = 10000 from rfl] at hk
  simp [Instr.lookup, run_underlying Try.underlying50, MapKept.run_getObj_map h, hk, run_underlying Try.underlying58, Result.andThen, Instr.findKey, Instr.findNow, go_sem]
end Go.Proofs.Ytfgaabjpkmmpdaa.Pp
