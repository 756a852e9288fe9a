/-
Which of two fields comes first: the program's answer and the document's are the plain order. Conditions: none.
-/
import Derived.Test.YtfghodakdnhleaaProg
import Derived.Test.YtfghodakdnhleaaChecked
import Derived.Test.YtfghodakdnhleaaCtMath
import Derived.WalkKit
import Derived.ProofKit
import Derived.Lib.Hide
import Derived.Deep.RegionHeld3
import Derived.BigQuiet
import Derived.Deep.QuietTactic
import Derived.RegionTactic
import Derived.Laws.Cover1
namespace Go.Proofs.Ytfghodakdnhleaa.Ct
set_option maxRecDepth 100000
open Go.RowKit

def or3 (a b c : Int) : Int := if a ≠ 0 then a else if b ≠ 0 then b else c
/-- A field as a value. -/
def fdV (x : Fd) : Value := .agg #[.string x.1, .string x.2.1, .string x.2.2]
theorem two_boxes (w : World) (o o' : Obj) : Below w.heap.size w ((w.alloc o).alloc o') := ((Below.refl _ _).alloc (Nat.le_refl _) _).alloc (by simp) _

theorem three_new (W : World) (a b c : Int) (z : Nat) (hz : W.heap.size = z) : ((W.alloc (.cells #[.int .i64 a, .int .i64 b, .int .i64 c] 3)).drew.cell? ⟨z, 0, none⟩ = some (.int .i64 a) ∧ (W.alloc (.cells #[.int .i64 a, .int .i64 b, .int .i64 c] 3)).drew.cell? ⟨z, 1, none⟩ = some (.int .i64 b) ∧ (W.alloc (.cells #[.int .i64 a, .int .i64 b, .int .i64 c] 3)).drew.cell? ⟨z, 2, none⟩ = some (.int .i64 c)) ∧ Below W.heap.size W (W.alloc (.cells #[.int .i64 a, .int .i64 b, .int .i64 c] 3)).drew := by
  subst hz
  have hZ := heap_alloc_new W (.cells #[.int .i64 a, .int .i64 b, .int .i64 c] 3)
  exact ⟨⟨cell_of_row _ _ 0 _ _ _ hZ, cell_of_row _ _ 1 _ _ _ hZ, cell_of_row _ _ 2 _ _ _ hZ⟩, ((Below.refl _ _).alloc (Nat.le_refl _) _).drew⟩
end Go.Proofs.Ytfghodakdnhleaa.Ct
