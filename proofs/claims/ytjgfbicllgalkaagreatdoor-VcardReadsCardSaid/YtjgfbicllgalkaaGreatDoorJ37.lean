/-
The closed facts of the row VcardReads: none of them speaks of a run. No conditions.
-/
import Derived.Test.YtjgfbicllgalkaaGreatDoorRows
import Derived.WalkKit
import Derived.ProofKit
import Derived.SevenTiedAt
import Derived.LaidOnce
import Derived.Stop.Joined
import Derived.LaidMore
namespace Go.Proofs.YtjgfbicllgalkaaGreatDoor.vcardReads
set_option maxRecDepth 100000
open Go.ChangeShapes Go.WideShapes Go.ChangeAt Go.RowKit
theorem fact_named : Tryz.pinned.checked.prog.funcNamed Rows.vcardReadsRow.func = some 4 := by kernel_rfl
theorem fact_closed : joinedFacts Tryz.pinned.checked.prog 4 Tryz.f4 Rows.vcardReadsSpec Rows.vcardReadsRow = true := by kernel_rfl
end Go.Proofs.YtjgfbicllgalkaaGreatDoor.vcardReads
