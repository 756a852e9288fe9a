/-
The law PropParams, of the program. Conditions: the parameters lie below the caller's blocks, the cards lie in memory to some depth.
-/
import Derived.Test.YtfgaabjpkmmpdaaPpParams
import Derived.Test.YtfgaabjpkmmpdaaPpPParam
import Derived.Test.YtfgaabjpkmmpdaaPpPWout
namespace Go.Proofs.Ytfgaabjpkmmpdaa.Pp
open Go.RowKit

theorem params_any (g n v : ByteArray) (pv : Value) (aa : Option Addr) (m ac : Nat) (ps : List (ByteArray × ByteArray)) (nm : ByteArray) (w : World) (hps : Ps w w.heap.size pv ps) (hag : ∃ k, AgT w w.heap.size k (.slice aa m ac)) :
    Calls Try.prog 4 #[prV g n pv v (.slice aa m ac), .string nm] w fun e w' => e = .returned (.bool true) ∧ Below w.heap.size w w' := by
  obtain ⟨k, hk⟩ := hag
  exact params_law g n v pv aa m ac ps nm k w hps hk (fun pv' W h _ _ => pGet_any g n pv' v (.slice aa m ac) nm ps W h (by omega)) (fun pv' W h ha _ _ => pWithout_any k g n v nm pv' aa m ac ps W h (by omega) ha)
end Go.Proofs.Ytfgaabjpkmmpdaa.Pp
