/-
  NARROWER THAN 'FOR EVERY INPUT', by the rows' own cells (each row's printed sentence says how): PropParams: loops.
  DERIVED. THE GIVEN ROWS OF THIS SEAT. 4 by the template 'for every input the law returns true; each argument reads behind the call as it read before'; 0 by the template 'total and deterministic' (their statements: YtbaigaenglhebaaTotals.lean).
  GIVEN WITH THE SEED: the statements are not yours to turn. If you find one false, say at which input.
  Laid BY PROGRAM, IN A SANDBOX (cutbox-rows.mjs): the forced cells as the released guide's own fill.sh prints them over the translation a0b6605301303f94… (all of the seat's roots in one cut). By AI agents, Wed Nov 11 2026. No macro, syntax, notation, axiom, sorry.
-/
import Derived.Test.YtbaigaenglhebaaChecked
import GoSem.Claim
import GoSem.ClaimJoined
import GoSem.ClaimMapViews
import Derived.JoinedTies
import Derived.KernelRfl
namespace Go.Proofs.Ytbaigaenglhebaa
/- THE CELL 'sum', in the pinned program and in every row, IS THE sha256 OF THE DUMP (.gsa) THAT YtbaigaenglhebaaProg.lean LOADS. Nothing in Lean hashes anything: it is a label: what it is worth is what the hold of that sum in a sandbox is worth. -/
noncomputable def Try.pinned : Pinned := { name := "ytbaigaenglhebaa", sum := "a0b6605301303f94e3c2d266e18eca8cd1469a972b3c885a54ce579b509e824e", checked := Try.checked }
namespace Rows
def none {H : Type} : Left H := { results := [], args := [] }

/-- 'cardcaselaw08.PropParams': WHATEVER THE INPUT: true; the input reads as it did. -/
def propParamsSpec : ChangeSpec := { name := "propParams", fn := fun _ => fun
  | [d1, d2] => { results := [.lit (.bool true)], args := [d1, d2] }
  | _ => none }
def propParamsRow : OpenClaim := { program := "ytbaigaenglhebaa", sum := "a0b6605301303f94e3c2d266e18eca8cd1469a972b3c885a54ce579b509e824e", func := "cardcase/cardcaselaw08.PropParams", spec := "propParams", unfollowed := true, recurses := true, loops := true, plainKeys := false, apart := false }
def PropParamsSaid : Prop := propParamsRow.holds Try.pinned (OpenSpec.ofChange propParamsSpec)

/-- ITS FALSE NEIGHBOUR: 'it returns false'. Refute it at one input. -/
def propParamsWrong : ChangeSpec := { name := "propParams", fn := fun _ => fun
  | [d1, d2] => { results := [.lit (.bool false)], args := [d1, d2] }
  | _ => none }
def PropParamsWrongFalsely : Prop := propParamsRow.holds Try.pinned (OpenSpec.ofChange propParamsWrong)

/-- 'cardcaselaw09.PartsTells': WHATEVER THE INPUT: true; the input reads as it did. -/
def partsTellsSpec : ChangeSpec := { name := "partsTells", fn := fun _ => fun
  | [d1, d2] => { results := [.lit (.bool true)], args := [d1, d2] }
  | _ => none }
def partsTellsRow : OpenClaim := { program := "ytbaigaenglhebaa", sum := "a0b6605301303f94e3c2d266e18eca8cd1469a972b3c885a54ce579b509e824e", func := "cardcase/cardcaselaw09.PartsTells", spec := "partsTells", unfollowed := true, recurses := true, plainKeys := false, apart := false }
def PartsTellsSaid : Prop := partsTellsRow.holds Try.pinned (OpenSpec.ofChange partsTellsSpec)

/-- ITS FALSE NEIGHBOUR: 'it returns false'. Refute it at one input. -/
def partsTellsWrong : ChangeSpec := { name := "partsTells", fn := fun _ => fun
  | [d1, d2] => { results := [.lit (.bool false)], args := [d1, d2] }
  | _ => none }
def PartsTellsWrongFalsely : Prop := partsTellsRow.holds Try.pinned (OpenSpec.ofChange partsTellsWrong)

/-- 'cardcaselaw09.PartsEach': WHATEVER THE INPUT: true; the input reads as it did. -/
def partsEachSpec : ChangeSpec := { name := "partsEach", fn := fun _ => fun
  | [d1, d2] => { results := [.lit (.bool true)], args := [d1, d2] }
  | _ => none }
def partsEachRow : OpenClaim := { program := "ytbaigaenglhebaa", sum := "a0b6605301303f94e3c2d266e18eca8cd1469a972b3c885a54ce579b509e824e", func := "cardcase/cardcaselaw09.PartsEach", spec := "partsEach", unfollowed := true, recurses := true, plainKeys := false, apart := false }
def PartsEachSaid : Prop := partsEachRow.holds Try.pinned (OpenSpec.ofChange partsEachSpec)

/-- ITS FALSE NEIGHBOUR: 'it returns false'. Refute it at one input. -/
def partsEachWrong : ChangeSpec := { name := "partsEach", fn := fun _ => fun
  | [d1, d2] => { results := [.lit (.bool false)], args := [d1, d2] }
  | _ => none }
def PartsEachWrongFalsely : Prop := partsEachRow.holds Try.pinned (OpenSpec.ofChange partsEachWrong)

/-- 'cardcaselaw09.PartsBack': WHATEVER THE INPUT: true; the input reads as it did. -/
def partsBackSpec : ChangeSpec := { name := "partsBack", fn := fun _ => fun
  | [d1, d2] => { results := [.lit (.bool true)], args := [d1, d2] }
  | _ => none }
def partsBackRow : OpenClaim := { program := "ytbaigaenglhebaa", sum := "a0b6605301303f94e3c2d266e18eca8cd1469a972b3c885a54ce579b509e824e", func := "cardcase/cardcaselaw09.PartsBack", spec := "partsBack", unfollowed := true, recurses := true, plainKeys := false, apart := false }
def PartsBackSaid : Prop := partsBackRow.holds Try.pinned (OpenSpec.ofChange partsBackSpec)

/-- ITS FALSE NEIGHBOUR: 'it returns false'. Refute it at one input. -/
def partsBackWrong : ChangeSpec := { name := "partsBack", fn := fun _ => fun
  | [d1, d2] => { results := [.lit (.bool false)], args := [d1, d2] }
  | _ => none }
def PartsBackWrongFalsely : Prop := partsBackRow.holds Try.pinned (OpenSpec.ofChange partsBackWrong)

/- THE SECOND FORM. 'bulk': how many values and letters a reading holds, each counted each time it is reached (what is shared counts as often as it is met; a slice's spare places count too). A statement '..UptoSaid' is the law's where the arguments, and the package variables that the reading takes, are together of bulk at most 1048576: NARROWER than '..Said'. Prove '..Said' where nothing that the law and all that it calls make is longer than what came in: it says more and counts as full. Else prove '..UptoSaid'. A law counts once. -/
mutual
def uptoBulk {H : Type} : DataW H → Nat
  | .lit (.string bytes) => bytes.length + 1
  | .lit _ => 1
  | .nil => 1
  | .ptr d => uptoBulk d + 1
  | .slice elems spare => uptoBulkAll elems + uptoBulkAll spare + 1
  | .agg parts => uptoBulkAll parts + 1
  | .iface _ d => uptoBulk d + 1
  | .map entries => uptoBulkEntries entries + 1
  | .held _ => 1
def uptoBulkAll {H : Type} : List (DataW H) → Nat
  | [] => 0
  | d :: r => uptoBulk d + uptoBulkAll r
def uptoBulkEntries {H : Type} : List (Lit × DataW H) → Nat
  | [] => 0
  | x :: r => uptoBulkEntry x + uptoBulkEntries r
def uptoBulkEntry {H : Type} : Lit × DataW H → Nat
  | (.string bytes, d) => bytes.length + uptoBulk d + 1
  | (_, d) => uptoBulk d + 1
 end
def uptoSmall : (H : Type) → List (DataW H) → Bool := fun _ ds => decide (uptoBulkAll ds ≤ 1048576)
def OpenSpec.upto (s : _root_.Go.ChangeSpec) : _root_.Go.OpenSpec := { _root_.Go.OpenSpec.ofChange s with cond := some uptoSmall }

/-- 'cardcaselaw08.PropParams', WHERE WHAT IT READS IS OF BULK AT MOST 1048576: true; the input reads as it did. -/
def propParamsUptoRow : OpenClaim := { program := "ytbaigaenglhebaa", sum := "a0b6605301303f94e3c2d266e18eca8cd1469a972b3c885a54ce579b509e824e", func := "cardcase/cardcaselaw08.PropParams", spec := "propParams", unfollowed := true, recurses := true, loops := true, plainKeys := false, apart := false, narrowed := true }
def PropParamsUptoSaid : Prop := propParamsUptoRow.holds Try.pinned (OpenSpec.upto propParamsSpec)

/-- 'cardcaselaw09.PartsTells', WHERE WHAT IT READS IS OF BULK AT MOST 1048576: true; the input reads as it did. -/
def partsTellsUptoRow : OpenClaim := { program := "ytbaigaenglhebaa", sum := "a0b6605301303f94e3c2d266e18eca8cd1469a972b3c885a54ce579b509e824e", func := "cardcase/cardcaselaw09.PartsTells", spec := "partsTells", unfollowed := true, recurses := true, plainKeys := false, apart := false, narrowed := true }
def PartsTellsUptoSaid : Prop := partsTellsUptoRow.holds Try.pinned (OpenSpec.upto partsTellsSpec)

/-- 'cardcaselaw09.PartsEach', WHERE WHAT IT READS IS OF BULK AT MOST 1048576: true; the input reads as it did. -/
def partsEachUptoRow : OpenClaim := { program := "ytbaigaenglhebaa", sum := "a0b6605301303f94e3c2d266e18eca8cd1469a972b3c885a54ce579b509e824e", func := "cardcase/cardcaselaw09.PartsEach", spec := "partsEach", unfollowed := true, recurses := true, plainKeys := false, apart := false, narrowed := true }
def PartsEachUptoSaid : Prop := partsEachUptoRow.holds Try.pinned (OpenSpec.upto partsEachSpec)

/-- 'cardcaselaw09.PartsBack', WHERE WHAT IT READS IS OF BULK AT MOST 1048576: true; the input reads as it did. -/
def partsBackUptoRow : OpenClaim := { program := "ytbaigaenglhebaa", sum := "a0b6605301303f94e3c2d266e18eca8cd1469a972b3c885a54ce579b509e824e", func := "cardcase/cardcaselaw09.PartsBack", spec := "partsBack", unfollowed := true, recurses := true, plainKeys := false, apart := false, narrowed := true }
def PartsBackUptoSaid : Prop := partsBackUptoRow.holds Try.pinned (OpenSpec.upto partsBackSpec)

end Rows
end Go.Proofs.Ytbaigaenglhebaa
