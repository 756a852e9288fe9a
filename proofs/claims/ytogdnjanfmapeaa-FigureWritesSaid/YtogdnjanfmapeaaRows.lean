/-
  No cell of these rows narrows 'for every input' (looked for: loops, veiled, ifaces, maps, wideKeys, modest, calm, conditions, laid).
  DERIVED. THE GIVEN ROWS OF THIS SEAT. 5 by the template 'for every input the law returns true; each argument reads behind the call as it read before'; 0 by the template 'total and deterministic' (their statements: YtogdnjanfmapeaaTotals.lean).
  GIVEN WITH THE SEED: the statements are not yours to turn. If you find one false, say at which input.
  Laid BY PROGRAM, IN A SANDBOX (cutbox-rows.mjs): the forced cells as the released guide's own fill.sh prints them over the translation ccce7dafe82fd335… (all of the seat's roots in one cut). By AI agents, Wed Nov 11 2026. No macro, syntax, notation, axiom, sorry.
-/
import Derived.Test.YtogdnjanfmapeaaChecked
import GoSem.Claim
import GoSem.ClaimJoined
import GoSem.ClaimMapViews
import Derived.JoinedTies
import Derived.KernelRfl
namespace Go.Proofs.Ytogdnjanfmapeaa
/- THE CELL 'sum', in the pinned program and in every row, IS THE sha256 OF THE DUMP (.gsa) THAT YtogdnjanfmapeaaProg.lean LOADS. Nothing in Lean hashes anything: it is a label: what it is worth is what the hold of that sum in a sandbox is worth. -/
noncomputable def Try.pinned : Pinned := { name := "ytogdnjanfmapeaa", sum := "ccce7dafe82fd3350e339c27026d09f659baa128949e2ee0bad7d2a940b15aa2", checked := Try.checked }
namespace Rows
def none {H : Type} : Left H := { results := [], args := [] }

/-- 'cardcaselaw01.FigureWrites': WHATEVER THE INPUT: true; the input reads as it did. -/
def figureWritesSpec : ChangeSpec := { name := "figureWrites", fn := fun _ => fun
  | [d1, d2] => { results := [.lit (.bool true)], args := [d1, d2] }
  | _ => none }
def figureWritesRow : OpenClaim := { program := "ytogdnjanfmapeaa", sum := "ccce7dafe82fd3350e339c27026d09f659baa128949e2ee0bad7d2a940b15aa2", func := "cardcase/cardcaselaw01.FigureWrites", spec := "figureWrites", unfollowed := true, recurses := true, apart := false }
def FigureWritesSaid : Prop := figureWritesRow.holds Try.pinned (OpenSpec.ofChange figureWritesSpec)

/-- ITS FALSE NEIGHBOUR: 'it returns false'. Refute it at one input. -/
def figureWritesWrong : ChangeSpec := { name := "figureWrites", fn := fun _ => fun
  | [d1, d2] => { results := [.lit (.bool false)], args := [d1, d2] }
  | _ => none }
def FigureWritesWrongFalsely : Prop := figureWritesRow.holds Try.pinned (OpenSpec.ofChange figureWritesWrong)

/-- 'cardcaselaw01.FigureReads': WHATEVER THE INPUT: true; the input reads as it did. -/
def figureReadsSpec : ChangeSpec := { name := "figureReads", fn := fun _ => fun
  | [d] => { results := [.lit (.bool true)], args := [d] }
  | _ => none }
def figureReadsRow : OpenClaim := { program := "ytogdnjanfmapeaa", sum := "ccce7dafe82fd3350e339c27026d09f659baa128949e2ee0bad7d2a940b15aa2", func := "cardcase/cardcaselaw01.FigureReads", spec := "figureReads", apart := false }
def FigureReadsSaid : Prop := figureReadsRow.holds Try.pinned (OpenSpec.ofChange figureReadsSpec)

/-- ITS FALSE NEIGHBOUR: 'it returns false'. Refute it at one input. -/
def figureReadsWrong : ChangeSpec := { name := "figureReads", fn := fun _ => fun
  | [d] => { results := [.lit (.bool false)], args := [d] }
  | _ => none }
def FigureReadsWrongFalsely : Prop := figureReadsRow.holds Try.pinned (OpenSpec.ofChange figureReadsWrong)

/-- 'cardcaselaw01.FigureHexes': WHATEVER THE INPUT: true; the input reads as it did. -/
def figureHexesSpec : ChangeSpec := { name := "figureHexes", fn := fun _ => fun
  | [d] => { results := [.lit (.bool true)], args := [d] }
  | _ => none }
def figureHexesRow : OpenClaim := { program := "ytogdnjanfmapeaa", sum := "ccce7dafe82fd3350e339c27026d09f659baa128949e2ee0bad7d2a940b15aa2", func := "cardcase/cardcaselaw01.FigureHexes", spec := "figureHexes", apart := false }
def FigureHexesSaid : Prop := figureHexesRow.holds Try.pinned (OpenSpec.ofChange figureHexesSpec)

/-- ITS FALSE NEIGHBOUR: 'it returns false'. Refute it at one input. -/
def figureHexesWrong : ChangeSpec := { name := "figureHexes", fn := fun _ => fun
  | [d] => { results := [.lit (.bool false)], args := [d] }
  | _ => none }
def FigureHexesWrongFalsely : Prop := figureHexesRow.holds Try.pinned (OpenSpec.ofChange figureHexesWrong)

/-- 'cardcaselaw01.FigureWithin': WHATEVER THE INPUT: true; the input reads as it did. -/
def figureWithinSpec : ChangeSpec := { name := "figureWithin", fn := fun _ => fun
  | [d1, d2, d3] => { results := [.lit (.bool true)], args := [d1, d2, d3] }
  | _ => none }
def figureWithinRow : OpenClaim := { program := "ytogdnjanfmapeaa", sum := "ccce7dafe82fd3350e339c27026d09f659baa128949e2ee0bad7d2a940b15aa2", func := "cardcase/cardcaselaw01.FigureWithin", spec := "figureWithin", apart := false }
def FigureWithinSaid : Prop := figureWithinRow.holds Try.pinned (OpenSpec.ofChange figureWithinSpec)

/-- ITS FALSE NEIGHBOUR: 'it returns false'. Refute it at one input. -/
def figureWithinWrong : ChangeSpec := { name := "figureWithin", fn := fun _ => fun
  | [d1, d2, d3] => { results := [.lit (.bool false)], args := [d1, d2, d3] }
  | _ => none }
def FigureWithinWrongFalsely : Prop := figureWithinRow.holds Try.pinned (OpenSpec.ofChange figureWithinWrong)

/-- 'cardcaselaw01.FigureBack': WHATEVER THE INPUT: true; the input reads as it did. -/
def figureBackSpec : ChangeSpec := { name := "figureBack", fn := fun _ => fun
  | [d1, d2] => { results := [.lit (.bool true)], args := [d1, d2] }
  | _ => none }
def figureBackRow : OpenClaim := { program := "ytogdnjanfmapeaa", sum := "ccce7dafe82fd3350e339c27026d09f659baa128949e2ee0bad7d2a940b15aa2", func := "cardcase/cardcaselaw01.FigureBack", spec := "figureBack", unfollowed := true, recurses := true, apart := false }
def FigureBackSaid : Prop := figureBackRow.holds Try.pinned (OpenSpec.ofChange figureBackSpec)

/-- ITS FALSE NEIGHBOUR: 'it returns false'. Refute it at one input. -/
def figureBackWrong : ChangeSpec := { name := "figureBack", fn := fun _ => fun
  | [d1, d2] => { results := [.lit (.bool false)], args := [d1, d2] }
  | _ => none }
def FigureBackWrongFalsely : Prop := figureBackRow.holds Try.pinned (OpenSpec.ofChange figureBackWrong)

/- THE SECOND FORM. 'bulk': how many values and letters a reading holds, each counted each time it is reached (what is shared counts as often as it is met; a slice's spare places count too). A statement '..UptoSaid' is the law's where the arguments, and the package variables that the reading takes, are together of bulk at most 1048576: NARROWER than '..Said'. Prove '..Said' where nothing that the law and all that it calls make is longer than what came in: it says more and counts as full. Else prove '..UptoSaid'. A law counts once. -/
mutual
def uptoBulk {H : Type} : DataW H → Nat
  | .lit (.string bytes) => bytes.length + 1
  | .lit _ => 1
  | .nil => 1
  | .ptr d => uptoBulk d + 1
  | .slice elems spare => uptoBulkAll elems + uptoBulkAll spare + 1
  | .agg parts => uptoBulkAll parts + 1
  | .iface _ d => uptoBulk d + 1
  | .map entries => uptoBulkEntries entries + 1
  | .held _ => 1
def uptoBulkAll {H : Type} : List (DataW H) → Nat
  | [] => 0
  | d :: r => uptoBulk d + uptoBulkAll r
def uptoBulkEntries {H : Type} : List (Lit × DataW H) → Nat
  | [] => 0
  | x :: r => uptoBulkEntry x + uptoBulkEntries r
def uptoBulkEntry {H : Type} : Lit × DataW H → Nat
  | (.string bytes, d) => bytes.length + uptoBulk d + 1
  | (_, d) => uptoBulk d + 1
 end
def uptoSmall : (H : Type) → List (DataW H) → Bool := fun _ ds => decide (uptoBulkAll ds ≤ 1048576)
def OpenSpec.upto (s : _root_.Go.ChangeSpec) : _root_.Go.OpenSpec := { _root_.Go.OpenSpec.ofChange s with cond := some uptoSmall }

/-- 'cardcaselaw01.FigureWrites', WHERE WHAT IT READS IS OF BULK AT MOST 1048576: true; the input reads as it did. -/
def figureWritesUptoRow : OpenClaim := { program := "ytogdnjanfmapeaa", sum := "ccce7dafe82fd3350e339c27026d09f659baa128949e2ee0bad7d2a940b15aa2", func := "cardcase/cardcaselaw01.FigureWrites", spec := "figureWrites", unfollowed := true, recurses := true, apart := false, narrowed := true }
def FigureWritesUptoSaid : Prop := figureWritesUptoRow.holds Try.pinned (OpenSpec.upto figureWritesSpec)

/-- 'cardcaselaw01.FigureReads', WHERE WHAT IT READS IS OF BULK AT MOST 1048576: true; the input reads as it did. -/
def figureReadsUptoRow : OpenClaim := { program := "ytogdnjanfmapeaa", sum := "ccce7dafe82fd3350e339c27026d09f659baa128949e2ee0bad7d2a940b15aa2", func := "cardcase/cardcaselaw01.FigureReads", spec := "figureReads", apart := false, narrowed := true }
def FigureReadsUptoSaid : Prop := figureReadsUptoRow.holds Try.pinned (OpenSpec.upto figureReadsSpec)

/-- 'cardcaselaw01.FigureHexes', WHERE WHAT IT READS IS OF BULK AT MOST 1048576: true; the input reads as it did. -/
def figureHexesUptoRow : OpenClaim := { program := "ytogdnjanfmapeaa", sum := "ccce7dafe82fd3350e339c27026d09f659baa128949e2ee0bad7d2a940b15aa2", func := "cardcase/cardcaselaw01.FigureHexes", spec := "figureHexes", apart := false, narrowed := true }
def FigureHexesUptoSaid : Prop := figureHexesUptoRow.holds Try.pinned (OpenSpec.upto figureHexesSpec)

/-- 'cardcaselaw01.FigureWithin', WHERE WHAT IT READS IS OF BULK AT MOST 1048576: true; the input reads as it did. -/
def figureWithinUptoRow : OpenClaim := { program := "ytogdnjanfmapeaa", sum := "ccce7dafe82fd3350e339c27026d09f659baa128949e2ee0bad7d2a940b15aa2", func := "cardcase/cardcaselaw01.FigureWithin", spec := "figureWithin", apart := false, narrowed := true }
def FigureWithinUptoSaid : Prop := figureWithinUptoRow.holds Try.pinned (OpenSpec.upto figureWithinSpec)

/-- 'cardcaselaw01.FigureBack', WHERE WHAT IT READS IS OF BULK AT MOST 1048576: true; the input reads as it did. -/
def figureBackUptoRow : OpenClaim := { program := "ytogdnjanfmapeaa", sum := "ccce7dafe82fd3350e339c27026d09f659baa128949e2ee0bad7d2a940b15aa2", func := "cardcase/cardcaselaw01.FigureBack", spec := "figureBack", unfollowed := true, recurses := true, apart := false, narrowed := true }
def FigureBackUptoSaid : Prop := figureBackUptoRow.holds Try.pinned (OpenSpec.upto figureBackSpec)

end Rows
end Go.Proofs.Ytogdnjanfmapeaa
