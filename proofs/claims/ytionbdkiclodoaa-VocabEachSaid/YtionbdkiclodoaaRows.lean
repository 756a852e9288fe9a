/-
  No cell of these rows narrows 'for every input' (looked for: loops, veiled, ifaces, maps, wideKeys, modest, calm, conditions, laid).
  DERIVED. THE GIVEN ROWS OF THIS SEAT. 3 by the template 'for every input the law returns true; each argument reads behind the call as it read before'; 0 by the template 'total and deterministic' (their statements: YtionbdkiclodoaaTotals.lean).
  GIVEN WITH THE SEED: the statements are not yours to turn. If you find one false, say at which input.
  Laid BY PROGRAM, IN A SANDBOX (cutbox-rows.mjs): the forced cells as the released guide's own fill.sh prints them over the translation 58c71d4188454cc4… (all of the seat's roots in one cut). By AI agents, Wed Nov 11 2026. No macro, syntax, notation, axiom, sorry.
-/
import Derived.Test.YtionbdkiclodoaaChecked
import GoSem.Claim
import GoSem.ClaimJoined
import GoSem.ClaimMapViews
import Derived.JoinedTies
import Derived.KernelRfl
namespace Go.Proofs.Ytionbdkiclodoaa
/- THE CELL 'sum', in the pinned program and in every row, IS THE sha256 OF THE DUMP (.gsa) THAT YtionbdkiclodoaaProg.lean LOADS. Nothing in Lean hashes anything: it is a label: what it is worth is what the hold of that sum in a sandbox is worth. -/
noncomputable def Try.pinned : Pinned := { name := "ytionbdkiclodoaa", sum := "58c71d4188454cc4d312db3764863776c71ddb4dad289bff61532972358a51e4", checked := Try.checked }
namespace Rows
def none {H : Type} : Left H := { results := [], args := [] }

/-- 'cardcaselaw14.VocabTells': WHATEVER THE INPUT: true; the input reads as it did. -/
def vocabTellsSpec : ChangeSpec := { name := "vocabTells", fn := fun _ => fun
  | [d1, d2, d3] => { results := [.lit (.bool true)], args := [d1, d2, d3] }
  | _ => none }
def vocabTellsRow : OpenClaim := { program := "ytionbdkiclodoaa", sum := "58c71d4188454cc4d312db3764863776c71ddb4dad289bff61532972358a51e4", func := "cardcase/cardcaselaw14.VocabTells", spec := "vocabTells", inPlace := ["internal/bytealg.IndexByteString", "internal/bytealg.IndexString"], unfollowed := true, recurses := true, named := ["internal/bytealg.MaxLen"], apart := false }
def VocabTellsSaid : Prop := vocabTellsRow.holds Try.pinned (OpenSpec.ofChange vocabTellsSpec)

/-- ITS FALSE NEIGHBOUR: 'it returns false'. Refute it at one input. -/
def vocabTellsWrong : ChangeSpec := { name := "vocabTells", fn := fun _ => fun
  | [d1, d2, d3] => { results := [.lit (.bool false)], args := [d1, d2, d3] }
  | _ => none }
def VocabTellsWrongFalsely : Prop := vocabTellsRow.holds Try.pinned (OpenSpec.ofChange vocabTellsWrong)

/-- 'cardcaselaw14.VocabEach': WHATEVER THE INPUT: true; the input reads as it did. -/
def vocabEachSpec : ChangeSpec := { name := "vocabEach", fn := fun _ => fun
  | [d1, d2] => { results := [.lit (.bool true)], args := [d1, d2] }
  | _ => none }
def vocabEachRow : OpenClaim := { program := "ytionbdkiclodoaa", sum := "58c71d4188454cc4d312db3764863776c71ddb4dad289bff61532972358a51e4", func := "cardcase/cardcaselaw14.VocabEach", spec := "vocabEach", inPlace := ["internal/bytealg.IndexByteString", "internal/bytealg.IndexString"], unfollowed := true, recurses := true, named := ["internal/bytealg.MaxLen"], apart := false }
def VocabEachSaid : Prop := vocabEachRow.holds Try.pinned (OpenSpec.ofChange vocabEachSpec)

/-- ITS FALSE NEIGHBOUR: 'it returns false'. Refute it at one input. -/
def vocabEachWrong : ChangeSpec := { name := "vocabEach", fn := fun _ => fun
  | [d1, d2] => { results := [.lit (.bool false)], args := [d1, d2] }
  | _ => none }
def VocabEachWrongFalsely : Prop := vocabEachRow.holds Try.pinned (OpenSpec.ofChange vocabEachWrong)

/-- 'cardcaselaw14.VocabOne': WHATEVER THE INPUT: true; the input reads as it did. -/
def vocabOneSpec : ChangeSpec := { name := "vocabOne", fn := fun _ => fun
  | [d1, d2, d3] => { results := [.lit (.bool true)], args := [d1, d2, d3] }
  | _ => none }
def vocabOneRow : OpenClaim := { program := "ytionbdkiclodoaa", sum := "58c71d4188454cc4d312db3764863776c71ddb4dad289bff61532972358a51e4", func := "cardcase/cardcaselaw14.VocabOne", spec := "vocabOne", inPlace := ["internal/bytealg.IndexByteString", "internal/bytealg.IndexString"], unfollowed := true, recurses := true, named := ["internal/bytealg.MaxLen"], apart := false }
def VocabOneSaid : Prop := vocabOneRow.holds Try.pinned (OpenSpec.ofChange vocabOneSpec)

/-- ITS FALSE NEIGHBOUR: 'it returns false'. Refute it at one input. -/
def vocabOneWrong : ChangeSpec := { name := "vocabOne", fn := fun _ => fun
  | [d1, d2, d3] => { results := [.lit (.bool false)], args := [d1, d2, d3] }
  | _ => none }
def VocabOneWrongFalsely : Prop := vocabOneRow.holds Try.pinned (OpenSpec.ofChange vocabOneWrong)

/- THE SECOND FORM. 'bulk': how many values and letters a reading holds, each counted each time it is reached (what is shared counts as often as it is met; a slice's spare places count too). A statement '..UptoSaid' is the law's where the arguments, and the package variables that the reading takes, are together of bulk at most 1048576: NARROWER than '..Said'. Prove '..Said' where nothing that the law and all that it calls make is longer than what came in: it says more and counts as full. Else prove '..UptoSaid'. A law counts once. -/
mutual
def uptoBulk {H : Type} : DataW H → Nat
  | .lit (.string bytes) => bytes.length + 1
  | .lit _ => 1
  | .nil => 1
  | .ptr d => uptoBulk d + 1
  | .slice elems spare => uptoBulkAll elems + uptoBulkAll spare + 1
  | .agg parts => uptoBulkAll parts + 1
  | .iface _ d => uptoBulk d + 1
  | .map entries => uptoBulkEntries entries + 1
  | .held _ => 1
def uptoBulkAll {H : Type} : List (DataW H) → Nat
  | [] => 0
  | d :: r => uptoBulk d + uptoBulkAll r
def uptoBulkEntries {H : Type} : List (Lit × DataW H) → Nat
  | [] => 0
  | x :: r => uptoBulkEntry x + uptoBulkEntries r
def uptoBulkEntry {H : Type} : Lit × DataW H → Nat
  | (.string bytes, d) => bytes.length + uptoBulk d + 1
  | (_, d) => uptoBulk d + 1
 end
def uptoSmall : (H : Type) → List (DataW H) → Bool := fun _ ds => decide (uptoBulkAll ds ≤ 1048576)
def OpenSpec.upto (s : _root_.Go.ChangeSpec) : _root_.Go.OpenSpec := { _root_.Go.OpenSpec.ofChange s with cond := some uptoSmall }

/-- 'cardcaselaw14.VocabTells', WHERE WHAT IT READS IS OF BULK AT MOST 1048576: true; the input reads as it did. -/
def vocabTellsUptoRow : OpenClaim := { program := "ytionbdkiclodoaa", sum := "58c71d4188454cc4d312db3764863776c71ddb4dad289bff61532972358a51e4", func := "cardcase/cardcaselaw14.VocabTells", spec := "vocabTells", inPlace := ["internal/bytealg.IndexByteString", "internal/bytealg.IndexString"], unfollowed := true, recurses := true, named := ["internal/bytealg.MaxLen"], apart := false, narrowed := true }
def VocabTellsUptoSaid : Prop := vocabTellsUptoRow.holds Try.pinned (OpenSpec.upto vocabTellsSpec)

/-- 'cardcaselaw14.VocabEach', WHERE WHAT IT READS IS OF BULK AT MOST 1048576: true; the input reads as it did. -/
def vocabEachUptoRow : OpenClaim := { program := "ytionbdkiclodoaa", sum := "58c71d4188454cc4d312db3764863776c71ddb4dad289bff61532972358a51e4", func := "cardcase/cardcaselaw14.VocabEach", spec := "vocabEach", inPlace := ["internal/bytealg.IndexByteString", "internal/bytealg.IndexString"], unfollowed := true, recurses := true, named := ["internal/bytealg.MaxLen"], apart := false, narrowed := true }
def VocabEachUptoSaid : Prop := vocabEachUptoRow.holds Try.pinned (OpenSpec.upto vocabEachSpec)

/-- 'cardcaselaw14.VocabOne', WHERE WHAT IT READS IS OF BULK AT MOST 1048576: true; the input reads as it did. -/
def vocabOneUptoRow : OpenClaim := { program := "ytionbdkiclodoaa", sum := "58c71d4188454cc4d312db3764863776c71ddb4dad289bff61532972358a51e4", func := "cardcase/cardcaselaw14.VocabOne", spec := "vocabOne", inPlace := ["internal/bytealg.IndexByteString", "internal/bytealg.IndexString"], unfollowed := true, recurses := true, named := ["internal/bytealg.MaxLen"], apart := false, narrowed := true }
def VocabOneUptoSaid : Prop := vocabOneUptoRow.holds Try.pinned (OpenSpec.upto vocabOneSpec)

end Rows
end Go.Proofs.Ytionbdkiclodoaa
