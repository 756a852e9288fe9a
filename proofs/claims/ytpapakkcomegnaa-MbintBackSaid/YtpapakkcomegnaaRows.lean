/-
  No cell of these rows narrows 'for every input' (looked for: loops, veiled, ifaces, maps, wideKeys, modest, calm, conditions, laid).
  DERIVED. THE GIVEN ROWS OF THIS SEAT. 4 by the template 'for every input the law returns true; each argument reads behind the call as it read before'; 0 by the template 'total and deterministic' (their statements: YtpapakkcomegnaaTotals.lean).
  GIVEN WITH THE SEED: the statements are not yours to turn. If you find one false, say at which input.
  Laid BY PROGRAM, IN A SANDBOX (cutbox-rows.mjs): the forced cells as the released guide's own fill.sh prints them over the translation cc02c10e9d475b1c… (all of the seat's roots in one cut). By AI agents, Wed Nov 11 2026. No macro, syntax, notation, axiom, sorry.
-/
import Derived.Test.YtpapakkcomegnaaChecked
import GoSem.Claim
import GoSem.ClaimJoined
import GoSem.ClaimMapViews
import Derived.JoinedTies
import Derived.KernelRfl
namespace Go.Proofs.Ytpapakkcomegnaa
/- THE CELL 'sum', in the pinned program and in every row, IS THE sha256 OF THE DUMP (.gsa) THAT YtpapakkcomegnaaProg.lean LOADS. Nothing in Lean hashes anything: it is a label: what it is worth is what the hold of that sum in a sandbox is worth. -/
noncomputable def Try.pinned : Pinned := { name := "ytpapakkcomegnaa", sum := "cc02c10e9d475b1c2f3affbbbb0a92282fec929caafa3c50f20d059a8557e2d5", checked := Try.checked }
namespace Rows
def none {H : Type} : Left H := { results := [], args := [] }

/-- 'cardcaselaw02.MbintWrites': WHATEVER THE INPUT: true; the input reads as it did. -/
def mbintWritesSpec : ChangeSpec := { name := "mbintWrites", fn := fun _ => fun
  | [d] => { results := [.lit (.bool true)], args := [d] }
  | _ => none }
def mbintWritesRow : OpenClaim := { program := "ytpapakkcomegnaa", sum := "cc02c10e9d475b1c2f3affbbbb0a92282fec929caafa3c50f20d059a8557e2d5", func := "cardcase/cardcaselaw02.MbintWrites", spec := "mbintWrites", apart := false }
def MbintWritesSaid : Prop := mbintWritesRow.holds Try.pinned (OpenSpec.ofChange mbintWritesSpec)

/-- ITS FALSE NEIGHBOUR: 'it returns false'. Refute it at one input. -/
def mbintWritesWrong : ChangeSpec := { name := "mbintWrites", fn := fun _ => fun
  | [d] => { results := [.lit (.bool false)], args := [d] }
  | _ => none }
def MbintWritesWrongFalsely : Prop := mbintWritesRow.holds Try.pinned (OpenSpec.ofChange mbintWritesWrong)

/-- 'cardcaselaw02.MbintReads': WHATEVER THE INPUT: true; the input reads as it did. -/
def mbintReadsSpec : ChangeSpec := { name := "mbintReads", fn := fun _ => fun
  | [d1, d2] => { results := [.lit (.bool true)], args := [d1, d2] }
  | _ => none }
def mbintReadsRow : OpenClaim := { program := "ytpapakkcomegnaa", sum := "cc02c10e9d475b1c2f3affbbbb0a92282fec929caafa3c50f20d059a8557e2d5", func := "cardcase/cardcaselaw02.MbintReads", spec := "mbintReads", inPlace := ["internal/bytealg.IndexByteString", "internal/bytealg.IndexString"], unfollowed := true, recurses := true, named := ["internal/bytealg.MaxLen"], apart := false }
def MbintReadsSaid : Prop := mbintReadsRow.holds Try.pinned (OpenSpec.ofChange mbintReadsSpec)

/-- ITS FALSE NEIGHBOUR: 'it returns false'. Refute it at one input. -/
def mbintReadsWrong : ChangeSpec := { name := "mbintReads", fn := fun _ => fun
  | [d1, d2] => { results := [.lit (.bool false)], args := [d1, d2] }
  | _ => none }
def MbintReadsWrongFalsely : Prop := mbintReadsRow.holds Try.pinned (OpenSpec.ofChange mbintReadsWrong)

/-- 'cardcaselaw02.MbintBack': WHATEVER THE INPUT: true; the input reads as it did. -/
def mbintBackSpec : ChangeSpec := { name := "mbintBack", fn := fun _ => fun
  | [d1, d2] => { results := [.lit (.bool true)], args := [d1, d2] }
  | _ => none }
def mbintBackRow : OpenClaim := { program := "ytpapakkcomegnaa", sum := "cc02c10e9d475b1c2f3affbbbb0a92282fec929caafa3c50f20d059a8557e2d5", func := "cardcase/cardcaselaw02.MbintBack", spec := "mbintBack", inPlace := ["internal/bytealg.IndexByteString", "internal/bytealg.IndexString"], unfollowed := true, recurses := true, named := ["internal/bytealg.MaxLen"], apart := false }
def MbintBackSaid : Prop := mbintBackRow.holds Try.pinned (OpenSpec.ofChange mbintBackSpec)

/-- ITS FALSE NEIGHBOUR: 'it returns false'. Refute it at one input. -/
def mbintBackWrong : ChangeSpec := { name := "mbintBack", fn := fun _ => fun
  | [d1, d2] => { results := [.lit (.bool false)], args := [d1, d2] }
  | _ => none }
def MbintBackWrongFalsely : Prop := mbintBackRow.holds Try.pinned (OpenSpec.ofChange mbintBackWrong)

/-- 'cardcaselaw02.MbintOrder': WHATEVER THE INPUT: true; the input reads as it did. -/
def mbintOrderSpec : ChangeSpec := { name := "mbintOrder", fn := fun _ => fun
  | [d1, d2] => { results := [.lit (.bool true)], args := [d1, d2] }
  | _ => none }
def mbintOrderRow : OpenClaim := { program := "ytpapakkcomegnaa", sum := "cc02c10e9d475b1c2f3affbbbb0a92282fec929caafa3c50f20d059a8557e2d5", func := "cardcase/cardcaselaw02.MbintOrder", spec := "mbintOrder", inPlace := ["internal/bytealg.IndexByteString", "internal/bytealg.IndexString"], unfollowed := true, recurses := true, named := ["internal/bytealg.MaxLen"], apart := false }
def MbintOrderSaid : Prop := mbintOrderRow.holds Try.pinned (OpenSpec.ofChange mbintOrderSpec)

/-- ITS FALSE NEIGHBOUR: 'it returns false'. Refute it at one input. -/
def mbintOrderWrong : ChangeSpec := { name := "mbintOrder", fn := fun _ => fun
  | [d1, d2] => { results := [.lit (.bool false)], args := [d1, d2] }
  | _ => none }
def MbintOrderWrongFalsely : Prop := mbintOrderRow.holds Try.pinned (OpenSpec.ofChange mbintOrderWrong)

/- THE SECOND FORM. 'bulk': how many values and letters a reading holds, each counted each time it is reached (what is shared counts as often as it is met; a slice's spare places count too). A statement '..UptoSaid' is the law's where the arguments, and the package variables that the reading takes, are together of bulk at most 1048576: NARROWER than '..Said'. Prove '..Said' where nothing that the law and all that it calls make is longer than what came in: it says more and counts as full. Else prove '..UptoSaid'. A law counts once. -/
mutual
def uptoBulk {H : Type} : DataW H → Nat
  | .lit (.string bytes) => bytes.length + 1
  | .lit _ => 1
  | .nil => 1
  | .ptr d => uptoBulk d + 1
  | .slice elems spare => uptoBulkAll elems + uptoBulkAll spare + 1
  | .agg parts => uptoBulkAll parts + 1
  | .iface _ d => uptoBulk d + 1
  | .map entries => uptoBulkEntries entries + 1
  | .held _ => 1
def uptoBulkAll {H : Type} : List (DataW H) → Nat
  | [] => 0
  | d :: r => uptoBulk d + uptoBulkAll r
def uptoBulkEntries {H : Type} : List (Lit × DataW H) → Nat
  | [] => 0
  | x :: r => uptoBulkEntry x + uptoBulkEntries r
def uptoBulkEntry {H : Type} : Lit × DataW H → Nat
  | (.string bytes, d) => bytes.length + uptoBulk d + 1
  | (_, d) => uptoBulk d + 1
 end
def uptoSmall : (H : Type) → List (DataW H) → Bool := fun _ ds => decide (uptoBulkAll ds ≤ 1048576)
def OpenSpec.upto (s : _root_.Go.ChangeSpec) : _root_.Go.OpenSpec := { _root_.Go.OpenSpec.ofChange s with cond := some uptoSmall }

/-- 'cardcaselaw02.MbintWrites', WHERE WHAT IT READS IS OF BULK AT MOST 1048576: true; the input reads as it did. -/
def mbintWritesUptoRow : OpenClaim := { program := "ytpapakkcomegnaa", sum := "cc02c10e9d475b1c2f3affbbbb0a92282fec929caafa3c50f20d059a8557e2d5", func := "cardcase/cardcaselaw02.MbintWrites", spec := "mbintWrites", apart := false, narrowed := true }
def MbintWritesUptoSaid : Prop := mbintWritesUptoRow.holds Try.pinned (OpenSpec.upto mbintWritesSpec)

/-- 'cardcaselaw02.MbintReads', WHERE WHAT IT READS IS OF BULK AT MOST 1048576: true; the input reads as it did. -/
def mbintReadsUptoRow : OpenClaim := { program := "ytpapakkcomegnaa", sum := "cc02c10e9d475b1c2f3affbbbb0a92282fec929caafa3c50f20d059a8557e2d5", func := "cardcase/cardcaselaw02.MbintReads", spec := "mbintReads", inPlace := ["internal/bytealg.IndexByteString", "internal/bytealg.IndexString"], unfollowed := true, recurses := true, named := ["internal/bytealg.MaxLen"], apart := false, narrowed := true }
def MbintReadsUptoSaid : Prop := mbintReadsUptoRow.holds Try.pinned (OpenSpec.upto mbintReadsSpec)

/-- 'cardcaselaw02.MbintBack', WHERE WHAT IT READS IS OF BULK AT MOST 1048576: true; the input reads as it did. -/
def mbintBackUptoRow : OpenClaim := { program := "ytpapakkcomegnaa", sum := "cc02c10e9d475b1c2f3affbbbb0a92282fec929caafa3c50f20d059a8557e2d5", func := "cardcase/cardcaselaw02.MbintBack", spec := "mbintBack", inPlace := ["internal/bytealg.IndexByteString", "internal/bytealg.IndexString"], unfollowed := true, recurses := true, named := ["internal/bytealg.MaxLen"], apart := false, narrowed := true }
def MbintBackUptoSaid : Prop := mbintBackUptoRow.holds Try.pinned (OpenSpec.upto mbintBackSpec)

/-- 'cardcaselaw02.MbintOrder', WHERE WHAT IT READS IS OF BULK AT MOST 1048576: true; the input reads as it did. -/
def mbintOrderUptoRow : OpenClaim := { program := "ytpapakkcomegnaa", sum := "cc02c10e9d475b1c2f3affbbbb0a92282fec929caafa3c50f20d059a8557e2d5", func := "cardcase/cardcaselaw02.MbintOrder", spec := "mbintOrder", inPlace := ["internal/bytealg.IndexByteString", "internal/bytealg.IndexString"], unfollowed := true, recurses := true, named := ["internal/bytealg.MaxLen"], apart := false, narrowed := true }
def MbintOrderUptoSaid : Prop := mbintOrderUptoRow.holds Try.pinned (OpenSpec.upto mbintOrderSpec)

end Rows
end Go.Proofs.Ytpapakkcomegnaa
