/-
  NARROWER THAN 'FOR EVERY INPUT', by the rows' own cells (each row's printed sentence says how): VcardPrints: loops, laid · VcardReads: laid · VcardSame: loops, laid · VcardBack: loops, laid · VcardLines: loops, laid · ContactPrints: laid · ContactSays: loops, laid · ContactBack: loops, laid · ContactOrder: loops, laid.
  DERIVED. THE GIVEN ROWS OF THIS SEAT. 9 by the template 'for every input the law returns true; each argument reads behind the call as it read before'; 0 by the template 'total and deterministic' (their statements: YtjgfbicllgalkaaGreatDoorTotals.lean).
  GIVEN WITH THE SEED: the statements are not yours to turn. If you find one false, say at which input.
  Laid BY PROGRAM, IN A SANDBOX (cutbox-rows.mjs): the forced cells as the released guide's own fill.sh prints them over the translation 12c28c8b5351029d… (all of the seat's roots in one cut). By AI agents, Wed Nov 11 2026. No macro, syntax, notation, axiom, sorry.
-/
import Derived.Test.YtjgfbicllgalkaaGreatDoorChecked
import GoSem.PinnedTables
import GoSem.Claim
import GoSem.ClaimJoined
import GoSem.ClaimMapViews
import Derived.JoinedTies
import Derived.KernelRfl
namespace Go.Proofs.YtjgfbicllgalkaaGreatDoor
/- THE CELL 'sum', in the pinned program and in every row, IS THE sha256 OF THE DUMP (.gsa) THAT YtjgfbicllgalkaaGreatDoorProg.lean LOADS. Nothing in Lean hashes anything: it is a label: what it is worth is what the hold of that sum in a sandbox is worth. -/
noncomputable def Tryz.pinned : Pinned := { name := "ytjgfbicllgalkaagreatdoor", sum := "12c28c8b5351029d5560f91f475288cffa896e661b00f335b7c8ea4d9e7dae0b", checked := Tryz.checked }
namespace Rows
def none {H : Type} : Left H := { results := [], args := [] }

/- WHAT THE LISTED PACKAGE-LEVEL VARIABLES READ AS WHEN THE CALL BEGINS. Each datum BY PROGRAM (the guide's laid-datum.mjs) off the statement by which the dump's own 'gosem.cut.vars' lays the variable. In a bare row this is a premise. The card (YtjgfbicllgalkaaGreatDoorCards.lean) ties it to the program's text. -/
def laid_unicode_utf8_acceptRanges {H : Type} : DataW H := .agg [.agg [.lit (.int .u8 128), .lit (.int .u8 191)], .agg [.lit (.int .u8 160), .lit (.int .u8 191)], .agg [.lit (.int .u8 128), .lit (.int .u8 159)], .agg [.lit (.int .u8 144), .lit (.int .u8 191)], .agg [.lit (.int .u8 128), .lit (.int .u8 143)], .agg [.lit (.int .u8 0), .lit (.int .u8 0)], .agg [.lit (.int .u8 0), .lit (.int .u8 0)], .agg [.lit (.int .u8 0), .lit (.int .u8 0)], .agg [.lit (.int .u8 0), .lit (.int .u8 0)], .agg [.lit (.int .u8 0), .lit (.int .u8 0)], .agg [.lit (.int .u8 0), .lit (.int .u8 0)], .agg [.lit (.int .u8 0), .lit (.int .u8 0)], .agg [.lit (.int .u8 0), .lit (.int .u8 0)], .agg [.lit (.int .u8 0), .lit (.int .u8 0)], .agg [.lit (.int .u8 0), .lit (.int .u8 0)], .agg [.lit (.int .u8 0), .lit (.int .u8 0)]]
/-- One of Go's own tables, pinned by name: the form's constant. -/
def laid_unicode_utf8_first : DataW Unit := Go.Pinned.utf8First
/-- One of Go's own tables, pinned by name: the form's constant. -/
def laid_unicode_CaseRanges : DataW Unit := Go.Pinned.caseRanges

/-- 'cardcaselaw10.VcardPrints': WHATEVER THE INPUT: true; the input reads as it did. -/
def vcardPrintsSpec : ChangeSpec := { name := "vcardPrints", fn := fun _ => fun
  | [d] => { results := [.lit (.bool true)], args := [d] }
  | _ => none }
def vcardPrintsRow : OpenClaim := { program := "ytjgfbicllgalkaagreatdoor", sum := "12c28c8b5351029d5560f91f475288cffa896e661b00f335b7c8ea4d9e7dae0b", func := "cardcase/cardcaselaw10.VcardPrints", spec := "vcardPrints", inPlace := ["internal/bytealg.IndexByteString", "internal/bytealg.IndexString"], unfollowed := true, recurses := true, named := ["unicode/utf8.first", "unicode/utf8.acceptRanges", "internal/bytealg.MaxLen"], loops := true, plainKeys := false, apart := false, laid := [("unicode/utf8.acceptRanges", laid_unicode_utf8_acceptRanges), ("unicode/utf8.first", laid_unicode_utf8_first)] }
def VcardPrintsSaid : Prop := vcardPrintsRow.holds Tryz.pinned (OpenSpec.ofChange vcardPrintsSpec)

/-- ITS FALSE NEIGHBOUR: 'it returns false'. Refute it at one input. -/
def vcardPrintsWrong : ChangeSpec := { name := "vcardPrints", fn := fun _ => fun
  | [d] => { results := [.lit (.bool false)], args := [d] }
  | _ => none }
def VcardPrintsWrongFalsely : Prop := vcardPrintsRow.holds Tryz.pinned (OpenSpec.ofChange vcardPrintsWrong)

/-- 'cardcaselaw10.VcardReads': WHATEVER THE INPUT: true; the input reads as it did. -/
def vcardReadsSpec : ChangeSpec := { name := "vcardReads", fn := fun _ => fun
  | [d] => { results := [.lit (.bool true)], args := [d] }
  | _ => none }
def vcardReadsRow : OpenClaim := { program := "ytjgfbicllgalkaagreatdoor", sum := "12c28c8b5351029d5560f91f475288cffa896e661b00f335b7c8ea4d9e7dae0b", func := "cardcase/cardcaselaw10.VcardReads", spec := "vcardReads", inPlace := ["internal/bytealg.IndexByteString", "internal/bytealg.IndexString", "internal/abi.NoEscape", "internal/bytealg.MakeNoZero"], unfollowed := true, recurses := true, named := ["internal/bytealg.MaxLen", "unicode/utf8.first", "unicode/utf8.acceptRanges", "unicode.CaseRanges"], plainKeys := false, apart := false, laid := [("unicode/utf8.acceptRanges", laid_unicode_utf8_acceptRanges), ("unicode.CaseRanges", laid_unicode_CaseRanges), ("unicode/utf8.first", laid_unicode_utf8_first)] }
def VcardReadsSaid : Prop := vcardReadsRow.holds Tryz.pinned (OpenSpec.ofChange vcardReadsSpec)

/-- ITS FALSE NEIGHBOUR: 'it returns false'. Refute it at one input. -/
def vcardReadsWrong : ChangeSpec := { name := "vcardReads", fn := fun _ => fun
  | [d] => { results := [.lit (.bool false)], args := [d] }
  | _ => none }
def VcardReadsWrongFalsely : Prop := vcardReadsRow.holds Tryz.pinned (OpenSpec.ofChange vcardReadsWrong)

/-- 'cardcaselaw10.VcardSame': WHATEVER THE INPUT: true; the input reads as it did. -/
def vcardSameSpec : ChangeSpec := { name := "vcardSame", fn := fun _ => fun
  | [d1, d2] => { results := [.lit (.bool true)], args := [d1, d2] }
  | _ => none }
def vcardSameRow : OpenClaim := { program := "ytjgfbicllgalkaagreatdoor", sum := "12c28c8b5351029d5560f91f475288cffa896e661b00f335b7c8ea4d9e7dae0b", func := "cardcase/cardcaselaw10.VcardSame", spec := "vcardSame", inPlace := ["internal/bytealg.IndexByteString", "internal/bytealg.IndexString", "internal/abi.NoEscape", "internal/bytealg.MakeNoZero"], unfollowed := true, recurses := true, named := ["unicode/utf8.first", "unicode/utf8.acceptRanges", "internal/bytealg.MaxLen", "unicode.CaseRanges"], loops := true, plainKeys := false, apart := false, laid := [("unicode/utf8.acceptRanges", laid_unicode_utf8_acceptRanges), ("unicode.CaseRanges", laid_unicode_CaseRanges), ("unicode/utf8.first", laid_unicode_utf8_first)] }
def VcardSameSaid : Prop := vcardSameRow.holds Tryz.pinned (OpenSpec.ofChange vcardSameSpec)

/-- ITS FALSE NEIGHBOUR: 'it returns false'. Refute it at one input. -/
def vcardSameWrong : ChangeSpec := { name := "vcardSame", fn := fun _ => fun
  | [d1, d2] => { results := [.lit (.bool false)], args := [d1, d2] }
  | _ => none }
def VcardSameWrongFalsely : Prop := vcardSameRow.holds Tryz.pinned (OpenSpec.ofChange vcardSameWrong)

/-- 'cardcaselaw10.VcardBack': WHATEVER THE INPUT: true; the input reads as it did. -/
def vcardBackSpec : ChangeSpec := { name := "vcardBack", fn := fun _ => fun
  | [d1, d2] => { results := [.lit (.bool true)], args := [d1, d2] }
  | _ => none }
def vcardBackRow : OpenClaim := { program := "ytjgfbicllgalkaagreatdoor", sum := "12c28c8b5351029d5560f91f475288cffa896e661b00f335b7c8ea4d9e7dae0b", func := "cardcase/cardcaselaw10.VcardBack", spec := "vcardBack", inPlace := ["internal/bytealg.IndexByteString", "internal/bytealg.IndexString", "internal/abi.NoEscape", "internal/bytealg.MakeNoZero"], unfollowed := true, recurses := true, named := ["unicode/utf8.first", "unicode/utf8.acceptRanges", "internal/bytealg.MaxLen", "unicode.CaseRanges"], loops := true, plainKeys := false, apart := false, laid := [("unicode/utf8.acceptRanges", laid_unicode_utf8_acceptRanges), ("unicode.CaseRanges", laid_unicode_CaseRanges), ("unicode/utf8.first", laid_unicode_utf8_first)] }
def VcardBackSaid : Prop := vcardBackRow.holds Tryz.pinned (OpenSpec.ofChange vcardBackSpec)

/-- ITS FALSE NEIGHBOUR: 'it returns false'. Refute it at one input. -/
def vcardBackWrong : ChangeSpec := { name := "vcardBack", fn := fun _ => fun
  | [d1, d2] => { results := [.lit (.bool false)], args := [d1, d2] }
  | _ => none }
def VcardBackWrongFalsely : Prop := vcardBackRow.holds Tryz.pinned (OpenSpec.ofChange vcardBackWrong)

/-- 'cardcaselaw10.VcardLines': WHATEVER THE INPUT: true; the input reads as it did. -/
def vcardLinesSpec : ChangeSpec := { name := "vcardLines", fn := fun _ => fun
  | [d] => { results := [.lit (.bool true)], args := [d] }
  | _ => none }
def vcardLinesRow : OpenClaim := { program := "ytjgfbicllgalkaagreatdoor", sum := "12c28c8b5351029d5560f91f475288cffa896e661b00f335b7c8ea4d9e7dae0b", func := "cardcase/cardcaselaw10.VcardLines", spec := "vcardLines", inPlace := ["internal/bytealg.IndexByteString", "internal/bytealg.IndexString", "internal/abi.NoEscape", "internal/bytealg.MakeNoZero"], unfollowed := true, recurses := true, named := ["unicode/utf8.first", "unicode/utf8.acceptRanges", "internal/bytealg.MaxLen", "unicode.CaseRanges"], loops := true, plainKeys := false, apart := false, laid := [("unicode/utf8.acceptRanges", laid_unicode_utf8_acceptRanges), ("unicode.CaseRanges", laid_unicode_CaseRanges), ("unicode/utf8.first", laid_unicode_utf8_first)] }
def VcardLinesSaid : Prop := vcardLinesRow.holds Tryz.pinned (OpenSpec.ofChange vcardLinesSpec)

/-- ITS FALSE NEIGHBOUR: 'it returns false'. Refute it at one input. -/
def vcardLinesWrong : ChangeSpec := { name := "vcardLines", fn := fun _ => fun
  | [d] => { results := [.lit (.bool false)], args := [d] }
  | _ => none }
def VcardLinesWrongFalsely : Prop := vcardLinesRow.holds Tryz.pinned (OpenSpec.ofChange vcardLinesWrong)

/-- 'cardcaselaw11.ContactPrints': WHATEVER THE INPUT: true; the input reads as it did. -/
def contactPrintsSpec : ChangeSpec := { name := "contactPrints", fn := fun _ => fun
  | [d] => { results := [.lit (.bool true)], args := [d] }
  | _ => none }
def contactPrintsRow : OpenClaim := { program := "ytjgfbicllgalkaagreatdoor", sum := "12c28c8b5351029d5560f91f475288cffa896e661b00f335b7c8ea4d9e7dae0b", func := "cardcase/cardcaselaw11.ContactPrints", spec := "contactPrints", inPlace := ["internal/bytealg.abigen_runtime_cmpstring", "internal/bytealg.IndexByteString", "internal/bytealg.IndexString", "internal/bytealg.CountString", "internal/abi.NoEscape", "internal/bytealg.MakeNoZero"], unfollowed := true, recurses := true, named := ["internal/bytealg.MaxLen", "unicode/utf8.first", "unicode/utf8.acceptRanges", "unicode.CaseRanges"], plainKeys := false, apart := false, laid := [("unicode/utf8.acceptRanges", laid_unicode_utf8_acceptRanges), ("unicode.CaseRanges", laid_unicode_CaseRanges), ("unicode/utf8.first", laid_unicode_utf8_first)] }
def ContactPrintsSaid : Prop := contactPrintsRow.holds Tryz.pinned (OpenSpec.ofChange contactPrintsSpec)

/-- ITS FALSE NEIGHBOUR: 'it returns false'. Refute it at one input. -/
def contactPrintsWrong : ChangeSpec := { name := "contactPrints", fn := fun _ => fun
  | [d] => { results := [.lit (.bool false)], args := [d] }
  | _ => none }
def ContactPrintsWrongFalsely : Prop := contactPrintsRow.holds Tryz.pinned (OpenSpec.ofChange contactPrintsWrong)

/-- 'cardcaselaw11.ContactSays': WHATEVER THE INPUT: true; the input reads as it did. -/
def contactSaysSpec : ChangeSpec := { name := "contactSays", fn := fun _ => fun
  | [d1, d2] => { results := [.lit (.bool true)], args := [d1, d2] }
  | _ => none }
def contactSaysRow : OpenClaim := { program := "ytjgfbicllgalkaagreatdoor", sum := "12c28c8b5351029d5560f91f475288cffa896e661b00f335b7c8ea4d9e7dae0b", func := "cardcase/cardcaselaw11.ContactSays", spec := "contactSays", inPlace := ["internal/bytealg.IndexByteString", "internal/bytealg.IndexString", "internal/abi.NoEscape", "internal/bytealg.MakeNoZero", "internal/bytealg.abigen_runtime_cmpstring", "internal/bytealg.CountString"], unfollowed := true, recurses := true, named := ["unicode/utf8.first", "unicode/utf8.acceptRanges", "internal/bytealg.MaxLen", "unicode.CaseRanges"], loops := true, plainKeys := false, apart := false, laid := [("unicode/utf8.acceptRanges", laid_unicode_utf8_acceptRanges), ("unicode.CaseRanges", laid_unicode_CaseRanges), ("unicode/utf8.first", laid_unicode_utf8_first)] }
def ContactSaysSaid : Prop := contactSaysRow.holds Tryz.pinned (OpenSpec.ofChange contactSaysSpec)

/-- ITS FALSE NEIGHBOUR: 'it returns false'. Refute it at one input. -/
def contactSaysWrong : ChangeSpec := { name := "contactSays", fn := fun _ => fun
  | [d1, d2] => { results := [.lit (.bool false)], args := [d1, d2] }
  | _ => none }
def ContactSaysWrongFalsely : Prop := contactSaysRow.holds Tryz.pinned (OpenSpec.ofChange contactSaysWrong)

/-- 'cardcaselaw11.ContactBack': WHATEVER THE INPUT: true; the input reads as it did. -/
def contactBackSpec : ChangeSpec := { name := "contactBack", fn := fun _ => fun
  | [d1, d2] => { results := [.lit (.bool true)], args := [d1, d2] }
  | _ => none }
def contactBackRow : OpenClaim := { program := "ytjgfbicllgalkaagreatdoor", sum := "12c28c8b5351029d5560f91f475288cffa896e661b00f335b7c8ea4d9e7dae0b", func := "cardcase/cardcaselaw11.ContactBack", spec := "contactBack", inPlace := ["internal/bytealg.IndexByteString", "internal/bytealg.IndexString", "internal/abi.NoEscape", "internal/bytealg.MakeNoZero", "internal/bytealg.abigen_runtime_cmpstring", "internal/bytealg.CountString"], unfollowed := true, recurses := true, named := ["internal/bytealg.MaxLen", "unicode/utf8.first", "unicode/utf8.acceptRanges", "unicode.CaseRanges"], loops := true, plainKeys := false, apart := false, laid := [("unicode/utf8.acceptRanges", laid_unicode_utf8_acceptRanges), ("unicode.CaseRanges", laid_unicode_CaseRanges), ("unicode/utf8.first", laid_unicode_utf8_first)] }
def ContactBackSaid : Prop := contactBackRow.holds Tryz.pinned (OpenSpec.ofChange contactBackSpec)

/-- ITS FALSE NEIGHBOUR: 'it returns false'. Refute it at one input. -/
def contactBackWrong : ChangeSpec := { name := "contactBack", fn := fun _ => fun
  | [d1, d2] => { results := [.lit (.bool false)], args := [d1, d2] }
  | _ => none }
def ContactBackWrongFalsely : Prop := contactBackRow.holds Tryz.pinned (OpenSpec.ofChange contactBackWrong)

/-- 'cardcaselaw11.ContactOrder': WHATEVER THE INPUT: true; the input reads as it did. -/
def contactOrderSpec : ChangeSpec := { name := "contactOrder", fn := fun _ => fun
  | [d1, d2, d3] => { results := [.lit (.bool true)], args := [d1, d2, d3] }
  | _ => none }
def contactOrderRow : OpenClaim := { program := "ytjgfbicllgalkaagreatdoor", sum := "12c28c8b5351029d5560f91f475288cffa896e661b00f335b7c8ea4d9e7dae0b", func := "cardcase/cardcaselaw11.ContactOrder", spec := "contactOrder", inPlace := ["internal/bytealg.IndexByteString", "internal/bytealg.IndexString", "internal/abi.NoEscape", "internal/bytealg.MakeNoZero", "internal/bytealg.abigen_runtime_cmpstring", "internal/bytealg.CountString"], unfollowed := true, recurses := true, named := ["internal/bytealg.MaxLen", "unicode/utf8.first", "unicode/utf8.acceptRanges", "unicode.CaseRanges"], loops := true, plainKeys := false, apart := false, laid := [("unicode/utf8.acceptRanges", laid_unicode_utf8_acceptRanges), ("unicode.CaseRanges", laid_unicode_CaseRanges), ("unicode/utf8.first", laid_unicode_utf8_first)] }
def ContactOrderSaid : Prop := contactOrderRow.holds Tryz.pinned (OpenSpec.ofChange contactOrderSpec)

/-- ITS FALSE NEIGHBOUR: 'it returns false'. Refute it at one input. -/
def contactOrderWrong : ChangeSpec := { name := "contactOrder", fn := fun _ => fun
  | [d1, d2, d3] => { results := [.lit (.bool false)], args := [d1, d2, d3] }
  | _ => none }
def ContactOrderWrongFalsely : Prop := contactOrderRow.holds Tryz.pinned (OpenSpec.ofChange contactOrderWrong)

/- THE SECOND FORM. 'bulk': how many values and letters a reading holds, each counted each time it is reached (what is shared counts as often as it is met; a slice's spare places count too). A statement '..UptoSaid' is the law's where the arguments, and the package variables that the reading takes, are together of bulk at most 1048576: NARROWER than '..Said'. Prove '..Said' where nothing that the law and all that it calls make is longer than what came in: it says more and counts as full. Else prove '..UptoSaid'. A law counts once. -/
mutual
def uptoBulk {H : Type} : DataW H → Nat
  | .lit (.string bytes) => bytes.length + 1
  | .lit _ => 1
  | .nil => 1
  | .ptr d => uptoBulk d + 1
  | .slice elems spare => uptoBulkAll elems + uptoBulkAll spare + 1
  | .agg parts => uptoBulkAll parts + 1
  | .iface _ d => uptoBulk d + 1
  | .map entries => uptoBulkEntries entries + 1
  | .held _ => 1
def uptoBulkAll {H : Type} : List (DataW H) → Nat
  | [] => 0
  | d :: r => uptoBulk d + uptoBulkAll r
def uptoBulkEntries {H : Type} : List (Lit × DataW H) → Nat
  | [] => 0
  | x :: r => uptoBulkEntry x + uptoBulkEntries r
def uptoBulkEntry {H : Type} : Lit × DataW H → Nat
  | (.string bytes, d) => bytes.length + uptoBulk d + 1
  | (_, d) => uptoBulk d + 1
 end
def uptoSmall : (H : Type) → List (DataW H) → Bool := fun _ ds => decide (uptoBulkAll ds ≤ 1048576)
def OpenSpec.upto (s : _root_.Go.ChangeSpec) : _root_.Go.OpenSpec := { _root_.Go.OpenSpec.ofChange s with cond := some uptoSmall }

/-- 'cardcaselaw10.VcardPrints', WHERE WHAT IT READS IS OF BULK AT MOST 1048576: true; the input reads as it did. -/
def vcardPrintsUptoRow : OpenClaim := { program := "ytjgfbicllgalkaagreatdoor", sum := "12c28c8b5351029d5560f91f475288cffa896e661b00f335b7c8ea4d9e7dae0b", func := "cardcase/cardcaselaw10.VcardPrints", spec := "vcardPrints", inPlace := ["internal/bytealg.IndexByteString", "internal/bytealg.IndexString"], unfollowed := true, recurses := true, named := ["unicode/utf8.first", "unicode/utf8.acceptRanges", "internal/bytealg.MaxLen"], loops := true, plainKeys := false, apart := false, laid := [("unicode/utf8.acceptRanges", laid_unicode_utf8_acceptRanges), ("unicode/utf8.first", laid_unicode_utf8_first)], narrowed := true }
def VcardPrintsUptoSaid : Prop := vcardPrintsUptoRow.holds Tryz.pinned (OpenSpec.upto vcardPrintsSpec)

/-- 'cardcaselaw10.VcardReads', WHERE WHAT IT READS IS OF BULK AT MOST 1048576: true; the input reads as it did. -/
def vcardReadsUptoRow : OpenClaim := { program := "ytjgfbicllgalkaagreatdoor", sum := "12c28c8b5351029d5560f91f475288cffa896e661b00f335b7c8ea4d9e7dae0b", func := "cardcase/cardcaselaw10.VcardReads", spec := "vcardReads", inPlace := ["internal/bytealg.IndexByteString", "internal/bytealg.IndexString", "internal/abi.NoEscape", "internal/bytealg.MakeNoZero"], unfollowed := true, recurses := true, named := ["internal/bytealg.MaxLen", "unicode/utf8.first", "unicode/utf8.acceptRanges", "unicode.CaseRanges"], plainKeys := false, apart := false, laid := [("unicode/utf8.acceptRanges", laid_unicode_utf8_acceptRanges), ("unicode.CaseRanges", laid_unicode_CaseRanges), ("unicode/utf8.first", laid_unicode_utf8_first)], narrowed := true }
def VcardReadsUptoSaid : Prop := vcardReadsUptoRow.holds Tryz.pinned (OpenSpec.upto vcardReadsSpec)

/-- 'cardcaselaw10.VcardSame', WHERE WHAT IT READS IS OF BULK AT MOST 1048576: true; the input reads as it did. -/
def vcardSameUptoRow : OpenClaim := { program := "ytjgfbicllgalkaagreatdoor", sum := "12c28c8b5351029d5560f91f475288cffa896e661b00f335b7c8ea4d9e7dae0b", func := "cardcase/cardcaselaw10.VcardSame", spec := "vcardSame", inPlace := ["internal/bytealg.IndexByteString", "internal/bytealg.IndexString", "internal/abi.NoEscape", "internal/bytealg.MakeNoZero"], unfollowed := true, recurses := true, named := ["unicode/utf8.first", "unicode/utf8.acceptRanges", "internal/bytealg.MaxLen", "unicode.CaseRanges"], loops := true, plainKeys := false, apart := false, laid := [("unicode/utf8.acceptRanges", laid_unicode_utf8_acceptRanges), ("unicode.CaseRanges", laid_unicode_CaseRanges), ("unicode/utf8.first", laid_unicode_utf8_first)], narrowed := true }
def VcardSameUptoSaid : Prop := vcardSameUptoRow.holds Tryz.pinned (OpenSpec.upto vcardSameSpec)

/-- 'cardcaselaw10.VcardBack', WHERE WHAT IT READS IS OF BULK AT MOST 1048576: true; the input reads as it did. -/
def vcardBackUptoRow : OpenClaim := { program := "ytjgfbicllgalkaagreatdoor", sum := "12c28c8b5351029d5560f91f475288cffa896e661b00f335b7c8ea4d9e7dae0b", func := "cardcase/cardcaselaw10.VcardBack", spec := "vcardBack", inPlace := ["internal/bytealg.IndexByteString", "internal/bytealg.IndexString", "internal/abi.NoEscape", "internal/bytealg.MakeNoZero"], unfollowed := true, recurses := true, named := ["unicode/utf8.first", "unicode/utf8.acceptRanges", "internal/bytealg.MaxLen", "unicode.CaseRanges"], loops := true, plainKeys := false, apart := false, laid := [("unicode/utf8.acceptRanges", laid_unicode_utf8_acceptRanges), ("unicode.CaseRanges", laid_unicode_CaseRanges), ("unicode/utf8.first", laid_unicode_utf8_first)], narrowed := true }
def VcardBackUptoSaid : Prop := vcardBackUptoRow.holds Tryz.pinned (OpenSpec.upto vcardBackSpec)

/-- 'cardcaselaw10.VcardLines', WHERE WHAT IT READS IS OF BULK AT MOST 1048576: true; the input reads as it did. -/
def vcardLinesUptoRow : OpenClaim := { program := "ytjgfbicllgalkaagreatdoor", sum := "12c28c8b5351029d5560f91f475288cffa896e661b00f335b7c8ea4d9e7dae0b", func := "cardcase/cardcaselaw10.VcardLines", spec := "vcardLines", inPlace := ["internal/bytealg.IndexByteString", "internal/bytealg.IndexString", "internal/abi.NoEscape", "internal/bytealg.MakeNoZero"], unfollowed := true, recurses := true, named := ["unicode/utf8.first", "unicode/utf8.acceptRanges", "internal/bytealg.MaxLen", "unicode.CaseRanges"], loops := true, plainKeys := false, apart := false, laid := [("unicode/utf8.acceptRanges", laid_unicode_utf8_acceptRanges), ("unicode.CaseRanges", laid_unicode_CaseRanges), ("unicode/utf8.first", laid_unicode_utf8_first)], narrowed := true }
def VcardLinesUptoSaid : Prop := vcardLinesUptoRow.holds Tryz.pinned (OpenSpec.upto vcardLinesSpec)

/-- 'cardcaselaw11.ContactPrints', WHERE WHAT IT READS IS OF BULK AT MOST 1048576: true; the input reads as it did. -/
def contactPrintsUptoRow : OpenClaim := { program := "ytjgfbicllgalkaagreatdoor", sum := "12c28c8b5351029d5560f91f475288cffa896e661b00f335b7c8ea4d9e7dae0b", func := "cardcase/cardcaselaw11.ContactPrints", spec := "contactPrints", inPlace := ["internal/bytealg.abigen_runtime_cmpstring", "internal/bytealg.IndexByteString", "internal/bytealg.IndexString", "internal/bytealg.CountString", "internal/abi.NoEscape", "internal/bytealg.MakeNoZero"], unfollowed := true, recurses := true, named := ["internal/bytealg.MaxLen", "unicode/utf8.first", "unicode/utf8.acceptRanges", "unicode.CaseRanges"], plainKeys := false, apart := false, laid := [("unicode/utf8.acceptRanges", laid_unicode_utf8_acceptRanges), ("unicode.CaseRanges", laid_unicode_CaseRanges), ("unicode/utf8.first", laid_unicode_utf8_first)], narrowed := true }
def ContactPrintsUptoSaid : Prop := contactPrintsUptoRow.holds Tryz.pinned (OpenSpec.upto contactPrintsSpec)

/-- 'cardcaselaw11.ContactSays', WHERE WHAT IT READS IS OF BULK AT MOST 1048576: true; the input reads as it did. -/
def contactSaysUptoRow : OpenClaim := { program := "ytjgfbicllgalkaagreatdoor", sum := "12c28c8b5351029d5560f91f475288cffa896e661b00f335b7c8ea4d9e7dae0b", func := "cardcase/cardcaselaw11.ContactSays", spec := "contactSays", inPlace := ["internal/bytealg.IndexByteString", "internal/bytealg.IndexString", "internal/abi.NoEscape", "internal/bytealg.MakeNoZero", "internal/bytealg.abigen_runtime_cmpstring", "internal/bytealg.CountString"], unfollowed := true, recurses := true, named := ["unicode/utf8.first", "unicode/utf8.acceptRanges", "internal/bytealg.MaxLen", "unicode.CaseRanges"], loops := true, plainKeys := false, apart := false, laid := [("unicode/utf8.acceptRanges", laid_unicode_utf8_acceptRanges), ("unicode.CaseRanges", laid_unicode_CaseRanges), ("unicode/utf8.first", laid_unicode_utf8_first)], narrowed := true }
def ContactSaysUptoSaid : Prop := contactSaysUptoRow.holds Tryz.pinned (OpenSpec.upto contactSaysSpec)

/-- 'cardcaselaw11.ContactBack', WHERE WHAT IT READS IS OF BULK AT MOST 1048576: true; the input reads as it did. -/
def contactBackUptoRow : OpenClaim := { program := "ytjgfbicllgalkaagreatdoor", sum := "12c28c8b5351029d5560f91f475288cffa896e661b00f335b7c8ea4d9e7dae0b", func := "cardcase/cardcaselaw11.ContactBack", spec := "contactBack", inPlace := ["internal/bytealg.IndexByteString", "internal/bytealg.IndexString", "internal/abi.NoEscape", "internal/bytealg.MakeNoZero", "internal/bytealg.abigen_runtime_cmpstring", "internal/bytealg.CountString"], unfollowed := true, recurses := true, named := ["internal/bytealg.MaxLen", "unicode/utf8.first", "unicode/utf8.acceptRanges", "unicode.CaseRanges"], loops := true, plainKeys := false, apart := false, laid := [("unicode/utf8.acceptRanges", laid_unicode_utf8_acceptRanges), ("unicode.CaseRanges", laid_unicode_CaseRanges), ("unicode/utf8.first", laid_unicode_utf8_first)], narrowed := true }
def ContactBackUptoSaid : Prop := contactBackUptoRow.holds Tryz.pinned (OpenSpec.upto contactBackSpec)

/-- 'cardcaselaw11.ContactOrder', WHERE WHAT IT READS IS OF BULK AT MOST 1048576: true; the input reads as it did. -/
def contactOrderUptoRow : OpenClaim := { program := "ytjgfbicllgalkaagreatdoor", sum := "12c28c8b5351029d5560f91f475288cffa896e661b00f335b7c8ea4d9e7dae0b", func := "cardcase/cardcaselaw11.ContactOrder", spec := "contactOrder", inPlace := ["internal/bytealg.IndexByteString", "internal/bytealg.IndexString", "internal/abi.NoEscape", "internal/bytealg.MakeNoZero", "internal/bytealg.abigen_runtime_cmpstring", "internal/bytealg.CountString"], unfollowed := true, recurses := true, named := ["internal/bytealg.MaxLen", "unicode/utf8.first", "unicode/utf8.acceptRanges", "unicode.CaseRanges"], loops := true, plainKeys := false, apart := false, laid := [("unicode/utf8.acceptRanges", laid_unicode_utf8_acceptRanges), ("unicode.CaseRanges", laid_unicode_CaseRanges), ("unicode/utf8.first", laid_unicode_utf8_first)], narrowed := true }
def ContactOrderUptoSaid : Prop := contactOrderUptoRow.holds Tryz.pinned (OpenSpec.upto contactOrderSpec)

end Rows
end Go.Proofs.YtjgfbicllgalkaaGreatDoor
