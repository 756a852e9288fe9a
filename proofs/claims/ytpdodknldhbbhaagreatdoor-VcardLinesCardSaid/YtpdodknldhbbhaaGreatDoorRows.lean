/-
  NARROWER THAN 'FOR EVERY INPUT', by the rows' own cells (each row's printed sentence says how): VcardPrints: loops, laid · VcardSame: loops, laid · VcardBack: loops, laid · VcardLines: loops, laid.
  DERIVED. THE GIVEN ROWS OF THIS SEAT. 4 by the template 'for every input the law returns true; each argument reads behind the call as it read before'; 0 by the template 'total and deterministic' (their statements: YtpdodknldhbbhaaGreatDoorTotals.lean).
  GIVEN WITH THE SEED: the statements are not yours to turn. If you find one false, say at which input.
  Laid BY PROGRAM, IN A SANDBOX (cutbox-rows.mjs): the forced cells as the released guide's own fill.sh prints them over the translation d321f1a8fe48b796… (all of the seat's roots in one cut). By AI agents, Wed Nov 11 2026. No macro, syntax, notation, axiom, sorry.
-/
import Derived.Test.YtpdodknldhbbhaaGreatDoorChecked
import GoSem.PinnedTables
import GoSem.Claim
import GoSem.ClaimJoined
import GoSem.ClaimMapViews
import Derived.JoinedTies
import Derived.KernelRfl
namespace Go.Proofs.YtpdodknldhbbhaaGreatDoor
/- THE CELL 'sum', in the pinned program and in every row, IS THE sha256 OF THE DUMP (.gsa) THAT YtpdodknldhbbhaaGreatDoorProg.lean LOADS. Nothing in Lean hashes anything: it is a label: what it is worth is what the hold of that sum in a sandbox is worth. -/
noncomputable def Tryz.pinned : Pinned := { name := "ytpdodknldhbbhaagreatdoor", sum := "d321f1a8fe48b7960678d38fff19dda64f3fc6b1b6c12536125b046f36686882", checked := Tryz.checked }
namespace Rows
def none {H : Type} : Left H := { results := [], args := [] }

/- WHAT THE LISTED PACKAGE-LEVEL VARIABLES READ AS WHEN THE CALL BEGINS. Each datum BY PROGRAM (the guide's laid-datum.mjs) off the statement by which the dump's own 'gosem.cut.vars' lays the variable. In a bare row this is a premise. The card (YtpdodknldhbbhaaGreatDoorCards.lean) ties it to the program's text. -/
def laid_unicode_utf8_acceptRanges {H : Type} : DataW H := .agg [.agg [.lit (.int .u8 128), .lit (.int .u8 191)], .agg [.lit (.int .u8 160), .lit (.int .u8 191)], .agg [.lit (.int .u8 128), .lit (.int .u8 159)], .agg [.lit (.int .u8 144), .lit (.int .u8 191)], .agg [.lit (.int .u8 128), .lit (.int .u8 143)], .agg [.lit (.int .u8 0), .lit (.int .u8 0)], .agg [.lit (.int .u8 0), .lit (.int .u8 0)], .agg [.lit (.int .u8 0), .lit (.int .u8 0)], .agg [.lit (.int .u8 0), .lit (.int .u8 0)], .agg [.lit (.int .u8 0), .lit (.int .u8 0)], .agg [.lit (.int .u8 0), .lit (.int .u8 0)], .agg [.lit (.int .u8 0), .lit (.int .u8 0)], .agg [.lit (.int .u8 0), .lit (.int .u8 0)], .agg [.lit (.int .u8 0), .lit (.int .u8 0)], .agg [.lit (.int .u8 0), .lit (.int .u8 0)], .agg [.lit (.int .u8 0), .lit (.int .u8 0)]]
/-- One of Go's own tables, pinned by name: the form's constant. -/
def laid_unicode_utf8_first : DataW Unit := Go.Pinned.utf8First
/-- One of Go's own tables, pinned by name: the form's constant. -/
def laid_unicode_CaseRanges : DataW Unit := Go.Pinned.caseRanges

/-- 'cardcaselaw10.VcardPrints': WHATEVER THE INPUT: true; the input reads as it did. -/
def vcardPrintsSpec : ChangeSpec := { name := "vcardPrints", fn := fun _ => fun
  | [d] => { results := [.lit (.bool true)], args := [d] }
  | _ => none }
def vcardPrintsRow : OpenClaim := { program := "ytpdodknldhbbhaagreatdoor", sum := "d321f1a8fe48b7960678d38fff19dda64f3fc6b1b6c12536125b046f36686882", func := "cardcase/cardcaselaw10.VcardPrints", spec := "vcardPrints", inPlace := ["internal/bytealg.IndexByteString", "internal/bytealg.IndexString"], unfollowed := true, recurses := true, named := ["unicode/utf8.first", "unicode/utf8.acceptRanges", "internal/bytealg.MaxLen"], loops := true, plainKeys := false, apart := false, laid := [("unicode/utf8.acceptRanges", laid_unicode_utf8_acceptRanges), ("unicode/utf8.first", laid_unicode_utf8_first)] }
def VcardPrintsSaid : Prop := vcardPrintsRow.holds Tryz.pinned (OpenSpec.ofChange vcardPrintsSpec)

/-- ITS FALSE NEIGHBOUR: 'it returns false'. Refute it at one input. -/
def vcardPrintsWrong : ChangeSpec := { name := "vcardPrints", fn := fun _ => fun
  | [d] => { results := [.lit (.bool false)], args := [d] }
  | _ => none }
def VcardPrintsWrongFalsely : Prop := vcardPrintsRow.holds Tryz.pinned (OpenSpec.ofChange vcardPrintsWrong)

/-- 'cardcaselaw10.VcardSame': WHATEVER THE INPUT: true; the input reads as it did. -/
def vcardSameSpec : ChangeSpec := { name := "vcardSame", fn := fun _ => fun
  | [d1, d2] => { results := [.lit (.bool true)], args := [d1, d2] }
  | _ => none }
def vcardSameRow : OpenClaim := { program := "ytpdodknldhbbhaagreatdoor", sum := "d321f1a8fe48b7960678d38fff19dda64f3fc6b1b6c12536125b046f36686882", func := "cardcase/cardcaselaw10.VcardSame", spec := "vcardSame", inPlace := ["internal/bytealg.IndexByteString", "internal/bytealg.IndexString", "internal/abi.NoEscape", "internal/bytealg.MakeNoZero"], unfollowed := true, recurses := true, named := ["unicode/utf8.first", "unicode/utf8.acceptRanges", "internal/bytealg.MaxLen", "unicode.CaseRanges"], loops := true, plainKeys := false, apart := false, laid := [("unicode/utf8.acceptRanges", laid_unicode_utf8_acceptRanges), ("unicode.CaseRanges", laid_unicode_CaseRanges), ("unicode/utf8.first", laid_unicode_utf8_first)] }
def VcardSameSaid : Prop := vcardSameRow.holds Tryz.pinned (OpenSpec.ofChange vcardSameSpec)

/-- ITS FALSE NEIGHBOUR: 'it returns false'. Refute it at one input. -/
def vcardSameWrong : ChangeSpec := { name := "vcardSame", fn := fun _ => fun
  | [d1, d2] => { results := [.lit (.bool false)], args := [d1, d2] }
  | _ => none }
def VcardSameWrongFalsely : Prop := vcardSameRow.holds Tryz.pinned (OpenSpec.ofChange vcardSameWrong)

/-- 'cardcaselaw10.VcardBack': WHATEVER THE INPUT: true; the input reads as it did. -/
def vcardBackSpec : ChangeSpec := { name := "vcardBack", fn := fun _ => fun
  | [d1, d2] => { results := [.lit (.bool true)], args := [d1, d2] }
  | _ => none }
def vcardBackRow : OpenClaim := { program := "ytpdodknldhbbhaagreatdoor", sum := "d321f1a8fe48b7960678d38fff19dda64f3fc6b1b6c12536125b046f36686882", func := "cardcase/cardcaselaw10.VcardBack", spec := "vcardBack", inPlace := ["internal/bytealg.IndexByteString", "internal/bytealg.IndexString", "internal/abi.NoEscape", "internal/bytealg.MakeNoZero"], unfollowed := true, recurses := true, named := ["unicode/utf8.first", "unicode/utf8.acceptRanges", "internal/bytealg.MaxLen", "unicode.CaseRanges"], loops := true, plainKeys := false, apart := false, laid := [("unicode/utf8.acceptRanges", laid_unicode_utf8_acceptRanges), ("unicode.CaseRanges", laid_unicode_CaseRanges), ("unicode/utf8.first", laid_unicode_utf8_first)] }
def VcardBackSaid : Prop := vcardBackRow.holds Tryz.pinned (OpenSpec.ofChange vcardBackSpec)

/-- ITS FALSE NEIGHBOUR: 'it returns false'. Refute it at one input. -/
def vcardBackWrong : ChangeSpec := { name := "vcardBack", fn := fun _ => fun
  | [d1, d2] => { results := [.lit (.bool false)], args := [d1, d2] }
  | _ => none }
def VcardBackWrongFalsely : Prop := vcardBackRow.holds Tryz.pinned (OpenSpec.ofChange vcardBackWrong)

/-- 'cardcaselaw10.VcardLines': WHATEVER THE INPUT: true; the input reads as it did. -/
def vcardLinesSpec : ChangeSpec := { name := "vcardLines", fn := fun _ => fun
  | [d] => { results := [.lit (.bool true)], args := [d] }
  | _ => none }
def vcardLinesRow : OpenClaim := { program := "ytpdodknldhbbhaagreatdoor", sum := "d321f1a8fe48b7960678d38fff19dda64f3fc6b1b6c12536125b046f36686882", func := "cardcase/cardcaselaw10.VcardLines", spec := "vcardLines", inPlace := ["internal/bytealg.IndexByteString", "internal/bytealg.IndexString", "internal/abi.NoEscape", "internal/bytealg.MakeNoZero"], unfollowed := true, recurses := true, named := ["unicode/utf8.first", "unicode/utf8.acceptRanges", "internal/bytealg.MaxLen", "unicode.CaseRanges"], loops := true, plainKeys := false, apart := false, laid := [("unicode/utf8.acceptRanges", laid_unicode_utf8_acceptRanges), ("unicode.CaseRanges", laid_unicode_CaseRanges), ("unicode/utf8.first", laid_unicode_utf8_first)] }
def VcardLinesSaid : Prop := vcardLinesRow.holds Tryz.pinned (OpenSpec.ofChange vcardLinesSpec)

/-- ITS FALSE NEIGHBOUR: 'it returns false'. Refute it at one input. -/
def vcardLinesWrong : ChangeSpec := { name := "vcardLines", fn := fun _ => fun
  | [d] => { results := [.lit (.bool false)], args := [d] }
  | _ => none }
def VcardLinesWrongFalsely : Prop := vcardLinesRow.holds Tryz.pinned (OpenSpec.ofChange vcardLinesWrong)

/- THE SECOND FORM. 'bulk': how many values and letters a reading holds, each counted each time it is reached (what is shared counts as often as it is met; a slice's spare places count too). A statement '..UptoSaid' is the law's where the arguments, and the package variables that the reading takes, are together of bulk at most 1048576: NARROWER than '..Said'. Prove '..Said' where nothing that the law and all that it calls make is longer than what came in: it says more and counts as full. Else prove '..UptoSaid'. A law counts once. -/
mutual
def uptoBulk {H : Type} : DataW H → Nat
  | .lit (.string bytes) => bytes.length + 1
  | .lit _ => 1
  | .nil => 1
  | .ptr d => uptoBulk d + 1
  | .slice elems spare => uptoBulkAll elems + uptoBulkAll spare + 1
  | .agg parts => uptoBulkAll parts + 1
  | .iface _ d => uptoBulk d + 1
  | .map entries => uptoBulkEntries entries + 1
  | .held _ => 1
def uptoBulkAll {H : Type} : List (DataW H) → Nat
  | [] => 0
  | d :: r => uptoBulk d + uptoBulkAll r
def uptoBulkEntries {H : Type} : List (Lit × DataW H) → Nat
  | [] => 0
  | x :: r => uptoBulkEntry x + uptoBulkEntries r
def uptoBulkEntry {H : Type} : Lit × DataW H → Nat
  | (.string bytes, d) => bytes.length + uptoBulk d + 1
  | (_, d) => uptoBulk d + 1
 end
def uptoSmall : (H : Type) → List (DataW H) → Bool := fun _ ds => decide (uptoBulkAll ds ≤ 1048576)
def OpenSpec.upto (s : _root_.Go.ChangeSpec) : _root_.Go.OpenSpec := { _root_.Go.OpenSpec.ofChange s with cond := some uptoSmall }

/-- 'cardcaselaw10.VcardPrints', WHERE WHAT IT READS IS OF BULK AT MOST 1048576: true; the input reads as it did. -/
def vcardPrintsUptoRow : OpenClaim := { program := "ytpdodknldhbbhaagreatdoor", sum := "d321f1a8fe48b7960678d38fff19dda64f3fc6b1b6c12536125b046f36686882", func := "cardcase/cardcaselaw10.VcardPrints", spec := "vcardPrints", inPlace := ["internal/bytealg.IndexByteString", "internal/bytealg.IndexString"], unfollowed := true, recurses := true, named := ["unicode/utf8.first", "unicode/utf8.acceptRanges", "internal/bytealg.MaxLen"], loops := true, plainKeys := false, apart := false, laid := [("unicode/utf8.acceptRanges", laid_unicode_utf8_acceptRanges), ("unicode/utf8.first", laid_unicode_utf8_first)], narrowed := true }
def VcardPrintsUptoSaid : Prop := vcardPrintsUptoRow.holds Tryz.pinned (OpenSpec.upto vcardPrintsSpec)

/-- 'cardcaselaw10.VcardSame', WHERE WHAT IT READS IS OF BULK AT MOST 1048576: true; the input reads as it did. -/
def vcardSameUptoRow : OpenClaim := { program := "ytpdodknldhbbhaagreatdoor", sum := "d321f1a8fe48b7960678d38fff19dda64f3fc6b1b6c12536125b046f36686882", func := "cardcase/cardcaselaw10.VcardSame", spec := "vcardSame", inPlace := ["internal/bytealg.IndexByteString", "internal/bytealg.IndexString", "internal/abi.NoEscape", "internal/bytealg.MakeNoZero"], unfollowed := true, recurses := true, named := ["unicode/utf8.first", "unicode/utf8.acceptRanges", "internal/bytealg.MaxLen", "unicode.CaseRanges"], loops := true, plainKeys := false, apart := false, laid := [("unicode/utf8.acceptRanges", laid_unicode_utf8_acceptRanges), ("unicode.CaseRanges", laid_unicode_CaseRanges), ("unicode/utf8.first", laid_unicode_utf8_first)], narrowed := true }
def VcardSameUptoSaid : Prop := vcardSameUptoRow.holds Tryz.pinned (OpenSpec.upto vcardSameSpec)

/-- 'cardcaselaw10.VcardBack', WHERE WHAT IT READS IS OF BULK AT MOST 1048576: true; the input reads as it did. -/
def vcardBackUptoRow : OpenClaim := { program := "ytpdodknldhbbhaagreatdoor", sum := "d321f1a8fe48b7960678d38fff19dda64f3fc6b1b6c12536125b046f36686882", func := "cardcase/cardcaselaw10.VcardBack", spec := "vcardBack", inPlace := ["internal/bytealg.IndexByteString", "internal/bytealg.IndexString", "internal/abi.NoEscape", "internal/bytealg.MakeNoZero"], unfollowed := true, recurses := true, named := ["unicode/utf8.first", "unicode/utf8.acceptRanges", "internal/bytealg.MaxLen", "unicode.CaseRanges"], loops := true, plainKeys := false, apart := false, laid := [("unicode/utf8.acceptRanges", laid_unicode_utf8_acceptRanges), ("unicode.CaseRanges", laid_unicode_CaseRanges), ("unicode/utf8.first", laid_unicode_utf8_first)], narrowed := true }
def VcardBackUptoSaid : Prop := vcardBackUptoRow.holds Tryz.pinned (OpenSpec.upto vcardBackSpec)

/-- 'cardcaselaw10.VcardLines', WHERE WHAT IT READS IS OF BULK AT MOST 1048576: true; the input reads as it did. -/
def vcardLinesUptoRow : OpenClaim := { program := "ytpdodknldhbbhaagreatdoor", sum := "d321f1a8fe48b7960678d38fff19dda64f3fc6b1b6c12536125b046f36686882", func := "cardcase/cardcaselaw10.VcardLines", spec := "vcardLines", inPlace := ["internal/bytealg.IndexByteString", "internal/bytealg.IndexString", "internal/abi.NoEscape", "internal/bytealg.MakeNoZero"], unfollowed := true, recurses := true, named := ["unicode/utf8.first", "unicode/utf8.acceptRanges", "internal/bytealg.MaxLen", "unicode.CaseRanges"], loops := true, plainKeys := false, apart := false, laid := [("unicode/utf8.acceptRanges", laid_unicode_utf8_acceptRanges), ("unicode.CaseRanges", laid_unicode_CaseRanges), ("unicode/utf8.first", laid_unicode_utf8_first)], narrowed := true }
def VcardLinesUptoSaid : Prop := vcardLinesUptoRow.holds Tryz.pinned (OpenSpec.upto vcardLinesSpec)

end Rows
end Go.Proofs.YtpdodknldhbbhaaGreatDoor
