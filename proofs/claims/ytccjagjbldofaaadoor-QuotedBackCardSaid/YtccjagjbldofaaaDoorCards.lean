/-
  DERIVED. GIVEN WITH THE SEED: THE CARDS: each row of YtccjagjbldofaaaDoorRows.lean that lists a variable, with what it lists TIED to the program's text (the seventh form; the later family's looks); each row that meets fmt, with fmt's text TOLD by the authors' own Lean function (tested against real Go, not proved from fmt's source: count such statements apart). THE CARD IS WHAT COUNTS. Prove the row's statement (the work); the ties are given (YtccjagjbldofaaaDoorTie.lean); close each card by the builder's one call (the guide's Derived/Test/ToyasCard.lean, 'card_holds'). Laid BY PROGRAM, IN A SANDBOX (cutbox-door.mjs). By AI agents, Wed Nov 11 2026. No macro, syntax, notation, axiom, sorry.
-/
import Derived.Test.YtccjagjbldofaaaDoorRows
import GoSem.ClaimSeven
namespace Go.Proofs.YtccjagjbldofaaaDoor
namespace Rows

/-- THE TIED CARD OF 'cardcaselaw04.QuotedReads'. -/
def quotedReadsCard : Claim7 := { stood := { row := quotedReadsRow, standIns := [], harness := (true, "c696b736a37f89a4f4b22c3f06406ce126ad46b58cbe66afc51b4ae3b6148876"), looks := false }, kinds := [], alts := [], laidByText := true, laidKinds := [.data, .pinned, .pinned], laidTests := true, laidLooks := .later }
def QuotedReadsCardSaid : Prop := Claim7.holds Tryd.pinned (.plain (OpenSpec.ofChange quotedReadsSpec)) quotedReadsCard

/-- THE TIED CARD OF 'cardcaselaw04.QuotedSoft'. -/
def quotedSoftCard : Claim7 := { stood := { row := quotedSoftRow, standIns := [], harness := (true, "c696b736a37f89a4f4b22c3f06406ce126ad46b58cbe66afc51b4ae3b6148876"), looks := false }, kinds := [], alts := [], laidByText := true, laidKinds := [.data, .pinned, .pinned], laidTests := true, laidLooks := .later }
def QuotedSoftCardSaid : Prop := Claim7.holds Tryd.pinned (.plain (OpenSpec.ofChange quotedSoftSpec)) quotedSoftCard

/-- THE TIED CARD OF 'cardcaselaw04.QuotedBack'. -/
def quotedBackCard : Claim7 := { stood := { row := quotedBackRow, standIns := [], harness := (true, "c696b736a37f89a4f4b22c3f06406ce126ad46b58cbe66afc51b4ae3b6148876"), looks := false }, kinds := [], alts := [], laidByText := true, laidKinds := [.data, .pinned, .pinned], laidTests := true, laidLooks := .later }
def QuotedBackCardSaid : Prop := Claim7.holds Tryd.pinned (.plain (OpenSpec.ofChange quotedBackSpec)) quotedBackCard

/-- THE SECOND FORM's CARD OF 'cardcaselaw04.QuotedReads'. -/
def quotedReadsUptoCard : Claim7 := { stood := { row := quotedReadsUptoRow, standIns := [], harness := (true, "c696b736a37f89a4f4b22c3f06406ce126ad46b58cbe66afc51b4ae3b6148876"), looks := false }, kinds := [], alts := [], laidByText := true, laidKinds := [.data, .pinned, .pinned], laidTests := true, laidLooks := .later }
def QuotedReadsUptoCardSaid : Prop := Claim7.holds Tryd.pinned (.plain (OpenSpec.upto quotedReadsSpec)) quotedReadsUptoCard

/-- THE SECOND FORM's CARD OF 'cardcaselaw04.QuotedSoft'. -/
def quotedSoftUptoCard : Claim7 := { stood := { row := quotedSoftUptoRow, standIns := [], harness := (true, "c696b736a37f89a4f4b22c3f06406ce126ad46b58cbe66afc51b4ae3b6148876"), looks := false }, kinds := [], alts := [], laidByText := true, laidKinds := [.data, .pinned, .pinned], laidTests := true, laidLooks := .later }
def QuotedSoftUptoCardSaid : Prop := Claim7.holds Tryd.pinned (.plain (OpenSpec.upto quotedSoftSpec)) quotedSoftUptoCard

/-- THE SECOND FORM's CARD OF 'cardcaselaw04.QuotedBack'. -/
def quotedBackUptoCard : Claim7 := { stood := { row := quotedBackUptoRow, standIns := [], harness := (true, "c696b736a37f89a4f4b22c3f06406ce126ad46b58cbe66afc51b4ae3b6148876"), looks := false }, kinds := [], alts := [], laidByText := true, laidKinds := [.data, .pinned, .pinned], laidTests := true, laidLooks := .later }
def QuotedBackUptoCardSaid : Prop := Claim7.holds Tryd.pinned (.plain (OpenSpec.upto quotedBackSpec)) quotedBackUptoCard
end Rows
end Go.Proofs.YtccjagjbldofaaaDoor
