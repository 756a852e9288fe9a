/-
  DERIVED. GIVEN WITH THE SEED: THE CARDS: each row of YtijgpelgdepbaaaDoorRows.lean that lists a variable, with what it lists TIED to the program's text (the seventh form; the later family's looks); each row that meets fmt, with fmt's text TOLD by the authors' own Lean function (tested against real Go, not proved from fmt's source: count such statements apart). THE CARD IS WHAT COUNTS. Prove the row's statement (the work); the ties are given (YtijgpelgdepbaaaDoorTie.lean); close each card by the builder's one call (the guide's Derived/Test/ToyasCard.lean, 'card_holds'). Laid BY PROGRAM, IN A SANDBOX (cutbox-door.mjs). By AI agents, Wed Nov 11 2026. No macro, syntax, notation, axiom, sorry.
-/
import Derived.Test.YtijgpelgdepbaaaDoorRows
import GoSem.ClaimSeven
namespace Go.Proofs.YtijgpelgdepbaaaDoor
namespace Rows

/-- THE TIED CARD OF 'cardcaselaw05.SixbitReads'. -/
def sixbitReadsCard : Claim7 := { stood := { row := sixbitReadsRow, standIns := [], harness := (true, "4c0801c542ef600cc975e440fb4c6990d07d381491f31960e776fe43342695d0"), looks := false }, kinds := [], alts := [], laidByText := true, laidKinds := [.data, .pinned], laidTests := true, laidLooks := .later }
def SixbitReadsCardSaid : Prop := Claim7.holds Tryd.pinned (.plain (OpenSpec.ofChange sixbitReadsSpec)) sixbitReadsCard

/-- THE TIED CARD OF 'cardcaselaw05.SixbitBack'. -/
def sixbitBackCard : Claim7 := { stood := { row := sixbitBackRow, standIns := [], harness := (true, "4c0801c542ef600cc975e440fb4c6990d07d381491f31960e776fe43342695d0"), looks := false }, kinds := [], alts := [], laidByText := true, laidKinds := [.data, .pinned], laidTests := true, laidLooks := .later }
def SixbitBackCardSaid : Prop := Claim7.holds Tryd.pinned (.plain (OpenSpec.ofChange sixbitBackSpec)) sixbitBackCard

/-- THE SECOND FORM's CARD OF 'cardcaselaw05.SixbitReads'. -/
def sixbitReadsUptoCard : Claim7 := { stood := { row := sixbitReadsUptoRow, standIns := [], harness := (true, "4c0801c542ef600cc975e440fb4c6990d07d381491f31960e776fe43342695d0"), looks := false }, kinds := [], alts := [], laidByText := true, laidKinds := [.data, .pinned], laidTests := true, laidLooks := .later }
def SixbitReadsUptoCardSaid : Prop := Claim7.holds Tryd.pinned (.plain (OpenSpec.upto sixbitReadsSpec)) sixbitReadsUptoCard

/-- THE SECOND FORM's CARD OF 'cardcaselaw05.SixbitBack'. -/
def sixbitBackUptoCard : Claim7 := { stood := { row := sixbitBackUptoRow, standIns := [], harness := (true, "4c0801c542ef600cc975e440fb4c6990d07d381491f31960e776fe43342695d0"), looks := false }, kinds := [], alts := [], laidByText := true, laidKinds := [.data, .pinned], laidTests := true, laidLooks := .later }
def SixbitBackUptoCardSaid : Prop := Claim7.holds Tryd.pinned (.plain (OpenSpec.upto sixbitBackSpec)) sixbitBackUptoCard
end Rows
end Go.Proofs.YtijgpelgdepbaaaDoor
