/-
  DERIVED. GIVEN WITH THE SEED: THE CARDS: each row of YtpdodknldhbbhaaGreatDoorRows.lean that lists a variable, with what it lists TIED to the program's text (the seventh form; the later family's looks); each row that meets fmt, with fmt's text TOLD by the authors' own Lean function (tested against real Go, not proved from fmt's source: count such statements apart). THE CARD IS WHAT COUNTS. Prove the row's statement (the work); the ties are given (YtpdodknldhbbhaaGreatDoorTie.lean); close each card by the builder's one call (the guide's Derived/Test/ToyasCard.lean, 'card_holds'). Laid BY PROGRAM, IN A SANDBOX (cutbox-door.mjs). By AI agents, Wed Nov 11 2026. No macro, syntax, notation, axiom, sorry.
-/
import Derived.Test.YtpdodknldhbbhaaGreatDoorRows
import GoSem.ClaimSeven
namespace Go.Proofs.YtpdodknldhbbhaaGreatDoor
namespace Rows

/-- THE TIED CARD OF 'cardcaselaw10.VcardPrints'. -/
def vcardPrintsCard : Claim7 := { stood := { row := vcardPrintsRow, standIns := [], harness := (true, "1d80f47ae36871c76de635d3524504fdb22c6db912d114c56bd0c1363e7d8961"), looks := false }, kinds := [], alts := [], laidByText := true, laidKinds := [.data, .pinned], laidTests := true, laidLooks := .later }
def VcardPrintsCardSaid : Prop := Claim7.holds Tryz.pinned (.plain (OpenSpec.ofChange vcardPrintsSpec)) vcardPrintsCard

/-- THE TIED CARD OF 'cardcaselaw10.VcardSame'. -/
def vcardSameCard : Claim7 := { stood := { row := vcardSameRow, standIns := [], harness := (true, "1d80f47ae36871c76de635d3524504fdb22c6db912d114c56bd0c1363e7d8961"), looks := false }, kinds := [], alts := [], laidByText := true, laidKinds := [.data, .pinned, .pinned], laidTests := true, laidLooks := .later }
def VcardSameCardSaid : Prop := Claim7.holds Tryz.pinned (.plain (OpenSpec.ofChange vcardSameSpec)) vcardSameCard

/-- THE TIED CARD OF 'cardcaselaw10.VcardBack'. -/
def vcardBackCard : Claim7 := { stood := { row := vcardBackRow, standIns := [], harness := (true, "1d80f47ae36871c76de635d3524504fdb22c6db912d114c56bd0c1363e7d8961"), looks := false }, kinds := [], alts := [], laidByText := true, laidKinds := [.data, .pinned, .pinned], laidTests := true, laidLooks := .later }
def VcardBackCardSaid : Prop := Claim7.holds Tryz.pinned (.plain (OpenSpec.ofChange vcardBackSpec)) vcardBackCard

/-- THE TIED CARD OF 'cardcaselaw10.VcardLines'. -/
def vcardLinesCard : Claim7 := { stood := { row := vcardLinesRow, standIns := [], harness := (true, "1d80f47ae36871c76de635d3524504fdb22c6db912d114c56bd0c1363e7d8961"), looks := false }, kinds := [], alts := [], laidByText := true, laidKinds := [.data, .pinned, .pinned], laidTests := true, laidLooks := .later }
def VcardLinesCardSaid : Prop := Claim7.holds Tryz.pinned (.plain (OpenSpec.ofChange vcardLinesSpec)) vcardLinesCard

/-- THE SECOND FORM's CARD OF 'cardcaselaw10.VcardPrints'. -/
def vcardPrintsUptoCard : Claim7 := { stood := { row := vcardPrintsUptoRow, standIns := [], harness := (true, "1d80f47ae36871c76de635d3524504fdb22c6db912d114c56bd0c1363e7d8961"), looks := false }, kinds := [], alts := [], laidByText := true, laidKinds := [.data, .pinned], laidTests := true, laidLooks := .later }
def VcardPrintsUptoCardSaid : Prop := Claim7.holds Tryz.pinned (.plain (OpenSpec.upto vcardPrintsSpec)) vcardPrintsUptoCard

/-- THE SECOND FORM's CARD OF 'cardcaselaw10.VcardSame'. -/
def vcardSameUptoCard : Claim7 := { stood := { row := vcardSameUptoRow, standIns := [], harness := (true, "1d80f47ae36871c76de635d3524504fdb22c6db912d114c56bd0c1363e7d8961"), looks := false }, kinds := [], alts := [], laidByText := true, laidKinds := [.data, .pinned, .pinned], laidTests := true, laidLooks := .later }
def VcardSameUptoCardSaid : Prop := Claim7.holds Tryz.pinned (.plain (OpenSpec.upto vcardSameSpec)) vcardSameUptoCard

/-- THE SECOND FORM's CARD OF 'cardcaselaw10.VcardBack'. -/
def vcardBackUptoCard : Claim7 := { stood := { row := vcardBackUptoRow, standIns := [], harness := (true, "1d80f47ae36871c76de635d3524504fdb22c6db912d114c56bd0c1363e7d8961"), looks := false }, kinds := [], alts := [], laidByText := true, laidKinds := [.data, .pinned, .pinned], laidTests := true, laidLooks := .later }
def VcardBackUptoCardSaid : Prop := Claim7.holds Tryz.pinned (.plain (OpenSpec.upto vcardBackSpec)) vcardBackUptoCard

/-- THE SECOND FORM's CARD OF 'cardcaselaw10.VcardLines'. -/
def vcardLinesUptoCard : Claim7 := { stood := { row := vcardLinesUptoRow, standIns := [], harness := (true, "1d80f47ae36871c76de635d3524504fdb22c6db912d114c56bd0c1363e7d8961"), looks := false }, kinds := [], alts := [], laidByText := true, laidKinds := [.data, .pinned, .pinned], laidTests := true, laidLooks := .later }
def VcardLinesUptoCardSaid : Prop := Claim7.holds Tryz.pinned (.plain (OpenSpec.upto vcardLinesSpec)) vcardLinesUptoCard
end Rows
end Go.Proofs.YtpdodknldhbbhaaGreatDoor
