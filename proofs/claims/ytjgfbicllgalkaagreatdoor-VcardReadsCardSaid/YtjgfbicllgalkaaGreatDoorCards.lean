/-
  DERIVED. GIVEN WITH THE SEED: THE CARDS: each row of YtjgfbicllgalkaaGreatDoorRows.lean that lists a variable, with what it lists TIED to the program's text (the seventh form; the later family's looks); each row that meets fmt, with fmt's text TOLD by the authors' own Lean function (tested against real Go, not proved from fmt's source: count such statements apart). THE CARD IS WHAT COUNTS. Prove the row's statement (the work); the ties are given (YtjgfbicllgalkaaGreatDoorTie.lean); close each card by the builder's one call (the guide's Derived/Test/ToyasCard.lean, 'card_holds'). Laid BY PROGRAM, IN A SANDBOX (cutbox-door.mjs). By AI agents, Wed Nov 11 2026. No macro, syntax, notation, axiom, sorry.
-/
import Derived.Test.YtjgfbicllgalkaaGreatDoorRows
import GoSem.ClaimSeven
namespace Go.Proofs.YtjgfbicllgalkaaGreatDoor
namespace Rows

/-- THE TIED CARD OF 'cardcaselaw10.VcardPrints'. -/
def vcardPrintsCard : Claim7 := { stood := { row := vcardPrintsRow, standIns := [], harness := (true, "5d5af06208c8ec61856a3a8ecbd74f372a58d8070d6613810e4e0db8f901e024"), looks := false }, kinds := [], alts := [], laidByText := true, laidKinds := [.data, .pinned], laidTests := true, laidLooks := .later }
def VcardPrintsCardSaid : Prop := Claim7.holds Tryz.pinned (.plain (OpenSpec.ofChange vcardPrintsSpec)) vcardPrintsCard

/-- THE TIED CARD OF 'cardcaselaw10.VcardReads'. -/
def vcardReadsCard : Claim7 := { stood := { row := vcardReadsRow, standIns := [], harness := (true, "5d5af06208c8ec61856a3a8ecbd74f372a58d8070d6613810e4e0db8f901e024"), looks := false }, kinds := [], alts := [], laidByText := true, laidKinds := [.data, .pinned, .pinned], laidTests := true, laidLooks := .later }
def VcardReadsCardSaid : Prop := Claim7.holds Tryz.pinned (.plain (OpenSpec.ofChange vcardReadsSpec)) vcardReadsCard

/-- THE TIED CARD OF 'cardcaselaw10.VcardSame'. -/
def vcardSameCard : Claim7 := { stood := { row := vcardSameRow, standIns := [], harness := (true, "5d5af06208c8ec61856a3a8ecbd74f372a58d8070d6613810e4e0db8f901e024"), looks := false }, kinds := [], alts := [], laidByText := true, laidKinds := [.data, .pinned, .pinned], laidTests := true, laidLooks := .later }
def VcardSameCardSaid : Prop := Claim7.holds Tryz.pinned (.plain (OpenSpec.ofChange vcardSameSpec)) vcardSameCard

/-- THE TIED CARD OF 'cardcaselaw10.VcardBack'. -/
def vcardBackCard : Claim7 := { stood := { row := vcardBackRow, standIns := [], harness := (true, "5d5af06208c8ec61856a3a8ecbd74f372a58d8070d6613810e4e0db8f901e024"), looks := false }, kinds := [], alts := [], laidByText := true, laidKinds := [.data, .pinned, .pinned], laidTests := true, laidLooks := .later }
def VcardBackCardSaid : Prop := Claim7.holds Tryz.pinned (.plain (OpenSpec.ofChange vcardBackSpec)) vcardBackCard

/-- THE TIED CARD OF 'cardcaselaw10.VcardLines'. -/
def vcardLinesCard : Claim7 := { stood := { row := vcardLinesRow, standIns := [], harness := (true, "5d5af06208c8ec61856a3a8ecbd74f372a58d8070d6613810e4e0db8f901e024"), looks := false }, kinds := [], alts := [], laidByText := true, laidKinds := [.data, .pinned, .pinned], laidTests := true, laidLooks := .later }
def VcardLinesCardSaid : Prop := Claim7.holds Tryz.pinned (.plain (OpenSpec.ofChange vcardLinesSpec)) vcardLinesCard

/-- THE TIED CARD OF 'cardcaselaw11.ContactPrints'. -/
def contactPrintsCard : Claim7 := { stood := { row := contactPrintsRow, standIns := [], harness := (true, "5d5af06208c8ec61856a3a8ecbd74f372a58d8070d6613810e4e0db8f901e024"), looks := false }, kinds := [], alts := [], laidByText := true, laidKinds := [.data, .pinned, .pinned], laidTests := true, laidLooks := .later }
def ContactPrintsCardSaid : Prop := Claim7.holds Tryz.pinned (.plain (OpenSpec.ofChange contactPrintsSpec)) contactPrintsCard

/-- THE TIED CARD OF 'cardcaselaw11.ContactSays'. -/
def contactSaysCard : Claim7 := { stood := { row := contactSaysRow, standIns := [], harness := (true, "5d5af06208c8ec61856a3a8ecbd74f372a58d8070d6613810e4e0db8f901e024"), looks := false }, kinds := [], alts := [], laidByText := true, laidKinds := [.data, .pinned, .pinned], laidTests := true, laidLooks := .later }
def ContactSaysCardSaid : Prop := Claim7.holds Tryz.pinned (.plain (OpenSpec.ofChange contactSaysSpec)) contactSaysCard

/-- THE TIED CARD OF 'cardcaselaw11.ContactBack'. -/
def contactBackCard : Claim7 := { stood := { row := contactBackRow, standIns := [], harness := (true, "5d5af06208c8ec61856a3a8ecbd74f372a58d8070d6613810e4e0db8f901e024"), looks := false }, kinds := [], alts := [], laidByText := true, laidKinds := [.data, .pinned, .pinned], laidTests := true, laidLooks := .later }
def ContactBackCardSaid : Prop := Claim7.holds Tryz.pinned (.plain (OpenSpec.ofChange contactBackSpec)) contactBackCard

/-- THE TIED CARD OF 'cardcaselaw11.ContactOrder'. -/
def contactOrderCard : Claim7 := { stood := { row := contactOrderRow, standIns := [], harness := (true, "5d5af06208c8ec61856a3a8ecbd74f372a58d8070d6613810e4e0db8f901e024"), looks := false }, kinds := [], alts := [], laidByText := true, laidKinds := [.data, .pinned, .pinned], laidTests := true, laidLooks := .later }
def ContactOrderCardSaid : Prop := Claim7.holds Tryz.pinned (.plain (OpenSpec.ofChange contactOrderSpec)) contactOrderCard

/-- THE SECOND FORM's CARD OF 'cardcaselaw10.VcardPrints'. -/
def vcardPrintsUptoCard : Claim7 := { stood := { row := vcardPrintsUptoRow, standIns := [], harness := (true, "5d5af06208c8ec61856a3a8ecbd74f372a58d8070d6613810e4e0db8f901e024"), looks := false }, kinds := [], alts := [], laidByText := true, laidKinds := [.data, .pinned], laidTests := true, laidLooks := .later }
def VcardPrintsUptoCardSaid : Prop := Claim7.holds Tryz.pinned (.plain (OpenSpec.upto vcardPrintsSpec)) vcardPrintsUptoCard

/-- THE SECOND FORM's CARD OF 'cardcaselaw10.VcardReads'. -/
def vcardReadsUptoCard : Claim7 := { stood := { row := vcardReadsUptoRow, standIns := [], harness := (true, "5d5af06208c8ec61856a3a8ecbd74f372a58d8070d6613810e4e0db8f901e024"), looks := false }, kinds := [], alts := [], laidByText := true, laidKinds := [.data, .pinned, .pinned], laidTests := true, laidLooks := .later }
def VcardReadsUptoCardSaid : Prop := Claim7.holds Tryz.pinned (.plain (OpenSpec.upto vcardReadsSpec)) vcardReadsUptoCard

/-- THE SECOND FORM's CARD OF 'cardcaselaw10.VcardSame'. -/
def vcardSameUptoCard : Claim7 := { stood := { row := vcardSameUptoRow, standIns := [], harness := (true, "5d5af06208c8ec61856a3a8ecbd74f372a58d8070d6613810e4e0db8f901e024"), looks := false }, kinds := [], alts := [], laidByText := true, laidKinds := [.data, .pinned, .pinned], laidTests := true, laidLooks := .later }
def VcardSameUptoCardSaid : Prop := Claim7.holds Tryz.pinned (.plain (OpenSpec.upto vcardSameSpec)) vcardSameUptoCard

/-- THE SECOND FORM's CARD OF 'cardcaselaw10.VcardBack'. -/
def vcardBackUptoCard : Claim7 := { stood := { row := vcardBackUptoRow, standIns := [], harness := (true, "5d5af06208c8ec61856a3a8ecbd74f372a58d8070d6613810e4e0db8f901e024"), looks := false }, kinds := [], alts := [], laidByText := true, laidKinds := [.data, .pinned, .pinned], laidTests := true, laidLooks := .later }
def VcardBackUptoCardSaid : Prop := Claim7.holds Tryz.pinned (.plain (OpenSpec.upto vcardBackSpec)) vcardBackUptoCard

/-- THE SECOND FORM's CARD OF 'cardcaselaw10.VcardLines'. -/
def vcardLinesUptoCard : Claim7 := { stood := { row := vcardLinesUptoRow, standIns := [], harness := (true, "5d5af06208c8ec61856a3a8ecbd74f372a58d8070d6613810e4e0db8f901e024"), looks := false }, kinds := [], alts := [], laidByText := true, laidKinds := [.data, .pinned, .pinned], laidTests := true, laidLooks := .later }
def VcardLinesUptoCardSaid : Prop := Claim7.holds Tryz.pinned (.plain (OpenSpec.upto vcardLinesSpec)) vcardLinesUptoCard

/-- THE SECOND FORM's CARD OF 'cardcaselaw11.ContactPrints'. -/
def contactPrintsUptoCard : Claim7 := { stood := { row := contactPrintsUptoRow, standIns := [], harness := (true, "5d5af06208c8ec61856a3a8ecbd74f372a58d8070d6613810e4e0db8f901e024"), looks := false }, kinds := [], alts := [], laidByText := true, laidKinds := [.data, .pinned, .pinned], laidTests := true, laidLooks := .later }
def ContactPrintsUptoCardSaid : Prop := Claim7.holds Tryz.pinned (.plain (OpenSpec.upto contactPrintsSpec)) contactPrintsUptoCard

/-- THE SECOND FORM's CARD OF 'cardcaselaw11.ContactSays'. -/
def contactSaysUptoCard : Claim7 := { stood := { row := contactSaysUptoRow, standIns := [], harness := (true, "5d5af06208c8ec61856a3a8ecbd74f372a58d8070d6613810e4e0db8f901e024"), looks := false }, kinds := [], alts := [], laidByText := true, laidKinds := [.data, .pinned, .pinned], laidTests := true, laidLooks := .later }
def ContactSaysUptoCardSaid : Prop := Claim7.holds Tryz.pinned (.plain (OpenSpec.upto contactSaysSpec)) contactSaysUptoCard

/-- THE SECOND FORM's CARD OF 'cardcaselaw11.ContactBack'. -/
def contactBackUptoCard : Claim7 := { stood := { row := contactBackUptoRow, standIns := [], harness := (true, "5d5af06208c8ec61856a3a8ecbd74f372a58d8070d6613810e4e0db8f901e024"), looks := false }, kinds := [], alts := [], laidByText := true, laidKinds := [.data, .pinned, .pinned], laidTests := true, laidLooks := .later }
def ContactBackUptoCardSaid : Prop := Claim7.holds Tryz.pinned (.plain (OpenSpec.upto contactBackSpec)) contactBackUptoCard

/-- THE SECOND FORM's CARD OF 'cardcaselaw11.ContactOrder'. -/
def contactOrderUptoCard : Claim7 := { stood := { row := contactOrderUptoRow, standIns := [], harness := (true, "5d5af06208c8ec61856a3a8ecbd74f372a58d8070d6613810e4e0db8f901e024"), looks := false }, kinds := [], alts := [], laidByText := true, laidKinds := [.data, .pinned, .pinned], laidTests := true, laidLooks := .later }
def ContactOrderUptoCardSaid : Prop := Claim7.holds Tryz.pinned (.plain (OpenSpec.upto contactOrderSpec)) contactOrderUptoCard
end Rows
end Go.Proofs.YtjgfbicllgalkaaGreatDoor
