/-
  DERIVED. GIVEN WITH THE SEED: THE CARDS: each row of YtmahdlaifbbjgaaDoorRows.lean that lists a variable, with what it lists TIED to the program's text (the seventh form; the later family's looks); each row that meets fmt, with fmt's text TOLD by the authors' own Lean function (tested against real Go, not proved from fmt's source: count such statements apart). THE CARD IS WHAT COUNTS. Prove the row's statement (the work); the ties are given (YtmahdlaifbbjgaaDoorTie.lean); close each card by the builder's one call (the guide's Derived/Test/ToyasCard.lean, 'card_holds'). Laid BY PROGRAM, IN A SANDBOX (cutbox-door.mjs). By AI agents, Wed Nov 11 2026. No macro, syntax, notation, axiom, sorry.
-/
import Derived.Test.YtmahdlaifbbjgaaDoorRows
import GoSem.ClaimSeven
namespace Go.Proofs.YtmahdlaifbbjgaaDoor
namespace Rows

/-- THE TIED CARD OF 'cardcaselaw06.CharsetLetters'. -/
def charsetLettersCard : Claim7 := { stood := { row := charsetLettersRow, standIns := [], harness := (true, "44c59b007607463ddc32cd0b0e4db447616ffd8645469801c0892d2be3af4793"), looks := false }, kinds := [], alts := [], laidByText := true, laidKinds := [.data, .pinned], laidTests := true, laidLooks := .later }
def CharsetLettersCardSaid : Prop := Claim7.holds Tryd.pinned (.plain (OpenSpec.ofChange charsetLettersSpec)) charsetLettersCard

/-- THE TIED CARD OF 'cardcaselaw06.CharsetTurns'. -/
def charsetTurnsCard : Claim7 := { stood := { row := charsetTurnsRow, standIns := [], harness := (true, "44c59b007607463ddc32cd0b0e4db447616ffd8645469801c0892d2be3af4793"), looks := false }, kinds := [], alts := [], laidByText := true, laidKinds := [.data, .pinned], laidTests := true, laidLooks := .later }
def CharsetTurnsCardSaid : Prop := Claim7.holds Tryd.pinned (.plain (OpenSpec.ofChange charsetTurnsSpec)) charsetTurnsCard

/-- THE TIED CARD OF 'cardcaselaw06.CharsetBack'. -/
def charsetBackCard : Claim7 := { stood := { row := charsetBackRow, standIns := [], harness := (true, "44c59b007607463ddc32cd0b0e4db447616ffd8645469801c0892d2be3af4793"), looks := false }, kinds := [], alts := [], laidByText := true, laidKinds := [.data, .pinned], laidTests := true, laidLooks := .later }
def CharsetBackCardSaid : Prop := Claim7.holds Tryd.pinned (.plain (OpenSpec.ofChange charsetBackSpec)) charsetBackCard

/-- THE SECOND FORM's CARD OF 'cardcaselaw06.CharsetLetters'. -/
def charsetLettersUptoCard : Claim7 := { stood := { row := charsetLettersUptoRow, standIns := [], harness := (true, "44c59b007607463ddc32cd0b0e4db447616ffd8645469801c0892d2be3af4793"), looks := false }, kinds := [], alts := [], laidByText := true, laidKinds := [.data, .pinned], laidTests := true, laidLooks := .later }
def CharsetLettersUptoCardSaid : Prop := Claim7.holds Tryd.pinned (.plain (OpenSpec.upto charsetLettersSpec)) charsetLettersUptoCard

/-- THE SECOND FORM's CARD OF 'cardcaselaw06.CharsetTurns'. -/
def charsetTurnsUptoCard : Claim7 := { stood := { row := charsetTurnsUptoRow, standIns := [], harness := (true, "44c59b007607463ddc32cd0b0e4db447616ffd8645469801c0892d2be3af4793"), looks := false }, kinds := [], alts := [], laidByText := true, laidKinds := [.data, .pinned], laidTests := true, laidLooks := .later }
def CharsetTurnsUptoCardSaid : Prop := Claim7.holds Tryd.pinned (.plain (OpenSpec.upto charsetTurnsSpec)) charsetTurnsUptoCard

/-- THE SECOND FORM's CARD OF 'cardcaselaw06.CharsetBack'. -/
def charsetBackUptoCard : Claim7 := { stood := { row := charsetBackUptoRow, standIns := [], harness := (true, "44c59b007607463ddc32cd0b0e4db447616ffd8645469801c0892d2be3af4793"), looks := false }, kinds := [], alts := [], laidByText := true, laidKinds := [.data, .pinned], laidTests := true, laidLooks := .later }
def CharsetBackUptoCardSaid : Prop := Claim7.holds Tryd.pinned (.plain (OpenSpec.upto charsetBackSpec)) charsetBackUptoCard
end Rows
end Go.Proofs.YtmahdlaifbbjgaaDoor
