/-
  DERIVED. GIVEN WITH THE SEED: THE CARDS: each row of YtkojldjgjmaodabDoorRows.lean that lists a variable, with what it lists TIED to the program's text (the seventh form; the later family's looks); each row that meets fmt, with fmt's text TOLD by the authors' own Lean function (tested against real Go, not proved from fmt's source: count such statements apart). THE CARD IS WHAT COUNTS. Prove the row's statement (the work); the ties are given (YtkojldjgjmaodabDoorTie.lean); close each card by the builder's one call (the guide's Derived/Test/ToyasCard.lean, 'card_holds'). Laid BY PROGRAM, IN A SANDBOX (cutbox-door.mjs). By AI agents, Wed Nov 11 2026. No macro, syntax, notation, axiom, sorry.
-/
import Derived.Test.YtkojldjgjmaodabDoorRows
import GoSem.ClaimSeven
namespace Go.Proofs.YtkojldjgjmaodabDoor
namespace Rows

/-- THE TIED CARD OF 'remoralaw02.CrcBursts'. -/
def crcBurstsCard : Claim7 := { stood := { row := crcBurstsRow, standIns := [], harness := (true, "672e02914c6ab1cf11cc7d499eb26b3829e2f6201e66b4ce11e741accbea94b4"), looks := false }, kinds := [], alts := [], laidByText := true, laidKinds := [.data], laidTests := true, laidLooks := .later }
def CrcBurstsCardSaid : Prop := Claim7.holds Tryd.pinned (.plain (OpenSpec.ofChange crcBurstsSpec)) crcBurstsCard

/-- THE TIED CARD OF 'remoralaw02.CrcLines'. -/
def crcLinesCard : Claim7 := { stood := { row := crcLinesRow, standIns := [], harness := (true, "672e02914c6ab1cf11cc7d499eb26b3829e2f6201e66b4ce11e741accbea94b4"), looks := false }, kinds := [], alts := [], laidByText := true, laidKinds := [.data], laidTests := true, laidLooks := .later }
def CrcLinesCardSaid : Prop := Claim7.holds Tryd.pinned (.plain (OpenSpec.ofChange crcLinesSpec)) crcLinesCard

/-- THE SECOND FORM's CARD OF 'remoralaw02.CrcBursts'. -/
def crcBurstsUptoCard : Claim7 := { stood := { row := crcBurstsUptoRow, standIns := [], harness := (true, "672e02914c6ab1cf11cc7d499eb26b3829e2f6201e66b4ce11e741accbea94b4"), looks := false }, kinds := [], alts := [], laidByText := true, laidKinds := [.data], laidTests := true, laidLooks := .later }
def CrcBurstsUptoCardSaid : Prop := Claim7.holds Tryd.pinned (.plain (OpenSpec.upto crcBurstsSpec)) crcBurstsUptoCard

/-- THE SECOND FORM's CARD OF 'remoralaw02.CrcLines'. -/
def crcLinesUptoCard : Claim7 := { stood := { row := crcLinesUptoRow, standIns := [], harness := (true, "672e02914c6ab1cf11cc7d499eb26b3829e2f6201e66b4ce11e741accbea94b4"), looks := false }, kinds := [], alts := [], laidByText := true, laidKinds := [.data], laidTests := true, laidLooks := .later }
def CrcLinesUptoCardSaid : Prop := Claim7.holds Tryd.pinned (.plain (OpenSpec.upto crcLinesSpec)) crcLinesUptoCard
end Rows
end Go.Proofs.YtkojldjgjmaodabDoor
