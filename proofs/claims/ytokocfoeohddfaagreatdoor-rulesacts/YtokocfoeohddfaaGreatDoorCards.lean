/-
  DERIVED. GIVEN WITH THE SEED: THE CARDS: each row of YtokocfoeohddfaaGreatDoorRows.lean that lists a variable, with what it lists TIED to the program's text (the seventh form; the later family's looks); each row that meets fmt, with fmt's text TOLD by the authors' own Lean function (tested against real Go, not proved from fmt's source: count such statements apart). THE CARD IS WHAT COUNTS. Prove the row's statement (the work); the ties are given (YtokocfoeohddfaaGreatDoorTie.lean); close each card by the builder's one call (the guide's Derived/Test/ToyasCard.lean, 'card_holds'). Laid BY PROGRAM, IN A SANDBOX (cutbox-door.mjs). By AI agents, Wed Nov 11 2026. No macro, syntax, notation, axiom, sorry.
-/
import Derived.Test.YtokocfoeohddfaaGreatDoorRows
import GoSem.ClaimSeven
namespace Go.Proofs.YtokocfoeohddfaaGreatDoor
namespace Rows

/-- THE TIED CARD OF 'remoralaw15.RulesActs'. -/
def rulesActsCard : Claim7 := { stood := { row := rulesActsRow, standIns := [], harness := (true, "a38adcb41da2205b35eca2c36bb3d869c1998bbc750f0fe4624a7a2b5e0205e1"), looks := false }, kinds := [], alts := [], laidByText := true, laidKinds := [.data, .pinned], laidTests := true, laidLooks := .later }
def RulesActsCardSaid : Prop := Claim7.holds Tryz.pinned (.plain (OpenSpec.ofChange rulesActsSpec)) rulesActsCard

/-- THE SECOND FORM's CARD OF 'remoralaw15.RulesActs'. -/
def rulesActsUptoCard : Claim7 := { stood := { row := rulesActsUptoRow, standIns := [], harness := (true, "a38adcb41da2205b35eca2c36bb3d869c1998bbc750f0fe4624a7a2b5e0205e1"), looks := false }, kinds := [], alts := [], laidByText := true, laidKinds := [.data, .pinned], laidTests := true, laidLooks := .later }
def RulesActsUptoCardSaid : Prop := Claim7.holds Tryz.pinned (.plain (OpenSpec.upto rulesActsSpec)) rulesActsUptoCard
end Rows
end Go.Proofs.YtokocfoeohddfaaGreatDoor
