/-
  DERIVED. GIVEN WITH THE SEED: THE CARDS: each row of YtokocfoeohddfaaDoorRows.lean that lists a variable, with what it lists TIED to the program's text (the seventh form; the later family's looks); each row that meets fmt, with fmt's text TOLD by the authors' own Lean function (tested against real Go, not proved from fmt's source: count such statements apart). THE CARD IS WHAT COUNTS. Prove the row's statement (the work); the ties are given (YtokocfoeohddfaaDoorTie.lean); close each card by the builder's one call (the guide's Derived/Test/ToyasCard.lean, 'card_holds'). Laid BY PROGRAM, IN A SANDBOX (cutbox-door.mjs). By AI agents, Wed Nov 11 2026. No macro, syntax, notation, axiom, sorry.
-/
import Derived.Test.YtokocfoeohddfaaDoorRows
import GoSem.ClaimSeven
namespace Go.Proofs.YtokocfoeohddfaaDoor
namespace Rows

/-- THE TIED CARD OF 'remoralaw14.GlobChecks'. -/
def globChecksCard : Claim7 := { stood := { row := globChecksRow, standIns := [], harness := (true, "afe129baa71a435e053574435ca02d2ce3ad3d542f9c8bc5ec283154e8175fc5"), looks := false }, kinds := [], alts := [], laidByText := true, laidKinds := [.data, .pinned], laidTests := true, laidLooks := .later }
def GlobChecksCardSaid : Prop := Claim7.holds Tryd.pinned (.plain (OpenSpec.ofChange globChecksSpec)) globChecksCard

/-- THE TIED CARD OF 'remoralaw14.GlobMatches'. -/
def globMatchesCard : Claim7 := { stood := { row := globMatchesRow, standIns := [], harness := (true, "afe129baa71a435e053574435ca02d2ce3ad3d542f9c8bc5ec283154e8175fc5"), looks := false }, kinds := [], alts := [], laidByText := true, laidKinds := [.data, .pinned], laidTests := true, laidLooks := .later }
def GlobMatchesCardSaid : Prop := Claim7.holds Tryd.pinned (.plain (OpenSpec.ofChange globMatchesSpec)) globMatchesCard

/-- THE TIED CARD OF 'remoralaw14.GlobHeads'. -/
def globHeadsCard : Claim7 := { stood := { row := globHeadsRow, standIns := [], harness := (true, "afe129baa71a435e053574435ca02d2ce3ad3d542f9c8bc5ec283154e8175fc5"), looks := false }, kinds := [], alts := [], laidByText := true, laidKinds := [.data, .pinned], laidTests := true, laidLooks := .later }
def GlobHeadsCardSaid : Prop := Claim7.holds Tryd.pinned (.plain (OpenSpec.ofChange globHeadsSpec)) globHeadsCard

/-- THE TIED CARD OF 'remoralaw14.GlobParts'. -/
def globPartsCard : Claim7 := { stood := { row := globPartsRow, standIns := [], harness := (true, "afe129baa71a435e053574435ca02d2ce3ad3d542f9c8bc5ec283154e8175fc5"), looks := false }, kinds := [], alts := [], laidByText := true, laidKinds := [.data, .pinned], laidTests := true, laidLooks := .later }
def GlobPartsCardSaid : Prop := Claim7.holds Tryd.pinned (.plain (OpenSpec.ofChange globPartsSpec)) globPartsCard

/-- THE TIED CARD OF 'remoralaw15.RulesMays'. -/
def rulesMaysCard : Claim7 := { stood := { row := rulesMaysRow, standIns := [], harness := (true, "afe129baa71a435e053574435ca02d2ce3ad3d542f9c8bc5ec283154e8175fc5"), looks := false }, kinds := [], alts := [], laidByText := true, laidKinds := [.data, .pinned], laidTests := true, laidLooks := .later }
def RulesMaysCardSaid : Prop := Claim7.holds Tryd.pinned (.plain (OpenSpec.ofChange rulesMaysSpec)) rulesMaysCard

/-- THE TIED CARD OF 'remoralaw15.RulesParses'. -/
def rulesParsesCard : Claim7 := { stood := { row := rulesParsesRow, standIns := [], harness := (true, "afe129baa71a435e053574435ca02d2ce3ad3d542f9c8bc5ec283154e8175fc5"), looks := false }, kinds := [], alts := [], laidByText := true, laidKinds := [.data, .pinned], laidTests := true, laidLooks := .later }
def RulesParsesCardSaid : Prop := Claim7.holds Tryd.pinned (.plain (OpenSpec.ofChange rulesParsesSpec)) rulesParsesCard

/-- THE TIED CARD OF 'remoralaw15.RulesIdle'. -/
def rulesIdleCard : Claim7 := { stood := { row := rulesIdleRow, standIns := [], harness := (true, "afe129baa71a435e053574435ca02d2ce3ad3d542f9c8bc5ec283154e8175fc5"), looks := false }, kinds := [], alts := [], laidByText := true, laidKinds := [.data, .pinned], laidTests := true, laidLooks := .later }
def RulesIdleCardSaid : Prop := Claim7.holds Tryd.pinned (.plain (OpenSpec.ofChange rulesIdleSpec)) rulesIdleCard

/-- THE SECOND FORM's CARD OF 'remoralaw14.GlobChecks'. -/
def globChecksUptoCard : Claim7 := { stood := { row := globChecksUptoRow, standIns := [], harness := (true, "afe129baa71a435e053574435ca02d2ce3ad3d542f9c8bc5ec283154e8175fc5"), looks := false }, kinds := [], alts := [], laidByText := true, laidKinds := [.data, .pinned], laidTests := true, laidLooks := .later }
def GlobChecksUptoCardSaid : Prop := Claim7.holds Tryd.pinned (.plain (OpenSpec.upto globChecksSpec)) globChecksUptoCard

/-- THE SECOND FORM's CARD OF 'remoralaw14.GlobMatches'. -/
def globMatchesUptoCard : Claim7 := { stood := { row := globMatchesUptoRow, standIns := [], harness := (true, "afe129baa71a435e053574435ca02d2ce3ad3d542f9c8bc5ec283154e8175fc5"), looks := false }, kinds := [], alts := [], laidByText := true, laidKinds := [.data, .pinned], laidTests := true, laidLooks := .later }
def GlobMatchesUptoCardSaid : Prop := Claim7.holds Tryd.pinned (.plain (OpenSpec.upto globMatchesSpec)) globMatchesUptoCard

/-- THE SECOND FORM's CARD OF 'remoralaw14.GlobHeads'. -/
def globHeadsUptoCard : Claim7 := { stood := { row := globHeadsUptoRow, standIns := [], harness := (true, "afe129baa71a435e053574435ca02d2ce3ad3d542f9c8bc5ec283154e8175fc5"), looks := false }, kinds := [], alts := [], laidByText := true, laidKinds := [.data, .pinned], laidTests := true, laidLooks := .later }
def GlobHeadsUptoCardSaid : Prop := Claim7.holds Tryd.pinned (.plain (OpenSpec.upto globHeadsSpec)) globHeadsUptoCard

/-- THE SECOND FORM's CARD OF 'remoralaw14.GlobParts'. -/
def globPartsUptoCard : Claim7 := { stood := { row := globPartsUptoRow, standIns := [], harness := (true, "afe129baa71a435e053574435ca02d2ce3ad3d542f9c8bc5ec283154e8175fc5"), looks := false }, kinds := [], alts := [], laidByText := true, laidKinds := [.data, .pinned], laidTests := true, laidLooks := .later }
def GlobPartsUptoCardSaid : Prop := Claim7.holds Tryd.pinned (.plain (OpenSpec.upto globPartsSpec)) globPartsUptoCard

/-- THE SECOND FORM's CARD OF 'remoralaw15.RulesMays'. -/
def rulesMaysUptoCard : Claim7 := { stood := { row := rulesMaysUptoRow, standIns := [], harness := (true, "afe129baa71a435e053574435ca02d2ce3ad3d542f9c8bc5ec283154e8175fc5"), looks := false }, kinds := [], alts := [], laidByText := true, laidKinds := [.data, .pinned], laidTests := true, laidLooks := .later }
def RulesMaysUptoCardSaid : Prop := Claim7.holds Tryd.pinned (.plain (OpenSpec.upto rulesMaysSpec)) rulesMaysUptoCard

/-- THE SECOND FORM's CARD OF 'remoralaw15.RulesParses'. -/
def rulesParsesUptoCard : Claim7 := { stood := { row := rulesParsesUptoRow, standIns := [], harness := (true, "afe129baa71a435e053574435ca02d2ce3ad3d542f9c8bc5ec283154e8175fc5"), looks := false }, kinds := [], alts := [], laidByText := true, laidKinds := [.data, .pinned], laidTests := true, laidLooks := .later }
def RulesParsesUptoCardSaid : Prop := Claim7.holds Tryd.pinned (.plain (OpenSpec.upto rulesParsesSpec)) rulesParsesUptoCard

/-- THE SECOND FORM's CARD OF 'remoralaw15.RulesIdle'. -/
def rulesIdleUptoCard : Claim7 := { stood := { row := rulesIdleUptoRow, standIns := [], harness := (true, "afe129baa71a435e053574435ca02d2ce3ad3d542f9c8bc5ec283154e8175fc5"), looks := false }, kinds := [], alts := [], laidByText := true, laidKinds := [.data, .pinned], laidTests := true, laidLooks := .later }
def RulesIdleUptoCardSaid : Prop := Claim7.holds Tryd.pinned (.plain (OpenSpec.upto rulesIdleSpec)) rulesIdleUptoCard
end Rows
end Go.Proofs.YtokocfoeohddfaaDoor
