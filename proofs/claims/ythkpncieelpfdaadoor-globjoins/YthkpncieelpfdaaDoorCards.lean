/-
  DERIVED. GIVEN WITH THE SEED: THE CARDS: each row of YthkpncieelpfdaaDoorRows.lean that lists a variable, with what it lists TIED to the program's text (the seventh form; the later family's looks); each row that meets fmt, with fmt's text TOLD by the authors' own Lean function (tested against real Go, not proved from fmt's source: count such statements apart). THE CARD IS WHAT COUNTS. Prove the row's statement (the work); the ties are given (YthkpncieelpfdaaDoorTie.lean); close each card by the builder's one call (the guide's Derived/Test/ToyasCard.lean, 'card_holds'). Laid BY PROGRAM, IN A SANDBOX (cutbox-door.mjs). By AI agents, Wed Nov 11 2026. No macro, syntax, notation, axiom, sorry.
-/
import Derived.Test.YthkpncieelpfdaaDoorRows
import GoSem.ClaimSeven
namespace Go.Proofs.YthkpncieelpfdaaDoor
namespace Rows

/-- THE TIED CARD OF 'remoralaw14.GlobChecks'. -/
def globChecksCard : Claim7 := { stood := { row := globChecksRow, standIns := [], harness := (true, "25322fd254a480ae0843e123b30f489d97e80081937a09677f3491fca584e2a3"), looks := false }, kinds := [], alts := [], laidByText := true, laidKinds := [.data, .pinned], laidTests := true, laidLooks := .later }
def GlobChecksCardSaid : Prop := Claim7.holds Tryd.pinned (.plain (OpenSpec.ofChange globChecksSpec)) globChecksCard

/-- THE TIED CARD OF 'remoralaw14.GlobMatches'. -/
def globMatchesCard : Claim7 := { stood := { row := globMatchesRow, standIns := [], harness := (true, "25322fd254a480ae0843e123b30f489d97e80081937a09677f3491fca584e2a3"), looks := false }, kinds := [], alts := [], laidByText := true, laidKinds := [.data, .pinned], laidTests := true, laidLooks := .later }
def GlobMatchesCardSaid : Prop := Claim7.holds Tryd.pinned (.plain (OpenSpec.ofChange globMatchesSpec)) globMatchesCard

/-- THE TIED CARD OF 'remoralaw14.GlobHeads'. -/
def globHeadsCard : Claim7 := { stood := { row := globHeadsRow, standIns := [], harness := (true, "25322fd254a480ae0843e123b30f489d97e80081937a09677f3491fca584e2a3"), looks := false }, kinds := [], alts := [], laidByText := true, laidKinds := [.data, .pinned], laidTests := true, laidLooks := .later }
def GlobHeadsCardSaid : Prop := Claim7.holds Tryd.pinned (.plain (OpenSpec.ofChange globHeadsSpec)) globHeadsCard

/-- THE TIED CARD OF 'remoralaw14.GlobBegins'. -/
def globBeginsCard : Claim7 := { stood := { row := globBeginsRow, standIns := [], harness := (true, "25322fd254a480ae0843e123b30f489d97e80081937a09677f3491fca584e2a3"), looks := false }, kinds := [], alts := [], laidByText := true, laidKinds := [.data, .pinned], laidTests := true, laidLooks := .later }
def GlobBeginsCardSaid : Prop := Claim7.holds Tryd.pinned (.plain (OpenSpec.ofChange globBeginsSpec)) globBeginsCard

/-- THE TIED CARD OF 'remoralaw14.GlobEscapes'. -/
def globEscapesCard : Claim7 := { stood := { row := globEscapesRow, standIns := [], harness := (true, "25322fd254a480ae0843e123b30f489d97e80081937a09677f3491fca584e2a3"), looks := false }, kinds := [], alts := [], laidByText := true, laidKinds := [.data, .pinned], laidTests := true, laidLooks := .later }
def GlobEscapesCardSaid : Prop := Claim7.holds Tryd.pinned (.plain (OpenSpec.ofChange globEscapesSpec)) globEscapesCard

/-- THE TIED CARD OF 'remoralaw14.GlobJoins'. -/
def globJoinsCard : Claim7 := { stood := { row := globJoinsRow, standIns := [], harness := (true, "25322fd254a480ae0843e123b30f489d97e80081937a09677f3491fca584e2a3"), looks := false }, kinds := [], alts := [], laidByText := true, laidKinds := [.data, .pinned], laidTests := true, laidLooks := .later }
def GlobJoinsCardSaid : Prop := Claim7.holds Tryd.pinned (.plain (OpenSpec.ofChange globJoinsSpec)) globJoinsCard

/-- THE TIED CARD OF 'remoralaw14.GlobParts'. -/
def globPartsCard : Claim7 := { stood := { row := globPartsRow, standIns := [], harness := (true, "25322fd254a480ae0843e123b30f489d97e80081937a09677f3491fca584e2a3"), looks := false }, kinds := [], alts := [], laidByText := true, laidKinds := [.data, .pinned], laidTests := true, laidLooks := .later }
def GlobPartsCardSaid : Prop := Claim7.holds Tryd.pinned (.plain (OpenSpec.ofChange globPartsSpec)) globPartsCard

/-- THE TIED CARD OF 'remoralaw15.RulesMays'. -/
def rulesMaysCard : Claim7 := { stood := { row := rulesMaysRow, standIns := [], harness := (true, "25322fd254a480ae0843e123b30f489d97e80081937a09677f3491fca584e2a3"), looks := false }, kinds := [], alts := [], laidByText := true, laidKinds := [.data, .pinned], laidTests := true, laidLooks := .later }
def RulesMaysCardSaid : Prop := Claim7.holds Tryd.pinned (.plain (OpenSpec.ofChange rulesMaysSpec)) rulesMaysCard

/-- THE SECOND FORM's CARD OF 'remoralaw14.GlobChecks'. -/
def globChecksUptoCard : Claim7 := { stood := { row := globChecksUptoRow, standIns := [], harness := (true, "25322fd254a480ae0843e123b30f489d97e80081937a09677f3491fca584e2a3"), looks := false }, kinds := [], alts := [], laidByText := true, laidKinds := [.data, .pinned], laidTests := true, laidLooks := .later }
def GlobChecksUptoCardSaid : Prop := Claim7.holds Tryd.pinned (.plain (OpenSpec.upto globChecksSpec)) globChecksUptoCard

/-- THE SECOND FORM's CARD OF 'remoralaw14.GlobMatches'. -/
def globMatchesUptoCard : Claim7 := { stood := { row := globMatchesUptoRow, standIns := [], harness := (true, "25322fd254a480ae0843e123b30f489d97e80081937a09677f3491fca584e2a3"), looks := false }, kinds := [], alts := [], laidByText := true, laidKinds := [.data, .pinned], laidTests := true, laidLooks := .later }
def GlobMatchesUptoCardSaid : Prop := Claim7.holds Tryd.pinned (.plain (OpenSpec.upto globMatchesSpec)) globMatchesUptoCard

/-- THE SECOND FORM's CARD OF 'remoralaw14.GlobHeads'. -/
def globHeadsUptoCard : Claim7 := { stood := { row := globHeadsUptoRow, standIns := [], harness := (true, "25322fd254a480ae0843e123b30f489d97e80081937a09677f3491fca584e2a3"), looks := false }, kinds := [], alts := [], laidByText := true, laidKinds := [.data, .pinned], laidTests := true, laidLooks := .later }
def GlobHeadsUptoCardSaid : Prop := Claim7.holds Tryd.pinned (.plain (OpenSpec.upto globHeadsSpec)) globHeadsUptoCard

/-- THE SECOND FORM's CARD OF 'remoralaw14.GlobBegins'. -/
def globBeginsUptoCard : Claim7 := { stood := { row := globBeginsUptoRow, standIns := [], harness := (true, "25322fd254a480ae0843e123b30f489d97e80081937a09677f3491fca584e2a3"), looks := false }, kinds := [], alts := [], laidByText := true, laidKinds := [.data, .pinned], laidTests := true, laidLooks := .later }
def GlobBeginsUptoCardSaid : Prop := Claim7.holds Tryd.pinned (.plain (OpenSpec.upto globBeginsSpec)) globBeginsUptoCard

/-- THE SECOND FORM's CARD OF 'remoralaw14.GlobEscapes'. -/
def globEscapesUptoCard : Claim7 := { stood := { row := globEscapesUptoRow, standIns := [], harness := (true, "25322fd254a480ae0843e123b30f489d97e80081937a09677f3491fca584e2a3"), looks := false }, kinds := [], alts := [], laidByText := true, laidKinds := [.data, .pinned], laidTests := true, laidLooks := .later }
def GlobEscapesUptoCardSaid : Prop := Claim7.holds Tryd.pinned (.plain (OpenSpec.upto globEscapesSpec)) globEscapesUptoCard

/-- THE SECOND FORM's CARD OF 'remoralaw14.GlobJoins'. -/
def globJoinsUptoCard : Claim7 := { stood := { row := globJoinsUptoRow, standIns := [], harness := (true, "25322fd254a480ae0843e123b30f489d97e80081937a09677f3491fca584e2a3"), looks := false }, kinds := [], alts := [], laidByText := true, laidKinds := [.data, .pinned], laidTests := true, laidLooks := .later }
def GlobJoinsUptoCardSaid : Prop := Claim7.holds Tryd.pinned (.plain (OpenSpec.upto globJoinsSpec)) globJoinsUptoCard

/-- THE SECOND FORM's CARD OF 'remoralaw14.GlobParts'. -/
def globPartsUptoCard : Claim7 := { stood := { row := globPartsUptoRow, standIns := [], harness := (true, "25322fd254a480ae0843e123b30f489d97e80081937a09677f3491fca584e2a3"), looks := false }, kinds := [], alts := [], laidByText := true, laidKinds := [.data, .pinned], laidTests := true, laidLooks := .later }
def GlobPartsUptoCardSaid : Prop := Claim7.holds Tryd.pinned (.plain (OpenSpec.upto globPartsSpec)) globPartsUptoCard

/-- THE SECOND FORM's CARD OF 'remoralaw15.RulesMays'. -/
def rulesMaysUptoCard : Claim7 := { stood := { row := rulesMaysUptoRow, standIns := [], harness := (true, "25322fd254a480ae0843e123b30f489d97e80081937a09677f3491fca584e2a3"), looks := false }, kinds := [], alts := [], laidByText := true, laidKinds := [.data, .pinned], laidTests := true, laidLooks := .later }
def RulesMaysUptoCardSaid : Prop := Claim7.holds Tryd.pinned (.plain (OpenSpec.upto rulesMaysSpec)) rulesMaysUptoCard
end Rows
end Go.Proofs.YthkpncieelpfdaaDoor
