/- path: the chapter's small case. (A template.) -/
import Derived.Test.YtokocfoeohddfaaGreatDoorPaMore
namespace Go.Proofs.YtokocfoeohddfaaGreatDoor.Pa
open Go.RowKit
set_option linter.unusedVariables false
set_option linter.unusedSimpArgs false
set_option maxRecDepth 1000000

theorem cl_ex : cl [47, 47, 97, 47, 46, 47, 98, 47] = ([97, 47, 98], 0) := by first | decide | kernel_rfl | rfl
theorem less_ex : lessB [97, 47, 98, 47, 99] [97, 46, 98] = true := by first | decide | kernel_rfl | rfl
theorem common_ex : commonL [97, 47, 98] [97, 47, 99] = [97] := by first | decide | kernel_rfl | rfl
end Go.Proofs.YtokocfoeohddfaaGreatDoor.Pa
