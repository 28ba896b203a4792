/- path.Split, Clean, Right. (A template.) -/
import Derived.Test.YtokocfoeohddfaaGreatDoorPaJoin
namespace Go.Proofs.YtokocfoeohddfaaGreatDoor.Pa
open Go.RowKit Go.Shelf Go.Proofs.RangeStr
set_option linter.unusedVariables false
set_option linter.unusedSimpArgs false
attribute [local go_sem] Oper.semAt_some

/-- between two rounds: k parts have come -/
def SJ (w : World) (l : L8) (N k : Nat) (W : World) : Prop :=
  W.heap[w.heap.size + 1]? = some (.cells #[.slice (some ⟨w.heap.size, 0, none⟩) k N] 48) ∧
  W.ownsRow w.heap.size 9 1 (.slice (some ⟨w.heap.size, 0, none⟩) k N) k (strs ((parts l).take k)) ∧
  W.heap[w.heap.size + 2]? = some (.cells #[.string (mk l)] 9) ∧ Below w.heap.size w W
theorem SJ.keep {w W W' : World} {l : L8} {N k : Nat} (h : SJ w l N k W) (hk : KeepCD W W') (hb : Below w.heap.size W W') : SJ w l N k W' := by
  obtain ⟨h1, h2, h3, h4⟩ := h
  exact ⟨hk.cells h1, hk.row h2, hk.cells h3, h4.trans hb⟩

end Go.Proofs.YtokocfoeohddfaaGreatDoor.Pa
