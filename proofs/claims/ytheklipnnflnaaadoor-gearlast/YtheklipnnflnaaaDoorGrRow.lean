/- gear: the table of the rows. (A template: seatgen.py fills it.) -/
import Derived.Test.YtheklipnnflnaaaDoorGrBase
import Derived.Lib.LaidTab
namespace Go.Proofs.YtheklipnnflnaaaDoor
open Go.RowKit Go.Proofs.GearMath
def Tab (W : World) (g : Nat) (K : List Int) : Prop := ∀ j, j < K.length → W.cell? ⟨g, j, none⟩ = some (.int .u64 (K.getD j 0))
theorem tab_is {W : World} {name : String} {g : Nat} {K : List Int} (h : Lib.TabIs Tryd.prog W name .u64 K) (hg : Tryd.prog.globalNamed name = some g) : Tab W g K := fun j hj => h.cell hg j hj
theorem Tab.gear {W : World} (h : Tab W 0 Ns) : Gear.Tab W := fun j hj => h j hj
end Go.Proofs.YtheklipnnflnaaaDoor
