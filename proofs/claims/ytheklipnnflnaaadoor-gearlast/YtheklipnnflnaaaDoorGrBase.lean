/- gear: small functions of the code and of the document. (A template: seatgen.py fills it.) -/
import Derived.Test.YtheklipnnflnaaaDoorGrMath
import Derived.Deep.RegionHeld3
import Derived.BigQuiet
import Derived.WalkMore
namespace Go.Proofs.YtheklipnnflnaaaDoor.Gear
open Go.RowKit Go.Proofs.GearMath
set_option linter.unusedVariables false
set_option maxRecDepth 1000000

def Tab (w : World) : Prop := ∀ j, j < 16 → w.cell? ⟨0, j, none⟩ = some (.int .u64 (Ns.getD j 0))
theorem Tab.later {w w' : World} (h : Tab w) (hb : Below w.heap.size w w') : Tab w' := fun j hj => cell_later hb (h j hj)

theorem rot_any (n : Int) (w : World) (h0 : 0 ≤ n) (h1 : n ≤ 18446744073709551615) :
    Calls Tryd.prog 23 #[.int .u64 n, .int .i64 32] w fun e w' => e = .returned (.int .u64 (rot n)) ∧ w = w' := by
  have HR := Lib.hid (rot_or n h0 h1)
  have ha : bits .and .u64 32 63 = 32 := by decide
  go_enter Tryd.func23, Tryd.ntmps23
  go_wp2
  go_ret
  refine ⟨?_, rfl⟩
  show Ending.returned (.int .u64 _) = _
  rw [← HR.out, ← IntKind.wrap_u64] <;> rfl

theorem table_any (c : Int) (w : World) (hT : Tab w) (h0 : 0 ≤ c) (h1 : c ≤ 255) :
    Calls Tryd.prog 10 #[.int .u8 c] w fun e w' => e = .returned (.int .u64 (gt c)) ∧ Below w.heap.size w w' := by
  have c1 := hT (c % 16).toNat (by omega)
  have c2 := hT (c / 16).toNat (by omega)
  have ha := u8_and15 c h0 (show c < 256 by omega)
  have b2 := Ns_bd (c / 16).toNat (by omega)
  have HR : Hid (∀ W, Calls Tryd.prog 23 #[.int .u64 (Ns.getD (c / 16).toNat 0), .int .i64 32] W fun e w' => e = .returned (.int .u64 (rot (Ns.getD (c / 16).toNat 0))) ∧ w' = W) := fun W => (rot_any (Ns.getD (c / 16).toNat 0) W b2.1 b2.2).mono fun e w' h => ⟨h.1, h.2.symm⟩
  have HG : Hid (bits .xor .u64 (Ns.getD (c % 16).toNat 0) (rot (Ns.getD (c / 16).toNat 0)) = gt c) := rfl
  generalize Ns.getD (c % 16).toNat 0 = x at *
  generalize Ns.getD (c / 16).toNat 0 = y at *
  have m0 : 0 ≤ c % 16 := by omega
  have m1 : c % 16 < 16 := by omega
  have d0 : 0 ≤ c / 16 := by omega
  have d1 : c / 16 < 16 := by omega
  have d2 : c / 16 ≤ 15 := by omega
  have m2 : c % 16 ≤ 15 := by omega
  generalize c % 16 = cm at *
  generalize hcd : c / 16 = cd at *
  clear hT
  go_enter Tryd.func10, Tryd.ntmps10
  go_wp2_with fail
  go_quiet (first | (go_at_call 23; exact Calls.quiet_of_same (HR.out _)))
  go_wp2
  go_ret
  have h := Below.refl w.heap.size w
  exact ⟨by rw [← HG.out]; rfl, ⟨h.os, h.tape, h.output, h.size, h.block⟩⟩

end Go.Proofs.YtheklipnnflnaaaDoor.Gear
