/- gear: Check and the document's. (A template: seatgen.py fills it.) -/
import Derived.Test.YtheklipnnflnaaaDoorGrMath
import Derived.Deep.RegionHeld3
import Derived.BigQuiet
import Derived.WalkMore
namespace Go.Proofs.YtheklipnnflnaaaDoor.Gear
open Go.RowKit Go.Proofs.GearMath
set_option linter.unusedVariables false
set_option maxRecDepth 1000000

def P3 (L M B : Int) : Value := .agg #[.int .i64 L, .int .i64 M, .int .i64 B]
def chk (L M B : Int) : Int := if ok L M B then 0 else 2
theorem of_any (L M B : Int) (w : World) :
    Calls Tryd.prog 13 #[P3 L M B] w fun e w' => e = .returned (P3 L M B) ∧ Below w.heap.size w w' := by
  unfold P3
  go_enter Tryd.func13, Tryd.ntmps13
  go_wp2
  refine bodyPost_ret (v := .agg #[.int .i64 L, .int .i64 M, .int .i64 B]) (by simp [results, go_sem]) rfl ⟨rfl, ?_⟩
  have hb := (Below.refl w.heap.size w).alloc (Nat.le_refl _) (Obj.cells #[Value.int IntKind.i64 L, Value.int IntKind.i64 M, Value.int IntKind.i64 B] 23)
  exact hb.alloc hb.size _
set_option maxHeartbeats 2000000 in
theorem check_any (L M B : Int) (w : World) :
    Calls Tryd.prog 12 #[P3 L M B] w fun e w' => e = .returned (.int .i64 (chk L M B)) ∧ Below w.heap.size w w' := by
  have hb : ∀ o, Below w.heap.size w (w.alloc o) := fun o => (Below.refl _ _).alloc (Nat.le_refl _) o
  unfold P3
  by_cases h1 : 1 ≤ L <;> by_cases h2 : L ≤ M <;> by_cases h3 : M ≤ 65536 <;> by_cases h4 : 1 ≤ B <;> by_cases h5 : B ≤ 16
  all_goals
    (first
      | (have e : chk L M B = 0 := if_pos (by unfold ok; omega)
         rw [e]
         clear e)
      | (have e : chk L M B = 2 := if_neg (by unfold ok; omega)
         rw [e]
         clear e)
     go_enter Tryd.func12, Tryd.ntmps12
     go_wp2
     all_goals first
       | (go_ret
          exact ⟨rfl, hb _⟩)
       | (exfalso
          omega))
set_option maxHeartbeats 2000000 in
theorem rcheck_any (L M B : Int) (w : World) :
    Calls Tryd.prog 14 #[P3 L M B] w fun e w' => e = .returned (.int .i64 (chk L M B)) ∧ Below w.heap.size w w' := by
  have hb : ∀ o, Below w.heap.size w (w.alloc o) := fun o => (Below.refl _ _).alloc (Nat.le_refl _) o
  unfold P3
  by_cases h1 : L < 1 <;> by_cases h2 : M < L <;> by_cases h3 : 65536 < M <;> by_cases h4 : B < 1 <;> by_cases h5 : 16 < B
  all_goals
    (first
      | (have e : chk L M B = 0 := if_pos (by unfold ok; omega)
         rw [e]
         clear e)
      | (have e : chk L M B = 2 := if_neg (by unfold ok; omega)
         rw [e]
         clear e)
     go_enter Tryd.func14, Tryd.ntmps14
     go_wp2
     all_goals first
       | (go_ret
          exact ⟨rfl, hb _⟩)
       | (exfalso
          omega))
end Go.Proofs.YtheklipnnflnaaaDoor.Gear
