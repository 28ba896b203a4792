/- sha's turned, and the document's; the words of a block, both. -/
import Derived.Test.YtkppnbehkmpogaaDoorRows
import Derived.Test.YtkppnbehkmpogaaDoorSMath
import Derived.WalkKit
import Derived.WalkSpells
import Derived.WalkLawsBesides
import Derived.Lib.Hide
import Derived.Laws.BytesArg
import Derived.Lib.SlBytesConst
import Derived.Lib.SmallJoins
import Derived.BigRegion
import Derived.StillTailTactics
import Derived.StillTactics
namespace Go.Proofs.YtkppnbehkmpogaaDoor.Sha
open Go.RowKit Go.Proofs.ShaMath
set_option linter.unusedVariables false
set_option maxRecDepth 100000

theorem rturned_any (x : Int) (n : Nat) (w : World) (h : U32 x) (hn : 1 ≤ n) (hn2 : n ≤ 31) :
    Calls Tryd.prog 81 #[.int .u32 x, .int .u64 (n : Int)] w fun e w' => e = .returned (.int .u32 (rot n x)) ∧ w' = w := by
  obtain ⟨h0, h1⟩ := h
  go_enter Tryd.func81, Tryd.ntmps81
  go_wp2
  go_ret
  exact ⟨rfl, rfl⟩

theorem and31 (n : Nat) (hn : 1 ≤ n) (hn2 : n ≤ 31) : bits .and .u64 (IntKind.u64.wrap (-(n : Int))) 31 = ((32 - n : Nat) : Int) := by
  have : n = 1 ∨ n = 2 ∨ n = 3 ∨ n = 4 ∨ n = 5 ∨ n = 6 ∨ n = 7 ∨ n = 8 ∨ n = 9 ∨ n = 10 ∨ n = 11 ∨ n = 12 ∨ n = 13 ∨ n = 14 ∨ n = 15 ∨ n = 16 ∨ n = 17 ∨ n = 18 ∨ n = 19 ∨ n = 20 ∨ n = 21 ∨ n = 22 ∨ n = 23 ∨ n = 24 ∨ n = 25 ∨ n = 26 ∨ n = 27 ∨ n = 28 ∨ n = 29 ∨ n = 30 ∨ n = 31 := by omega
  rcases this with rfl | rfl | rfl | rfl | rfl | rfl | rfl | rfl | rfl | rfl | rfl | rfl | rfl | rfl | rfl | rfl | rfl | rfl | rfl | rfl | rfl | rfl | rfl | rfl | rfl | rfl | rfl | rfl | rfl | rfl | rfl <;> decide +kernel

theorem rot_any (x : Int) (n : Nat) (w : World) (h : U32 x) (hn : 1 ≤ n) (hn2 : n ≤ 31) :
    Calls Tryd.prog 93 #[.int .u32 x, .int .i64 (-(n : Int))] w fun e w' => e = .returned (.int .u32 (rot n x)) ∧ w' = w := by
  obtain ⟨h0, h1⟩ := h
  obtain ⟨m, hm⟩ : ∃ m : Nat, n + m = 32 := ⟨32 - n, by omega⟩
  have hs : bits .and .u64 (IntKind.u64.wrap (-(n : Int))) 31 = (m : Int) := by rw [and31 n hn hn2]; omega
  have hm1 : 1 ≤ m := by omega
  have hm2 : m ≤ 31 := by omega
  have HE : Hid (bits .or .u32 (x * 2 ^ m % 4294967296) (x / 2 ^ (32 - m)) = rot n x) := by
    show _ = _
    rw [or_comm32, rot, show 32 - m = n from by omega, show 32 - n = m from by omega]
  clear hm
  go_enter Tryd.func93, Tryd.ntmps93
  go_wp2
  go_ret
  refine ⟨?_, rfl⟩
  show Ending.returned (.int .u32 _) = _
  rw [← HE.out]

theorem turned_any (x : Int) (n : Nat) (w : World) (h : U32 x) (hn : 1 ≤ n) (hn2 : n ≤ 31) :
    Calls Tryd.prog 92 #[.int .u32 x, .int .i64 (n : Int)] w fun e w' => e = .returned (.int .u32 (rot n x)) ∧ w' = w := by
  have H := Lib.hid (rot_any x n w h hn hn2)
  go_enter Tryd.func92, Tryd.ntmps92
  go_wp2_with (go_at_call 93; refine H.out.mono ?_; rintro e w' ⟨rfl, rfl⟩)
  go_ret
  exact ⟨rfl, rfl⟩
end Go.Proofs.YtkppnbehkmpogaaDoor.Sha
