/- num.Size; awake tells true. -/
import Derived.Test.YtkojldjgjmaodaaGroups
namespace Go.Proofs.Ytkojldjgjmaodaa
open Go.RowKit Go.Proofs.NumMath
set_option linter.unusedVariables false

set_option maxHeartbeats 400000 in
theorem size_any (n : Int) (w : World) :
    Calls Try.prog 17 #[.int .i64 n] w fun e w' => e = .returned (.int .i64 (sizeN (heldN n) : Nat)) ∧ Below w.heap.size w w' := by
  go_enter Try.func17, Try.ntmps17
  go_wp2_with (go_at_call 31; refine (groups_any _ _).mono ?_; rintro e w' ⟨rfl, hb⟩)
  go_ret
  exact ⟨rfl, hb.alloc hb.size _⟩

theorem get_awake (w : World) :
    Calls Try.prog 20 #[.slice (some ⟨w.heap.size, 0, none⟩) 2 2, .int .i64 0] (w.alloc (.cells #[.int .u8 172, .int .u8 2] 5)) fun e w' => e = .returned (.tuple #[.int .i64 300, .int .i64 2, .int .i64 0]) ∧ w.alloc (.cells #[.int .u8 172, .int .u8 2] 5) = w' := by
  have h := get_any (some ⟨w.heap.size, 0, none⟩) 2 [172, 2] 0 (w.alloc (.cells #[.int .u8 172, .int .u8 2] 5)) (by simp) ⟨fun i => by
      match i with
      | 0 | 1 => decide
      | i + 2 => simp, fun _ => ⟨_, _, rfl, fun i hi => by
      match i, hi with
      | 0, _ | 1, _ => go_simp⟩⟩
  refine h.mono ?_
  rintro e w' ⟨rfl, rfl⟩
  exact ⟨by rw [show G [172, 2] 0 = (300, 2, 0) from by decide]; rfl, rfl⟩

theorem size_300 (w : World) :
    Calls Try.prog 17 #[.int .i64 300] w fun e w' => e = .returned (.int .i64 2) ∧ Below w.heap.size w w' := by
  have h := size_any 300 w
  rw [show heldN 300 = 300 from by decide, show sizeN 300 = 2 from by rw [sizeN, dif_neg (by omega), sizeN, dif_pos (by omega)]] at h
  exact h

set_option maxHeartbeats 400000 in
theorem awake_any (w : World) :
    Calls Try.prog 19 #[] w fun e w' => e = .returned (.bool true) ∧ Below w.heap.size w w' := by
  go_enter Try.func19, Try.ntmps19
  go_wp2_with fail
  refine (get_awake w).mono ?_
  rintro e w' ⟨rfl, rfl⟩
  go_wp2_with (go_at_call 17; refine (size_300 _).mono ?_; rintro e w' ⟨rfl, hb⟩)
  go_ret
  exact ⟨rfl, ((Below.refl _ _).alloc (Nat.le_refl _) _).trans (hb.mono (by simp))⟩
end Go.Proofs.Ytkojldjgjmaodaa
