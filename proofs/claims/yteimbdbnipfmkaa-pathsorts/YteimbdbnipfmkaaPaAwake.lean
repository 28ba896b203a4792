/- path: the chapter's small case. (A template.) -/
import Derived.Test.YteimbdbnipfmkaaPaMore
namespace Go.Proofs.Yteimbdbnipfmkaa.Pa
open Go.RowKit
set_option linter.unusedVariables false
set_option linter.unusedSimpArgs false
set_option maxRecDepth 1000000

theorem cl_ex : cl [47, 47, 97, 47, 46, 47, 98, 47] = ([97, 47, 98], 0) := by first | decide | kernel_rfl | rfl
theorem less_ex : lessB [97, 47, 98, 47, 99] [97, 46, 98] = true := by first | decide | kernel_rfl | rfl
theorem common_ex : commonL [97, 47, 98] [97, 47, 99] = [97] := by first | decide | kernel_rfl | rfl
set_option maxHeartbeats 1000000 in
theorem awake_pa (w : World) :
    Calls Try.prog 21 #[] w fun e w' => e = .returned (.bool true) ∧ Below w.heap.size w w' := by
  have hc : Calls Try.prog 25 #[.string { data := #[47, 47, 97, 47, 46, 47, 98, 47] }] w fun e w' => e = .returned (.tuple #[.string { data := #[97, 47, 98] }, .int .i64 0]) ∧ Below w.heap.size w w' := by
    have h := clean_any [47, 47, 97, 47, 46, 47, 98, 47] w (by simp)
    rw [cl_ex] at h
    exact h
  have hl : ∀ W, Calls Try.prog 29 #[.string { data := #[97, 47, 98, 47, 99] }, .string { data := #[97, 46, 98] }] W fun e w' => e = .returned (.bool true) ∧ Drew W w' := by
    intro W
    have h := less_any [97, 47, 98, 47, 99] [97, 46, 98] W (by simp) (by simp)
    rw [less_ex] at h
    exact h
  have hm : ∀ W, Calls Try.prog 33 #[.string { data := #[97, 47, 98] }, .string { data := #[97, 47, 99] }] W fun e w' => e = .returned (.string { data := #[97] }) ∧ Drew W w' := by
    intro W
    have h := common_any [97, 47, 98] [97, 47, 99] W (by simp) (by simp)
    rw [common_ex] at h
    exact h
  have HC := Lib.hid hc
  have HL := Lib.hid hl
  have HM := Lib.hid hm
  clear hc hl hm
  go_enter Try.func21, Try.ntmps21
  go_wp2_with (first
    | (go_at_call 25; refine HC.out.mono ?_; rintro e w1 ⟨rfl, hb1⟩; have HB1 := Lib.hid hb1; clear hb1)
    | (go_at_call 29; refine (HL.out _).mono ?_; rintro e w2 ⟨rfl, hd2⟩; have HD2 := Lib.hid hd2; clear hd2)
    | (go_at_call 33; refine (HM.out _).mono ?_; rintro e w3 ⟨rfl, hd3⟩; have HD3 := Lib.hid hd3; clear hd3))
  go_ret
  exact ⟨rfl, HB1.out.trans ((HD2.out.trans HD3.out).below.mono HB1.out.size)⟩
end Go.Proofs.Yteimbdbnipfmkaa.Pa
