/- blocks' small functions, and the document's. -/
import Derived.Test.YtkppnbehkmpogaaDoorRows
import Derived.Test.YtkppnbehkmpogaaDoorBlkMath
import Derived.WalkKit
import Derived.WalkSpells
import Derived.WalkLawsBesides
import Derived.Lib.Hide
namespace Go.Proofs.YtkppnbehkmpogaaDoor
open Go.RowKit Go.Proofs.BlkMath
set_option linter.unusedVariables false

set_option maxHeartbeats 1000000 in
theorem length_any (s : Int) (w : World) :
    Calls Tryd.prog 32 #[.int .i64 s] w fun e w' => e = .returned (.int .i64 (lenOf s)) ∧ w = w' := by
  go_enter Tryd.func32, Tryd.ntmps32
  go_wp2
  go_loop [3] (fun i => ∃ x : Int, i = .int .i64 x ∧ Hid (Lok s x)) (fun i => 4096 - (intOf i).toNat)
  case atStart => exact ⟨16, rfl, .inl rfl⟩
  case round =>
    obtain ⟨x, rfl, HX⟩ := hrel
    have hx : Lok s x := HX.out
    clear HX
    rcases hx with rfl | ⟨rfl, h⟩ | ⟨rfl, h⟩ | ⟨rfl, h⟩ | ⟨rfl, h⟩ | ⟨rfl, h⟩ | ⟨rfl, h⟩ | ⟨rfl, h⟩ | ⟨rfl, h⟩
    all_goals
      go_wp2
      all_goals first
        | (go_round
           case rel => refine ⟨_, rfl, ?_⟩; show Lok s _; unfold Lok; omega
           case measure => simp [intOf])
        | (go_ret
           refine ⟨?_, rfl⟩
           show Ending.returned (.int .i64 _) = _
           congr 2
           unfold lenOf
           repeat' split
           all_goals omega)

set_option maxHeartbeats 1000000 in
theorem rlength_any (s : Int) (w : World) :
    Calls Tryd.prog 35 #[.int .i64 s] w fun e w' => e = .returned (.int .i64 (lenOf s)) ∧ w = w' := by
  go_enter Tryd.func35, Tryd.ntmps35
  go_wp2
  go_loop [3] (fun i => ∃ x : Int, i = .int .i64 x ∧ Hid (Lok s x)) (fun i => 4096 - (intOf i).toNat)
  case atStart => exact ⟨16, rfl, .inl rfl⟩
  case round =>
    obtain ⟨x, rfl, HX⟩ := hrel
    have hx : Lok s x := HX.out
    clear HX
    rcases hx with rfl | ⟨rfl, h⟩ | ⟨rfl, h⟩ | ⟨rfl, h⟩ | ⟨rfl, h⟩ | ⟨rfl, h⟩ | ⟨rfl, h⟩ | ⟨rfl, h⟩ | ⟨rfl, h⟩
    all_goals
      go_wp2
      all_goals first
        | (go_round
           case rel => refine ⟨_, rfl, ?_⟩; show Lok s _; unfold Lok; omega
           case measure => simp [intOf])
        | (go_ret
           refine ⟨?_, rfl⟩
           show Ending.returned (.int .i64 _) = _
           congr 2
           unfold lenOf
           repeat' split
           all_goals omega)

theorem lenOf_bd (s : Int) : 16 ≤ lenOf s ∧ lenOf s ≤ 4096 := by
  unfold lenOf
  repeat' split
  all_goals omega

theorem rl_any (b : Int) (w : World) :
    Calls Tryd.prog 60 #[.int .i64 b] w fun e w' => e = .returned (.bool (decide (16 ≤ b ∧ b ≤ 4096))) ∧ w = w' := by
  by_cases h1 : 16 ≤ b <;> by_cases h2 : b ≤ 4096
  all_goals
    go_enter Tryd.func60, Tryd.ntmps60
    go_wp2
    all_goals
      go_ret
      simp [h1, h2]

theorem may_any (b : Int) (w : World) :
    Calls Tryd.prog 64 #[.int .i64 b] w fun e w' => e = .returned (.bool (decide (16 ≤ b ∧ b ≤ 4096))) ∧ w = w' := by
  by_cases h1 : 16 ≤ b <;> by_cases h2 : b ≤ 4096
  all_goals
    go_enter Tryd.func64, Tryd.ntmps64
    go_wp2
    all_goals
      go_ret
      simp [h1, h2]

set_option maxHeartbeats 1000000 in
theorem right_any (s b : Int) (w : World) :
    Calls Tryd.prog 31 #[.int .i64 s, .int .i64 b] w fun e w' => e = .returned (.bool (decide (Rt s b))) ∧ w = w' := by
  have H := fun W => rl_any b W
  have hd : decide (Rt s b) = (decide (0 ≤ s) && decide (s ≤ 131072) && decide (16 ≤ b ∧ b ≤ 4096)) := by
    rw [Bool.eq_iff_iff, decide_eq_true_iff]; simp only [Bool.and_eq_true, decide_eq_true_eq, Rt]
  rw [hd]
  generalize decide (16 ≤ b ∧ b ≤ 4096) = y at *
  have HH := Lib.hid H
  clear H hd
  by_cases h1 : 0 ≤ s <;> by_cases h2 : s ≤ 131072
  all_goals
    go_enter Tryd.func31, Tryd.ntmps31
    go_wp2_with (go_at_call 60; refine (HH.out _).mono ?_; rintro e w' ⟨rfl, rfl⟩)
    all_goals
      go_ret
      refine ⟨?_, rfl⟩
      congr 2
      cases y <;> simp <;> omega

set_option maxHeartbeats 1000000 in
theorem rright_any (s b : Int) (w : World) :
    Calls Tryd.prog 75 #[.int .i64 s, .int .i64 b] w fun e w' => e = .returned (.bool (decide (Rt s b))) ∧ w = w' := by
  have H := fun W => may_any b W
  have hd : decide (Rt s b) = (decide (0 ≤ s) && decide (s ≤ 131072) && decide (16 ≤ b ∧ b ≤ 4096)) := by
    rw [Bool.eq_iff_iff, decide_eq_true_iff]; simp only [Bool.and_eq_true, decide_eq_true_eq, Rt]
  rw [hd]
  generalize decide (16 ≤ b ∧ b ≤ 4096) = y at *
  have HH := Lib.hid H
  clear H hd
  by_cases h1 : 0 ≤ s <;> by_cases h2 : s ≤ 131072
  all_goals
    go_enter Tryd.func75, Tryd.ntmps75
    go_wp2_with (go_at_call 64; refine (HH.out _).mono ?_; rintro e w' ⟨rfl, rfl⟩)
    all_goals
      go_ret
      refine ⟨?_, rfl⟩
      congr 2
      cases y <;> simp <;> omega

theorem count_no (s b : Int) (w : World) (h : ¬ Rt s b) :
    Calls Tryd.prog 45 #[.int .i64 s, .int .i64 b] w fun e w' => e = .returned (.int .i64 0) ∧ w = w' := by
  have H := fun W => right_any s b W
  rw [decide_eq_false h] at H
  have HH := Lib.hid H
  clear H h
  go_enter Tryd.func45, Tryd.ntmps45
  go_wp2_with (go_at_call 31; refine (HH.out _).mono ?_; rintro e w' ⟨rfl, rfl⟩)
  go_ret
  exact ⟨rfl, rfl⟩

theorem count_yes (s b : Int) (w : World) (h : Rt s b) :
    Calls Tryd.prog 45 #[.int .i64 s, .int .i64 b] w fun e w' => e = .returned (.int .i64 (cnt s b)) ∧ w = w' := by
  have H := fun W => right_any s b W
  rw [decide_eq_true h] at H
  have HH := Lib.hid H
  clear H
  obtain ⟨⟨h0, h1⟩, h2, h3⟩ := h
  have hb : (b == 0) = false := by simp; omega
  go_enter Tryd.func45, Tryd.ntmps45
  go_wp2_with (go_at_call 31; refine (HH.out _).mono ?_; rintro e w' ⟨rfl, rfl⟩)
  go_ret
  refine ⟨?_, rfl⟩
  show Ending.returned (.int .i64 _) = _
  unfold cnt
  go_num

theorem rcount_no (s b : Int) (w : World) (h : ¬ Rt s b) :
    Calls Tryd.prog 47 #[.int .i64 s, .int .i64 b] w fun e w' => e = .returned (.int .i64 0) ∧ w = w' := by
  have H := fun W => rright_any s b W
  rw [decide_eq_false h] at H
  have HH := Lib.hid H
  clear H h
  go_enter Tryd.func47, Tryd.ntmps47
  go_wp2_with (go_at_call 75; refine (HH.out _).mono ?_; rintro e w' ⟨rfl, rfl⟩)
  go_ret
  exact ⟨rfl, rfl⟩

set_option maxHeartbeats 1000000 in
theorem rcount_yes (s b : Int) (w : World) (h : Rt s b) :
    Calls Tryd.prog 47 #[.int .i64 s, .int .i64 b] w fun e w' => e = .returned (.int .i64 (cnt s b)) ∧ w = w' := by
  have H := fun W => rright_any s b W
  rw [decide_eq_true h] at H
  have HH := Lib.hid H
  have hc := cnt_spec h
  have HR := Lib.hid h
  clear H
  obtain ⟨⟨h0, h1⟩, h2, h3⟩ := h
  obtain ⟨c, hcd⟩ : ∃ c, c = cnt s b := ⟨_, rfl⟩
  rw [← hcd] at hc ⊢
  have HC := Lib.hid hcd
  clear hcd
  obtain ⟨hc0, hc1, hc2, hc3⟩ := hc
  have HC3 := Lib.hid hc3
  clear hc2 hc3
  go_enter Tryd.func47, Tryd.ntmps47
  go_wp2_with (go_at_call 75; refine (HH.out _).mono ?_; rintro e w' ⟨rfl, rfl⟩)
  go_loop [5, 6] (fun n i => ∃ (k : Nat) (x : Int), (k : Int) ≤ c ∧ n = .int .i64 k ∧ i = .int .i64 x ∧ (0 ≤ x ∧ x ≤ 140000) ∧ Hid (x = (k : Int) * b)) (fun n _ => c.toNat - (intOf n).toNat)
  case atStart => exact ⟨0, 0, by omega, rfl, rfl, by omega, by show (0 : Int) = _; simp⟩
  case round =>
    obtain ⟨k, x, hk, rfl, rfl, hx, HX⟩ := hrel
    by_cases hlt : (k : Int) < c
    · have hxs : x < s := by have := cnt_lt HR.out (HC.out ▸ hlt); rw [HX.out]; exact this
      go_wp2
      go_round
      case rel =>
        refine ⟨k + 1, x + b, by omega, by go_num, by go_num, by omega, ?_⟩
        rw [Hid, HX.out, show ((k + 1 : Nat) : Int) = (k : Int) + 1 from by omega, Int.add_mul, Int.one_mul]
      case measure => simp [intOf]; omega
    · have hxs : s ≤ x := by have := cnt_ge HR.out (HC.out ▸ (by omega : c ≤ (k : Int))); rw [HX.out]; exact this
      go_wp2
      go_ret
      refine ⟨?_, rfl⟩
      show Ending.returned (.int .i64 _) = _
      congr 2
      omega

end Go.Proofs.YtkppnbehkmpogaaDoor
