/- blocks: where a block lies, which block has a place; the chapter's examples. -/
import Derived.Test.YtkppnbehkmpogaaDoorBlk
namespace Go.Proofs.YtkppnbehkmpogaaDoor
open Go.RowKit Go.Proofs.BlkMath
set_option linter.unusedVariables false

/-- how many blocks, of any numbers -/
def cntB (s b : Int) : Int := if Rt s b then cnt s b else 0

theorem cntB_bd (s b : Int) : 0 ≤ cntB s b ∧ cntB s b ≤ 131072 := by
  unfold cntB
  split
  · rename_i h
    have := cnt_spec h
    unfold Rt at h
    omega
  · omega

theorem count_any (s b : Int) (w : World) :
    Calls Tryd.prog 45 #[.int .i64 s, .int .i64 b] w fun e w' => e = .returned (.int .i64 (cntB s b)) ∧ w = w' := by
  unfold cntB
  split
  · exact count_yes s b w ‹_›
  · exact count_no s b w ‹_›
theorem rcount_any (s b : Int) (w : World) :
    Calls Tryd.prog 47 #[.int .i64 s, .int .i64 b] w fun e w' => e = .returned (.int .i64 (cntB s b)) ∧ w = w' := by
  unfold cntB
  split
  · exact rcount_yes s b w ‹_›
  · exact rcount_no s b w ‹_›

theorem inB_spec {s b i : Int} (h0 : 0 ≤ i) (h1 : i < cntB s b) : Rt s b ∧ i < cnt s b ∧ i * b < s := by
  unfold cntB at h1
  split at h1
  · rename_i h
    exact ⟨h, h1, cnt_lt h h1⟩
  · omega

/-- where a block ends -/
def toB (s b i : Int) : Int := if i * b + b ≤ s then i * b + b else s

theorem range_no (s b i : Int) (w : World) (h : ¬ (0 ≤ i ∧ i < cntB s b)) :
    Calls Tryd.prog 54 #[.int .i64 s, .int .i64 b, .int .i64 i] w fun e w' => e = .returned (.tuple #[.int .i64 0, .int .i64 0, .bool false]) ∧ w = w' := by
  have HH := Lib.hid (fun W => count_any s b W)
  generalize cntB s b = c at *
  go_enter Tryd.func54, Tryd.ntmps54
  go_wp2_with (go_at_call 45; refine (HH.out _).mono ?_; rintro e w' ⟨rfl, rfl⟩)
  all_goals first
    | (exfalso; omega)
    | (go_ret3; exact ⟨rfl, rfl⟩)
theorem rrange_no (s b i : Int) (w : World) (h : ¬ (0 ≤ i ∧ i < cntB s b)) :
    Calls Tryd.prog 55 #[.int .i64 s, .int .i64 b, .int .i64 i] w fun e w' => e = .returned (.tuple #[.int .i64 0, .int .i64 0, .bool false]) ∧ w = w' := by
  have HH := Lib.hid (fun W => rcount_any s b W)
  generalize cntB s b = c at *
  go_enter Tryd.func55, Tryd.ntmps55
  go_wp2_with (go_at_call 47; refine (HH.out _).mono ?_; rintro e w' ⟨rfl, rfl⟩)
  all_goals first
    | (exfalso; omega)
    | (go_ret3; exact ⟨rfl, rfl⟩)

set_option maxHeartbeats 1000000 in
theorem range_yes (s b i : Int) (w : World) (h0 : 0 ≤ i) (h1 : i < cntB s b) :
    Calls Tryd.prog 54 #[.int .i64 s, .int .i64 b, .int .i64 i] w fun e w' => e = .returned (.tuple #[.int .i64 (i * b), .int .i64 (toB s b i), .bool true]) ∧ w = w' := by
  have HH := Lib.hid (fun W => count_any s b W)
  obtain ⟨⟨⟨hs0, hs1⟩, hb0, hb1⟩, hc, hx⟩ := inB_spec h0 h1
  have hx0 : 0 ≤ i * b := Int.mul_nonneg h0 (by omega)
  have hw1 : wrap64 (i * b) = i * b := by unfold wrap64; omega
  have hw2 : wrap64 (i * b + b) = i * b + b := by unfold wrap64; omega
  obtain ⟨t, ht⟩ : ∃ t, t = toB s b i := ⟨_, rfl⟩
  rw [← ht]
  have HT := Lib.hid ht
  clear hc ht
  generalize cntB s b = c at *
  by_cases hle : i * b + b ≤ s
  all_goals
    go_enter Tryd.func54, Tryd.ntmps54
    go_wp2_with (go_at_call 45; refine (HH.out _).mono ?_; rintro e w' ⟨rfl, rfl⟩)
    all_goals first
      | (exfalso; omega)
      | (go_ret3
         have hT := HT.out
         unfold toB at hT
         split at hT <;> first | (exfalso; omega) | (subst hT; exact ⟨rfl, rfl⟩) | (refine ⟨?_, rfl⟩; congr 4; omega))

set_option maxHeartbeats 1000000 in
theorem rrange_yes (s b i : Int) (w : World) (h0 : 0 ≤ i) (h1 : i < cntB s b) :
    Calls Tryd.prog 55 #[.int .i64 s, .int .i64 b, .int .i64 i] w fun e w' => e = .returned (.tuple #[.int .i64 (i * b), .int .i64 (toB s b i), .bool true]) ∧ w = w' := by
  have HH := Lib.hid (fun W => rcount_any s b W)
  obtain ⟨⟨⟨hs0, hs1⟩, hb0, hb1⟩, hc, hx⟩ := inB_spec h0 h1
  have hx0 : 0 ≤ i * b := Int.mul_nonneg h0 (by omega)
  have hw1 : wrap64 (i * b) = i * b := by unfold wrap64; omega
  have hw2 : wrap64 (i * b + b) = i * b + b := by unfold wrap64; omega
  obtain ⟨t, ht⟩ : ∃ t, t = toB s b i := ⟨_, rfl⟩
  rw [← ht]
  have HT := Lib.hid ht
  clear hc ht
  generalize cntB s b = c at *
  by_cases hle : i * b + b ≤ s
  all_goals
    go_enter Tryd.func55, Tryd.ntmps55
    go_wp2_with (go_at_call 47; refine (HH.out _).mono ?_; rintro e w' ⟨rfl, rfl⟩)
    all_goals first
      | (exfalso; omega)
      | (go_ret3
         have hT := HT.out
         unfold toB at hT
         split at hT <;> first | (exfalso; omega) | (subst hT; exact ⟨rfl, rfl⟩) | (refine ⟨?_, rfl⟩; congr 4; omega))

end Go.Proofs.YtkppnbehkmpogaaDoor
