/- blocks: where a block lies, which block has a place; the chapter's examples. -/
import Derived.Test.YtjkbacbofkcipaaBlk
namespace Go.Proofs.Ytjkbacbofkcipaa
open Go.RowKit Go.Proofs.BlkMath
set_option linter.unusedVariables false

/-- how many blocks, of any numbers -/
def cntB (s b : Int) : Int := if Rt s b then cnt s b else 0

theorem cntB_bd (s b : Int) : 0 ≤ cntB s b ∧ cntB s b ≤ 131072 := by
  unfold cntB
  split
  · rename_i h
    have := cnt_spec h
    unfold Rt at h
    omega
  · omega

theorem count_any (s b : Int) (w : World) :
    Calls Try.prog 14 #[.int .i64 s, .int .i64 b] w fun e w' => e = .returned (.int .i64 (cntB s b)) ∧ w = w' := by
  unfold cntB
  split
  · exact count_yes s b w ‹_›
  · exact count_no s b w ‹_›
theorem rcount_any (s b : Int) (w : World) :
    Calls Try.prog 15 #[.int .i64 s, .int .i64 b] w fun e w' => e = .returned (.int .i64 (cntB s b)) ∧ w = w' := by
  unfold cntB
  split
  · exact rcount_yes s b w ‹_›
  · exact rcount_no s b w ‹_›

theorem inB_spec {s b i : Int} (h0 : 0 ≤ i) (h1 : i < cntB s b) : Rt s b ∧ i < cnt s b ∧ i * b < s := by
  unfold cntB at h1
  split at h1
  · rename_i h
    exact ⟨h, h1, cnt_lt h h1⟩
  · omega

/-- where a block ends -/
def toB (s b i : Int) : Int := if i * b + b ≤ s then i * b + b else s

theorem range_no (s b i : Int) (w : World) (h : ¬ (0 ≤ i ∧ i < cntB s b)) :
    Calls Try.prog 17 #[.int .i64 s, .int .i64 b, .int .i64 i] w fun e w' => e = .returned (.tuple #[.int .i64 0, .int .i64 0, .bool false]) ∧ w = w' := by
  have HH := Lib.hid (fun W => count_any s b W)
  generalize cntB s b = c at *
  go_enter Try.func17, Try.ntmps17
  go_wp2_with (go_at_call 14; refine (HH.out _).mono ?_; rintro e w' ⟨rfl, rfl⟩)
  all_goals first
    | (exfalso; omega)
    | (go_ret3; exact ⟨rfl, rfl⟩)
theorem rrange_no (s b i : Int) (w : World) (h : ¬ (0 ≤ i ∧ i < cntB s b)) :
    Calls Try.prog 18 #[.int .i64 s, .int .i64 b, .int .i64 i] w fun e w' => e = .returned (.tuple #[.int .i64 0, .int .i64 0, .bool false]) ∧ w = w' := by
  have HH := Lib.hid (fun W => rcount_any s b W)
  generalize cntB s b = c at *
  go_enter Try.func18, Try.ntmps18
  go_wp2_with (go_at_call 15; refine (HH.out _).mono ?_; rintro e w' ⟨rfl, rfl⟩)
  all_goals first
    | (exfalso; omega)
    | (go_ret3; exact ⟨rfl, rfl⟩)

set_option maxHeartbeats 1000000 in
theorem range_yes (s b i : Int) (w : World) (h0 : 0 ≤ i) (h1 : i < cntB s b) :
    Calls Try.prog 17 #[.int .i64 s, .int .i64 b, .int .i64 i] w fun e w' => e = .returned (.tuple #[.int .i64 (i * b), .int .i64 (toB s b i), .bool true]) ∧ w = w' := by
  have HH := Lib.hid (fun W => count_any s b W)
  obtain ⟨⟨⟨hs0, hs1⟩, hb0, hb1⟩, hc, hx⟩ := inB_spec h0 h1
  have hx0 : 0 ≤ i * b := Int.mul_nonneg h0 (by omega)
  have hw1 : wrap64 (i * b) = i * b := by unfold wrap64; omega
  have hw2 : wrap64 (i * b + b) = i * b + b := by unfold wrap64; omega
  obtain ⟨t, ht⟩ : ∃ t, t = toB s b i := ⟨_, rfl⟩
  rw [← ht]
  have HT := Lib.hid ht
  clear hc ht
  generalize cntB s b = c at *
  by_cases hle : i * b + b ≤ s
  all_goals
    go_enter Try.func17, Try.ntmps17
    go_wp2_with (go_at_call 14; refine (HH.out _).mono ?_; rintro e w' ⟨rfl, rfl⟩)
    all_goals first
      | (exfalso; omega)
      | (go_ret3
         have hT := HT.out
         unfold toB at hT
         split at hT <;> first | (exfalso; omega) | (subst hT; exact ⟨rfl, rfl⟩) | (refine ⟨?_, rfl⟩; congr 4; omega))

set_option maxHeartbeats 1000000 in
theorem rrange_yes (s b i : Int) (w : World) (h0 : 0 ≤ i) (h1 : i < cntB s b) :
    Calls Try.prog 18 #[.int .i64 s, .int .i64 b, .int .i64 i] w fun e w' => e = .returned (.tuple #[.int .i64 (i * b), .int .i64 (toB s b i), .bool true]) ∧ w = w' := by
  have HH := Lib.hid (fun W => rcount_any s b W)
  obtain ⟨⟨⟨hs0, hs1⟩, hb0, hb1⟩, hc, hx⟩ := inB_spec h0 h1
  have hx0 : 0 ≤ i * b := Int.mul_nonneg h0 (by omega)
  have hw1 : wrap64 (i * b) = i * b := by unfold wrap64; omega
  have hw2 : wrap64 (i * b + b) = i * b + b := by unfold wrap64; omega
  obtain ⟨t, ht⟩ : ∃ t, t = toB s b i := ⟨_, rfl⟩
  rw [← ht]
  have HT := Lib.hid ht
  clear hc ht
  generalize cntB s b = c at *
  by_cases hle : i * b + b ≤ s
  all_goals
    go_enter Try.func18, Try.ntmps18
    go_wp2_with (go_at_call 15; refine (HH.out _).mono ?_; rintro e w' ⟨rfl, rfl⟩)
    all_goals first
      | (exfalso; omega)
      | (go_ret3
         have hT := HT.out
         unfold toB at hT
         split at hT <;> first | (exfalso; omega) | (subst hT; exact ⟨rfl, rfl⟩) | (refine ⟨?_, rfl⟩; congr 4; omega))

set_option maxHeartbeats 1000000 in
theorem which_yes (s b o : Int) (w : World) (hR : Rt s b) (h0 : 0 ≤ o) (h1 : o < s) :
    Calls Try.prog 19 #[.int .i64 s, .int .i64 b, .int .i64 o] w fun e w' => e = .returned (.tuple #[.int .i64 (o / b), .bool true]) ∧ w = w' := by
  have H := fun W => right_any s b W
  rw [decide_eq_true hR] at H
  have HH := Lib.hid H
  have hsp := which_spec hR h0 h1
  have hcs := cnt_spec hR
  have hwr : wrap64 (o / b) = o / b := by unfold Rt at hR; unfold wrap64; omega
  have HW := Lib.hid hwr
  clear H hsp hcs hwr
  obtain ⟨⟨hs0, hs1⟩, hb0, hb1⟩ := hR
  have hb : (b == 0) = false := by simp; omega
  have ht : o.tdiv b = o / b := Int.tdiv_eq_ediv_of_nonneg h0
  go_enter Try.func19, Try.ntmps19
  go_wp2_with (go_at_call 12; refine (HH.out _).mono ?_; rintro e w' ⟨rfl, rfl⟩)
  all_goals first
    | (exfalso; omega)
    | (go_ret2
       refine ⟨?_, rfl⟩
       show Ending.returned (.tuple #[.int .i64 (wrap64 (o / b)), .bool true]) = _
       rw [HW.out])
set_option maxHeartbeats 1000000 in
theorem which_no (s b o : Int) (w : World) (h : ¬ (Rt s b ∧ 0 ≤ o ∧ o < s)) :
    Calls Try.prog 19 #[.int .i64 s, .int .i64 b, .int .i64 o] w fun e w' => e = .returned (.tuple #[.int .i64 0, .bool false]) ∧ w = w' := by
  have H := fun W => right_any s b W
  by_cases hR : Rt s b
  · rw [decide_eq_true hR] at H
    have HH := Lib.hid H
    have ho : ¬ (0 ≤ o ∧ o < s) := fun h' => h ⟨hR, h'⟩
    clear H h hR
    go_enter Try.func19, Try.ntmps19
    go_wp2_with (go_at_call 12; refine (HH.out _).mono ?_; rintro e w' ⟨rfl, rfl⟩)
    all_goals first
      | (exfalso; omega)
      | (go_ret2; exact ⟨rfl, rfl⟩)
  · rw [decide_eq_false hR] at H
    have HH := Lib.hid H
    clear H h hR
    go_enter Try.func19, Try.ntmps19
    go_wp2_with (go_at_call 12; refine (HH.out _).mono ?_; rintro e w' ⟨rfl, rfl⟩)
    all_goals (go_ret2; exact ⟨rfl, rfl⟩)

set_option maxHeartbeats 1000000 in
theorem rwhich_yes (s b o : Int) (w : World) (hR : Rt s b) (h0 : 0 ≤ o) (h1 : o < s) :
    Calls Try.prog 20 #[.int .i64 s, .int .i64 b, .int .i64 o] w fun e w' => e = .returned (.tuple #[.int .i64 (o / b), .bool true]) ∧ w = w' := by
  have H := fun W => rright_any s b W
  rw [decide_eq_true hR] at H
  have HH := Lib.hid H
  have hsp := which_spec hR h0 h1
  have hcs := cnt_spec hR
  have hwr : wrap64 (o / b) = o / b := by unfold Rt at hR; unfold wrap64; omega
  have HW := Lib.hid hwr
  clear H hsp hcs hwr
  obtain ⟨⟨hs0, hs1⟩, hb0, hb1⟩ := hR
  have hb : (b == 0) = false := by simp; omega
  have ht : o.tdiv b = o / b := Int.tdiv_eq_ediv_of_nonneg h0
  go_enter Try.func20, Try.ntmps20
  go_wp2_with (go_at_call 13; refine (HH.out _).mono ?_; rintro e w' ⟨rfl, rfl⟩)
  all_goals first
    | (exfalso; omega)
    | (go_ret2
       refine ⟨?_, rfl⟩
       show Ending.returned (.tuple #[.int .i64 (wrap64 (o / b)), .bool true]) = _
       rw [HW.out])
set_option maxHeartbeats 1000000 in
theorem rwhich_no (s b o : Int) (w : World) (h : ¬ (Rt s b ∧ 0 ≤ o ∧ o < s)) :
    Calls Try.prog 20 #[.int .i64 s, .int .i64 b, .int .i64 o] w fun e w' => e = .returned (.tuple #[.int .i64 0, .bool false]) ∧ w = w' := by
  have H := fun W => rright_any s b W
  by_cases hR : Rt s b
  · rw [decide_eq_true hR] at H
    have HH := Lib.hid H
    have ho : ¬ (0 ≤ o ∧ o < s) := fun h' => h ⟨hR, h'⟩
    clear H h hR
    go_enter Try.func20, Try.ntmps20
    go_wp2_with (go_at_call 13; refine (HH.out _).mono ?_; rintro e w' ⟨rfl, rfl⟩)
    all_goals first
      | (exfalso; omega)
      | (go_ret2; exact ⟨rfl, rfl⟩)
  · rw [decide_eq_false hR] at H
    have HH := Lib.hid H
    clear H h hR
    go_enter Try.func20, Try.ntmps20
    go_wp2_with (go_at_call 13; refine (HH.out _).mono ?_; rintro e w' ⟨rfl, rfl⟩)
    all_goals (go_ret2; exact ⟨rfl, rfl⟩)

set_option maxHeartbeats 1000000 in
theorem awake5_any (w : World) :
    Calls Try.prog 16 #[] w fun e w' => e = .returned (.bool true) ∧ w = w' := by
  have R1 : Hid (∀ W, Calls Try.prog 17 #[.int .i64 40, .int .i64 16, .int .i64 2] W fun e w' => e = .returned (.tuple #[.int .i64 32, .int .i64 40, .bool true]) ∧ W = w') := fun W => range_yes 40 16 2 W (by decide) (by decide)
  have R2 : Hid (∀ W, Calls Try.prog 19 #[.int .i64 40, .int .i64 16, .int .i64 32] W fun e w' => e = .returned (.tuple #[.int .i64 2, .bool true]) ∧ W = w') := fun W => which_yes 40 16 32 W (by decide) (by decide) (by decide)
  have R3 : Hid (∀ W, Calls Try.prog 10 #[.int .i64 256] W fun e w' => e = .returned (.int .i64 16) ∧ W = w') := fun W => length_any 256 W
  have R4 : Hid (∀ W, Calls Try.prog 10 #[.int .i64 257] W fun e w' => e = .returned (.int .i64 32) ∧ W = w') := fun W => length_any 257 W
  have R5 : Hid (∀ W, Calls Try.prog 14 #[.int .i64 40, .int .i64 16] W fun e w' => e = .returned (.int .i64 3) ∧ W = w') := fun W => count_any 40 16 W
  go_enter Try.func16, Try.ntmps16
  go_wp2_with (first | (go_at_call 17; refine (R1.out _).mono ?_; rintro e w' ⟨rfl, rfl⟩) | (go_at_call 19; refine (R2.out _).mono ?_; rintro e w' ⟨rfl, rfl⟩) | (go_at_call 14; refine (R5.out _).mono ?_; rintro e w' ⟨rfl, rfl⟩) | (go_at_call 10; with_reducible refine (R3.out _).mono ?_; rintro e w' ⟨rfl, rfl⟩) | (go_at_call 10; with_reducible refine (R4.out _).mono ?_; rintro e w' ⟨rfl, rfl⟩))
  go_ret
  exact ⟨rfl, rfl⟩
end Go.Proofs.Ytjkbacbofkcipaa
