/- glob: the sign at a place where no class begins. (A template.) -/
import Derived.Test.YtokocfoeohddfaaGreatDoorGlRSign
namespace Go.Proofs.YtokocfoeohddfaaGreatDoor.Pa
open Go.RowKit
set_option linter.unusedVariables false
set_option linter.unusedSimpArgs false
set_option maxRecDepth 100000

/-- what readSign answers -/
def RS (l : L8) (a : Nat) (v : Value) : Prop := match sgn l a with
  | none => v = .tuple #[.agg Z7, .int .i64 0, .bool false]
  | some (x, b) => v = .tuple #[x.val, .int .i64 (b : Int), .bool true]
theorem nb91 {l : L8} {a k : Nat} : (bt l a == (k : Int)) = decide (nb l a = k) := by
  rw [bt_nb]
  by_cases h : nb l a = k
  · rw [h]; simp
  · rw [decide_eq_false h]
    have : ¬ ((nb l a : Int) = (k : Int)) := by omega
    simpa using this
set_option maxHeartbeats 8000000 in
theorem readSign_any (l : L8) (a : Nat) (w : World) (ha : a < l.length) (hl : l.length ≤ 4611686018427387904) (h91 : nb l a ≠ 91) :
    Calls Tryz.prog 59 #[.string (mk l), .int .i64 (a : Int)] w fun e w' => ∃ v, e = .returned v ∧ RS l a v ∧ Below w.heap.size w w' := by
  have hs : (mk l).size = l.length := mk_size l
  have hx := run_at l a ha
  have hw1 : IntKind.i64.wrap ((a : Int) + 1) = (a : Int) + 1 := IntWalk.i64_in _ (by omega)
  have HR0 : Hid ((w.alloc (.cells #[.int .u64 0, .int .u64 0, .int .u64 0, .int .u64 0, .bool false, .bool false, .int .u8 0] 77)).heap[w.heap.size]? = some (.cells #[.int .u64 0, .int .u64 0, .int .u64 0, .int .u64 0, .bool false, .bool false, .int .u8 0] 77)) := heap_new _ _
  have HB0 : Hid (Below w.heap.size w (w.alloc (.cells #[.int .u64 0, .int .u64 0, .int .u64 0, .int .u64 0, .bool false, .bool false, .int .u8 0] 77))) := (Below.refl _ _).alloc (Nat.le_refl _) _
  by_cases h63 : nb l a = 63
  · have hb : bt l a = 63 := by rw [bt_nb, h63]; rfl
    rw [hb] at hx
    have HR : Hid (RS l a (.tuple #[(⟨dropS allS 47, false, false, 0⟩ : Sg).val, .int .i64 ((a : Int) + 1), .bool true])) := by
      show RS _ _ _
      unfold RS sgn; rw [if_neg h91, if_pos h63]; rfl
    have HA : Hid (∀ W, Below w.heap.size w W → W.heap[w.heap.size]? = some (.cells #[.int .u64 0, .int .u64 0, .int .u64 0, .int .u64 0, .bool false, .bool false, .int .u8 0] 77) → Calls Tryz.prog 74 #[] W fun e w' => e = .returned (.agg #[.int .u64 (wd (dropS allS 47) 0 : Int), .int .u64 (wd (dropS allS 47) 1 : Int), .int .u64 (wd (dropS allS 47) 2 : Int), .int .u64 (wd (dropS allS 47) 3 : Int)]) ∧ Below w.heap.size w w' ∧ w'.heap[w.heap.size]? = some (.cells #[.int .u64 0, .int .u64 0, .int .u64 0, .int .u64 0, .bool false, .bool false, .int .u8 0] 77)) := by
      intro W h1 h2
      refine (butSlash_any W).mono ?_
      rintro e w' ⟨h3, h4⟩
      exact ⟨h3, h1.trans (h4.mono h1.size), (h4.block _ (Array.getElem?_eq_some_iff.1 h2).1).trans h2⟩
    clear hb h63 h91 hs ha hl
    go_enter Tryz.func59, Tryz.ntmps59
    go_wp2_with (go_at_call 74; refine (HA.out _ HB0.out HR0.out).mono ?_; rintro e w2 ⟨rfl, hb2, hr2⟩
                 have HB2 := Lib.hid hb2; have HR2 := Lib.hid hr2; obtain ⟨k0, k1, k2, k3, k4, k5, k6⟩ := cells7 hr2
                 obtain ⟨f0, f1, f2, f3, f4, f5, f6⟩ := soft7 hr2
                 clear hb2 hr2)
    try simp only [Exit.inBlock, Exit.then]
    refine bodyPost_ret (v := .tuple #[(⟨dropS allS 47, false, false, 0⟩ : Sg).val, .int .i64 ((a : Int) + 1), .bool true]) (results_cell3_row (p := 4) (u := 5) (v := 6) rfl _ _ w.heap.size 77 #[.int .u64 (wd (dropS allS 47) 0 : Int), .int .u64 (wd (dropS allS 47) 1 : Int), .int .u64 (wd (dropS allS 47) 2 : Int), .int .u64 (wd (dropS allS 47) 3 : Int), .bool false, .bool false, .int .u8 0] (0, 0) _ rfl (by exact row7 HR2.out _ _ _ _ _ _ _) Tryz.underlying77 rfl (by kernel_rfl)) rfl ?_
    exact ⟨_, rfl, HR.out, below7 HB2.out (Nat.le_refl _) _ _ _ _ _ _ _⟩
  · by_cases h42 : nb l a = 42
    · have hb : bt l a = 42 := by rw [bt_nb, h42]; rfl
      rw [hb] at hx
      obtain ⟨x, hxx⟩ : ∃ x, x = starSg (decide (stars l a > 1)) := ⟨_, rfl⟩
      obtain ⟨b, hbb⟩ : ∃ b, b = a + stars l a := ⟨_, rfl⟩
      have HR : Hid (RS l a (.tuple #[x.val, .int .i64 (b : Int), .bool true])) := by
        show RS _ _ _
        unfold RS sgn
        rw [if_neg h91, if_neg h63, if_pos h42, hxx, hbb]
        by_cases hm : stars l a > 1
        · simp only [if_pos hm, decide_eq_true hm]; rfl
        · simp only [if_neg hm, decide_eq_false hm]; rfl
      unfold Sg.val signV at HR
      have HA : Hid (∀ W, Below w.heap.size w W → W.heap[w.heap.size]? = some (.cells #[.int .u64 0, .int .u64 0, .int .u64 0, .int .u64 0, .bool false, .bool false, .int .u8 0] 77) → Calls Tryz.prog 75 #[.string (mk l), .int .i64 (a : Int)] W fun e w' => e = .returned (.tuple #[.agg #[.int .u64 (wd x.S 0 : Int), .int .u64 (wd x.S 1 : Int), .int .u64 (wd x.S 2 : Int), .int .u64 (wd x.S 3 : Int), .bool x.many, .bool x.itself, .int .u8 (x.c : Int)], .int .i64 (b : Int)]) ∧ Below w.heap.size w w' ∧ w'.heap[w.heap.size]? = some (.cells #[.int .u64 0, .int .u64 0, .int .u64 0, .int .u64 0, .bool false, .bool false, .int .u8 0] 77)) := by
        intro W h1 h2
        refine (readStars_any l a W ha hl).mono ?_
        rintro e w' ⟨h3, h4⟩
        exact ⟨by rw [h3, hxx, hbb]; rfl, h1.trans (h4.mono h1.size), (h4.block _ (Array.getElem?_eq_some_iff.1 h2).1).trans h2⟩
      clear hb h63 h91 h42 hs ha hl hxx hbb hw1
      obtain ⟨S, many, its, c⟩ := x
      simp only at HR HA
      generalize wd S 0 = s0 at *
      generalize wd S 1 = s1 at *
      generalize wd S 2 = s2 at *
      generalize wd S 3 = s3 at *
      go_enter Tryz.func59, Tryz.ntmps59
      go_wp2_with (go_at_call 75; refine (HA.out _ HB0.out HR0.out).mono ?_; rintro e w2 ⟨rfl, hb2, hr2⟩
                   have HB2 := Lib.hid hb2; have HR2 := Lib.hid hr2; obtain ⟨k0, k1, k2, k3, k4, k5, k6⟩ := cells7 hr2
                   obtain ⟨f0, f1, f2, f3, f4, f5, f6⟩ := soft7 hr2
                   have HR3 : Hid ((w2.alloc (.cells #[.int .u64 (s0 : Int), .int .u64 (s1 : Int), .int .u64 (s2 : Int), .int .u64 (s3 : Int), .bool many, .bool its, .int .u8 (c : Int)] 77)).heap[w.heap.size]? = some (.cells #[.int .u64 0, .int .u64 0, .int .u64 0, .int .u64 0, .bool false, .bool false, .int .u8 0] 77)) := (Below.heap_alloc _ _ _ (Array.getElem?_eq_some_iff.1 hr2).1).trans hr2
                   have HB3 : Hid (Below w.heap.size w (w2.alloc (.cells #[.int .u64 (s0 : Int), .int .u64 (s1 : Int), .int .u64 (s2 : Int), .int .u64 (s3 : Int), .bool many, .bool its, .int .u8 (c : Int)] 77))) := hb2.alloc hb2.size _
                   obtain ⟨j0, j1, j2, j3, j4, j5, j6⟩ := cells7 HR3.out
                   obtain ⟨g0, g1, g2, g3, g4, g5, g6⟩ := soft7 HR3.out
                   clear hb2 hr2)
      try simp only [Exit.inBlock, Exit.then]
      refine bodyPost_ret (v := .tuple #[.agg #[.int .u64 (s0 : Int), .int .u64 (s1 : Int), .int .u64 (s2 : Int), .int .u64 (s3 : Int), .bool many, .bool its, .int .u8 (c : Int)], .int .i64 (b : Int), .bool true]) (results_cell3_row (p := 4) (u := 5) (v := 6) rfl _ _ w.heap.size 77 #[.int .u64 (s0 : Int), .int .u64 (s1 : Int), .int .u64 (s2 : Int), .int .u64 (s3 : Int), .bool many, .bool its, .int .u8 (c : Int)] (0, 0) _ rfl (by exact row7 HR3.out _ _ _ _ _ _ _) Tryz.underlying77 rfl (by kernel_rfl)) rfl ?_
      exact ⟨_, rfl, HR.out, below7 HB3.out (Nat.le_refl _) _ _ _ _ _ _ _⟩
    · have hb1 : (bt l a == 63) = false := by rw [show (63 : Int) = ((63 : Nat) : Int) from rfl, nb91, decide_eq_false h63]
      have hb2 : (bt l a == 42) = false := by rw [show (42 : Int) = ((42 : Nat) : Int) from rfl, nb91, decide_eq_false h42]
      have H1 := fun W => readByte_any l a W (by omega) hl
      cases hy : rbN l a with
      | none =>
        rw [rb_none hy] at H1
        have H1 := Lib.hid H1
        have HR : Hid (RS l a (.tuple #[.agg Z7, .int .i64 0, .bool false])) := by
          show RS _ _ _
          unfold RS sgn; rw [if_neg h91, if_neg h63, if_neg h42, hy]
        generalize bt l a = c at *
        clear h63 h91 h42 hs ha hl hy hw1
        go_enter Tryz.func59, Tryz.ntmps59
        go_wp2_with (go_at_call 76; refine (H1.out _).mono ?_; rintro e w2 ⟨rfl, rfl⟩)
        try simp only [Exit.inBlock, Exit.then]
        refine bodyPost_ret (v := .tuple #[.agg #[.int .u64 0, .int .u64 0, .int .u64 0, .int .u64 0, .bool false, .bool false, .int .u8 0], .int .i64 0, .bool false]) (results_cell3_row (p := 4) (u := 5) (v := 6) rfl _ _ w.heap.size 77 #[.int .u64 0, .int .u64 0, .int .u64 0, .int .u64 0, .bool false, .bool false, .int .u8 0] (0, 0) _ rfl HR0.out Tryz.underlying77 rfl (by kernel_rfl)) rfl ?_
        exact ⟨_, rfl, HR.out, HB0.out⟩
      | some y =>
        obtain ⟨c, b⟩ := y
        obtain ⟨q1, q2, q3, q4, q5⟩ := rb_some hy
        rw [q1] at H1
        have H1 := Lib.hid H1
        have HR : Hid (RS l a (.tuple #[(⟨addS noneS c, false, true, c⟩ : Sg).val, .int .i64 (b : Int), .bool true])) := by
          show RS _ _ _
          unfold RS sgn; rw [if_neg h91, if_neg h63, if_neg h42, hy]
        obtain ⟨w1, hw1'⟩ : ∃ w1, w1 = w.alloc (.cells #[.int .u64 0, .int .u64 0, .int .u64 0, .int .u64 0, .bool false, .bool false, .int .u8 0] 77) := ⟨_, rfl⟩
        have hs1 : w1.heap.size = w.heap.size + 1 := by rw [hw1']; simp
        obtain ⟨w2, hw2⟩ : ∃ w2, w2 = w1.alloc (.cells #[.int .u64 0, .int .u64 0, .int .u64 0, .int .u64 0, .bool false, .bool true, .int .u8 (c : Int)] 77) := ⟨_, rfl⟩
        have hr2 : w2.heap[w.heap.size + 1]? = some (.cells #[.int .u64 0, .int .u64 0, .int .u64 0, .int .u64 0, .bool false, .bool true, .int .u8 (c : Int)] 77) := by rw [hw2, ← hs1]; exact heap_new _ _
        have hr2b : w2.heap[w.heap.size]? = some (.cells #[.int .u64 0, .int .u64 0, .int .u64 0, .int .u64 0, .bool false, .bool false, .int .u8 0] 77) := by rw [hw2, Below.heap_alloc _ _ _ (by omega), hw1']; exact heap_new _ _
        have hB2 : Below w.heap.size w w2 := by rw [hw2, hw1']; exact ((Below.refl _ _).alloc (Nat.le_refl _) _).alloc (by simp) _
        have hS : SetAt w2 (w.heap.size + 1) 0 noneS := by
          obtain ⟨k0, k1, k2, k3, -, -, -⟩ := cells7 hr2
          refine ⟨fun j hj => ?_, fun j hj => unfrozen hr2⟩
          rw [wd_none]
          obtain rfl | rfl | rfl | rfl : j = 0 ∨ j = 1 ∨ j = 2 ∨ j = 3 := by omega
          · exact k0
          · exact k1
          · exact k2
          · exact k3
        have HA := Lib.hid (add_set noneS (w.heap.size + 1) 0 c w2 q2 hS)
        have HW := Lib.hid (And.intro hw1' hw2)
        have HR2 := Lib.hid hr2
        have HR2b := Lib.hid hr2b
        have HB2 := Lib.hid hB2
        rw [hw2, hw1'] at HA
        generalize bt l a = cc at *
        clear h63 h91 h42 hs ha hl hy hw1 q1 q2 q3 q4 q5 hw1' hw2 hr2 hr2b hB2 hS hs1
        go_enter Tryz.func59, Tryz.ntmps59
        go_wp2_with (first
          | (go_at_call 76; refine (H1.out _).mono ?_; rintro e w9 ⟨rfl, rfl⟩)
          | (go_at_call 77; refine HA.out.mono ?_; rintro e w3 ⟨rfl, hS3, hN3⟩
             rw [← HW.out.1, ← HW.out.2] at hN3
             obtain ⟨z0, z1, z2, z3, z4, z5, z6⟩ := cells7 HR2.out
             have k0 := hS3.cell 0 (by omega)
             have k1 := hS3.cell 1 (by omega)
             have k2 := hS3.cell 2 (by omega)
             have k3 := hS3.cell 3 (by omega)
             simp only [Nat.zero_add] at k0 k1 k2 k3
             have k4 := (hN3.cell 4 (by omega)).trans z4
             have k5 := (hN3.cell 5 (by omega)).trans z5
             have k6 := (hN3.cell 6 (by omega)).trans z6
             have HR3 : Hid (w3.heap[w.heap.size]? = some (.cells #[.int .u64 0, .int .u64 0, .int .u64 0, .int .u64 0, .bool false, .bool false, .int .u8 0] 77)) := (hN3.block _ (by omega)).trans HR2b.out
             have HB3 : Hid (Below w.heap.size w w3) := HB2.out.trans (hN3.below (by omega))
             obtain ⟨j0, j1, j2, j3, j4, j5, j6⟩ := cells7 HR3.out
             obtain ⟨g0, g1, g2, g3, g4, g5, g6⟩ := soft7 HR3.out
             clear z0 z1 z2 z3 z4 z5 z6 hS3 hN3))
        try simp only [Exit.inBlock, Exit.then]
        refine bodyPost_ret (v := .tuple #[.agg #[.int .u64 (wd (addS noneS c) 0 : Int), .int .u64 (wd (addS noneS c) 1 : Int), .int .u64 (wd (addS noneS c) 2 : Int), .int .u64 (wd (addS noneS c) 3 : Int), .bool false, .bool true, .int .u8 (c : Int)], .int .i64 (b : Int), .bool true]) (results_cell3_row (p := 4) (u := 5) (v := 6) rfl _ _ w.heap.size 77 #[.int .u64 (wd (addS noneS c) 0 : Int), .int .u64 (wd (addS noneS c) 1 : Int), .int .u64 (wd (addS noneS c) 2 : Int), .int .u64 (wd (addS noneS c) 3 : Int), .bool false, .bool true, .int .u8 (c : Int)] (0, 0) _ rfl (by exact row7 HR3.out _ _ _ _ _ _ _) Tryz.underlying77 rfl (by kernel_rfl)) rfl ?_
        exact ⟨_, rfl, HR.out, below7 HB3.out (Nat.le_refl _) _ _ _ _ _ _ _⟩
end Go.Proofs.YtokocfoeohddfaaGreatDoor.Pa
