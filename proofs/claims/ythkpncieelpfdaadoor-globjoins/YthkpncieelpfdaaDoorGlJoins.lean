/- The law GlobJoins. (A template.) -/
import Derived.Test.YthkpncieelpfdaaDoorGlAwake
import Derived.Test.YthkpncieelpfdaaDoorGlJoinM
import Derived.Lib.Strings
import Derived.Laws.Concat
namespace Go.Proofs.YthkpncieelpfdaaDoor.Pa
open Go.RowKit
set_option linter.unusedVariables false
set_option linter.unusedSimpArgs false
set_option maxRecDepth 1000000

theorem mk_app (a b : L8) : mk a ++ mk b = mk (a ++ b) := by
  have h : (mk a ++ mk b).data = (mk (a ++ b)).data := by simp [mk]
  generalize mk a ++ mk b = x at h
  cases x; simp only at h; rw [h]
set_option maxHeartbeats 16000000 in
theorem globJoins_walk (p0 p1 s0 s1 : L8) (w : World) (h0 : p0.length ≤ 9223372036854775807) (h1 : p1.length ≤ 9223372036854775807) (h2 : s0.length ≤ 9223372036854775807) (h3 : s1.length ≤ 9223372036854775807) :
    Calls Tryd.prog 8 #[.agg #[.string (mk p0), .string (mk p1)], .agg #[.string (mk s0), .string (mk s1)]] w fun e w' => e = .returned (.bool true) ∧ Below w.heap.size w w' := by
  have z0 := mk_size p0
  have z1 := mk_size p1
  have z2 := mk_size s0
  have z3 := mk_size s1
  obtain ⟨w2, hw2⟩ : ∃ w2, w2 = (w.alloc (.cells #[.string (mk p0), .string (mk p1)] 30)).alloc (.cells #[.string (mk s0), .string (mk s1)] 30) := ⟨_, rfl⟩
  have HA := Lib.hid (acc (w := w2) awake_gl)
  have hbw : Below w.heap.size w w2 := by rw [hw2]; exact ((Below.refl _ _).alloc (Nat.le_refl _) _).alloc (by simp) _
  have HBW := Lib.hid hbw
  have r0 : w2.heap[w.heap.size]? = some (.cells #[.string (mk p0), .string (mk p1)] 30) := by rw [hw2, Below.heap_alloc _ _ _ (by simp)]; exact heap_new _ _
  have r1 : w2.heap[w.heap.size + 1]? = some (.cells #[.string (mk s0), .string (mk s1)] 30) := by
    have := heap_new (w.alloc (.cells #[.string (mk p0), .string (mk p1)] 30)) (.cells #[.string (mk s0), .string (mk s1)] 30)
    rw [World.size_alloc] at this
    rw [hw2]; exact this
  have HC4 : Hid (∀ W, Below w2.heap.size w2 W → W.cell? ⟨w.heap.size, 0, none⟩ = some (.string (mk p0)) ∧ W.cell? ⟨w.heap.size, 1, none⟩ = some (.string (mk p1)) ∧ W.cell? ⟨w.heap.size + 1, 0, none⟩ = some (.string (mk s0)) ∧ W.cell? ⟨w.heap.size + 1, 1, none⟩ = some (.string (mk s1))) := by
    intro W hW
    have l0 := (Array.getElem?_eq_some_iff.1 r0).1
    have l1 := (Array.getElem?_eq_some_iff.1 r1).1
    refine ⟨?_, ?_, ?_, ?_⟩
    · rw [hW.cell (p := ⟨w.heap.size, 0, none⟩) l0, cell_of_row _ _ 0 _ _ (0, 0) r0]; rfl
    · rw [hW.cell (p := ⟨w.heap.size, 1, none⟩) l0, cell_of_row _ _ 1 _ _ (0, 0) r0]; rfl
    · rw [hW.cell (p := ⟨w.heap.size + 1, 0, none⟩) l1, cell_of_row _ _ 0 _ _ (0, 0) r1]; rfl
    · rw [hW.cell (p := ⟨w.heap.size + 1, 1, none⟩) l1, cell_of_row _ _ 1 _ _ (0, 0) r1]; rfl
  have HB : Hid (Below w2.heap.size w2 ((w.alloc (.cells #[.string (mk p0), .string (mk p1)] 30)).alloc (.cells #[.string (mk s0), .string (mk s1)] 30))) := by
    show Below _ _ _; rw [← hw2]; exact Below.refl _ _
  clear hw2 hbw r0 r1
  by_cases b0 : 200 < p0.length
  · have np0 : (200 : Int) < ((mk p0).size : Int) := by omega
    have dp0 : decide ((200 : Int) < ((mk p0).size : Int)) = true := decide_eq_true np0
    clear z0 z1 z2 z3 h0 h1 h2 h3 b0
    generalize mk p0 = P0 at *
    generalize mk p1 = P1 at *
    generalize mk s0 = S0 at *
    generalize mk s1 = S1 at *
    go_enter Tryd.func8, Tryd.ntmps8
    go_wp2_with (go_at_call 11; refine (HA.out _ HB.out).mono ?_; rintro e w' ⟨rfl, hb⟩; obtain ⟨q0, q1, q2, q3⟩ := HC4.out _ hb; have HB := Lib.hid hb; clear hb)
    go_ret
    exact ⟨rfl, HBW.out.trans (HB.out.mono HBW.out.size)⟩
  · have np0 : ¬ (200 : Int) < ((mk p0).size : Int) := by omega
    have dp0 : decide ((200 : Int) < ((mk p0).size : Int)) = false := decide_eq_false np0
    by_cases b1 : 200 < p1.length
    · have np1 : (200 : Int) < ((mk p1).size : Int) := by omega
      have dp1 : decide ((200 : Int) < ((mk p1).size : Int)) = true := decide_eq_true np1
      clear z0 z1 z2 z3 h0 h1 h2 h3 b0 b1
      generalize mk p0 = P0 at *
      generalize mk p1 = P1 at *
      generalize mk s0 = S0 at *
      generalize mk s1 = S1 at *
      go_enter Tryd.func8, Tryd.ntmps8
      go_wp2_with (go_at_call 11; refine (HA.out _ HB.out).mono ?_; rintro e w' ⟨rfl, hb⟩; obtain ⟨q0, q1, q2, q3⟩ := HC4.out _ hb; have HB := Lib.hid hb; clear hb)
      go_ret
      exact ⟨rfl, HBW.out.trans (HB.out.mono HBW.out.size)⟩
    · have np1 : ¬ (200 : Int) < ((mk p1).size : Int) := by omega
      have dp1 : decide ((200 : Int) < ((mk p1).size : Int)) = false := decide_eq_false np1
      by_cases b2 : 200 < s0.length
      · have ns0 : (200 : Int) < ((mk s0).size : Int) := by omega
        have ds0 : decide ((200 : Int) < ((mk s0).size : Int)) = true := decide_eq_true ns0
        clear z0 z1 z2 z3 h0 h1 h2 h3 b0 b1 b2
        generalize mk p0 = P0 at *
        generalize mk p1 = P1 at *
        generalize mk s0 = S0 at *
        generalize mk s1 = S1 at *
        go_enter Tryd.func8, Tryd.ntmps8
        go_wp2_with (go_at_call 11; refine (HA.out _ HB.out).mono ?_; rintro e w' ⟨rfl, hb⟩; obtain ⟨q0, q1, q2, q3⟩ := HC4.out _ hb; have HB := Lib.hid hb; clear hb)
        go_ret
        exact ⟨rfl, HBW.out.trans (HB.out.mono HBW.out.size)⟩
      · have ns0 : ¬ (200 : Int) < ((mk s0).size : Int) := by omega
        have ds0 : decide ((200 : Int) < ((mk s0).size : Int)) = false := decide_eq_false ns0
        by_cases b3 : 200 < s1.length
        · have ns1 : (200 : Int) < ((mk s1).size : Int) := by omega
          have ds1 : decide ((200 : Int) < ((mk s1).size : Int)) = true := decide_eq_true ns1
          clear z0 z1 z2 z3 h0 h1 h2 h3 b0 b1 b2 b3
          generalize mk p0 = P0 at *
          generalize mk p1 = P1 at *
          generalize mk s0 = S0 at *
          generalize mk s1 = S1 at *
          go_enter Tryd.func8, Tryd.ntmps8
          go_wp2_with (go_at_call 11; refine (HA.out _ HB.out).mono ?_; rintro e w' ⟨rfl, hb⟩; obtain ⟨q0, q1, q2, q3⟩ := HC4.out _ hb; have HB := Lib.hid hb; clear hb)
          go_ret
          exact ⟨rfl, HBW.out.trans (HB.out.mono HBW.out.size)⟩
        · have ns1 : ¬ (200 : Int) < ((mk s1).size : Int) := by omega
          have ds1 : decide ((200 : Int) < ((mk s1).size : Int)) = false := decide_eq_false ns1
          have HM0 := Lib.hid (acc (w := w2) (fun W => gmatch_any p0 s0 W (by omega) (by omega)))
          have HM1 := Lib.hid (acc (w := w2) (fun W => gmatch_any p1 s1 W (by omega) (by omega)))
          cases m0 : matchP p0 s0 with
          | false =>
            rw [m0] at HM0
            clear z0 z1 z2 z3 h0 h1 h2 h3 b0 b1 b2 b3 m0 HM1
            generalize mk p0 = P0 at *
            generalize mk p1 = P1 at *
            generalize mk s0 = S0 at *
            generalize mk s1 = S1 at *
            go_enter Tryd.func8, Tryd.ntmps8
            go_wp2_with (first
              | (go_at_call 11; refine (HA.out _ HB.out).mono ?_; rintro e w' ⟨rfl, hb⟩; obtain ⟨q0, q1, q2, q3⟩ := HC4.out _ hb; have HB := Lib.hid hb; clear hb)
              | (go_at_call 14; with_reducible refine (HM0.out _ HB.out).mono ?_; rintro e w' ⟨rfl, hb⟩; obtain ⟨q0, q1, q2, q3⟩ := HC4.out _ hb; have HB := Lib.hid hb; clear hb))
            go_ret
            exact ⟨rfl, HBW.out.trans (HB.out.mono HBW.out.size)⟩
          | true =>
            rw [m0] at HM0
            cases m1 : matchP p1 s1 with
            | false =>
              rw [m1] at HM1
              clear z0 z1 z2 z3 h0 h1 h2 h3 b0 b1 b2 b3 m0 m1
              generalize mk p0 = P0 at *
              generalize mk p1 = P1 at *
              generalize mk s0 = S0 at *
              generalize mk s1 = S1 at *
              go_enter Tryd.func8, Tryd.ntmps8
              go_wp2_with (first
                | (go_at_call 11; refine (HA.out _ HB.out).mono ?_; rintro e w' ⟨rfl, hb⟩; obtain ⟨q0, q1, q2, q3⟩ := HC4.out _ hb; have HB := Lib.hid hb; clear hb)
                | (go_at_call 14; with_reducible refine (HM0.out _ HB.out).mono ?_; rintro e w' ⟨rfl, hb⟩; obtain ⟨q0, q1, q2, q3⟩ := HC4.out _ hb; have HB := Lib.hid hb; clear hb)
                | (go_at_call 14; with_reducible refine (HM1.out _ HB.out).mono ?_; rintro e w' ⟨rfl, hb⟩; obtain ⟨q0, q1, q2, q3⟩ := HC4.out _ hb; have HB := Lib.hid hb; clear hb))
              go_ret
              exact ⟨rfl, HBW.out.trans (HB.out.mono HBW.out.size)⟩
            | true =>
              rw [m1] at HM1
              have hap : ∀ W, (Op.stringOp .add (mk p0) (mk p1)).run Tryd.prog W = .ok (.string (mk (p0 ++ p1))) W := fun W => by rw [run_string_add_sum W _ _ (by omega), mk_app]
              have has : ∀ W, (Op.stringOp .add (mk s0) (mk s1)).run Tryd.prog W = .ok (.string (mk (s0 ++ s1))) W := fun W => by rw [run_string_add_sum W _ _ (by omega), mk_app]
              have HC := Lib.hid (acc (w := w2) (fun W => check_any (p0 ++ p1) W (by rw [List.length_append]; omega)))
              have hwr : IntKind.i64.wrap (((mk p0).size : Int) + ((mk p1).size : Int)) = ((mk p0).size : Int) + ((mk p1).size : Int) := IntWalk.i64_in _ (by omega)
              by_cases hl : (p0 ++ p1).length ≤ 100
              · obtain ⟨e1, e2⟩ := join_matches m0 m1 hl
                have HM2 := Lib.hid (acc (w := w2) (fun W => gmatch_any (p0 ++ p1) (s0 ++ s1) W (by rw [List.length_append]; omega) (by rw [List.length_append]; omega)))
                rw [e2] at HM2
                rw [e1] at HC
                generalize mk (p0 ++ p1) = PP at *
                generalize mk (s0 ++ s1) = SS at *
                clear z0 z1 z2 z3 h0 h1 h2 h3 b0 b1 b2 b3 m0 m1 hl e1 e2
                generalize mk p0 = P0 at *
                generalize mk p1 = P1 at *
                generalize mk s0 = S0 at *
                generalize mk s1 = S1 at *
                go_enter Tryd.func8, Tryd.ntmps8
                go_wp2_with (first
                  | (go_at_call 11; refine (HA.out _ HB.out).mono ?_; rintro e w' ⟨rfl, hb⟩; obtain ⟨q0, q1, q2, q3⟩ := HC4.out _ hb; have HB := Lib.hid hb; clear hb)
                  | (go_at_call 14; with_reducible refine (HM0.out _ HB.out).mono ?_; rintro e w' ⟨rfl, hb⟩; obtain ⟨q0, q1, q2, q3⟩ := HC4.out _ hb; have HB := Lib.hid hb; clear hb)
                  | (go_at_call 14; with_reducible refine (HM1.out _ HB.out).mono ?_; rintro e w' ⟨rfl, hb⟩; obtain ⟨q0, q1, q2, q3⟩ := HC4.out _ hb; have HB := Lib.hid hb; clear hb)
                  | (go_at_call 14; with_reducible refine (HM2.out _ HB.out).mono ?_; rintro e w' ⟨rfl, hb⟩; obtain ⟨q0, q1, q2, q3⟩ := HC4.out _ hb; have HB := Lib.hid hb; clear hb)
                  | (go_at_call 12; refine (HC.out _ HB.out).mono ?_; rintro e w' ⟨rfl, hb⟩; obtain ⟨q0, q1, q2, q3⟩ := HC4.out _ hb; have HB := Lib.hid hb; clear hb))
                go_ret
                exact ⟨rfl, HBW.out.trans (HB.out.mono HBW.out.size)⟩
              · have e1 := (esc_big (s := s0) hl).1
                rw [e1] at HC
                rw [List.length_append] at hl
                have hbg : (100 : Int) < ((mk p0).size : Int) + ((mk p1).size : Int) := by omega
                generalize mk (p0 ++ p1) = PP at *
                clear z0 z1 z2 z3 h0 h1 h2 h3 b0 b1 b2 b3 m0 m1 hl e1 has
                generalize mk p0 = P0 at *
                generalize mk p1 = P1 at *
                generalize mk s0 = S0 at *
                generalize mk s1 = S1 at *
                go_enter Tryd.func8, Tryd.ntmps8
                go_wp2_with (first
                  | (go_at_call 11; refine (HA.out _ HB.out).mono ?_; rintro e w' ⟨rfl, hb⟩; obtain ⟨q0, q1, q2, q3⟩ := HC4.out _ hb; have HB := Lib.hid hb; clear hb)
                  | (go_at_call 14; with_reducible refine (HM0.out _ HB.out).mono ?_; rintro e w' ⟨rfl, hb⟩; obtain ⟨q0, q1, q2, q3⟩ := HC4.out _ hb; have HB := Lib.hid hb; clear hb)
                  | (go_at_call 14; with_reducible refine (HM1.out _ HB.out).mono ?_; rintro e w' ⟨rfl, hb⟩; obtain ⟨q0, q1, q2, q3⟩ := HC4.out _ hb; have HB := Lib.hid hb; clear hb)
                  | (go_at_call 12; refine (HC.out _ HB.out).mono ?_; rintro e w' ⟨rfl, hb⟩; obtain ⟨q0, q1, q2, q3⟩ := HC4.out _ hb; have HB := Lib.hid hb; clear hb))
                go_ret
                exact ⟨rfl, HBW.out.trans (HB.out.mono HBW.out.size)⟩
end Go.Proofs.YthkpncieelpfdaaDoor.Pa
