/- gear: the laws GearTable, GearNext. (A template: seatgen.py fills it.) -/
import Derived.Test.YtheklipnnflnaaaDoorGrAwake
namespace Go.Proofs.YtheklipnnflnaaaDoor.Gear
open Go.RowKit Go.Proofs.GearMath
set_option linter.unusedVariables false
set_option maxRecDepth 1000000

theorem toS {f : Nat} {args : Array Value} {w1 : World} {r : Value} {g : Nat} {x y z : Value} (h : ∀ W, Below w1.heap.size w1 W → Calls Tryd.prog f args W fun e w' => e = .returned r ∧ Below W.heap.size W w') :
    ∀ W, (Below w1.heap.size w1 W ∧ W.cell? ⟨g, 0, none⟩ = some x ∧ W.cell? ⟨g, 1, none⟩ = some y ∧ W.cell? ⟨g, 2, none⟩ = some z) → Calls Tryd.prog f args W fun e w' => e = .returned r ∧ (Below w1.heap.size w1 w' ∧ w'.cell? ⟨g, 0, none⟩ = some x ∧ w'.cell? ⟨g, 1, none⟩ = some y ∧ w'.cell? ⟨g, 2, none⟩ = some z) := by
  rintro W ⟨hb, d0, d1, d2⟩
  refine (h W hb).mono ?_
  rintro e w' ⟨rfl, h⟩
  exact ⟨rfl, hb.trans (h.mono hb.size), cell_later h d0, cell_later h d1, cell_later h d2⟩

set_option maxHeartbeats 4000000 in
theorem gearTable_walk (c L M B : Int) (w : World) (hT : Tab w) (h0 : 0 ≤ c) (h1 : c ≤ 255) :
    Calls Tryd.prog 3 #[.int .u8 c, P3 L M B] w fun e w' => e = .returned (.bool true) ∧ Below w.heap.size w w' := by
  obtain ⟨w1, hw1⟩ : ∃ w1, w1 = w.alloc (Obj.cells #[.int .i64 L, .int .i64 M, .int .i64 B] 23) := ⟨_, rfl⟩
  obtain ⟨f0, f1, f2⟩ := three_at hw1
  have hb1 : Below w.heap.size w w1 := by rw [hw1]; exact (Below.refl _ _).alloc (Nat.le_refl _) _
  have hT1 := hT.later hb1
  have HB1 := Lib.hid hb1
  have H1 := Lib.hid (toS (g := w.heap.size) (x := .int .i64 L) (y := .int .i64 M) (z := .int .i64 B) fun W hb => table_any c W (hT1.later hb) h0 h1)
  have H2 := Lib.hid (toS (w1 := w1) (g := w.heap.size) (x := .int .i64 L) (y := .int .i64 M) (z := .int .i64 B) fun W hb => rtable_any c W h0 h1)
  have H3 := Lib.hid (toS (w1 := w1) (g := w.heap.size) (x := .int .i64 L) (y := .int .i64 M) (z := .int .i64 B) fun W hb => of_any L M B W)
  have H4 := Lib.hid (toS (w1 := w1) (g := w.heap.size) (x := .int .i64 L) (y := .int .i64 M) (z := .int .i64 B) fun W hb => check_any L M B W)
  have H5 := Lib.hid (toS (w1 := w1) (g := w.heap.size) (x := .int .i64 L) (y := .int .i64 M) (z := .int .i64 B) fun W hb => rcheck_any L M B W)
  have H6 := Lib.hid (toS (w1 := w1) (g := w.heap.size) (x := .int .i64 L) (y := .int .i64 M) (z := .int .i64 B) fun W hb => awake_any W (hT1.later hb))
  have hS0 : Below w1.heap.size w1 w1 ∧ w1.cell? ⟨w.heap.size, 0, none⟩ = some (.int .i64 L) ∧ w1.cell? ⟨w.heap.size, 1, none⟩ = some (.int .i64 M) ∧ w1.cell? ⟨w.heap.size, 2, none⟩ = some (.int .i64 B) := ⟨Below.refl _ _, f0, f1, f2⟩
  have hS1 : Below w1.heap.size w1 w1.drew ∧ w1.drew.cell? ⟨w.heap.size, 0, none⟩ = some (.int .i64 L) ∧ w1.drew.cell? ⟨w.heap.size, 1, none⟩ = some (.int .i64 M) ∧ w1.drew.cell? ⟨w.heap.size, 2, none⟩ = some (.int .i64 B) := ⟨Below.drew (Below.refl _ _), f0, f1, f2⟩
  generalize gt c = t at *
  generalize chk L M B = k at *
  clear hT hT1 hb1 h0 h1 f0 f1 f2
  unfold P3 at *
  go_enter Tryd.func3, Tryd.ntmps3
  go_wp2_with fail
  rw [← hw1]
  clear hw1
  go_region_held3 (fun W => Below w1.heap.size w1 W ∧ W.cell? ⟨w.heap.size, 0, none⟩ = some (.int .i64 L) ∧ W.cell? ⟨w.heap.size, 1, none⟩ = some (.int .i64 M) ∧ W.cell? ⟨w.heap.size, 2, none⟩ = some (.int .i64 B)) (first | assumption | exact hS0 | exact hS1) (first
    | (go_at_call 10; (with_reducible refine (H1.out _ ?_).mono ?_); (focus (first | assumption | exact hS0 | exact hS1)); rintro e w9 ⟨rfl, hb9⟩)
    | (go_at_call 11; (with_reducible refine (H2.out _ ?_).mono ?_); (focus (first | assumption | exact hS0 | exact hS1)); rintro e w9 ⟨rfl, hb9⟩)
    | (go_at_call 13; (with_reducible refine (H3.out _ ?_).mono ?_); (focus (first | assumption | exact hS0 | exact hS1)); rintro e w9 ⟨rfl, hb9⟩)
    | (go_at_call 12; (with_reducible refine (H4.out _ ?_).mono ?_); (focus (first | assumption | exact hS0 | exact hS1)); rintro e w9 ⟨rfl, hb9⟩)
    | (go_at_call 14; (with_reducible refine (H5.out _ ?_).mono ?_); (focus (first | assumption | exact hS0 | exact hS1)); rintro e w9 ⟨rfl, hb9⟩)
    | (go_at_call 15; (with_reducible refine (H6.out _ ?_).mono ?_); (focus (first | assumption | exact hS0 | exact hS1)); rintro e w9 ⟨rfl, hb9⟩))
  all_goals go_wp2
  all_goals go_ret
  all_goals exact ⟨rfl, HB1.out.trans (Below.mono (And.left (by assumption)) HB1.out.size)⟩

set_option maxHeartbeats 4000000 in
theorem gearNext_walk (u : Value) (n : Nat) (l : List Int) (L M B : Int) (w : World) (hT : Tab w) (hS : Sl w u l) (ho : Oct l) (hn : n = l.length) (hu : ∃ a cap, u = .slice a n cap) (hm : n ≤ 9223372036854775807) :
    Calls Tryd.prog 4 #[u, P3 L M B] w fun e w' => e = .returned (.bool true) ∧ Below w.heap.size w w' := by
  obtain ⟨w1, hw1⟩ : ∃ w1, w1 = w.alloc (Obj.cells #[.int .i64 L, .int .i64 M, .int .i64 B] 23) := ⟨_, rfl⟩
  obtain ⟨f0, f1, f2⟩ := three_at hw1
  have hb1 : Below w.heap.size w w1 := by rw [hw1]; exact (Below.refl _ _).alloc (Nat.le_refl _) _
  have hT1 := hT.later hb1
  have HB1 := Lib.hid hb1
  obtain ⟨a, cap, rfl⟩ := hu
  by_cases hbig : n ≤ 2000
  · have hI : ¬ (2000 : Int) < (n : Int) := by omega
    have hS1' := hS.later hb1
    have H1 := Lib.hid (toS (g := w.heap.size) (x := .int .i64 L) (y := .int .i64 M) (z := .int .i64 B) fun W hb => next_any _ l L M B W (hT1.later hb) (hS1'.later hb) ho (by omega))
    have H2 := Lib.hid (toS (w1 := w1) (g := w.heap.size) (x := .int .i64 L) (y := .int .i64 M) (z := .int .i64 B) fun W hb => rnext_any _ l L M B W (hS1'.later hb) ho (by omega))
    have H3 := Lib.hid (toS (w1 := w1) (g := w.heap.size) (x := .int .i64 L) (y := .int .i64 M) (z := .int .i64 B) fun W hb => of_any L M B W)
    have H6 := Lib.hid (toS (w1 := w1) (g := w.heap.size) (x := .int .i64 L) (y := .int .i64 M) (z := .int .i64 B) fun W hb => awake_any W (hT1.later hb))
    have hS0 : Below w1.heap.size w1 w1 ∧ w1.cell? ⟨w.heap.size, 0, none⟩ = some (.int .i64 L) ∧ w1.cell? ⟨w.heap.size, 1, none⟩ = some (.int .i64 M) ∧ w1.cell? ⟨w.heap.size, 2, none⟩ = some (.int .i64 B) := ⟨Below.refl _ _, f0, f1, f2⟩
    have hS1 : Below w1.heap.size w1 w1.drew ∧ w1.drew.cell? ⟨w.heap.size, 0, none⟩ = some (.int .i64 L) ∧ w1.drew.cell? ⟨w.heap.size, 1, none⟩ = some (.int .i64 M) ∧ w1.drew.cell? ⟨w.heap.size, 2, none⟩ = some (.int .i64 B) := ⟨Below.drew (Below.refl _ _), f0, f1, f2⟩
    generalize nxt L M B l = r at *
    clear hT hT1 hb1 hS hS1' ho hn
    unfold P3 at *
    go_enter Tryd.func4, Tryd.ntmps4
    go_wp2_with fail
    rw [← hw1]
    clear hw1
    go_region_held3 (fun W => Below w1.heap.size w1 W ∧ W.cell? ⟨w.heap.size, 0, none⟩ = some (.int .i64 L) ∧ W.cell? ⟨w.heap.size, 1, none⟩ = some (.int .i64 M) ∧ W.cell? ⟨w.heap.size, 2, none⟩ = some (.int .i64 B)) (first | assumption | exact hS0 | exact hS1) (first
      | (go_at_call 16; (with_reducible refine (H1.out _ ?_).mono ?_); (focus (first | assumption | exact hS0 | exact hS1)); rintro e w9 ⟨rfl, hb9⟩)
      | (go_at_call 17; (with_reducible refine (H2.out _ ?_).mono ?_); (focus (first | assumption | exact hS0 | exact hS1)); rintro e w9 ⟨rfl, hb9⟩)
      | (go_at_call 13; (with_reducible refine (H3.out _ ?_).mono ?_); (focus (first | assumption | exact hS0 | exact hS1)); rintro e w9 ⟨rfl, hb9⟩)
      | (go_at_call 15; (with_reducible refine (H6.out _ ?_).mono ?_); (focus (first | assumption | exact hS0 | exact hS1)); rintro e w9 ⟨rfl, hb9⟩))
    all_goals go_wp2
    all_goals go_ret
    all_goals exact ⟨rfl, HB1.out.trans (Below.mono (And.left (by assumption)) HB1.out.size)⟩
  · have hI : (2000 : Int) < (n : Int) := by omega
    have H6 := Lib.hid (awake_any w1 hT1)
    clear hT hT1 hb1 hS ho hn
    unfold P3 at *
    go_enter Tryd.func4, Tryd.ntmps4
    go_wp2_with fail
    rw [← hw1]
    clear hw1
    refine H6.out.mono ?_
    rintro e w9 ⟨rfl, hb9⟩
    go_wp2
    go_ret
    exact ⟨rfl, HB1.out.trans (hb9.mono HB1.out.size)⟩
end Go.Proofs.YtheklipnnflnaaaDoor.Gear
