/- glob: the stars at a place; the sign at a place where no class begins. (A template.) -/
import Derived.Test.YtokocfoeohddfaaGreatDoorGlStar
namespace Go.Proofs.YtokocfoeohddfaaGreatDoor.Pa
open Go.RowKit
set_option linter.unusedVariables false
set_option linter.unusedSimpArgs false
set_option maxRecDepth 100000

def Z7 : Array Value := #[.int .u64 0, .int .u64 0, .int .u64 0, .int .u64 0, .bool false, .bool false, .int .u8 0]
def V7 (x : Sg) : Array Value := #[.int .u64 (wd x.S 0 : Int), .int .u64 (wd x.S 1 : Int), .int .u64 (wd x.S 2 : Int), .int .u64 (wd x.S 3 : Int), .bool x.many, .bool x.itself, .int .u8 (x.c : Int)]
/-- a block of seven cells, each of them set -/
theorem row7 {W : World} {g : Nat} {y0 y1 y2 y3 y4 y5 y6 : Value} {t : TypeId} (h : W.heap[g]? = some (.cells #[y0, y1, y2, y3, y4, y5, y6] t)) (x0 x1 x2 x3 x4 x5 x6 : Value) :
    (((((((W.setCell ⟨g, 0, none⟩ x0).setCell ⟨g, 1, none⟩ x1).setCell ⟨g, 2, none⟩ x2).setCell ⟨g, 3, none⟩ x3).setCell ⟨g, 4, none⟩ x4).setCell ⟨g, 5, none⟩ x5).setCell ⟨g, 6, none⟩ x6).heap[g]? = some (.cells #[x0, x1, x2, x3, x4, x5, x6] t) := by
  simpa using row_set (row_set (row_set (row_set (row_set (row_set (row_set h 0 x0) 1 x1) 2 x2) 3 x3) 4 x4) 5 x5) 6 x6
theorem below7 {w0 W : World} {g base : Nat} (h : Below base w0 W) (hg : base ≤ g) (x0 x1 x2 x3 x4 x5 x6 : Value) :
    Below base w0 (((((((W.setCell ⟨g, 0, none⟩ x0).setCell ⟨g, 1, none⟩ x1).setCell ⟨g, 2, none⟩ x2).setCell ⟨g, 3, none⟩ x3).setCell ⟨g, 4, none⟩ x4).setCell ⟨g, 5, none⟩ x5).setCell ⟨g, 6, none⟩ x6) :=
  ((((((h.setCell hg _).setCell hg _).setCell hg _).setCell hg _).setCell hg _).setCell hg _).setCell hg _
/-- the cells of a block of seven -/
theorem cells7 {W : World} {g : Nat} {x0 x1 x2 x3 x4 x5 x6 : Value} {t : TypeId} (h : W.heap[g]? = some (.cells #[x0, x1, x2, x3, x4, x5, x6] t)) :
    W.cell? ⟨g, 0, none⟩ = some x0 ∧ W.cell? ⟨g, 1, none⟩ = some x1 ∧ W.cell? ⟨g, 2, none⟩ = some x2 ∧ W.cell? ⟨g, 3, none⟩ = some x3 ∧ W.cell? ⟨g, 4, none⟩ = some x4 ∧ W.cell? ⟨g, 5, none⟩ = some x5 ∧ W.cell? ⟨g, 6, none⟩ = some x6 := by
  refine ⟨?_, ?_, ?_, ?_, ?_, ?_, ?_⟩
  · rw [cell_of_row _ _ 0 _ _ (0, 0) h]; rfl
  · rw [cell_of_row _ _ 1 _ _ (0, 0) h]; rfl
  · rw [cell_of_row _ _ 2 _ _ (0, 0) h]; rfl
  · rw [cell_of_row _ _ 3 _ _ (0, 0) h]; rfl
  · rw [cell_of_row _ _ 4 _ _ (0, 0) h]; rfl
  · rw [cell_of_row _ _ 5 _ _ (0, 0) h]; rfl
  · rw [cell_of_row _ _ 6 _ _ (0, 0) h]; rfl
theorem soft7 {W : World} {g : Nat} {cs : Array Value} {t : TypeId} (h : W.heap[g]? = some (.cells cs t)) :
    W.frozen? ⟨g, 0, none⟩ = false ∧ W.frozen? ⟨g, 1, none⟩ = false ∧ W.frozen? ⟨g, 2, none⟩ = false ∧ W.frozen? ⟨g, 3, none⟩ = false ∧ W.frozen? ⟨g, 4, none⟩ = false ∧ W.frozen? ⟨g, 5, none⟩ = false ∧ W.frozen? ⟨g, 6, none⟩ = false :=
  ⟨unfrozen h, unfrozen h, unfrozen h, unfrozen h, unfrozen h, unfrozen h, unfrozen h⟩
def starSg (many : Bool) : Sg := if many then ⟨allS, true, false, 0⟩ else ⟨dropS allS 47, true, false, 0⟩
set_option maxHeartbeats 4000000 in
theorem readStars_any (l : L8) (a : Nat) (w : World) (ha : a < l.length) (hl : l.length ≤ 4611686018427387904) :
    Calls Tryz.prog 75 #[.string (mk l), .int .i64 (a : Int)] w fun e w' => e = .returned (.tuple #[(starSg (decide (stars l a > 1))).val, .int .i64 ((a + stars l a : Nat) : Int)]) ∧ Below w.heap.size w w' := by
  have hs : (mk l).size = l.length := mk_size l
  have hx := run_tl l a (by omega)
  have HT := Lib.hid (fun W => trim_any (l.drop a) W (by rw [List.length_drop]; omega) (by rw [List.length_drop]; omega))
  have hz : ((mk (cut42 (l.drop a))).size : Int) = (l.length : Int) - ((a + stars l a : Nat) : Int) := by rw [mk_size]; exact cut42_len l a (by omega)
  have hst : a + stars l a ≤ l.length := by
    have := (List.takeWhile_prefix (l := l.drop a) (· == (42 : UInt8))).length_le
    rw [List.length_drop] at this
    unfold stars; omega
  have hsub : IntKind.i64.wrap (((mk l).size : Int) - ((mk (cut42 (l.drop a))).size : Int)) = ((a + stars l a : Nat) : Int) := by
    rw [hz, hs, IntWalk.i64_in _ (by omega)]; omega
  obtain ⟨b, hb⟩ : ∃ b, b = a + stars l a := ⟨_, rfl⟩
  have hab : a ≤ b := by omega
  have hbl : b ≤ 4611686018427387904 := by omega
  rw [← hb] at hsub ⊢
  have hst2 : stars l a = b - a := by omega
  rw [hst2]
  have hsub2 : IntKind.i64.wrap ((b : Int) - (a : Int)) = (b : Int) - (a : Int) := IntWalk.i64_in _ (by omega)
  have HR0 : Hid ((w.alloc (.cells Z7 77)).heap[w.heap.size]? = some (.cells Z7 77)) := heap_new _ _
  generalize l.drop a = d at *
  generalize cut42 d = cd at *
  clear hs hst hz hb hst2 ha hl
  have HB0 : Hid (Below w.heap.size w (w.alloc (.cells Z7 77))) := (Below.refl _ _).alloc (Nat.le_refl _) _
  by_cases hm : b - a > 1
  · have hI : (b : Int) - (a : Int) > 1 := by omega
    have hI' : (1 : Int) < (b : Int) - (a : Int) := by omega
    have HA : Hid (∀ W, Below w.heap.size w W → W.heap[w.heap.size]? = some (.cells Z7 77) → Calls Tryz.prog 88 #[] W fun e w' => e = .returned (.agg #[.int .u64 (wd allS 0 : Int), .int .u64 (wd allS 1 : Int), .int .u64 (wd allS 2 : Int), .int .u64 (wd allS 3 : Int)]) ∧ Below w.heap.size w w' ∧ w'.heap[w.heap.size]? = some (.cells Z7 77)) := by
      intro W h1 h2
      refine (allBytes_any W).mono ?_
      rintro e w' ⟨h3, h4⟩
      exact ⟨h3, h1.trans (h4.mono h1.size), (h4.block _ (Array.getElem?_eq_some_iff.1 h2).1).trans h2⟩
    rw [decide_eq_true hm]
    clear hm
    go_enter Tryz.func75, Tryz.ntmps75
    go_wp2_with (first
      | (go_at_call 89; refine (HT.out _).mono ?_; rintro e w' ⟨rfl, rfl⟩)
      | (go_at_call 88; refine (HA.out _ HB0.out HR0.out).mono ?_; rintro e w2 ⟨rfl, hb2, hr2⟩
         have HB2 := Lib.hid hb2; have HR2 := Lib.hid hr2; obtain ⟨k0, k1, k2, k3, k4, k5, k6⟩ := cells7 hr2
         have f0 : w2.frozen? ⟨w.heap.size, 0, none⟩ = false := unfrozen hr2
         have f1 : w2.frozen? ⟨w.heap.size, 1, none⟩ = false := unfrozen hr2
         have f2 : w2.frozen? ⟨w.heap.size, 2, none⟩ = false := unfrozen hr2
         have f3 : w2.frozen? ⟨w.heap.size, 3, none⟩ = false := unfrozen hr2
         have f4 : w2.frozen? ⟨w.heap.size, 4, none⟩ = false := unfrozen hr2
         have f5 : w2.frozen? ⟨w.heap.size, 5, none⟩ = false := unfrozen hr2
         have f6 : w2.frozen? ⟨w.heap.size, 6, none⟩ = false := unfrozen hr2
         clear hb2 hr2))
    try simp only [Exit.inBlock, Exit.then]
    refine bodyPost_ret (v := .tuple #[.agg #[.int .u64 (wd allS 0 : Int), .int .u64 (wd allS 1 : Int), .int .u64 (wd allS 2 : Int), .int .u64 (wd allS 3 : Int), .bool true, .bool false, .int .u8 0], .int .i64 (b : Int)]) (results_cell2_row (p := 4) (u := 5) rfl _ _ w.heap.size 77 #[.int .u64 (wd allS 0 : Int), .int .u64 (wd allS 1 : Int), .int .u64 (wd allS 2 : Int), .int .u64 (wd allS 3 : Int), .bool true, .bool false, .int .u8 0] (0, 0) _ rfl (by exact row7 HR2.out _ _ _ _ _ _ _) Tryz.underlying77 rfl (by kernel_rfl)) rfl ?_
    exact ⟨rfl, below7 HB2.out (Nat.le_refl _) _ _ _ _ _ _ _⟩
  · have hI : ¬ (b : Int) - (a : Int) > 1 := by omega
    have hI' : ¬ (1 : Int) < (b : Int) - (a : Int) := by omega
    have HA : Hid (∀ W, Below w.heap.size w W → W.heap[w.heap.size]? = some (.cells Z7 77) → Calls Tryz.prog 74 #[] W fun e w' => e = .returned (.agg #[.int .u64 (wd (dropS allS 47) 0 : Int), .int .u64 (wd (dropS allS 47) 1 : Int), .int .u64 (wd (dropS allS 47) 2 : Int), .int .u64 (wd (dropS allS 47) 3 : Int)]) ∧ Below w.heap.size w w' ∧ w'.heap[w.heap.size]? = some (.cells Z7 77)) := by
      intro W h1 h2
      refine (butSlash_any W).mono ?_
      rintro e w' ⟨h3, h4⟩
      exact ⟨h3, h1.trans (h4.mono h1.size), (h4.block _ (Array.getElem?_eq_some_iff.1 h2).1).trans h2⟩
    rw [decide_eq_false hm]
    clear hm
    go_enter Tryz.func75, Tryz.ntmps75
    go_wp2_with (first
      | (go_at_call 89; refine (HT.out _).mono ?_; rintro e w' ⟨rfl, rfl⟩)
      | (go_at_call 74; refine (HA.out _ HB0.out HR0.out).mono ?_; rintro e w2 ⟨rfl, hb2, hr2⟩
         have HB2 := Lib.hid hb2; have HR2 := Lib.hid hr2; obtain ⟨k0, k1, k2, k3, k4, k5, k6⟩ := cells7 hr2
         have f0 : w2.frozen? ⟨w.heap.size, 0, none⟩ = false := unfrozen hr2
         have f1 : w2.frozen? ⟨w.heap.size, 1, none⟩ = false := unfrozen hr2
         have f2 : w2.frozen? ⟨w.heap.size, 2, none⟩ = false := unfrozen hr2
         have f3 : w2.frozen? ⟨w.heap.size, 3, none⟩ = false := unfrozen hr2
         have f4 : w2.frozen? ⟨w.heap.size, 4, none⟩ = false := unfrozen hr2
         have f5 : w2.frozen? ⟨w.heap.size, 5, none⟩ = false := unfrozen hr2
         have f6 : w2.frozen? ⟨w.heap.size, 6, none⟩ = false := unfrozen hr2
         clear hb2 hr2))
    try simp only [Exit.inBlock, Exit.then]
    refine bodyPost_ret (v := .tuple #[.agg #[.int .u64 (wd (dropS allS 47) 0 : Int), .int .u64 (wd (dropS allS 47) 1 : Int), .int .u64 (wd (dropS allS 47) 2 : Int), .int .u64 (wd (dropS allS 47) 3 : Int), .bool true, .bool false, .int .u8 0], .int .i64 (b : Int)]) (results_cell2_row (p := 4) (u := 5) rfl _ _ w.heap.size 77 #[.int .u64 (wd (dropS allS 47) 0 : Int), .int .u64 (wd (dropS allS 47) 1 : Int), .int .u64 (wd (dropS allS 47) 2 : Int), .int .u64 (wd (dropS allS 47) 3 : Int), .bool true, .bool false, .int .u8 0] (0, 0) _ rfl (by exact row7 HR2.out _ _ _ _ _ _ _) Tryz.underlying77 rfl (by kernel_rfl)) rfl ?_
    exact ⟨rfl, below7 HB2.out (Nat.le_refl _) _ _ _ _ _ _ _⟩
end Go.Proofs.YtokocfoeohddfaaGreatDoor.Pa
