/- glob: all bytes, and all but a slash. (A template.) -/
import Derived.Test.YtokocfoeohddfaaGreatDoorGlTurn
import Derived.Handy
namespace Go.Proofs.YtokocfoeohddfaaGreatDoor.Pa
open Go.RowKit
set_option linter.unusedVariables false
set_option linter.unusedSimpArgs false
set_option maxRecDepth 100000

/-- a set as a value -/
def setV (S : Nat → Bool) : Value := .agg #[.int .u64 (wd S 0 : Int), .int .u64 (wd S 1 : Int), .int .u64 (wd S 2 : Int), .int .u64 (wd S 3 : Int)]
def noneS : Nat → Bool := fun _ => false
def allS : Nat → Bool := fun _ => true
def butS : Nat → Bool := fun x => x != 47
theorem wd_none (j : Nat) : wd noneS j = 0 := (wd_of _ _ _ (by decide) fun k _ => by rw [Nat.zero_testBit]; rfl).symm
theorem set_zero (w : World) : SetAt (w.alloc (.cells #[.int .u64 0, .int .u64 0, .int .u64 0, .int .u64 0] 75)) w.heap.size 0 noneS := by
  have hh : (w.alloc (.cells #[.int .u64 0, .int .u64 0, .int .u64 0, .int .u64 0] 75)).heap[w.heap.size]? = some (.cells #[.int .u64 0, .int .u64 0, .int .u64 0, .int .u64 0] 75) := heap_new _ _
  refine ⟨fun j hj => ?_, fun j hj => unfrozen hh⟩
  rw [wd_none]
  rcases j with _ | _ | _ | _ | j
  · rw [cell_of_row _ _ 0 _ _ (0, 0) hh]; rfl
  · rw [cell_of_row _ _ 1 _ _ (0, 0) hh]; rfl
  · rw [cell_of_row _ _ 2 _ _ (0, 0) hh]; rfl
  · rw [cell_of_row _ _ 3 _ _ (0, 0) hh]; rfl
  · omega
theorem four {w : World} {g : Nat} {y0 y1 y2 y3 : Value} (d0 : w.cell? ⟨g, 0, none⟩ = some y0) (d1 : w.cell? ⟨g, 1, none⟩ = some y1) (d2 : w.cell? ⟨g, 2, none⟩ = some y2) (d3 : w.cell? ⟨g, 3, none⟩ = some y3) (x0 x1 x2 x3 : Value) :
    ((((w.setCell ⟨g, 0, none⟩ x0).setCell ⟨g, 1, none⟩ x1).setCell ⟨g, 2, none⟩ x2).setCell ⟨g, 3, none⟩ x3).cell? ⟨g, 0, none⟩ = some x0 ∧
    ((((w.setCell ⟨g, 0, none⟩ x0).setCell ⟨g, 1, none⟩ x1).setCell ⟨g, 2, none⟩ x2).setCell ⟨g, 3, none⟩ x3).cell? ⟨g, 1, none⟩ = some x1 ∧
    ((((w.setCell ⟨g, 0, none⟩ x0).setCell ⟨g, 1, none⟩ x1).setCell ⟨g, 2, none⟩ x2).setCell ⟨g, 3, none⟩ x3).cell? ⟨g, 2, none⟩ = some x2 ∧
    ((((w.setCell ⟨g, 0, none⟩ x0).setCell ⟨g, 1, none⟩ x1).setCell ⟨g, 2, none⟩ x2).setCell ⟨g, 3, none⟩ x3).cell? ⟨g, 3, none⟩ = some x3 := by
  have far : ∀ (W : World) (i j : Nat) (x y : Value), i ≠ j → W.cell? ⟨g, i, none⟩ = some y → (W.setCell ⟨g, j, none⟩ x).cell? ⟨g, i, none⟩ = some y := by
    intro W i j x y h e
    rw [← e]
    apply World.cell?_setCell_other
    intro q
    injection q with _ q _
    exact h q.symm
  have same : ∀ (W : World) (i : Nat) (x y : Value), W.cell? ⟨g, i, none⟩ = some y → (W.setCell ⟨g, i, none⟩ x).cell? ⟨g, i, none⟩ = some x := fun W i x y e => World.cell?_setCell_same (h := e) ..
  refine ⟨?_, ?_, ?_, ?_⟩
  · exact far _ _ _ _ _ (by omega) (far _ _ _ _ _ (by omega) (far _ _ _ _ _ (by omega) (same _ _ _ _ d0)))
  · exact far _ _ _ _ _ (by omega) (far _ _ _ _ _ (by omega) (same _ _ _ _ (far _ _ _ _ _ (by omega) d1)))
  · exact far _ _ _ _ _ (by omega) (same _ _ _ _ (far _ _ _ _ _ (by omega) (far _ _ _ _ _ (by omega) d2)))
  · exact same _ _ _ _ (far _ _ _ _ _ (by omega) (far _ _ _ _ _ (by omega) (far _ _ _ _ _ (by omega) d3)))
theorem allBytes_any (w : World) : Calls Tryz.prog 88 #[] w fun e w' => e = .returned (setV allS) ∧ Below w.heap.size w w' := by
  have h1 := (set_zero w)
  have h2 := (set_zero (w.alloc (.cells #[.int .u64 0, .int .u64 0, .int .u64 0, .int .u64 0] 75)))
  have hb : Below w.heap.size w ((w.alloc (.cells #[.int .u64 0, .int .u64 0, .int .u64 0, .int .u64 0] 75)).alloc (.cells #[.int .u64 0, .int .u64 0, .int .u64 0, .int .u64 0] 75)) :=
    ((Below.refl _ _).alloc (Nat.le_refl _) _).alloc (by simp) _
  have hs : (w.alloc (.cells #[.int .u64 0, .int .u64 0, .int .u64 0, .int .u64 0] 75)).heap.size = w.heap.size + 1 := by simp
  have h3 := h1.later (Below.alloc (Below.refl (w.heap.size + 1) _) (by rw [hs]; exact Nat.le_refl _) (.cells #[.int .u64 0, .int .u64 0, .int .u64 0, .int .u64 0] 75)) (by omega)
  rw [hs] at h2
  have HT := Lib.hid (turn_set noneS (w.heap.size + 1) 0 _ h2)
  have H3 := Lib.hid h3
  have HB := Lib.hid hb
  clear h1 h2 h3 hb hs
  go_enter Tryz.func88, Tryz.ntmps88
  go_wp2_with fail
  refine HT.out.mono ?_
  rintro e w' ⟨rfl, hS, hN⟩
  have hR : SetAt w' w.heap.size 0 noneS := ⟨fun j hj => by rw [← H3.out.cell j hj]; exact World.cell?_of_block (hN.block _ (by show w.heap.size ≠ w.heap.size + 1; omega)), fun j hj => by rw [← H3.out.soft j hj]; exact World.frozen?_of_block (hN.block _ (by show w.heap.size ≠ w.heap.size + 1; omega))⟩
  have c0 := hS.cell 0 (by omega)
  have c1 := hS.cell 1 (by omega)
  have c2 := hS.cell 2 (by omega)
  have c3 := hS.cell 3 (by omega)
  have d0 := hR.cell 0 (by omega)
  have d1 := hR.cell 1 (by omega)
  have d2 := hR.cell 2 (by omega)
  have d3 := hR.cell 3 (by omega)
  have f0 := hR.soft 0 (by omega)
  have f1 := hR.soft 1 (by omega)
  have f2 := hR.soft 2 (by omega)
  have f3 := hR.soft 3 (by omega)
  simp only [Nat.zero_add] at c0 c1 c2 c3 d0 d1 d2 d3 f0 f1 f2 f3
  have HBN := Lib.hid (HB.out.trans (hN.below (base := w.heap.size) (by omega)))
  clear hS hN hR
  have HF := Lib.hid (four d0 d1 d2 d3 (.int .u64 (wd (turnS noneS) 0 : Int)) (.int .u64 (wd (turnS noneS) 1 : Int)) (.int .u64 (wd (turnS noneS) 2 : Int)) (.int .u64 (wd (turnS noneS) 3 : Int)))
  have HP := Lib.hid (World.cell?_setCell_same (v := .int .u64 (wd (turnS noneS) 0 : Int)) (h := d0) ..)
  go_wp2
  try simp only [Exit.inBlock, Exit.then]
  refine bodyPost_ret (v := setV (turnS noneS)) (by simp [results, Tryz.results88, go_sem]; simp only [HF.out.2.1, HF.out.2.2.1, HF.out.2.2.2, HP.out, Result.andThen]; rfl) rfl ?_
  · exact ⟨rfl, (((HBN.out.setCell (Nat.le_refl _) _).setCell (Nat.le_refl _) _).setCell (Nat.le_refl _) _).setCell (Nat.le_refl _) _⟩
end Go.Proofs.YtokocfoeohddfaaGreatDoor.Pa
