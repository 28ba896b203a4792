/- glob: a class as a sign. (A template.) -/
import Derived.Test.YtokocfoeohddfaaGreatDoorGlClass
import Derived.Laws.Rows
namespace Go.Proofs.YtokocfoeohddfaaGreatDoor.Pa
open Go.RowKit
set_option linter.unusedVariables false
set_option linter.unusedSimpArgs false
set_option maxRecDepth 100000

theorem row_set {W : World} {g : Nat} {cs : Array Value} {t : TypeId} (h : W.heap[g]? = some (.cells cs t)) (i : Nat) (u : Value) : (W.setCell ⟨g, i, none⟩ u).heap[g]? = some (.cells (cs.setIfInBounds i u) t) := by
  simp [World.setCell, Array.getElem?_modify, h]
/-- a set as a sign that takes one byte of it -/
def signV (S : Nat → Bool) (many itself : Bool) (c : Int) : Value := .agg #[.int .u64 (wd S 0 : Int), .int .u64 (wd S 1 : Int), .int .u64 (wd S 2 : Int), .int .u64 (wd S 3 : Int), .bool many, .bool itself, .int .u8 c]
theorem classSign_any (S : Nat → Bool) (g : Nat) (nt : Bool) (w : World) (h : SetAt w g 1 S) (hn : w.cell? ⟨g, 0, none⟩ = some (.bool nt)) (hg : g < w.heap.size) :
    Calls Tryz.prog 62 #[.pointer (some ⟨g, 0, none⟩)] w fun e w' => e = .returned (signV (dropS (if nt then turnS S else S) 47) false false 0) ∧ Below w.heap.size w w' := by
  have c0 := h.cell 0 (by omega)
  have c1 := h.cell 1 (by omega)
  have c2 := h.cell 2 (by omega)
  have c3 := h.cell 3 (by omega)
  simp only [Nat.add_zero, show 1 + 1 = 2 from rfl, show 1 + 2 = 3 from rfl, show 1 + 3 = 4 from rfl] at c0 c1 c2 c3
  clear h
  obtain ⟨W1, hW1⟩ : ∃ W1, W1 = w.alloc (.cells #[.int .u64 0, .int .u64 0, .int .u64 0, .int .u64 0, .bool false, .bool false, .int .u8 0] 77) := ⟨_, rfl⟩
  have hs1 : W1.heap.size = w.heap.size + 1 := by rw [hW1]; simp
  have hr1 : W1.heap[w.heap.size]? = some (.cells #[.int .u64 0, .int .u64 0, .int .u64 0, .int .u64 0, .bool false, .bool false, .int .u8 0] 77) := by rw [hW1]; exact heap_new _ _
  have hb1 : Below w.heap.size w W1 := by rw [hW1]; exact (Below.refl _ _).alloc (Nat.le_refl _) _
  obtain ⟨W2, hW2⟩ : ∃ W2, W2 = W1.alloc (.cells #[.int .u64 (wd S 0 : Int), .int .u64 (wd S 1 : Int), .int .u64 (wd S 2 : Int), .int .u64 (wd S 3 : Int)] 75) := ⟨_, rfl⟩
  have hS2 : SetAt W2 (w.heap.size + 1) 0 S := by rw [hW2, ← hs1]; exact set_new W1 S
  have hb2 : Below w.heap.size w W2 := by rw [hW2]; exact hb1.alloc (by omega) _
  have hr2 : W2.heap[w.heap.size]? = some (.cells #[.int .u64 0, .int .u64 0, .int .u64 0, .int .u64 0, .bool false, .bool false, .int .u8 0] 77) := by rw [hW2, Below.heap_alloc _ _ _ (by omega)]; exact hr1
  have HT := Lib.hid (turn_set S (w.heap.size + 1) 0 W2 hS2)
  have HD : Hid (∀ W T, SetAt W (w.heap.size + 1) 0 T → Calls Tryz.prog 80 #[.pointer (some ⟨w.heap.size + 1, 0, none⟩), .int .u8 47] W fun e w' => e = .returned (.tuple #[]) ∧ SetAt w' (w.heap.size + 1) 0 (dropS T 47) ∧ But4 (w.heap.size + 1) 0 W w') := fun W T hT => drop_set T (w.heap.size + 1) 0 47 W (by omega) hT
  rw [hW2, hW1] at HT
  have HS2 := Lib.hid hS2
  have HB2 := Lib.hid hb2
  have HR2 := Lib.hid hr2
  have HW1 := Lib.hid hW1
  have HW2 := Lib.hid hW2
  clear hW1 hs1 hr1 hb1 hW2 hS2 hb2 hr2
  rcases nt with _ | _
  · have HS2E := HS2.out
    rw [HW2.out, HW1.out] at HS2E
    have HSE := Lib.hid HS2E
    clear HS2E
    go_enter Tryz.func62, Tryz.ntmps62
    go_wp2_with fail
    refine (HD.out _ _ HSE.out).mono ?_
    rintro e w4 ⟨rfl, hS4, hN4⟩
    have hN := hN4
    rw [← HW1.out, ← HW2.out] at hN
    have hrow : w4.heap[w.heap.size]? = some (.cells #[.int .u64 0, .int .u64 0, .int .u64 0, .int .u64 0, .bool false, .bool false, .int .u8 0] 77) := by rw [hN.block _ (by omega)]; exact HR2.out
    have HB4 : Hid (Below w.heap.size w w4) := HB2.out.trans (hN.below (by omega))
    have k0 := hS4.cell 0 (by omega)
    have k1 := hS4.cell 1 (by omega)
    have k2 := hS4.cell 2 (by omega)
    have k3 := hS4.cell 3 (by omega)
    simp only [Nat.zero_add] at k0 k1 k2 k3
    have d0 : w4.cell? ⟨w.heap.size, 0, none⟩ = some (.int .u64 0) := by rw [cell_of_row _ _ 0 _ _ (0, 0) hrow]; rfl
    have d1 : w4.cell? ⟨w.heap.size, 1, none⟩ = some (.int .u64 0) := by rw [cell_of_row _ _ 1 _ _ (0, 0) hrow]; rfl
    have d2 : w4.cell? ⟨w.heap.size, 2, none⟩ = some (.int .u64 0) := by rw [cell_of_row _ _ 2 _ _ (0, 0) hrow]; rfl
    have d3 : w4.cell? ⟨w.heap.size, 3, none⟩ = some (.int .u64 0) := by rw [cell_of_row _ _ 3 _ _ (0, 0) hrow]; rfl
    have d4 : w4.cell? ⟨w.heap.size, 4, none⟩ = some (.bool false) := by rw [cell_of_row _ _ 4 _ _ (0, 0) hrow]; rfl
    have d5 : w4.cell? ⟨w.heap.size, 5, none⟩ = some (.bool false) := by rw [cell_of_row _ _ 5 _ _ (0, 0) hrow]; rfl
    have d6 : w4.cell? ⟨w.heap.size, 6, none⟩ = some (.int .u8 0) := by rw [cell_of_row _ _ 6 _ _ (0, 0) hrow]; rfl
    have f0 : w4.frozen? ⟨w.heap.size, 0, none⟩ = false := unfrozen hrow
    have f1 : w4.frozen? ⟨w.heap.size, 1, none⟩ = false := unfrozen hrow
    have f2 : w4.frozen? ⟨w.heap.size, 2, none⟩ = false := unfrozen hrow
    have f3 : w4.frozen? ⟨w.heap.size, 3, none⟩ = false := unfrozen hrow
    have f4 : w4.frozen? ⟨w.heap.size, 4, none⟩ = false := unfrozen hrow
    have f5 : w4.frozen? ⟨w.heap.size, 5, none⟩ = false := unfrozen hrow
    have f6 : w4.frozen? ⟨w.heap.size, 6, none⟩ = false := unfrozen hrow
    have HROW := Lib.hid hrow
    clear hS4 hN4 hN hrow
    go_wp2
    try simp only [Exit.inBlock, Exit.then]
    refine bodyPost_ret (v := signV (dropS S 47) false false 0) (results_cell_row rfl _ _ w.heap.size 77 #[.int .u64 (wd (dropS S 47) 0 : Int), .int .u64 (wd (dropS S 47) 1 : Int), .int .u64 (wd (dropS S 47) 2 : Int), .int .u64 (wd (dropS S 47) 3 : Int), .bool false, .bool false, .int .u8 0] (0, 0) _ rfl (by simpa using row_set (row_set (row_set (row_set (row_set (row_set (row_set HROW.out 0 (.int .u64 (wd (dropS S 47) 0 : Int))) 1 (.int .u64 (wd (dropS S 47) 1 : Int))) 2 (.int .u64 (wd (dropS S 47) 2 : Int))) 3 (.int .u64 (wd (dropS S 47) 3 : Int))) 4 (.bool false)) 5 (.bool false)) 6 (.int .u8 0)) Tryz.underlying77 rfl (by kernel_rfl)) rfl ?_
    exact ⟨rfl, ((((((HB4.out.setCell (Nat.le_refl _) _).setCell (Nat.le_refl _) _).setCell (Nat.le_refl _) _).setCell (Nat.le_refl _) _).setCell (Nat.le_refl _) _).setCell (Nat.le_refl _) _).setCell (Nat.le_refl _) _⟩
  · go_enter Tryz.func62, Tryz.ntmps62
    go_wp2_with fail
    refine HT.out.mono ?_
    rintro e w3 ⟨rfl, hS3, hN3⟩
    have HS3 := Lib.hid hS3
    have HN3 := Lib.hid hN3
    clear hS3 hN3
    go_wp2_with fail
    refine (HD.out _ _ HS3.out).mono ?_
    rintro e w4 ⟨rfl, hS4, hN4⟩
    have hN := HN3.out.trans hN4
    rw [← HW1.out, ← HW2.out] at hN
    have hrow : w4.heap[w.heap.size]? = some (.cells #[.int .u64 0, .int .u64 0, .int .u64 0, .int .u64 0, .bool false, .bool false, .int .u8 0] 77) := by rw [hN.block _ (by omega)]; exact HR2.out
    have HB4 : Hid (Below w.heap.size w w4) := HB2.out.trans (hN.below (by omega))
    have k0 := hS4.cell 0 (by omega)
    have k1 := hS4.cell 1 (by omega)
    have k2 := hS4.cell 2 (by omega)
    have k3 := hS4.cell 3 (by omega)
    simp only [Nat.zero_add] at k0 k1 k2 k3
    have d0 : w4.cell? ⟨w.heap.size, 0, none⟩ = some (.int .u64 0) := by rw [cell_of_row _ _ 0 _ _ (0, 0) hrow]; rfl
    have d1 : w4.cell? ⟨w.heap.size, 1, none⟩ = some (.int .u64 0) := by rw [cell_of_row _ _ 1 _ _ (0, 0) hrow]; rfl
    have d2 : w4.cell? ⟨w.heap.size, 2, none⟩ = some (.int .u64 0) := by rw [cell_of_row _ _ 2 _ _ (0, 0) hrow]; rfl
    have d3 : w4.cell? ⟨w.heap.size, 3, none⟩ = some (.int .u64 0) := by rw [cell_of_row _ _ 3 _ _ (0, 0) hrow]; rfl
    have d4 : w4.cell? ⟨w.heap.size, 4, none⟩ = some (.bool false) := by rw [cell_of_row _ _ 4 _ _ (0, 0) hrow]; rfl
    have d5 : w4.cell? ⟨w.heap.size, 5, none⟩ = some (.bool false) := by rw [cell_of_row _ _ 5 _ _ (0, 0) hrow]; rfl
    have d6 : w4.cell? ⟨w.heap.size, 6, none⟩ = some (.int .u8 0) := by rw [cell_of_row _ _ 6 _ _ (0, 0) hrow]; rfl
    have f0 : w4.frozen? ⟨w.heap.size, 0, none⟩ = false := unfrozen hrow
    have f1 : w4.frozen? ⟨w.heap.size, 1, none⟩ = false := unfrozen hrow
    have f2 : w4.frozen? ⟨w.heap.size, 2, none⟩ = false := unfrozen hrow
    have f3 : w4.frozen? ⟨w.heap.size, 3, none⟩ = false := unfrozen hrow
    have f4 : w4.frozen? ⟨w.heap.size, 4, none⟩ = false := unfrozen hrow
    have f5 : w4.frozen? ⟨w.heap.size, 5, none⟩ = false := unfrozen hrow
    have f6 : w4.frozen? ⟨w.heap.size, 6, none⟩ = false := unfrozen hrow
    have HROW := Lib.hid hrow
    clear hS4 hN4 hN hrow
    go_wp2
    try simp only [Exit.inBlock, Exit.then]
    refine bodyPost_ret (v := signV (dropS (turnS S) 47) false false 0) (results_cell_row rfl _ _ w.heap.size 77 #[.int .u64 (wd (dropS (turnS S) 47) 0 : Int), .int .u64 (wd (dropS (turnS S) 47) 1 : Int), .int .u64 (wd (dropS (turnS S) 47) 2 : Int), .int .u64 (wd (dropS (turnS S) 47) 3 : Int), .bool false, .bool false, .int .u8 0] (0, 0) _ rfl (by simpa using row_set (row_set (row_set (row_set (row_set (row_set (row_set HROW.out 0 (.int .u64 (wd (dropS (turnS S) 47) 0 : Int))) 1 (.int .u64 (wd (dropS (turnS S) 47) 1 : Int))) 2 (.int .u64 (wd (dropS (turnS S) 47) 2 : Int))) 3 (.int .u64 (wd (dropS (turnS S) 47) 3 : Int))) 4 (.bool false)) 5 (.bool false)) 6 (.int .u8 0)) Tryz.underlying77 rfl (by kernel_rfl)) rfl ?_
    exact ⟨rfl, ((((((HB4.out.setCell (Nat.le_refl _) _).setCell (Nat.le_refl _) _).setCell (Nat.le_refl _) _).setCell (Nat.le_refl _) _).setCell (Nat.le_refl _) _).setCell (Nat.le_refl _) _).setCell (Nat.le_refl _) _⟩
end Go.Proofs.YtokocfoeohddfaaGreatDoor.Pa
