/- glob: all bytes but a slash. (A template.) -/
import Derived.Test.YtokocfoeohddfaaGreatDoorGlSet3
namespace Go.Proofs.YtokocfoeohddfaaGreatDoor.Pa
open Go.RowKit
set_option linter.unusedVariables false
set_option linter.unusedSimpArgs false
set_option maxRecDepth 100000

/-- the four words stored -/
abbrev put4 (w : World) (g : Nat) (S : Nat → Bool) : World := (((w.setCell ⟨g, 0, none⟩ (.int .u64 (wd S 0 : Int))).setCell ⟨g, 1, none⟩ (.int .u64 (wd S 1 : Int))).setCell ⟨g, 2, none⟩ (.int .u64 (wd S 2 : Int))).setCell ⟨g, 3, none⟩ (.int .u64 (wd S 3 : Int))
theorem put4_set {w : World} {g : Nat} {T : Nat → Bool} (h : SetAt w g 0 T) (S : Nat → Bool) : SetAt (put4 w g S) g 0 S := by
  have c0 := h.cell 0 (by omega)
  have c1 := h.cell 1 (by omega)
  have c2 := h.cell 2 (by omega)
  have c3 := h.cell 3 (by omega)
  simp only [Nat.zero_add] at c0 c1 c2 c3
  obtain ⟨r0, r1, r2, r3⟩ := four c0 c1 c2 c3 (.int .u64 (wd S 0 : Int)) (.int .u64 (wd S 1 : Int)) (.int .u64 (wd S 2 : Int)) (.int .u64 (wd S 3 : Int))
  refine ⟨fun j hj => ?_, fun j hj => ?_⟩
  · rw [Nat.zero_add]
    rcases j with _ | _ | _ | _ | j
    · exact r0
    · exact r1
    · exact r2
    · exact r3
    · omega
  · show World.frozen? _ _ = false
    unfold put4
    rw [World.frozen?_setCell, World.frozen?_setCell, World.frozen?_setCell, World.frozen?_setCell]
    exact h.soft j hj
theorem put4_below {w0 w : World} {g base : Nat} (h : Below base w0 w) (hg : base ≤ g) (S : Nat → Bool) : Below base w0 (put4 w g S) :=
  ((((h.setCell hg _).setCell hg _).setCell hg _).setCell hg _)
theorem set_new (w : World) (S : Nat → Bool) : SetAt (w.alloc (.cells #[.int .u64 (wd S 0 : Int), .int .u64 (wd S 1 : Int), .int .u64 (wd S 2 : Int), .int .u64 (wd S 3 : Int)] 75)) w.heap.size 0 S := by
  have hh : (w.alloc (.cells #[.int .u64 (wd S 0 : Int), .int .u64 (wd S 1 : Int), .int .u64 (wd S 2 : Int), .int .u64 (wd S 3 : Int)] 75)).heap[w.heap.size]? = some (.cells #[.int .u64 (wd S 0 : Int), .int .u64 (wd S 1 : Int), .int .u64 (wd S 2 : Int), .int .u64 (wd S 3 : Int)] 75) := heap_new _ _
  refine ⟨fun j hj => ?_, fun j hj => unfrozen hh⟩
  rcases j with _ | _ | _ | _ | j
  · rw [cell_of_row _ _ 0 _ _ (0, 0) hh]; rfl
  · rw [cell_of_row _ _ 1 _ _ (0, 0) hh]; rfl
  · rw [cell_of_row _ _ 2 _ _ (0, 0) hh]; rfl
  · rw [cell_of_row _ _ 3 _ _ (0, 0) hh]; rfl
  · omega
theorem SetAt.but {w w' : World} {g off k : Nat} {o2 : Nat} {S : Nat → Bool} (h : SetAt w g off S) (hb : But4 k o2 w w') (hk : g ≠ k) : SetAt w' g off S :=
  ⟨fun j hj => by rw [← h.cell j hj]; exact World.cell?_of_block (hb.block g hk), fun j hj => by rw [← h.soft j hj]; exact World.frozen?_of_block (hb.block g hk)⟩
theorem butSlash_any (w : World) : Calls Tryz.prog 74 #[] w fun e w' => e = .returned (setV (dropS allS 47)) ∧ Below w.heap.size w w' := by
  have HZ := Lib.hid (set_zero w)
  have HA := Lib.hid (allBytes_any (w.alloc (.cells #[.int .u64 0, .int .u64 0, .int .u64 0, .int .u64 0] 75)))
  go_enter Tryz.func74, Tryz.ntmps74
  go_wp2_with fail
  refine HA.out.mono ?_
  rintro e w1 ⟨rfl, hb1⟩
  have hs : (w.alloc (.cells #[.int .u64 0, .int .u64 0, .int .u64 0, .int .u64 0] 75)).heap.size = w.heap.size + 1 := by simp
  have hge := hb1.size
  rw [hs] at hge hb1
  have hz1 := HZ.out.later hb1 (by omega)
  have hB1 : Below w.heap.size w w1 := ((Below.refl _ _).alloc (Nat.le_refl _) _).trans (hb1.mono (by omega))
  have hn := set_new w1 allS
  have hz3 := (hz1.later ((Below.refl w1.heap.size w1).alloc (Nat.le_refl _) (.cells #[.int .u64 (wd allS 0 : Int), .int .u64 (wd allS 1 : Int), .int .u64 (wd allS 2 : Int), .int .u64 (wd allS 3 : Int)] 75)) (by omega))
  have HD : Hid (Calls Tryz.prog 80 #[.pointer (some ⟨w1.heap.size, 0, none⟩), .int .u8 47] (w1.alloc (.cells #[.int .u64 (wd allS 0 : Int), .int .u64 (wd allS 1 : Int), .int .u64 (wd allS 2 : Int), .int .u64 (wd allS 3 : Int)] 75)) fun e w' => e = .returned (.tuple #[]) ∧ SetAt w' w1.heap.size 0 (dropS allS 47) ∧ But4 w1.heap.size 0 (w1.alloc (.cells #[.int .u64 (wd allS 0 : Int), .int .u64 (wd allS 1 : Int), .int .u64 (wd allS 2 : Int), .int .u64 (wd allS 3 : Int)] 75)) w') :=
    drop_set allS w1.heap.size 0 47 _ (by omega) hn
  have HB2 : Hid (Below w.heap.size w (w1.alloc (.cells #[.int .u64 (wd allS 0 : Int), .int .u64 (wd allS 1 : Int), .int .u64 (wd allS 2 : Int), .int .u64 (wd allS 3 : Int)] 75))) := hB1.alloc (by omega) _
  have HZ3 := Lib.hid hz3
  have HGE := Lib.hid hge
  clear hb1 hs hge hz1 hB1 hn hz3
  unfold setV
  go_wp2_with fail
  refine HD.out.mono ?_
  rintro e w' ⟨rfl, hS, hN⟩
  have hR := HZ3.out.but hN (by have := HGE.out; omega)
  have c0 := hS.cell 0 (by omega)
  have c1 := hS.cell 1 (by omega)
  have c2 := hS.cell 2 (by omega)
  have c3 := hS.cell 3 (by omega)
  have d0 := hR.cell 0 (by omega)
  have d1 := hR.cell 1 (by omega)
  have d2 := hR.cell 2 (by omega)
  have d3 := hR.cell 3 (by omega)
  have f0 := hR.soft 0 (by omega)
  have f1 := hR.soft 1 (by omega)
  have f2 := hR.soft 2 (by omega)
  have f3 := hR.soft 3 (by omega)
  simp only [Nat.zero_add] at c0 c1 c2 c3 d0 d1 d2 d3 f0 f1 f2 f3
  have HBN := Lib.hid (HB2.out.trans (hN.below (base := w.heap.size) (by have := HGE.out; omega)))
  clear hS hN hR
  have HF := Lib.hid (four d0 d1 d2 d3 (.int .u64 (wd (dropS allS 47) 0 : Int)) (.int .u64 (wd (dropS allS 47) 1 : Int)) (.int .u64 (wd (dropS allS 47) 2 : Int)) (.int .u64 (wd (dropS allS 47) 3 : Int)))
  have HP := Lib.hid (World.cell?_setCell_same (v := .int .u64 (wd (dropS allS 47) 0 : Int)) (h := d0) ..)
  go_wp2
  try simp only [Exit.inBlock, Exit.then]
  refine bodyPost_ret (v := setV (dropS allS 47)) (by simp [results, Tryz.results74, go_sem]; simp only [HF.out.2.1, HF.out.2.2.1, HF.out.2.2.2, HP.out, Result.andThen]; rfl) rfl ?_
  exact ⟨rfl, put4_below HBN.out (Nat.le_refl _) _⟩
end Go.Proofs.YtokocfoeohddfaaGreatDoor.Pa
