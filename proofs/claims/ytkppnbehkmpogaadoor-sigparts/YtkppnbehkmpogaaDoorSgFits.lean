/- sig.Fits, of a block and its own mark. -/
import Derived.Test.YtkppnbehkmpogaaDoorSgHead
import Derived.Deep.RegionHeld3
namespace Go.Proofs.YtkppnbehkmpogaaDoor
open Go.RowKit Go.Shelf Go.Proofs.BlkMath Go.Proofs.HeldRound
open Go.Proofs.RollMath (sumOf sumOf_bd)
set_option linter.unusedVariables false
set_option maxRecDepth 100000

theorem mks_getD (K l : List Int) (blk st N k : Nat) (h : k < N) : (mks K l blk st N).getD k mkD = mkOf K (piece l blk k) st := by
  rw [List.getD_eq_getElem?_getD, mks, List.getElem?_map, List.getElem?_range h]; rfl
theorem piece_to {l : List Int} {len blk k : Nat} (hl : len = l.length) (hR : Rt len blk) (hk : (k : Int) < cnt len blk) : toB len blk k = (k : Int) * blk + ((piece l blk k).length : Nat) := by
  have h1 := cnt_lt hR hk
  unfold piece toB
  rw [List.length_take, List.length_drop, ← hl]
  have e : ((k * blk : Nat) : Int) = (k : Int) * (blk : Int) := by simp
  rw [← e] at h1 ⊢
  split <;> omega

set_option maxRecDepth 1000000 in
set_option maxHeartbeats 8000000 in
theorem fits_true (K l : List Int) (len blk s N k : Nat) (hl : len = l.length) (hR : Rt len blk) (hN : N = (cnt len blk).toNat) (hk : k < N) (h1 : 1 ≤ s) (h2 : s ≤ 32) (hlb : len ≤ 100000) (av pa : Option Addr) (cv pc pl : Nat) (w : World) (hpl : pl = (piece l blk k).length) (hM : Marks w av (mks K l blk s N)) (hB : Bytes w pa (piece l blk k)) (hpn : pa = none → pc = 0) (hpc : pl ≤ pc) (hpb : pc ≤ 9223372036854775807) (hT : TabR w K) :
    Calls Tryd.prog 23 #[sigV len blk s (.slice av N cv), .int .i64 k, .slice pa pl pc] w fun e w' => e = .returned (.bool true) ∧ Below w.heap.size w w' := by
  have hcs := cnt_spec hR
  have hkc : (k : Int) < cnt len blk := by omega
  have hp2 := piece_le l blk k
  have HCK : Hid (∀ W, Below w.heap.size w W → Calls Tryd.prog 17 #[sigV len blk s (.slice av N cv)] W fun e w' => e = .returned (.int .i64 0) ∧ Below W.heap.size W w') := by
    intro W hb
    have h := check_any len blk s av cv (mks K l blk s N) W (hM.later hb) (by rw [mks_length]; omega) (fun m hm => by rw [mks_st K l blk s N h2 m hm]; omega)
    rw [mks_length, hN, chk_of K l len blk s hR h1 h2, ← hN] at h
    exact h
  have HRG : Hid (∀ W, Calls Tryd.prog 54 #[.int .i64 (len : Int), .int .i64 (blk : Int), .int .i64 (k : Int)] W fun e w' => e = .returned (.tuple #[.int .i64 ((k : Int) * blk), .int .i64 ((k : Int) * blk + (pl : Int)), .bool true]) ∧ W = w') := by
    intro W
    have h := range_yes len blk k W (by omega) (by unfold cntB; rw [if_pos hR]; exact hkc)
    rw [piece_to hl hR hkc, ← hpl] at h
    exact h
  have hfr := cnt_lt hR hkc
  have hf0 : (0 : Int) ≤ (k : Int) * (blk : Int) := by
    have : ((k * blk : Nat) : Int) = (k : Int) * (blk : Int) := by simp
    omega
  have HMK : Hid (∀ W, Below w.heap.size w W → Calls Tryd.prog 34 #[.slice pa pl pc, .int .i64 (s : Int)] W fun e w' => e = .returned (mkV (sumOf (piece l blk k)) (strong K (piece l blk k) s)) ∧ Below W.heap.size W w') := by
    intro W hb
    have h := markOf_any pa pc s K (piece l blk k) W (hB.later hb) (hT.later hb) hpn (by omega) hpb (by omega) h2
    rw [← hpl] at h
    exact h
  have hne : mks K l blk s N ≠ [] := by
    intro e
    have := mks_length K l blk s N
    rw [e] at this
    simp at this
    omega
  obtain ⟨b, off, ea, hcell⟩ := hM.2 hne
  subst ea
  obtain ⟨y0, y1⟩ := hcell k (by rw [mks_length]; exact hk)
  rw [mks_getD K l blk s N k hk] at y0 y1
  have e1 : (mkOf K (piece l blk k) s).1 = sumOf (piece l blk k) := rfl
  have e2 : (mkOf K (piece l blk k) s).2 = strong K (piece l blk k) s := rfl
  rw [e1] at y0
  rw [e2] at y1
  generalize sumOf (piece l blk k) = xk at HMK y0
  generalize strong K (piece l blk k) s = sk at HMK y1
  generalize (k : Int) * (blk : Int) = fI at HRG hfr hf0
  have hfb : fI + (pl : Int) ≤ 200000 := by omega
  obtain ⟨tI, htI⟩ : ∃ tI, tI = fI + (pl : Int) := ⟨_, rfl⟩
  rw [← htI] at HRG hfb
  have hsub : tI - fI = (pl : Int) := by omega
  have hti0 : 0 ≤ tI := by omega
  have hfi1 : fI ≤ 200000 := by omega
  have hwr : IntKind.i64.wrap (pl : Int) = (pl : Int) := by rw [IntKind.wrap_i64]; omega
  have hkn : (k : Int) < (N : Int) := by omega
  have hkp : (0 : Int) ≤ (k : Int) := by omega
  have Y0 := Lib.hid y0
  have Y1 := Lib.hid y1
  obtain ⟨sI, hsI⟩ : ∃ sI : Int, sI = s := ⟨_, rfl⟩
  rw [← hsI] at HCK HMK ⊢
  obtain ⟨bI, hbI⟩ : ∃ bI : Int, bI = blk := ⟨_, rfl⟩
  rw [← hbI] at HCK HRG ⊢
  have hplb : pl ≤ 100000 := by omega
  unfold sigV mkV at *
  clear hl hR hN h1 h2 hpl hM hB hpn hpb hT hcs hkc hp2 hcell hne y0 y1 e1 e2 hsI hbI hfr hpc htI
  go_enter Tryd.func23, Tryd.ntmps23
  go_wp2_with fail
  have hbA : Below w.heap.size w (w.alloc (Obj.cells #[Value.int IntKind.i64 (len : Int), Value.int IntKind.i64 bI, Value.int IntKind.i64 sI, Value.slice (some ⟨b, off, none⟩) N cv] 26)) := (Below.refl _ _).alloc (Nat.le_refl _) _
  have hhA := heap_new w (Obj.cells #[Value.int IntKind.i64 (len : Int), Value.int IntKind.i64 bI, Value.int IntKind.i64 sI, Value.slice (some ⟨b, off, none⟩) N cv] 26)
  refine (HCK.out _ hbA).mono ?_
  rintro e w1 ⟨rfl, hb1⟩
  have hh1 := (KeepC.of_below hb1).2 _ _ _ _ hhA
  have HB1 : Hid (Below w.heap.size w w1) := hbA.trans (hb1.mono hbA.size)
  have c0 : w1.cell? ⟨w.heap.size, 0, none⟩ = some (.int .i64 (len : Int)) := by rw [cell_of_row w1 _ 0 _ _ (0, 0) hh1]; rfl
  have c1 : w1.cell? ⟨w.heap.size, 1, none⟩ = some (.int .i64 bI) := by rw [cell_of_row w1 _ 1 _ _ (0, 0) hh1]; rfl
  have C2 : Hid (w1.drew.cell? ⟨w.heap.size, 2, none⟩ = some (.int .i64 sI)) := (show w1.cell? ⟨w.heap.size, 2, none⟩ = some (.int .i64 sI) from by rw [cell_of_row w1 _ 2 _ _ (0, 0) hh1]; rfl)
  have C3 : Hid (w1.drew.cell? ⟨w.heap.size, 3, none⟩ = some (.slice (some ⟨b, off, none⟩) N cv)) := (show w1.cell? ⟨w.heap.size, 3, none⟩ = some (.slice (some ⟨b, off, none⟩) N cv) from by rw [cell_of_row w1 _ 3 _ _ (0, 0) hh1]; rfl)
  have X0 : Hid (w1.drew.cell? ⟨b, off + k * 2, none⟩ = some (.int .u32 xk)) := (show w1.cell? ⟨b, off + k * 2, none⟩ = some (.int .u32 xk) from cell_later HB1.out Y0.out)
  have X1 : Hid (w1.drew.cell? ⟨b, off + k * 2 + 1, none⟩ = some (.string sk)) := (show w1.cell? ⟨b, off + k * 2 + 1, none⟩ = some (.string sk) from cell_later HB1.out Y1.out)
  clear hbA hhA hb1 hh1 HCK Y0 Y1
  go_wp2_with (go_at_call 54; refine (HRG.out _).mono ?_; rintro e w9 ⟨rfl, rfl⟩)
  have hS0 : Below w1.drew.heap.size w1.drew w1.drew ∧ w1.drew.cell? ⟨w.heap.size, 2, none⟩ = some (.int .i64 sI) ∧ w1.drew.cell? ⟨w.heap.size, 3, none⟩ = some (.slice (some ⟨b, off, none⟩) N cv) ∧ w1.drew.cell? ⟨b, off + k * 2, none⟩ = some (.int .u32 xk) ∧ w1.drew.cell? ⟨b, off + k * 2 + 1, none⟩ = some (.string sk) := ⟨Below.refl _ _, C2.out, C3.out, X0.out, X1.out⟩
  have HM2 : Hid (∀ W, (Below w1.drew.heap.size w1.drew W ∧ W.cell? ⟨w.heap.size, 2, none⟩ = some (.int .i64 sI) ∧ W.cell? ⟨w.heap.size, 3, none⟩ = some (.slice (some ⟨b, off, none⟩) N cv) ∧ W.cell? ⟨b, off + k * 2, none⟩ = some (.int .u32 xk) ∧ W.cell? ⟨b, off + k * 2 + 1, none⟩ = some (.string sk)) → Calls Tryd.prog 34 #[.slice pa pl pc, .int .i64 sI] W fun e w' => e = .returned (.agg #[.int .u32 xk, .string sk]) ∧ (Below w1.drew.heap.size w1.drew w' ∧ w'.cell? ⟨w.heap.size, 2, none⟩ = some (.int .i64 sI) ∧ w'.cell? ⟨w.heap.size, 3, none⟩ = some (.slice (some ⟨b, off, none⟩) N cv) ∧ w'.cell? ⟨b, off + k * 2, none⟩ = some (.int .u32 xk) ∧ w'.cell? ⟨b, off + k * 2 + 1, none⟩ = some (.string sk))) := by
    rintro W ⟨hb, d2, d3, d4, d5⟩
    have hbW : Below w.heap.size w W := HB1.out.trans (Below.mono ⟨hb.os, hb.tape, hb.output, hb.size, hb.block⟩ HB1.out.size)
    refine (HMK.out W hbW).mono ?_
    rintro e w' ⟨rfl, h⟩
    exact ⟨rfl, hb.trans (h.mono hb.size), cell_later h d2, cell_later h d3, cell_later h d4, cell_later h d5⟩
  clear c0 c1 C2 C3 X0 X1 HMK HRG
  go_region_held3 (fun W => Below w1.drew.heap.size w1.drew W ∧ W.cell? ⟨w.heap.size, 2, none⟩ = some (.int .i64 sI) ∧ W.cell? ⟨w.heap.size, 3, none⟩ = some (.slice (some ⟨b, off, none⟩) N cv) ∧ W.cell? ⟨b, off + k * 2, none⟩ = some (.int .u32 xk) ∧ W.cell? ⟨b, off + k * 2 + 1, none⟩ = some (.string sk)) (first | assumption | exact hS0) (first
    | (go_at_call 34; (with_reducible refine (HM2.out _ ?_).mono ?_); (focus (first | assumption | exact hS0)); rintro e w9 ⟨rfl, hb9⟩))
  have HBF : Hid (Below w.heap.size w w9) := HB1.out.trans (Below.mono ⟨hb9.1.os, hb9.1.tape, hb9.1.output, hb9.1.size, hb9.1.block⟩ HB1.out.size)
  clear hS0 hb9 HM2
  go_wp2
  go_ret
  exact ⟨rfl, HBF.out⟩
end Go.Proofs.YtkppnbehkmpogaaDoor
