/- blocks.Cut at what can't be cut; the blocks as slices. -/
import Derived.Test.YtkppnbehkmpogaaDoorBCut
namespace Go.Proofs.YtkppnbehkmpogaaDoor
open Go.RowKit Go.Shelf Go.Proofs.BlkMath Go.Proofs.RangeLaw
set_option linter.unusedVariables false

set_option maxRecDepth 1000000 in
set_option maxHeartbeats 4000000 in
theorem cut_no (a : Option Addr) (len cap : Nat) (blk : Int) (w : World) (hl : len ≤ 9223372036854775807) (h : refB len blk ≠ 0) :
    Calls Tryd.prog 25 #[.slice a len cap, .int .i64 blk] w fun e w' => e = .returned (.tuple #[.slice none 0 0, .int .i64 (refB len blk)]) ∧ w = w' := by
  have HRF := Lib.hid (fun W => refused_any a len cap blk W hl)
  generalize refB len blk = r at *
  refine callsIn_wide (n := 5).1 ?_
  refine callsIn_of_wp_marks Tryd.func25 rfl trivial ?_ rfl
  simp only [Tryd.ntmps25, List.size_toArray, List.length_cons, List.length_nil, Nat.reduceAdd, Nat.reduceSub, Array.replicate_succ, Array.replicate_zero, List.push_toArray, List.append_toArray, List.nil_append, List.cons_append]
  gi_wp2_with (refine ⟨trivial, ?_⟩; gi_at_call 56; refine (callsIn_wide.2 (HRF.out _)).mono ?_; rintro e w' ⟨rfl, rfl⟩)
  exact ⟨_, results_tmp2 rfl _ _ _, rfl, rfl⟩

theorem piece_len (l : List Int) (blk k : Nat) : (piece l blk k).length = min blk (l.length - k * blk) := by
  unfold piece
  rw [List.length_take, List.length_drop]
theorem pieces_len (l : List Int) (blk N : Nat) : (pieces l blk N).length = N := by simp [pieces]
theorem pieces_get (l : List Int) (blk N j : Nat) (h : j < N) : (pieces l blk N).getD j [] = piece l blk j := by
  rw [List.getD_eq_getElem?_getD, pieces, List.getElem?_map, List.getElem?_range h]; rfl
theorem made_form {w : World} {n0 : Nat} {v : Value} {l : List Int} {blk N : Nat} (h : Made w n0 v (pieces l blk N)) (ho : Oct l) :
    ∃ av cv, v = .slice av N cv ∧ ∀ j, j < N → ∃ g pa pc, av = some ⟨g, 0, none⟩ ∧ w.cell? ⟨g, j, none⟩ = some (.slice pa (piece l blk j).length pc) ∧ Sl w (.slice pa (piece l blk j).length pc) (piece l blk j) := by
  obtain ⟨vs, h1, h2, h3⟩ := h
  rw [pieces_len] at h1 h2 h3
  have hf := h2
  obtain ⟨q1, q2⟩ := h2
  rcases q2 with ⟨rfl, h0⟩ | ⟨g, cap, cur, rfl, q4⟩
  · subst h0
    exact ⟨none, 0, rfl, fun j hj => by omega⟩
  · refine ⟨_, cap, rfl, fun j hj => ?_⟩
    have ho3 := h3 j hj
    rw [pieces_get l blk N j hj] at ho3
    obtain ⟨pa, pc, e⟩ := own_form ho3
    have hs := ho3.sl ((ho.drop _).take _)
    rw [e] at hs
    refine ⟨g, pa, pc, rfl, ?_, hs⟩
    rw [hf.cellAt j (by omega), ← e, List.getD_eq_getElem?_getD, List.getElem?_eq_getElem (by omega)]
    rfl
end Go.Proofs.YtkppnbehkmpogaaDoor
