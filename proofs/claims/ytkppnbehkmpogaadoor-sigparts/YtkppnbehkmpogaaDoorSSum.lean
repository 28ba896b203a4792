/- sha's Copy, Sum, New, Len; the sum of bytes. -/
import Derived.Test.YtkppnbehkmpogaaDoorSFill
namespace Go.Proofs.YtkppnbehkmpogaaDoor.Sha
open Go.RowKit Go.Proofs.ShaMath Go.Proofs.CopyW
set_option linter.unusedVariables false
set_option maxRecDepth 100000

theorem stc_length (s : St) (R : List Int) (n : Nat) (h : R.length = 64) : (stc s R n).length = 73 := by simp [stc, St.list, h]
theorem stc_one (s : St) (R : List Int) (n : Nat) : ∀ v ∈ stc s R n, v.oneCell' = true := by
  intro v hv
  simp only [stc, List.mem_append, List.mem_map, List.mem_singleton] at hv
  rcases hv with ⟨x, _, rfl⟩ | ⟨x, _, rfl⟩ | rfl <;> rfl
/-- a block that was stored whole -/
theorem stored_whole (w : World) (g : Nat) (old : Array Value) (t : TypeId) (vs : List Value) (hb : w.heap[g]? = some (.cells old t)) (hs : old.size = vs.length) : (w.setCells g 0 vs).heap[g]? = some (.cells vs.toArray t) := by
  have key : ∀ (vs : List Value) (o : Nat) (w : World) (old : List Value), w.heap[g]? = some (.cells old.toArray t) → o + vs.length = old.length → (w.setCells g o vs).heap[g]? = some (.cells (old.take o ++ vs).toArray t) := by
    intro vs
    induction vs with
    | nil => intro o w old h hl; simp at hl; subst hl; simpa [World.setCells] using h
    | cons v vs ih =>
      intro o w old h hl
      have h1 := Joins.block_setCell (i := o) h v
      rw [List.setIfInBounds_toArray] at h1
      have h2 := ih (o + 1) _ (old.set o v) h1 (by simp at hl ⊢; omega)
      show ((w.setCell ⟨g, o, none⟩ v).setCells g (o + 1) vs).heap[g]? = _
      rw [h2]
      congr 3
      have ho : o < old.length := by simp at hl; omega
      rw [List.take_succ_eq_append_getElem (by simpa using ho), List.take_set_of_le (Nat.le_refl _), List.getElem_set_self]
      simp
  have h := key vs 0 w old.toList (by simpa using hb) (by simp [hs])
  simpa using h

def St.zero : St := ⟨0, 0, 0, 0, 0, 0, 0, 0⟩
def zeros : List Value := stc St.zero (List.replicate 64 0) 0
theorem zeros_length : zeros.length = 73 := by rfl
theorem info104 : (Tryd.prog.info? 104).map (·.zero) = some (some (.agg zeros.toArray)) := by kernel_rfl
theorem zero104 (W : World) : (zeroValue 104).run Tryd.prog W = .ok (.agg zeros.toArray) W := by
  have h := info104
  cases hq : Tryd.prog.info? 104 with
  | none => rw [hq] at h; cases h
  | some i =>
    rw [hq] at h
    have hz : i.zero = some (.agg zeros.toArray) := by simpa using h
    simp [zeroValue, typeInfo, Sem.run_bind, hq, hz]

set_option maxHeartbeats 4000000 in
set_option maxRecDepth 1000000 in
theorem copy_walk (g : Nat) (S : St) (R : List Int) (n : Nat) (w : World) (hC : StC w g S R n) (hR : R.length = 64) :
    Calls Tryd.prog 88 #[.pointer (some ⟨g, 0, none⟩)] w fun e w' => e = .returned (.pointer (some ⟨w.heap.size, 0, none⟩)) ∧ StC w' w.heap.size S R n ∧ Below w.heap.size w w' := by
  have HR1 : Hid (w.rangeAt g 0 (stc S R n)) := by
    intro i v hi
    rw [Nat.zero_add, hC.cell]; exact hi
  have HI : Hid ((Tryd.prog.info? 104).map (·.size) = some (stc S R n).length) := by show _ = _; rw [stc_length S R n hR]; kernel_rfl
  have HI2 : Hid ((Tryd.prog.info? 104).map (·.size) = some (stc S R n).toArray.size) := by show _ = _; rw [List.size_toArray, stc_length S R n hR]; kernel_rfl
  have H1C : Hid ((stc S R n).toArray.all (·.oneCell') = true) := all_oneCell_toArray (stc_one S R n)
  have HLEN := Lib.hid (stc_length S R n hR)
  obtain ⟨X, hX⟩ : ∃ X, X = stc S R n := ⟨_, rfl⟩
  rw [← hX] at HR1 HI HI2 H1C HLEN
  have HX := Lib.hid hX
  have hz55 := zero104
  have HST : Hid (((w.alloc (.cells zeros.toArray 104)).setCells w.heap.size 0 X).heap[w.heap.size]? = some (.cells X.toArray 104)) := stored_whole _ _ _ _ _ (heap_new _ _) (by rw [List.size_toArray, zeros_length, HLEN.out])
  have HTH : Hid ((w.alloc (.cells zeros.toArray 104)).there w.heap.size 0 X.toArray.size) := by
    intro j hj
    rw [Nat.zero_add]
    refine ⟨?_, unfrozen (heap_new w _)⟩
    rw [cell_of_row _ _ j _ 104 (0, 0) (heap_new w _), List.getElem?_toArray, List.getElem?_eq_getElem (by rw [zeros_length]; rw [List.size_toArray, HLEN.out] at hj; exact hj)]; rfl
  have HBL : Hid (Below w.heap.size w ((w.alloc (.cells zeros.toArray 104)).setCells w.heap.size 0 X)) := below_setCells _ _ _ 0 w _ ((Below.refl _ _).alloc (Nat.le_refl _) _) (Nat.le_refl _)
  clear hX hC
  go_enter Tryd.func88, Tryd.ntmps88
  generalize hZ : zeros = Z at *
  clear hZ
  go_wp2_with (first | ((with_reducible show wpList _ _ _ (Oper.mk (some 8) _ _ _ _ _ :: _) _ _); go_must (refine wpList_load_mid rfl 104 (.tmp 7) rfl g 0 rfl X _ HR1.out Tryd.underlying104 rfl HI.out ?_)) | ((with_reducible show wpList _ _ _ (Oper.mk none (Op.store 104 _ _) _ _ _ _ :: _) _ _); go_must (refine wpList_store_mid rfl 104 (.tmp 3) (.tmp 8) rfl w.heap.size 0 X.toArray rfl rfl HTH.out HI2.out H1C.out ?_)))
  go_ret
  refine ⟨rfl, ?_, ?_⟩
  · have h := HST.out
    rw [HX.out] at h
    show StC _ _ _ _ _
    unfold StC
    rw [HX.out]
    simpa using h
  · simpa using HBL.out
end Go.Proofs.YtkppnbehkmpogaaDoor.Sha
