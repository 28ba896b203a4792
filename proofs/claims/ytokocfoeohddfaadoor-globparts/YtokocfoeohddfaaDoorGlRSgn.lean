/- glob: the document's signs as cells: a struct of 259. (A template.) -/
import Derived.Test.YtokocfoeohddfaaDoorGlRMath
import Derived.Test.YtokocfoeohddfaaDoorGlStar
import Derived.Deep.MidRow
import Derived.Great.BuildSlice
import Derived.Deep.DeepCutAuto
namespace Go.Proofs.YtokocfoeohddfaaDoor.Pa
open Go.RowKit
set_option linter.unusedVariables false
set_option linter.unusedSimpArgs false
set_option maxRecDepth 1000000

def sgC (kind c : Int) (nt : Bool) (S : Nat → Bool) : List Value := [.int .i64 kind, .int .u8 c, .bool nt] ++ (List.range 256).map (fun i => Value.bool (S i))
theorem sgC_length (kind c : Int) (nt : Bool) (S : Nat → Bool) : (sgC kind c nt S).length = 259 := by simp [sgC]
theorem sgC_one (kind c : Int) (nt : Bool) (S : Nat → Bool) : ∀ v ∈ sgC kind c nt S, v.oneCell' = true := by
  intro v hv
  simp only [sgC, List.mem_append, List.mem_cons, List.not_mem_nil, or_false, List.mem_map] at hv
  rcases hv with (rfl | rfl | rfl) | ⟨x, _, rfl⟩ <;> rfl
theorem Tryd.infoRg : (Tryd.prog.info? 35).map (fun i => (i.zero, i.size, i.bytes)) = some (some (.agg (sgC 0 0 false noneS).toArray), 259, 272) := by kernel_rfl
theorem size_rg {cs : List Value} (h : cs.length = 259) : (Tryd.prog.info? 35).map (·.size) = some cs.length := by rw [h]; kernel_rfl
theorem size_rga {cs : List Value} (h : cs.length = 259) : (Tryd.prog.info? 35).map (·.size) = some cs.toArray.size := by rw [List.size_toArray, h]; kernel_rfl
theorem zero_rg (W : World) : (zeroValue 35).run Tryd.prog W = .ok (.agg (sgC 0 0 false noneS).toArray) W := by
  obtain ⟨i, hi, hz, -, -⟩ := info_parts Tryd.infoRg
  simp [zeroValue, typeInfo, Sem.run_bind, hi, hz]
theorem built_four : Tryd.prog.built 35 [(0, .int .i64 4)] = some (sgC 4 0 false noneS).toArray := by kernel_rfl
theorem built_byte (c : Int) : Tryd.prog.built 35 [(1, .int .u8 c)] = some (sgC 0 c false noneS).toArray := by kernel_rfl
theorem sgC_set (kind c : Int) (nt : Bool) (S : Nat → Bool) (i : Nat) (hi : i < 256) : (sgC kind c nt S).toArray.setIfInBounds (3 + i) (.bool true) = (sgC kind c nt (addS S i)).toArray := by
  apply Array.ext'
  rw [Array.toList_setIfInBounds]
  unfold sgC
  show ([Value.int .i64 kind, .int .u8 c, .bool nt] ++ (List.range 256).map (fun i => Value.bool (S i))).set (3 + i) (.bool true) = _
  rw [List.set_append_right _ _ (by simp)]
  show _ ++ _ = _ ++ _
  congr 1
  simp only [List.length_cons, List.length_nil]
  rw [show 3 + i - (0 + 1 + 1 + 1) = i from by omega]
  apply List.ext_getElem
  · simp
  intro n h1 h2
  rw [List.getElem_set]
  simp only [List.getElem_map, List.getElem_range]
  unfold addS
  by_cases h : i = n
  · rw [if_pos h, h]; simp
  · rw [if_neg h]
    have : (n == i) = false := by simpa using fun e => h e.symm
    rw [this, Bool.or_false]
theorem sgC_set2 (kind c : Int) (nt b : Bool) (S : Nat → Bool) : (sgC kind c nt S).toArray.setIfInBounds 2 (.bool b) = (sgC kind c b S).toArray := by
  apply Array.ext'
  rw [Array.toList_setIfInBounds]
  rfl
theorem sgC_set0 (kind kind' c : Int) (nt : Bool) (S : Nat → Bool) : (sgC kind c nt S).toArray.setIfInBounds 0 (.int .i64 kind') = (sgC kind' c nt S).toArray := by
  apply Array.ext'
  rw [Array.toList_setIfInBounds]
  rfl
theorem sgC_set1 (kind c c' : Int) (nt : Bool) (S : Nat → Bool) : (sgC kind c nt S).toArray.setIfInBounds 1 (.int .u8 c') = (sgC kind c' nt S).toArray := by
  apply Array.ext'
  rw [Array.toList_setIfInBounds]
  rfl
theorem sgC_get (kind c : Int) (nt : Bool) (S : Nat → Bool) (i : Nat) (hi : i < 256) : (sgC kind c nt S).toArray[3 + i]? = some (.bool (S i)) := by
  rw [List.getElem?_toArray]
  unfold sgC
  rw [List.getElem?_append_right (by simp)]
  simp [hi, show 3 + i - 3 = i from by omega]
/-- a block that was stored whole -/
theorem stored_whole (w : World) (g : Nat) (old : Array Value) (t : TypeId) (vs : List Value) (hb : w.heap[g]? = some (.cells old t)) (hs : old.size = vs.length) : (w.setCells g 0 vs).heap[g]? = some (.cells vs.toArray t) := by
  have key : ∀ (vs : List Value) (o : Nat) (w : World) (old : List Value), w.heap[g]? = some (.cells old.toArray t) → o + vs.length = old.length → (w.setCells g o vs).heap[g]? = some (.cells (old.take o ++ vs).toArray t) := by
    intro vs
    induction vs with
    | nil => intro o w old h hl; simp at hl; subst hl; simpa [World.setCells] using h
    | cons v vs ih =>
      intro o w old h hl
      have h1 := Joins.block_setCell (i := o) h v
      rw [List.setIfInBounds_toArray] at h1
      have h2 := ih (o + 1) _ (old.set o v) h1 (by simp at hl ⊢; omega)
      show ((w.setCell ⟨g, o, none⟩ v).setCells g (o + 1) vs).heap[g]? = _
      rw [h2]
      congr 3
      have ho : o < old.length := by simp at hl; omega
      rw [List.take_succ_eq_append_getElem (by simpa using ho), List.take_set_of_le (Nat.le_refl _), List.getElem_set_self]
      simp
  have h := key vs 0 w old.toList (by simpa using hb) (by simp [hs])
  simpa using h
theorem below_setCells (B g : Nat) (vs : List Value) : ∀ (o : Nat) (w W : World), Below B w W → B ≤ g → Below B w (W.setCells g o vs) := by
  induction vs with
  | nil => intro o w W h _; exact h
  | cons v vs ih => intro o w W h hg; exact ih (o + 1) w _ (Below.setCell (p := ⟨g, o, none⟩) h hg v) hg
theorem heap_setCells (g g' : Nat) (h : g' ≠ g) (vs : List Value) : ∀ (o : Nat) (w : World), (w.setCells g o vs).heap[g']? = w.heap[g']? := by
  induction vs with
  | nil => intro o w; rfl
  | cons v vs ih =>
    intro o w
    show ((w.setCell ⟨g, o, none⟩ v).setCells g (o + 1) vs).heap[g']? = _
    rw [ih]
    simp [World.setCell, Array.getElem?_modify, Ne.symm h]
theorem size_setCells (g : Nat) (vs : List Value) : ∀ (o : Nat) (w : World), (w.setCells g o vs).heap.size = w.heap.size := by
  induction vs with
  | nil => intro o w; rfl
  | cons v vs ih =>
    intro o w
    show ((w.setCell ⟨g, o, none⟩ v).setCells g (o + 1) vs).heap.size = _
    rw [ih]; simp
theorem there_block {W : World} {g : Nat} {cs : Array Value} {t : TypeId} (h : W.heap[g]? = some (.cells cs t)) (n : Nat) (hn : n ≤ cs.size) : W.there g 0 n := by
  intro j hj
  rw [Nat.zero_add]
  refine ⟨?_, unfrozen h⟩
  rw [cell_of_row _ _ j _ _ (0, 0) h, Array.getElem?_eq_getElem (by omega)]; rfl
theorem range_block {W : World} {g : Nat} {cs : List Value} {t : TypeId} (h : W.heap[g]? = some (.cells cs.toArray t)) : W.rangeAt g 0 cs := by
  intro j v hv
  rw [Nat.zero_add, cell_of_row _ _ j _ _ (0, 0) h, List.getElem?_toArray]; exact hv
end Go.Proofs.YtokocfoeohddfaaDoor.Pa
