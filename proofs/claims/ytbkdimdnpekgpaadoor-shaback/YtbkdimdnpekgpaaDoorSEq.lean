/- Two arrays of bytes, compared. -/
import Derived.Test.YtbkdimdnpekgpaaDoorSRow
import Derived.Laws.StructEq
namespace Go.Proofs.YtbkdimdnpekgpaaDoor
open Go.RowKit Go.Proofs.ShaMath
set_option linter.unusedVariables false

def eqAt (X Y : List Int) : List Nat → Bool
  | [] => true
  | i :: is => if X.getD i 0 = Y.getD i 0 then eqAt X Y is else false
theorem eqAt_iff (X Y : List Int) (is : List Nat) : eqAt X Y is = true ↔ ∀ i ∈ is, X.getD i 0 = Y.getD i 0 := by
  induction is with
  | nil => simp [eqAt]
  | cons i is ih => simp only [eqAt, List.mem_cons, forall_eq_or_imp]; split <;> simp_all
theorem eqAt_all (X Y : List Int) (hX : X.length = 64) (hY : Y.length = 64) : eqAt X Y (List.range' 0 64) = decide (X = Y) := by
  rw [Bool.eq_iff_iff, eqAt_iff, decide_eq_true_iff]
  constructor
  · intro h
    apply List.ext_getElem (by omega)
    intro i h1 h2
    have := h i (by simp [List.mem_range']; omega)
    simpa [List.getD_eq_getElem?_getD, List.getElem?_eq_getElem h1, List.getElem?_eq_getElem h2] using this
  · rintro rfl i _; rfl

theorem run_part5 (X : List Int) (i : Nat) (w : World) (h : i < X.length) : (part 5 (X.map (Value.int .u8)).toArray i).run Tryd.prog w = .ok (.int .u8 (X.getD i 0)) w := by
  have ha : (isAgg 5).run Tryd.prog w = .ok false w := by rfl
  have hg : (X.map (Value.int .u8)).toArray[i]? = some (.int .u8 (X.getD i 0)) := by
    rw [List.getElem?_toArray, List.getElem?_map, List.getElem?_eq_getElem h, List.getD_eq_getElem?_getD, List.getElem?_eq_getElem h]; rfl
  simp only [part, Sem.run_bind, ha, Result.andThen_ok, Bool.false_eq_true, if_false, hg, Sem.run_pure]

theorem run_eq64 (d : Nat) (X Y : List Int) (w : World) (hX : X.length = 64) (hY : Y.length = 64) :
    (Op.equalIn (d + 2) 49 (.agg (X.map (Value.int .u8)).toArray) (.agg (Y.map (Value.int .u8)).toArray)).run Tryd.prog w = .ok (decide (X = Y)) w := by
  rw [← eqAt_all X Y hX hY]
  rw [Op.equalIn]
  have hsz : (sizeOf 5).run Tryd.prog w = .ok 1 w := by rfl
  simp only [Sem.run_bind, run_underlying Tryd.underlying49, Result.andThen_ok, hsz, Nat.mul_one]
  simp only [Std.Legacy.Range.forIn_eq_forIn_range', Std.Legacy.Range.size]
  have e64 : (64 - 0 + 1 - 1) / 1 = 64 := rfl
  rw [e64]
  have hmem : ∀ i ∈ List.range' 0 64, i < 64 := fun i hi => by have := List.mem_range'_1.1 hi; omega
  generalize List.range' 0 64 = is at hmem ⊢
  induction is with
  | nil => simp [eqAt]
  | cons i is ih =>
    have hi := hmem i (by simp)
    simp only [List.forIn_cons, Sem.run_bind, run_part5 X i w (by omega), run_part5 Y i w (by omega), Result.andThen_ok, run_equalIn_int w d 5 .u8 .u8 _ _ Tryd.underlying5, eqAt]
    by_cases hxy : X.getD i 0 = Y.getD i 0
    · have hb : (X.getD i 0 == Y.getD i 0) = true := by simpa using hxy
      simp only [hb, Bool.not_true, Bool.false_eq_true, if_false, Sem.run_pure, Result.andThen_ok, if_pos hxy]
      exact ih (fun j hj => hmem j (by simp [hj]))
    · have hb : (X.getD i 0 == Y.getD i 0) = false := by simpa using hxy
      simp only [hb, Bool.not_false, if_true, Sem.run_pure, Result.andThen_ok, if_neg hxy]
end Go.Proofs.YtbkdimdnpekgpaaDoor
