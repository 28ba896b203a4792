/- squash: texts of one byte, so many times, packed. (A template: seatgen.py fills it.) -/
import Derived.Test.YtboienpdnfcooaaSqAwake
namespace Go.Proofs.Ytboienpdnfcooaa.Sq
open Go.RowKit Go.Proofs.NumMath Go.Maps
open Num (encR heldN encR_length encR_oct)
set_option linter.unusedVariables false
set_option linter.unusedSimpArgs false
set_option maxRecDepth 1000000

def rl (c : Int) (m : Nat) : List Int := List.replicate m c
theorem rl_len (c : Int) (m : Nat) : (rl c m).length = m := by simp [rl]
theorem rl_getD (c : Int) (m i : Nat) (h : i < m) : (rl c m).getD i 0 = c := by simp [rl, List.getD_eq_getElem?_getD, List.getElem?_replicate, h]
theorem rl_drop (c : Int) (m i : Nat) : (rl c m).drop i = rl c (m - i) := by simp [rl]
theorem rl_oct (c : Int) (m : Nat) (h0 : 0 ≤ c) (h1 : c ≤ 255) : Oct (rl c m) := by
  intro x hx
  have := List.eq_of_mem_replicate hx
  omega
theorem rl_lng (c : Int) (m d p : Nat) (hd : 1 ≤ d) (hdp : d ≤ p) (hp : p ≤ m) : lng (rl c m) d p 130 = min 130 (m - p) := by
  apply Lg.eq
  refine ⟨by omega, by rw [rl_len]; omega, fun i hi => ?_, fun h1 h2 => ?_⟩
  · rw [rl_getD _ _ _ (by omega), rl_getD _ _ _ (by omega)]
  · rw [rl_len] at h2; omega
theorem rl_bst (c : Int) (m p : Nat) (hp : 1 ≤ p) (hm : p < m) : ∀ D, 1 ≤ D → D ≤ p → bst (rl c m) p D = (min 130 (m - p), 1) := by
  intro D
  induction D with
  | zero => intro h; omega
  | succ D ih =>
    intro _ hD
    unfold bst
    rw [rl_lng c m (D + 1) p (by omega) hD (by omega)]
    rcases Nat.eq_zero_or_pos D with h | h
    · subst h
      rw [show bst (rl c m) p 0 = (0, 0) from rfl, if_pos (by simp only; omega)]
    · rw [ih h (by omega), if_neg (by simp only; omega)]
theorem rl_best (c : Int) (m p : Nat) (hp : 1 ≤ p) (hm : p < m) : best (rl c m) p = (min 130 (m - p), 1) := rl_bst c m p hp hm _ (by omega) (by omega)
theorem best_zero (l : List Int) : best l 0 = (0, 0) := by unfold best; rw [Nat.zero_min]; rfl
theorem rl_tail (c : Int) (m told : Nat) : ∀ k p out, m - p = k → k < 4 → 1 ≤ p → told ≤ p → pk (rl c m) told p out = putR out (rl c (m - told)) := by
  intro k
  induction k with
  | zero => intro p out h _ _ _; rw [pk_end _ _ _ _ (by rw [rl_len]; omega), rl_drop]
  | succ k ih =>
    intro p out h h4 h1 ht
    rw [pk_tell _ _ _ _ (by rw [rl_len]; omega) (by rw [rl_best c m p h1 (by omega)]; simp only; omega), ih (p + 1) out (by omega) (by omega) (by omega) (by omega)]
theorem rl_ne (c : Int) (m : Nat) (h : 1 ≤ m) : rl c m ≠ [] := by intro e; have := congrArg List.length e; rw [rl_len] at this; simp at this; omega
theorem rl_few (c : Int) (m : Nat) (h0 : 1 ≤ m) (h : m < 5) : packL (rl c m) = encR (2 * m) ++ rl c m := by
  unfold packL
  rw [pk_tell _ _ _ _ (by rw [rl_len]; omega) (by rw [best_zero]; decide)]
  rw [rl_tail c m 0 (m - 1) (0 + 1) [] (by omega) (by omega) (by omega) (by omega)]
  unfold putR
  rw [Nat.sub_zero, if_neg (rl_ne c m h0), rl_len, List.nil_append]
theorem rl_none (c : Int) : packL (rl c 0) = [] := by
  unfold packL
  rw [pk_end _ _ _ _ (by rw [rl_len]; omega)]
  rfl
theorem rl_start (c : Int) (m : Nat) (h : 5 ≤ m) : pk (rl c m) 1 1 (encR 2 ++ [c]) = packL (rl c m) := by
  have hb := rl_best c m 1 (by omega) (by omega)
  unfold packL
  rw [pk_tell (rl c m) 0 0 [] (by rw [rl_len]; omega) (by rw [best_zero]; decide)]
  rw [pk_match (rl c m) 1 1 (encR 2 ++ [c]) (by rw [rl_len]; omega) (by rw [hb]; simp only; omega)]
  rw [pk_match (rl c m) 0 (0 + 1) [] (by rw [rl_len]; omega) (by rw [Nat.zero_add, hb]; simp only; omega)]
  rw [Nat.zero_add, hb, cut_self]
  have h1 : cut (rl c m) 0 1 = [c] := by
    obtain ⟨k, rfl⟩ : ∃ k, m = k + 1 := ⟨m - 1, by omega⟩
    simp [cut, rl, List.replicate_succ]
  rw [h1]
  simp [putR]
theorem rl_step (c : Int) (m L : Nat) (o : List Int) (h4 : 4 ≤ L) (hm : L < m) : pk (rl c m) (m - L) (m - L) o = pk (rl c m) (m - (L - min L 130)) (m - (L - min L 130)) (o ++ mat (min L 130) 1) := by
  have hb := rl_best c m (m - L) (by omega) (by omega)
  have e : m - (m - L) = L := by omega
  rw [e] at hb
  rw [pk_match _ _ _ _ (by rw [rl_len]; omega) (by rw [hb]; simp only; omega), hb, cut_self]
  have e2 : m - L + min 130 L = m - (L - min L 130) := by omega
  have e3 : putR o [] = o := by unfold putR; rw [if_pos rfl]
  simp only [e2, e3]
  rw [Nat.min_comm 130 L]
theorem rl_end (c : Int) (m L : Nat) (o : List Int) (h4 : L < 4) (hm : L < m) : pk (rl c m) (m - L) (m - L) o = putR o (rl c L) := by
  rw [rl_tail c m (m - L) L (m - L) o (by omega) h4 (by omega) (Nat.le_refl _), show m - (m - L) = L from by omega]
/-- of the text's bytes the first k are laid -/
def fillA (c : Int) (m k : Nat) : Array Value := ((rl c k ++ rl 0 (m - k)).map (Value.int .u8)).toArray
theorem fillA_zero (c : Int) (m : Nat) : madeCells (Value.int .u8 0).cells (m * 1) = fillA c m 0 := by
  have hc : ∀ x, (Value.int .u8 0).cells[x % (Value.int .u8 0).cells.size]! = Value.int .u8 0 := by intro x; simp [Value.cells, Nat.mod_one]
  unfold fillA madeCells
  apply Array.ext
  · simp [rl]
  · intro i h1 h2
    simp [rl, Value.cells, Nat.mod_one]
theorem fillA_get (c : Int) (m k : Nat) (h : k < m) : (fillA c m k)[k]? = some (.int .u8 0) := by
  simp [fillA, rl, List.getElem?_append, List.getElem?_replicate, h]
  try omega
theorem fillA_set (c : Int) (m k : Nat) (h : k < m) : (fillA c m k).setIfInBounds k (.int .u8 c) = fillA c m (k + 1) := by
  obtain ⟨j, hj⟩ : ∃ j, m - k = j + 1 := ⟨m - k - 1, by omega⟩
  have e : m - (k + 1) = j := by omega
  have hL : ((rl c k ++ rl 0 (m - k)).map (Value.int .u8)).set k (.int .u8 c) = (rl c (k + 1) ++ rl 0 (m - (k + 1))).map (Value.int .u8) := by
    rw [hj, e]
    simp only [rl, List.map_append, List.map_replicate]
    rw [List.replicate_succ, List.set_append_right _ _ (by simp), List.replicate_succ']
    simp
  unfold fillA
  rw [← hL]
  simp
theorem fillA_end (c : Int) (m : Nat) : fillA c m m = ((rl c m).map (Value.int .u8)).toArray := by simp [fillA, rl]
end Go.Proofs.Ytboienpdnfcooaa.Sq
