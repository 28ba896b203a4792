/- meta: what stands between the bytes of a kind. (A template.) -/
import Derived.Test.YtokocfoeohddfaaDoorPaMath
namespace Go.Proofs.YtokocfoeohddfaaDoor.Me
open Go.Proofs.YtokocfoeohddfaaDoor.Pa
set_option linter.unusedVariables false
set_option linter.unusedSimpArgs false

/-- what stands between the bytes c -/
def cutc (c : UInt8) : L8 → List L8
  | [] => [[]]
  | x :: l => if x = c then [] :: cutc c l else (x :: (cutc c l).headD []) :: (cutc c l).tail
theorem cutc_ne (c : UInt8) (l : L8) : cutc c l ≠ [] := by cases l with | nil => simp [cutc] | cons x l => rw [cutc]; split <;> simp
theorem cutc_plain {c : UInt8} {a : L8} (h : ∀ x ∈ a, x ≠ c) : cutc c a = [a] := by
  induction a with
  | nil => rfl
  | cons x a ih => rw [cutc, if_neg (h x (by simp)), ih (fun y hy => h y (by simp [hy]))]; rfl
theorem cutc_at {c : UInt8} {a b : L8} (h : ∀ x ∈ a, x ≠ c) : cutc c (a ++ c :: b) = a :: cutc c b := by
  induction a with
  | nil => rw [List.nil_append, cutc, if_pos rfl]
  | cons x a ih => rw [List.cons_append, cutc, if_neg (h x (by simp)), ih (fun y hy => h y (by simp [hy]))]; rfl
theorem cutc_len (c : UInt8) (l : L8) : (cutc c l).length ≤ l.length + 1 := by
  induction l with
  | nil => simp [cutc]
  | cons x l ih =>
    have := cutc_ne c l
    rw [cutc]
    split
    · simp; omega
    · simp; omega
/-- the k-th is what stands at f, and the rest is behind -/
def AtC (c : UInt8) (l : L8) (k f : Nat) : Prop := f ≤ l.length ∧ (cutc c l).drop k = cutc c (l.drop f)
theorem AtC.zero (c : UInt8) (l : L8) : AtC c l 0 0 := ⟨Nat.zero_le _, by simp⟩
theorem AtC.last {c : UInt8} {l : L8} {k f : Nat} (h : AtC c l k f) (hf : ∀ x ∈ l.drop f, x ≠ c) : (cutc c l)[k]? = some (l.drop f) ∧ (cutc c l).length = k + 1 := by
  have e := h.2
  rw [cutc_plain hf] at e
  have e2 := congrArg List.length e
  simp at e2
  refine ⟨?_, by omega⟩
  have := congrArg (fun x => x[0]?) e
  simpa using this
theorem AtC.next {c : UInt8} {l : L8} {k f i : Nat} (h : AtC c l k f) (hi : (l.drop f)[i]? = some c) (hf : ∀ x ∈ (l.drop f).take i, x ≠ c) : (cutc c l)[k]? = some ((l.drop f).take i) ∧ AtC c l (k + 1) (f + i + 1) := by
  have hlt := (List.getElem?_eq_some_iff.1 hi).1
  have e0 : l.drop f = (l.drop f).take i ++ c :: l.drop (f + i + 1) := by
    conv => lhs; rw [← List.take_append_drop i (l.drop f)]
    rw [List.drop_eq_getElem_cons hlt, (List.getElem?_eq_some_iff.1 hi).2, List.drop_drop]
    rw [show f + (i + 1) = f + i + 1 from by omega]
  have e := h.2
  rw [e0, cutc_at hf] at e
  have e1 := congrArg (fun x => x[0]?) e
  simp only [List.getElem?_drop, Nat.add_zero, List.getElem?_cons_zero] at e1
  refine ⟨e1, ?_, ?_⟩
  · simp at hlt; omega
  · have := congrArg (List.drop 1) e
    simpa [List.drop_drop] using this
end Go.Proofs.YtokocfoeohddfaaDoor.Me
