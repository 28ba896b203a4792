/- rules: what is below a hidden directory is hidden: mathematics. (A template.) -/
import Derived.Test.YtalbmkkplphahabDoorRuHid
import Derived.Test.YtalbmkkplphahabDoorPaBackM
namespace Go.Proofs.YtalbmkkplphahabDoor.Pa
set_option linter.unusedVariables false
set_option linter.unusedSimpArgs false

theorem glue_len_app (a b : List L8) : (glue a).length ≤ (glue (a ++ b)).length := by
  by_cases ha : a = []
  · subst ha; simp [glue]
  · by_cases hb : b = []
    · subst hb; simp
    · rw [glue_app ha hb, List.length_append]; omega
theorem Fine.take {g : List L8} (h : Fine g) (k : Nat) : Fine (g.take k) := by
  refine ⟨fun p hp => h.may p (List.mem_of_mem_take hp), by rw [List.length_take]; have := h.few; omega, ?_⟩
  have := glue_len_app (g.take k) (g.drop k)
  rw [List.take_append_drop] at this
  have := h.short
  omega
theorem Fine.ruled {g : List L8} (h : Fine g) (h0 : g ≠ []) : ruledB (glue g) = true := by
  unfold ruledB
  rw [h.right, decide_eq_true (glue_ne h0 h.ne)]; rfl
/-- one up from the k+1 first parts -/
theorem up_take {g : List L8} (h : Fine g) (k : Nat) (hk : k < g.length) : parentL (glue (g.take (k + 1))) = glue (g.take k) := by
  have h1 := h.take (k + 1)
  have h0 : g.take (k + 1) ≠ [] := fun e => by have := congrArg List.length e; rw [List.length_take, List.length_nil] at this; omega
  have e : (g.take (k + 1)).dropLast = g.take k := by
    rw [List.dropLast_eq_take, List.length_take, List.take_take]
    congr 1
    omega
  rw [(parent_cut _).1, h1.cut h0, e]
theorem glue_take_ne {g : List L8} (h : Fine g) (k : Nat) (hk : k < g.length) : glue (g.take (k + 1)) ≠ [] := by
  have h1 := h.take (k + 1)
  have h0 : g.take (k + 1) ≠ [] := fun e => by have := congrArg List.length e; rw [List.length_take, List.length_nil] at this; omega
  exact glue_ne h0 h1.ne
/-- what is asked of the first j parts, all of which are directories but perhaps the m-th -/
theorem hid_up (L : List Ru) {g : List L8} (h : Fine g) : ∀ (j n : Nat) (d : Bool), j ≤ g.length → (glue (g.take j)).length < n →
    (hidN L n (glue (g.take j)) d = true ↔ ∃ k, k < j ∧ firstR L (glue (g.take (k + 1))) (d || decide (k + 1 < j)) false = 2) := by
  intro j
  induction j with
  | zero =>
    intro n d hj hn
    obtain ⟨m, rfl⟩ : ∃ m, n = m + 1 := ⟨n - 1, by omega⟩
    rw [hidN_eq, if_pos (by simp [glue])]
    simp
  | succ j ih =>
    intro n d hj hn
    obtain ⟨m, rfl⟩ : ∃ m, n = m + 1 := ⟨n - 1, by omega⟩
    have hne := glue_take_ne h j (by omega)
    have hup := up_take h j (by omega)
    have hlt := parentL_lt hne
    rw [hidN_eq, if_neg hne, hup]
    rw [hup] at hlt
    by_cases h2 : firstR L (glue (g.take (j + 1))) d false = 2
    · rw [if_pos h2]
      refine ⟨fun _ => ⟨j, by omega, ?_⟩, fun _ => rfl⟩
      rw [decide_eq_false (by omega), Bool.or_false]; exact h2
    · rw [if_neg h2, ih m true (by omega) (by omega)]
      constructor
      · rintro ⟨k, hk, h3⟩
        refine ⟨k, by omega, ?_⟩
        rw [decide_eq_true (by omega : k + 1 < j + 1), Bool.or_true]
        simpa using h3
      · rintro ⟨k, hk, h3⟩
        have hkj : k ≠ j := by
          intro e; subst e
          rw [decide_eq_false (by omega), Bool.or_false] at h3
          exact h2 h3
        refine ⟨k, by omega, ?_⟩
        rw [decide_eq_true (by omega : k + 1 < j + 1), Bool.or_true] at h3
        simpa using h3
theorem hidden_iff (L : List Ru) {g : List L8} (h : Fine g) (h0 : g ≠ []) (d : Bool) : hiddenB L (glue g) d = true ↔ ∃ k, k < g.length ∧ firstR L (glue (g.take (k + 1))) (d || decide (k + 1 < g.length)) false = 2 := by
  unfold hiddenB
  rw [h.ruled h0, Bool.true_and]
  have := hid_up L h g.length ((glue g).length + 1) d (Nat.le_refl _) (by rw [List.take_length]; omega)
  rw [List.take_length] at this
  exact this
/-- two joined: the first one's parts come first -/
theorem join_two {p q : L8} (hp : rightB p = true) (hj : (jn [p, q]).2 = 0) : ∃ g t, Fine g ∧ p = glue g ∧ Fine (g ++ t) ∧ (jn [p, q]).1 = glue (g ++ t) := by
  obtain ⟨g, hg, rfl⟩ := right_fine hp
  have ha : allParts [glue g, q] = g ++ parts q := by simp [allParts, hg.parts]
  have hgg : good (g ++ parts q) = g ++ good (parts q) := by
    unfold good
    rw [List.filter_append]
    congr 1
    exact good_fine (fun p hp => (hg.may p hp).1)
  refine ⟨g, good (parts q), hg, rfl, ?_⟩
  unfold Pa.jn at hj ⊢
  rw [ha] at hj ⊢
  by_cases h : firstBad (g ++ parts q) ≠ 0
  · rw [if_pos h] at hj; exact absurd hj h
  · rw [if_neg h] at hj ⊢
    rw [hgg] at hj ⊢
    by_cases h2 : 12 < (g ++ good (parts q)).length ∨ 200 < (glue (g ++ good (parts q))).length
    · rw [if_pos h2] at hj; simp at hj
    · rw [if_neg h2]
      refine ⟨⟨?_, by omega, by omega⟩, rfl⟩
      rw [← hgg]
      exact good_may (Classical.byContradiction h) (fun x hx => by
        rcases List.mem_append.1 hx with hx | hx
        · exact (hg.may x hx).2.2
        · exact parts_free q x hx)
theorem below_hidden (L : List Ru) {g t : List L8} (hg : Fine g) (hgt : Fine (g ++ t)) (h0 : g ≠ []) (ht : t ≠ []) (d : Bool) (h : hiddenB L (glue g) true = true) : hiddenB L (glue (g ++ t)) d = true := by
  obtain ⟨k, hk, hf⟩ := (hidden_iff L hg h0 true).1 h
  refine (hidden_iff L hgt (by simp [h0]) d).2 ⟨k, by rw [List.length_append]; omega, ?_⟩
  have htl : 0 < t.length := List.length_pos_iff.2 ht
  rw [List.take_append_of_le_length (by omega), decide_eq_true (by rw [List.length_append]; omega), Bool.or_true]
  simpa using hf
end Go.Proofs.YtalbmkkplphahabDoor.Pa
