/- path: lists of parts that may be a path. (A template.) -/
import Derived.Test.YtokocfoeohddfaaGreatDoorPaAwake
namespace Go.Proofs.YtokocfoeohddfaaGreatDoor.Pa
open Go.RowKit
set_option linter.unusedVariables false
set_option linter.unusedSimpArgs false
set_option maxRecDepth 100000

/-- an append of one text to a row of one's own -/
theorem append_str {w : World} {ops : Array Oper} {rest : List Oper} {o : Oper} {a : Act} {Q : Exit → Act → World → Prop}
    (hg : o.guard = none) (s x : Operand) (hop : o.op = Op.call { callee := Callee.builtin Builtin.append, args := #[s, x], argTypes := #[48, 48] })
    (base : Nat) (v : Value) (ps : List L8) (p : L8) (hs : a.eval s = v) (hown : SOwn w base v ps) (ad : Addr) (c : Nat) (hx : a.eval x = .slice (some ad) 1 c)
    (hc : w.cell? ad = some (.string (mk p))) (hl : ps.length ≤ 1000000) (b3 : base ≤ w.heap.size)
    (hK : ∀ v' w', Hid (SOwn w' base v' (ps ++ [p])) → Hid (w.grownBy w' v.ownBlock) → wpList Tryz.prog ops Q rest (a.put o.dst v') w') :
    wpList Tryz.prog ops Q (o :: rest) a w := by
  obtain ⟨i0, hi, hz0, hz1, hz2⟩ := info_parts Tryz.infoStr
  refine wpList_append_own w hg s x 48 hop base 9 i0 (.string ⟨#[]⟩) 1 16 Tryz.underlying48 hi hz0 hz1 hz2 rfl (by decide) v ps.length (strs ps) hs hown ad 1 c (strs [p]) hx rfl
    (by intro j u hj
        cases j with
        | zero => simp [strs] at hj; subst hj; simpa [Addr.add] using hc
        | succ j => simp [strs] at hj) (strs_one _) (by unfold maxLen; omega) (by omega) b3 ?_
  intro v' w' r1 r2 _
  refine hK v' w' ?_ r2
  show w'.ownsRow base 9 1 v' (ps ++ [p]).length (strs (ps ++ [p]))
  rw [strs_app, List.length_append]
  exact r1

structure Fine (g : List L8) : Prop where
  may : ∀ p ∈ g, skip p = false ∧ refV p = 0 ∧ ∀ c ∈ p, c ≠ 47
  few : g.length ≤ 12
  short : (glue g).length ≤ 200
theorem not_empty {p : L8} (h : skip p = false) : p ≠ [] := by
  intro e; subst e; exact absurd h (by decide)
theorem glue_ne {g : List L8} (h0 : g ≠ []) (h : ∀ p ∈ g, p ≠ []) : glue g ≠ [] := by
  cases g with
  | nil => exact absurd rfl h0
  | cons p r =>
    by_cases hr : r = []
    · subst hr; exact h p (by simp)
    · rw [glue_cons p hr]; simp
theorem Fine.ne {g : List L8} (h : Fine g) : ∀ p ∈ g, p ≠ [] := fun p hp => not_empty (h.may p hp).1
theorem Fine.parts {g : List L8} (h : Fine g) : parts (glue g) = g := by
  by_cases h0 : g = []
  · subst h0; rfl
  · unfold Pa.parts
    rw [if_neg (glue_ne h0 h.ne)]
    exact cut_glue h0 (fun p hp => (h.may p hp).2.2)
theorem Fine.cut {g : List L8} (h : Fine g) (h0 : g ≠ []) : cut (glue g) = g := cut_glue h0 (fun p hp => (h.may p hp).2.2)
theorem fb_fine {g : List L8} (h : ∀ p ∈ g, skip p = false ∧ refV p = 0) : firstBad g = 0 := by
  induction g with
  | nil => rfl
  | cons p r ih =>
    have h1 := h p (by simp)
    unfold firstBad
    rw [if_neg (by rw [h1.1]; simp), if_neg (by rw [h1.2]; simp)]
    exact ih (fun q hq => h q (by simp [hq]))
theorem good_fine {g : List L8} (h : ∀ p ∈ g, skip p = false) : good g = g := by
  unfold good
  rw [List.filter_eq_self]
  intro p hp
  rw [h p hp]; rfl
theorem Fine.jn {g : List L8} (h : Fine g) {ss : List L8} (hs : allParts ss = g) : jn ss = (glue g, 0) := by
  unfold Pa.jn
  rw [hs, fb_fine (fun p hp => ⟨(h.may p hp).1, (h.may p hp).2.1⟩), good_fine (fun p hp => (h.may p hp).1), if_neg (by simp), if_neg (by have := h.few; have := h.short; omega)]
theorem Fine.cl {g : List L8} (h : Fine g) : cl (glue g) = (glue g, 0) := h.jn (by rw [all_one, h.parts])
theorem Fine.right {g : List L8} (h : Fine g) : rightB (glue g) = true := by
  unfold rightB; rw [h.cl]; simp
theorem Fine.nil : Fine [] := ⟨fun p hp => absurd hp (by simp), by simp, by simp [glue]⟩
theorem good_may {ps : List L8} (h : firstBad ps = 0) (hf : ∀ p ∈ ps, ∀ c ∈ p, c ≠ 47) : ∀ p ∈ good ps, skip p = false ∧ refV p = 0 ∧ ∀ c ∈ p, c ≠ 47 := by
  induction ps with
  | nil => intro p hp; simp [good] at hp
  | cons q ps ih =>
    intro p hp
    unfold firstBad at h
    split at h
    · next hs =>
      have : good (q :: ps) = good ps := by simp [good, hs]
      rw [this] at hp
      exact ih h (fun r hr => hf r (by simp [hr])) p hp
    · next hs =>
      split at h
      · next hr => exact absurd h hr
      · next hr =>
        have : good (q :: ps) = q :: good ps := by simp [good, hs]
        rw [this] at hp
        rcases List.mem_cons.1 hp with rfl | hp
        · exact ⟨by simpa using hs, Classical.byContradiction hr, hf _ (by simp)⟩
        · exact ih h (fun r hr => hf r (by simp [hr])) p hp
theorem parts_free (l : L8) : ∀ p ∈ parts l, ∀ c ∈ p, c ≠ 47 := by
  unfold parts
  split
  · intro p hp; cases hp
  · exact cut_free l
theorem cl_cases (s : L8) : ((cl s).2 ≠ 0 ∧ (cl s).1 = []) ∨ (Fine (good (parts s)) ∧ cl s = (glue (good (parts s)), 0)) := by
  unfold cl jn
  rw [all_one]
  by_cases h : firstBad (parts s) ≠ 0
  · left; rw [if_pos h]; exact ⟨h, rfl⟩
  · rw [if_neg h]
    by_cases h2 : 12 < (good (parts s)).length ∨ 200 < (glue (good (parts s))).length
    · left; rw [if_pos h2]; exact ⟨by simp, rfl⟩
    · right
      rw [if_neg h2]
      exact ⟨⟨good_may (Classical.byContradiction h) (parts_free s), by omega, by omega⟩, rfl⟩
theorem right_fine {s : L8} (h : rightB s = true) : ∃ g, Fine g ∧ s = glue g := by
  unfold rightB at h
  have h := of_decide_eq_true h
  rcases cl_cases s with ⟨h1, _⟩ | ⟨h1, h2⟩
  · exact absurd h.1 h1
  · rw [h2] at h
    exact ⟨_, h1, h.2.symm⟩
theorem good_take {ps : List L8} {k : Nat} {p : L8} (h : ps[k]? = some p) : good (ps.take (k + 1)) = if skip p = true then good (ps.take k) else good (ps.take k) ++ [p] := by
  rw [take_part h]
  split
  · next hs => exact good_skip hs
  · next hs => exact good_more (by simpa using hs)
end Go.Proofs.YtokocfoeohddfaaGreatDoor.Pa
