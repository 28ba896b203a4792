/- glob: the texts that signs match, and the places that they are gone through by. (A template.) -/
import Derived.Test.YtokocfoeohddfaaGreatDoorGlSpec
namespace Go.Proofs.YtokocfoeohddfaaGreatDoor.Pa
set_option linter.unusedVariables false
set_option linter.unusedSimpArgs false

/-- a text of signs -/
def Lang : List Sg → L8 → Prop
  | [], s => s = []
  | x :: L, s => if x.many = true then ∃ s1 s2, s = s1 ++ s2 ∧ (∀ c ∈ s1, x.S c.toNat = true) ∧ Lang L s2 else ∃ c s2, s = c :: s2 ∧ x.S c.toNat = true ∧ Lang L s2
theorem Lang_append : ∀ (A B : List Sg) (s : L8), Lang (A ++ B) s ↔ ∃ s1 s2, s = s1 ++ s2 ∧ Lang A s1 ∧ Lang B s2 := by
  intro A
  induction A with
  | nil =>
    intro B s
    constructor
    · intro h; exact ⟨[], s, rfl, rfl, h⟩
    · rintro ⟨s1, s2, rfl, h1, h2⟩; rw [Lang] at h1; subst h1; exact h2
  | cons x A ih =>
    intro B s
    rw [List.cons_append, Lang]
    by_cases hm : x.many = true
    · rw [if_pos hm]
      constructor
      · rintro ⟨s1, s2, rfl, h1, h2⟩
        obtain ⟨t1, t2, rfl, h3, h4⟩ := (ih B s2).1 h2
        exact ⟨s1 ++ t1, t2, by simp, by rw [Lang, if_pos hm]; exact ⟨s1, t1, rfl, h1, h3⟩, h4⟩
      · rintro ⟨t1, t2, rfl, h1, h2⟩
        rw [Lang, if_pos hm] at h1
        obtain ⟨s1, s2, rfl, h3, h4⟩ := h1
        exact ⟨s1, s2 ++ t2, by simp, h3, (ih B _).2 ⟨s2, t2, rfl, h4, h2⟩⟩
    · rw [if_neg hm]
      constructor
      · rintro ⟨c, s2, rfl, h1, h2⟩
        obtain ⟨t1, t2, rfl, h3, h4⟩ := (ih B s2).1 h2
        exact ⟨c :: t1, t2, by simp, by rw [Lang, if_neg hm]; exact ⟨c, t1, rfl, h1, h3⟩, h4⟩
      · rintro ⟨t1, t2, rfl, h1, h2⟩
        rw [Lang, if_neg hm] at h1
        obtain ⟨c, s2, rfl, h3, h4⟩ := h1
        exact ⟨c, s2 ++ t2, by simp, h3, (ih B _).2 ⟨s2, t2, rfl, h4, h2⟩⟩
theorem Lang_one (x : Sg) (s : L8) : Lang [x] s ↔ if x.many = true then (∀ c ∈ s, x.S c.toNat = true) else ∃ c, s = [c] ∧ x.S c.toNat = true := by
  rw [Lang]
  split
  · constructor
    · rintro ⟨s1, s2, rfl, h1, h2⟩
      rw [Lang] at h2; subst h2; simpa using h1
    · intro h; exact ⟨s, [], by simp, h, rfl⟩
  · constructor
    · rintro ⟨c, s2, rfl, h1, h2⟩
      rw [Lang] at h2; subst h2; exact ⟨c, rfl, h1⟩
    · rintro ⟨c, rfl, h⟩; exact ⟨c, [], rfl, h, rfl⟩
theorem Lang_snoc (A : List Sg) (x : Sg) (s : L8) : Lang (A ++ [x]) s ↔ ∃ s1 s2, s = s1 ++ s2 ∧ Lang A s1 ∧ (if x.many = true then (∀ c ∈ s2, x.S c.toNat = true) else ∃ c, s2 = [c] ∧ x.S c.toNat = true) := by
  rw [Lang_append]
  constructor
  · rintro ⟨s1, s2, h, h1, h2⟩; exact ⟨s1, s2, h, h1, (Lang_one x s2).1 h2⟩
  · rintro ⟨s1, s2, h, h1, h2⟩; exact ⟨s1, s2, h, h1, (Lang_one x s2).2 h2⟩
/-- no two signs of as many bytes as there may be beside one another -/
def Apart (L : List Sg) : Prop := ∀ i x y, L[i]? = some x → L[i + 1]? = some y → x.many = true → y.many = true → False
def manyAt (L : List Sg) (i : Nat) : Bool := (L[i]?.map (·.many)).getD false
/-- what a text ahead has come to -/
def AtS (L : List Sg) (s : L8) (i : Nat) : Prop := Lang (L.take (if manyAt L i = true then i + 1 else i)) s
def Inv (L : List Sg) (T : Nat → Bool) (s : L8) : Prop := ∀ i, i ≤ L.length → (T i = true ↔ AtS L s i)
theorem reach_iff (L : List Sg) (T : Nat → Bool) (i j : Nat) : reachS L T i j = true ↔ T j = true ∨ j = i ∨ (manyAt L i = true ∧ j = i + 1) := by
  unfold reachS
  change (if manyAt L i = true then addS (addS T i) (i + 1) else addS T i) j = true ↔ _
  split
  · next h => simp [addS, h, or_assoc]
  · next h => simp [addS, h]
theorem stepK_iff (L : List Sg) (T : Nat → Bool) (c i : Nat) : ∀ k, k ≤ L.length → (stepK L T c k i = true ↔ ∃ m x, m < k ∧ L[m]? = some x ∧ T m = true ∧ x.S c = true ∧ (let j := if x.many = true then m else m + 1; i = j ∨ (manyAt L j = true ∧ i = j + 1))) := by
  intro k
  induction k with
  | zero => intro _; simp [stepK, noneS]
  | succ k ih =>
    intro hk
    have hx : L[k]? = some L[k] := List.getElem?_eq_getElem (by omega)
    rw [stepK, hx]
    simp only
    have ih := ih (by omega)
    by_cases h : T k = true ∧ L[k].S c = true
    · rw [if_pos h, reach_iff, ih]
      constructor
      · rintro (⟨m, x, h1, h2⟩ | h1)
        · exact ⟨m, x, by omega, h2⟩
        · exact ⟨k, L[k], by omega, hx, h.1, h.2, h1⟩
      · rintro ⟨m, x, h1, h2, h3, h4, h5⟩
        by_cases e : m = k
        · subst e
          rw [hx] at h2
          simp only [Option.some.injEq] at h2
          subst h2
          exact .inr h5
        · exact .inl ⟨m, x, by omega, h2, h3, h4, h5⟩
    · rw [if_neg h, ih]
      constructor
      · rintro ⟨m, x, h1, h2⟩; exact ⟨m, x, by omega, h2⟩
      · rintro ⟨m, x, h1, h2, h3, h4, h5⟩
        by_cases e : m = k
        · subst e
          rw [hx] at h2
          simp only [Option.some.injEq] at h2
          subst h2
          exact absurd ⟨h3, h4⟩ h
        · exact ⟨m, x, by omega, h2, h3, h4, h5⟩
theorem take_snoc {L : List Sg} {i : Nat} {x : Sg} (h : L[i]? = some x) : L.take (i + 1) = L.take i ++ [x] := by
  rw [List.take_add_one, h]; rfl
theorem manyAt_some {L : List Sg} {i : Nat} {x : Sg} (h : L[i]? = some x) : manyAt L i = x.many := by unfold manyAt; rw [h]; rfl
theorem manyAt_end {L : List Sg} {i : Nat} (h : L.length ≤ i) : manyAt L i = false := by unfold manyAt; rw [List.getElem?_eq_none h]; rfl
theorem inv_start {L : List Sg} (hA : Apart L) : Inv L (reachS L noneS 0) [] := by
  intro i hi
  rw [reach_iff]
  unfold AtS
  have hl0 : ∀ A : List Sg, (Lang A [] ↔ ∀ x ∈ A, x.many = true) := by
    intro A
    induction A with
    | nil => simp [Lang]
    | cons x A ih =>
      rw [Lang]
      by_cases hm : x.many = true
      · rw [if_pos hm]
        constructor
        · rintro ⟨s1, s2, h, h1, h2⟩
          obtain ⟨rfl, rfl⟩ := List.append_eq_nil_iff.1 h.symm
          intro y hy
          rcases List.mem_cons.1 hy with rfl | hy
          · exact hm
          · exact ih.1 h2 y hy
        · intro h; exact ⟨[], [], rfl, by simp, ih.2 fun y hy => h y (by simp [hy])⟩
      · rw [if_neg hm]
        constructor
        · rintro ⟨c, s2, h, -⟩; cases h
        · intro h; exact absurd (h x (by simp)) hm
  rw [hl0]
  constructor
  · rintro (h | rfl | ⟨h, rfl⟩)
    · simp [noneS] at h
    · intro x hx
      by_cases hm : manyAt L 0 = true
      · rw [if_pos hm] at hx
        cases L with
        | nil => simp at hx
        | cons y L => simp at hx; subst hx; simpa [manyAt] using hm
      · rw [if_neg hm] at hx; simp at hx
    · have h1 : manyAt L (0 + 1) ≠ true := by
        intro h2
        cases hx : L[0]? with
        | none => unfold manyAt at h; rw [hx] at h; simp at h
        | some x =>
          cases hy : L[0 + 1]? with
          | none => unfold manyAt at h2; rw [hy] at h2; simp at h2
          | some y => exact hA 0 x y hx hy (by rw [← manyAt_some hx]; exact h) (by rw [← manyAt_some hy]; exact h2)
      rw [if_neg h1]
      intro x hx
      cases L with
      | nil => simp at hx
      | cons y L => simp at hx; subst hx; simpa [manyAt] using h
  · intro h
    rcases i with _ | i
    · exact .inr (.inl rfl)
    · right; right
      have h0 : ∀ k, k < i + 1 → manyAt L k = true := by
        intro k hk
        have hkl : k < L.length := by omega
        have hx : L[k]? = some L[k] := List.getElem?_eq_getElem hkl
        rw [manyAt_some hx]
        apply h
        have : k < (L.take (if manyAt L (i + 1) = true then i + 1 + 1 else i + 1)).length := by rw [List.length_take]; split <;> omega
        rw [List.mem_iff_getElem]
        exact ⟨k, this, by rw [List.getElem_take]⟩
      have hi0 : i = 0 := by
        rcases Nat.eq_zero_or_pos i with e | e
        · exact e
        · exfalso
          have a := h0 0 (by omega)
          have b := h0 1 (by omega)
          have hx : L[0]? = some L[0] := List.getElem?_eq_getElem (by omega)
          have hy : L[0 + 1]? = some L[0 + 1] := List.getElem?_eq_getElem (by omega)
          exact hA 0 _ _ hx hy (by rw [← manyAt_some hx]; exact a) (by rw [← manyAt_some hy]; exact b)
      subst hi0
      exact ⟨h0 0 (by omega), rfl⟩
theorem inv_step {L : List Sg} (hA : Apart L) {T : Nat → Bool} {s : L8} (h : Inv L T s) (c : UInt8) : Inv L (stepS L T c.toNat) (s ++ [c]) := by
  intro i hi
  unfold stepS
  rw [stepK_iff L T c.toNat i L.length (Nat.le_refl _)]
  -- a text with one byte more, of signs whose last one is x
  have last : ∀ m x, L[m]? = some x → (Lang (L.take (m + 1)) (s ++ [c]) ↔ if x.many = true then (Lang (L.take (m + 1)) s ∧ x.S c.toNat = true) ∨ Lang (L.take m) (s ++ [c]) else Lang (L.take m) s ∧ x.S c.toNat = true) := by
    intro m x hx
    rw [take_snoc hx, Lang_snoc]
    by_cases hm : x.many = true
    · rw [if_pos hm]
      simp only [if_pos hm]
      constructor
      · rintro ⟨s1, s2, he, h1, h2⟩
        rcases List.eq_nil_or_concat s2 with rfl | ⟨t, d, rfl⟩
        · right; rw [List.append_nil] at he; rw [he]; exact h1
        · left
          rw [List.concat_eq_append, ← List.append_assoc] at he
          obtain ⟨e1, e2⟩ := List.append_inj' he rfl
          simp only [List.cons.injEq, and_true] at e2
          subst e1; subst e2
          refine ⟨(Lang_snoc _ _ _).2 ⟨s1, t, rfl, h1, ?_⟩, h2 c (by simp)⟩
          rw [if_pos hm]; exact fun d hd => h2 d (by simp [hd])
      · rintro (⟨h1, h2⟩ | h1)
        · obtain ⟨s1, s2, rfl, h3, h4⟩ := (Lang_snoc _ _ _).1 h1
          rw [if_pos hm] at h4
          refine ⟨s1, s2 ++ [c], by simp, h3, fun d hd => ?_⟩
          rcases List.mem_append.1 hd with hd | hd
          · exact h4 d hd
          · simp at hd; subst hd; exact h2
        · exact ⟨s ++ [c], [], by simp, h1, by simp⟩
    · rw [if_neg hm]
      simp only [if_neg hm]
      constructor
      · rintro ⟨s1, s2, he, h1, d, rfl, h2⟩
        obtain ⟨e1, e2⟩ := List.append_inj' he rfl
        simp only [List.cons.injEq, and_true] at e2
        subst e1; subst e2
        exact ⟨h1, h2⟩
      · rintro ⟨h1, h2⟩; exact ⟨s, [c], rfl, h1, c, rfl, h2⟩
  have hTm : ∀ m x, L[m]? = some x → (T m = true ↔ Lang (L.take (if x.many = true then m + 1 else m)) s) := by
    intro m x hx
    rw [h m (by have := (List.getElem?_eq_some_iff.1 hx).1; omega)]
    unfold AtS
    rw [manyAt_some hx]
  have notTwo : ∀ m x, L[m]? = some x → x.many = true → manyAt L (m + 1) = false := by
    intro m x hx hm
    cases hy : L[m + 1]? with
    | none => exact manyAt_end (List.getElem?_eq_none_iff.1 hy)
    | some y =>
      rw [manyAt_some hy]
      cases hn : y.many with
      | false => rfl
      | true => exact (hA m x y hx hy hm hn).elim
  -- what a place without the signs of many comes to
  have one : ∀ i, i ≤ L.length → (Lang (L.take i) (s ++ [c]) ↔ ∃ m x, L[m]? = some x ∧ T m = true ∧ x.S c.toNat = true ∧ ((x.many = true ∧ i = m + 1) ∨ (x.many = false ∧ (i = m + 1 ∨ (manyAt L (m + 1) = true ∧ i = m + 2))))) := by
    intro i
    induction i with
    | zero =>
      intro _
      constructor
      · intro h1; simp [Lang] at h1
      · rintro ⟨m, x, h1, h2, h3, (⟨_, h4⟩ | ⟨_, h4 | ⟨_, h4⟩⟩)⟩ <;> omega
    | succ i ih =>
      intro hi
      have hx : L[i]? = some L[i] := List.getElem?_eq_getElem (by omega)
      rw [last i _ hx]
      by_cases hm : L[i].many = true
      · rw [if_pos hm, ih (by omega)]
        have hT := hTm i _ hx
        rw [if_pos hm] at hT
        constructor
        · rintro (⟨h1, h2⟩ | ⟨m, x, h1, h2, h3, h4⟩)
          · exact ⟨i, _, hx, hT.2 h1, h2, .inl ⟨hm, rfl⟩⟩
          · rcases h4 with ⟨h5, rfl⟩ | ⟨h5, rfl | ⟨h6, rfl⟩⟩
            · have := notTwo m x h1 h5
              rw [manyAt_some hx, hm] at this; cases this
            · exact ⟨m, x, h1, h2, h3, .inr ⟨h5, .inr ⟨by rw [manyAt_some hx]; exact hm, rfl⟩⟩⟩
            · exfalso
              have hy : L[m + 1]? = some L[m + 1] := List.getElem?_eq_getElem (by omega)
              rw [manyAt_some hy] at h6
              have := notTwo (m + 1) _ hy h6
              rw [show m + 1 + 1 = m + 2 from rfl, manyAt_some hx, hm] at this; cases this
        · rintro ⟨m, x, h1, h2, h3, (⟨h5, h6⟩ | ⟨h5, h6 | ⟨h6, h7⟩⟩)⟩
          · have e : m = i := by omega
            subst e
            rw [hx] at h1
            simp only [Option.some.injEq] at h1
            subst h1
            exact .inl ⟨hT.1 h2, h3⟩
          · have e : m = i := by omega
            subst e
            rw [hx] at h1
            simp only [Option.some.injEq] at h1
            subst h1
            rw [hm] at h5; cases h5
          · have e : i = m + 1 := by omega
            subst e
            exact .inr ⟨m, x, h1, h2, h3, .inr ⟨h5, .inl rfl⟩⟩
      · rw [if_neg hm]
        have hT := hTm i _ hx
        rw [if_neg hm] at hT
        constructor
        · rintro ⟨h1, h2⟩
          exact ⟨i, _, hx, hT.2 h1, h2, .inr ⟨by simpa using hm, .inl rfl⟩⟩
        · rintro ⟨m, x, h1, h2, h3, (⟨h5, h6⟩ | ⟨h5, h6 | ⟨h6, h7⟩⟩)⟩
          · have e : m = i := by omega
            subst e
            rw [hx] at h1
            simp only [Option.some.injEq] at h1
            subst h1
            exact absurd h5 hm
          · have e : m = i := by omega
            subst e
            rw [hx] at h1
            simp only [Option.some.injEq] at h1
            subst h1
            exact ⟨hT.1 h2, h3⟩
          · have e : i = m + 1 := by omega
            subst e
            rw [manyAt_some hx] at h6
            exact absurd h6 hm
  have goal : (∃ m x, m < L.length ∧ L[m]? = some x ∧ T m = true ∧ x.S c.toNat = true ∧ (let j := if x.many = true then m else m + 1; i = j ∨ (manyAt L j = true ∧ i = j + 1))) ↔ AtS L (s ++ [c]) i := by
    unfold AtS
    by_cases hmi : manyAt L i = true
    · rw [if_pos hmi]
      have hil : i < L.length := by
        rcases Nat.lt_or_ge i L.length with a | a
        · exact a
        · rw [manyAt_end a] at hmi; cases hmi
      have hx : L[i]? = some L[i] := List.getElem?_eq_getElem hil
      have hm : L[i].many = true := by rw [← manyAt_some hx]; exact hmi
      rw [one (i + 1) (by omega)]
      constructor
      · rintro ⟨m, x, h1, h2, h3, h4, h5⟩
        refine ⟨m, x, h2, h3, h4, ?_⟩
        by_cases hxm : x.many = true
        · simp only [hxm, if_true] at h5
          rcases h5 with rfl | ⟨h6, rfl⟩
          · exact .inl ⟨hxm, rfl⟩
          · have := notTwo m x h2 hxm
            rw [hmi] at this; cases this
        · simp only [hxm] at h5
          rcases h5 with h6 | ⟨h6, h7⟩
          · simp at h6; subst h6; exact .inr ⟨by simpa using hxm, .inr ⟨hmi, rfl⟩⟩
          · simp at h6 h7; subst h7
            have hy : L[m + 1]? = some L[m + 1] := List.getElem?_eq_getElem (by omega)
            rw [manyAt_some hy] at h6
            have := notTwo (m + 1) _ hy h6
            rw [hmi] at this; cases this
      · rintro ⟨m, x, h2, h3, h4, (⟨h5, h6⟩ | ⟨h5, h6 | ⟨h6, h7⟩⟩)⟩
        · have e : m = i := by omega
          subst e
          refine ⟨m, x, hil, h2, h3, h4, ?_⟩
          simp [h5]
        · have e : m = i := by omega
          subst e
          rw [hx] at h2
          simp only [Option.some.injEq] at h2
          subst h2
          rw [hm] at h5; cases h5
        · have e : i = m + 1 := by omega
          subst e
          refine ⟨m, x, by omega, h2, h3, h4, ?_⟩
          simp [h5]
    · rw [if_neg hmi, one i hi]
      constructor
      · rintro ⟨m, x, h1, h2, h3, h4, h5⟩
        refine ⟨m, x, h2, h3, h4, ?_⟩
        by_cases hxm : x.many = true
        · simp only [hxm, if_true] at h5
          rcases h5 with rfl | ⟨h6, rfl⟩
          · rw [manyAt_some h2] at hmi; exact absurd hxm hmi
          · exact .inl ⟨hxm, rfl⟩
        · simp only [hxm] at h5
          rcases h5 with h6 | ⟨h6, h7⟩
          · simp at h6; exact .inr ⟨by simpa using hxm, .inl h6⟩
          · simp at h6 h7; exact .inr ⟨by simpa using hxm, .inr ⟨h6, h7⟩⟩
      · rintro ⟨m, x, h2, h3, h4, (⟨h5, h6⟩ | ⟨h5, h6 | ⟨h6, h7⟩⟩)⟩
        · refine ⟨m, x, (List.getElem?_eq_some_iff.1 h2).1, h2, h3, h4, ?_⟩
          simp only [h5, if_true]
          right
          exact ⟨by rw [manyAt_some h2]; exact h5, h6⟩
        · refine ⟨m, x, (List.getElem?_eq_some_iff.1 h2).1, h2, h3, h4, ?_⟩
          simp [h5, h6]
        · refine ⟨m, x, (List.getElem?_eq_some_iff.1 h2).1, h2, h3, h4, ?_⟩
          simp [h5, h6, h7]
  exact goal
theorem inv_run {L : List Sg} (hA : Apart L) : ∀ (s : L8) (T : Nat → Bool) (s0 : L8), Inv L T s0 → Inv L (runS L T s) (s0 ++ s) := by
  intro s
  induction s with
  | nil => intro T s0 h; rw [List.append_nil]; exact h
  | cons c s ih =>
    intro T s0 h
    have := ih _ _ (inv_step hA h c)
    rw [List.append_assoc] at this
    exact this
theorem match_iff {L : List Sg} (hA : Apart L) (s : L8) : matchB L s = true ↔ Lang L s := by
  have h := inv_run hA s _ [] (inv_start hA) L.length (Nat.le_refl _)
  rw [List.nil_append] at h
  unfold matchB
  rw [h]
  unfold AtS
  rw [manyAt_end (Nat.le_refl _)]
  simp
end Go.Proofs.YtokocfoeohddfaaGreatDoor.Pa
