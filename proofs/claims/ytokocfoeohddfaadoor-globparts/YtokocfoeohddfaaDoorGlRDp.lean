/- glob: the document's way to match comes to the language that the signs say. (A template.) -/
import Derived.Test.YtokocfoeohddfaaDoorGlLawM
import Derived.Test.YtokocfoeohddfaaDoorGlRMath
namespace Go.Proofs.YtokocfoeohddfaaDoor.Pa
set_option linter.unusedVariables false
set_option linter.unusedSimpArgs false
set_option maxRecDepth 100000

/-! the document's way to match: up to which places the signs so far come -/
def takesB (x : Rg) (d : Nat) : Bool := x.sg.S d
def dpRow (x : Rg) (s : L8) (T : Nat → Bool) : Nat → Bool
  | 0 => if x.sg.many then T 0 else false
  | k + 1 => if x.sg.many then T (k + 1) || (dpRow x s T k && takesB x (nb s k)) else T k && takesB x (nb s k)
def dp (s : L8) : (Nat → Bool) → List Rg → Nat → Bool
  | T, [] => T
  | T, x :: L => dp s (dpRow x s T) L
theorem dp_snoc (s : L8) : ∀ (L : List Rg) (x : Rg) (T : Nat → Bool), dp s T (L ++ [x]) = dpRow x s (dp s T L) := by
  intro L
  induction L with
  | nil => intro x T; rfl
  | cons y L ih => intro x T; rw [List.cons_append, dp, dp]; exact ih x _
def T0 : Nat → Bool := fun k => decide (k = 0)
theorem take_nb {s : L8} {k : Nat} (h : k < s.length) : ∃ c, s.take (k + 1) = s.take k ++ [c] ∧ c.toNat = nb s k := by
  refine ⟨s[k], ?_, ?_⟩
  · rw [List.take_add_one, List.getElem?_eq_getElem h]; rfl
  · unfold nb; rw [List.getD_eq_getElem?_getD, List.getElem?_eq_getElem h]; rfl
theorem snoc_inj {a b : L8} {c d : UInt8} (h : a ++ [c] = b ++ [d]) : a = b ∧ c = d := by
  have := List.append_inj' h rfl
  exact ⟨this.1, by simpa using this.2⟩
theorem lang_dpRow {A : List Sg} {x : Rg} {s : L8} {T : Nat → Bool} (hT : ∀ k, k ≤ s.length → (T k = true ↔ Lang A (s.take k))) : ∀ k, k ≤ s.length → (dpRow x s T k = true ↔ Lang (A ++ [x.sg]) (s.take k)) := by
  intro k
  induction k with
  | zero =>
    intro _
    rw [Lang_snoc, dpRow]
    cases hm : x.sg.many with
    | true =>
      simp only [if_true]
      rw [hT 0 (Nat.zero_le _)]
      simp only [List.take_zero]
      constructor
      · intro h; exact ⟨[], [], rfl, h, by simp⟩
      · rintro ⟨s1, s2, h, h1, _⟩
        have := List.append_eq_nil_iff.1 h.symm
        rw [this.1] at h1; exact h1
    | false =>
      simp only [Bool.false_eq_true, if_false, List.take_zero, false_iff]
      rintro ⟨s1, s2, h, _, c, rfl, _⟩
      simp at h
  | succ k ih =>
    intro hk
    obtain ⟨c, hc, hcn⟩ := take_nb (show k < s.length by omega)
    rw [Lang_snoc, dpRow, hc]
    cases hm : x.sg.many with
    | true =>
      rw [Lang_snoc, hm] at ih
      simp only [if_true] at ih ⊢
      rw [Bool.or_eq_true, Bool.and_eq_true, ih (by omega), hT (k + 1) hk, hc, ← hcn]
      unfold takesB
      constructor
      · rintro (h | ⟨⟨s1, s2, h1, h2, h3⟩, h4⟩)
        · exact ⟨_, [], by simp, h, by simp⟩
        · refine ⟨s1, s2 ++ [c], by rw [h1]; simp, h2, ?_⟩
          intro d hd
          rcases List.mem_append.1 hd with hd | hd
          · exact h3 d hd
          · simp at hd; subst hd; exact h4
      · rintro ⟨s1, s2, h1, h2, h3⟩
        rcases List.eq_nil_or_concat s2 with rfl | ⟨s3, d, rfl⟩
        · left; rw [h1]; simpa using h2
        · right
          rw [List.concat_eq_append] at h1 h3
          rw [← List.append_assoc] at h1
          obtain ⟨e1, e2⟩ := snoc_inj h1
          refine ⟨⟨s1, s3, e1, h2, fun d hd => h3 d (List.mem_append_left _ hd)⟩, ?_⟩
          rw [e2]; exact h3 d (by simp)
    | false =>
      simp only [Bool.false_eq_true, if_false]
      rw [Bool.and_eq_true, hT k (by omega), ← hcn]
      unfold takesB
      constructor
      · rintro ⟨h1, h2⟩
        exact ⟨_, [c], rfl, h1, c, rfl, h2⟩
      · rintro ⟨s1, s2, h1, h2, d, rfl, h3⟩
        obtain ⟨e1, e2⟩ := snoc_inj h1
        rw [e1, e2]; exact ⟨h2, h3⟩
theorem lang_dp (s : L8) : ∀ (L : List Rg) (A : List Sg) (T : Nat → Bool), (∀ k, k ≤ s.length → (T k = true ↔ Lang A (s.take k))) → ∀ k, k ≤ s.length → (dp s T L k = true ↔ Lang (A ++ L.map Rg.sg) (s.take k)) := by
  intro L
  induction L with
  | nil => intro A T h; simpa [dp] using h
  | cons x L ih =>
    intro A T h k hk
    rw [dp, ih (A ++ [x.sg]) _ (lang_dpRow h) k hk, List.map_cons, List.append_assoc]
    rfl
theorem dp_lang (s : L8) (L : List Rg) : dp s T0 L s.length = true ↔ Lang (L.map Rg.sg) s := by
  have h := lang_dp s L [] T0 (fun k hk => by
    unfold T0
    rw [decide_eq_true_eq, Lang]
    constructor
    · rintro rfl; rfl
    · intro h; have := congrArg List.length h; simp at this; rcases this with h | h
      · exact h
      · rw [h] at hk; simpa using hk) s.length (Nat.le_refl _)
  simpa using h
/-- the document's Match is the program's -/
theorem matchP_R {p : L8} {L : List Rg} (hp : p.length ≤ 100) (h : readR p = some L) (s : L8) : matchP p s = dp s T0 L s.length := by
  have hr : readP p = some (L.map Rg.sg) := by rw [readP_R, if_pos hp, h]; rfl
  have hA := (readP_kind hr).1
  rw [Bool.eq_iff_iff, dp_lang]
  unfold matchP
  rw [hr]
  exact match_iff hA s
theorem matchP_none {p : L8} (h : readE p ≠ 0) (s : L8) : matchP p s = false := by
  unfold matchP
  cases hr : readP p with
  | none => rfl
  | some L =>
    exfalso
    apply h
    rw [readE_R]
    rw [readP_R] at hr
    split at hr
    · next hl =>
      rw [if_pos hl]
      cases hq : readR p with
      | none => rw [hq] at hr; simp at hr
      | some _ => rfl
    · cases hr
end Go.Proofs.YtokocfoeohddfaaDoor.Pa
