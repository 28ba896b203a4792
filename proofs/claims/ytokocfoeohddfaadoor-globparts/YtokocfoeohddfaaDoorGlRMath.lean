/- glob: the document's own reading of a pattern, in numbers and plain lists; it comes to the program's. (A template.) -/
import Derived.Test.YtokocfoeohddfaaDoorGlLang
namespace Go.Proofs.YtokocfoeohddfaaDoor.Pa
set_option linter.unusedVariables false
set_option linter.unusedSimpArgs false
set_option maxRecDepth 100000

/-- the document's member of a class at a place -/
def rmR (l : L8) (a : Nat) : Option (Nat × Nat × Nat) :=
  match rbN l a with
  | none => none
  | some (f, b) =>
    if b + 1 < l.length ∧ nb l b = 45 ∧ nb l (b + 1) ≠ 93 then
      match rbN l (b + 1) with
      | none => none
      | some (g, d) => if f ≤ g then some (f, g, d) else none
    else some (f, f, b)
def clsR (l : L8) : Nat → Nat → (Nat → Bool) → Nat → Option ((Nat → Bool) × Nat)
  | 0, _, _, _ => none
  | n + 1, a, S, k =>
    if a < l.length ∧ nb l a ≠ 93 then match rmR l a with
      | none => none
      | some (f, g, b) => clsR l n b (spanS S f (g + 1)) (k + 1)
    else if a < l.length ∧ 0 < k then some (S, a + 1) else none
theorem nb_cons {l : L8} {i : Nat} (h : i < l.length) : ∃ c r, l.drop i = c :: r ∧ nb l i = c.toNat ∧ r = l.drop (i + 1) := by
  refine ⟨l[i], l.drop (i + 1), List.drop_eq_getElem_cons h, ?_, rfl⟩
  unfold nb
  rw [List.getD_eq_getElem?_getD, List.getElem?_eq_getElem h]
  rfl
theorem pre_one (l : L8) (b : Nat) : [45].isPrefixOf (l.drop b) = true ↔ b < l.length ∧ nb l b = 45 := by
  by_cases h : b < l.length
  · obtain ⟨c, r, h1, h2, _⟩ := nb_cons h
    rw [h1, h2]
    simp [List.isPrefixOf, h]
    constructor
    · intro e; rw [← e]; rfl
    · intro e; exact (UInt8.toNat_inj.1 e).symm
  · rw [List.drop_eq_nil_of_le (by omega)]
    simp [List.isPrefixOf, h]
theorem pre_two (l : L8) (b : Nat) : [45, 93].isPrefixOf (l.drop b) = true ↔ b + 1 < l.length ∧ nb l b = 45 ∧ nb l (b + 1) = 93 := by
  by_cases h : b < l.length
  · obtain ⟨c, r, h1, h2, h3⟩ := nb_cons h
    rw [h1, h2]
    by_cases h' : b + 1 < l.length
    · obtain ⟨d, q, k1, k2, k3⟩ := nb_cons h'
      rw [h3, k1, k2]
      simp [List.isPrefixOf, h']
      constructor
      · rintro ⟨e1, e2⟩; rw [← e1, ← e2]; exact ⟨rfl, rfl⟩
      · rintro ⟨e1, e2⟩; exact ⟨(UInt8.toNat_inj.1 e1).symm, (UInt8.toNat_inj.1 e2).symm⟩
    · rw [h3, List.drop_eq_nil_of_le (by omega)]
      simp [List.isPrefixOf, h']
  · rw [List.drop_eq_nil_of_le (by omega)]
    simp [List.isPrefixOf]
    omega
theorem rmR_bd {l : L8} {a f g b : Nat} (h : rmR l a = some (f, g, b)) : f < 256 ∧ g < 256 ∧ f ≤ g ∧ a < b ∧ b ≤ l.length := by
  unfold rmR at h
  cases hx : rbN l a with
  | none => rw [hx] at h; simp at h
  | some x =>
    obtain ⟨f1, b1⟩ := x
    have h1 := rb_some hx
    rw [hx] at h
    simp only at h
    split at h
    · cases hy : rbN l (b1 + 1) with
      | none => rw [hy] at h; simp at h
      | some y =>
        obtain ⟨g1, d1⟩ := y
        have h2 := rb_some hy
        rw [hy] at h
        simp only at h
        split at h
        · simp only [Option.some.injEq, Prod.mk.injEq] at h
          omega
        · cases h
    · simp only [Option.some.injEq, Prod.mk.injEq] at h
      omega
theorem empty_span (S : Nat → Bool) (f g : Nat) (h : f ≤ g) (hf : f < 256) : emptyS (spanS S f (g + 1)) = false := by
  rw [Bool.eq_false_iff]
  intro e
  have := (emptyS_iff _).1 e f hf
  unfold spanS at this
  simp at this
  omega
theorem rb_dash {l : L8} {b : Nat} (h : b < l.length) (h2 : nb l b = 45) : rbN l b = some (45, b + 1) := by
  have e : rbAt l b = b := if_neg (fun h => by have := h.2; rw [bt_nb, h2] at this; omega)
  unfold rbN
  rw [e, if_pos h, h2]
theorem clsR_cls (l : L8) : ∀ n a S k, (emptyS S = true ↔ k = 0) → clsR l n a S k = cls l n a S := by
  intro n
  induction n with
  | zero => intro a S k _; rfl
  | succ n ih =>
    intro a S k hk
    rw [clsR, cls]
    by_cases ha : a < l.length
    · rw [if_pos ha]
      by_cases h93 : nb l a = 93
      · rw [if_neg (fun h => h.2 h93), if_pos h93]
        by_cases h0 : k = 0
        · rw [if_neg (by omega), if_pos (hk.2 h0)]
        · rw [if_pos ⟨ha, by omega⟩, if_neg (fun h => h0 (hk.1 h))]
      · rw [if_pos ⟨ha, h93⟩, if_neg h93]
        unfold rmR rm
        cases hx : rbN l a with
        | none => rfl
        | some x =>
          obtain ⟨f, b⟩ := x
          have h1 := rb_some hx
          simp only
          by_cases hA : b + 1 < l.length ∧ nb l b = 45 ∧ nb l (b + 1) ≠ 93
          · have hp1 : [45].isPrefixOf (l.drop b) = true := (pre_one l b).2 ⟨by omega, hA.2.1⟩
            have hp2 : ¬ [45, 93].isPrefixOf (l.drop b) = true := fun h => hA.2.2 ((pre_two l b).1 h).2.2
            rw [if_pos hA, if_neg (by rw [hp1]; simp [hp2])]
            cases hy : rbN l (b + 1) with
            | none => rfl
            | some y =>
              obtain ⟨g, d⟩ := y
              have h2 := rb_some hy
              simp only
              by_cases hfg : f ≤ g
              · rw [if_pos hfg]
                exact ih _ _ _ (by rw [empty_span S f g hfg h1.2.1]; simp)
              · rw [if_neg hfg]
          · rw [if_neg hA]
            by_cases hB : b < l.length ∧ nb l b = 45 ∧ ¬ b + 1 < l.length
            · have hp1 : [45].isPrefixOf (l.drop b) = true := (pre_one l b).2 ⟨hB.1, hB.2.1⟩
              have hp2 : ¬ [45, 93].isPrefixOf (l.drop b) = true := fun h => hB.2.2 ((pre_two l b).1 h).1
              rw [if_neg (by rw [hp1]; simp [hp2])]
              have hn : rbN l (b + 1) = none := by
                unfold rbN
                rw [if_neg]
                have := rbAt_le l (b + 1)
                omega
              rw [hn]
              simp only
              cases n with
              | zero => rfl
              | succ m =>
                rw [clsR, if_pos ⟨hB.1, by omega⟩]
                unfold rmR
                rw [rb_dash hB.1 hB.2.1]
                simp only
                rw [if_neg (by omega)]
                simp only
                cases m with
                | zero => rfl
                | succ m => rw [clsR, if_neg (by omega), if_neg (by omega)]
            · have hp : ([45].isPrefixOf (l.drop b) = false) ∨ [45, 93].isPrefixOf (l.drop b) = true := by
                by_cases hb : b < l.length ∧ nb l b = 45
                · right
                  rw [pre_two]
                  omega
                · left
                  rw [Bool.eq_false_iff]
                  exact fun h => hb ((pre_one l b).1 h)
              rw [if_pos hp]
              exact ih _ _ _ (by rw [empty_span S f f (Nat.le_refl _) h1.2.1]; simp)
    · rw [if_neg (fun h => ha h.1), if_neg (fun h => ha h.1), if_neg ha]
theorem clsR_bd {l : L8} : ∀ n a S k T b, clsR l n a S k = some (T, b) → a < b ∧ b ≤ l.length := by
  intro n
  induction n with
  | zero => intro a S k T b h; simp [clsR] at h
  | succ n ih =>
    intro a S k T b h
    rw [clsR] at h
    split at h
    · cases hm : rmR l a with
      | none => rw [hm] at h; simp at h
      | some x =>
        obtain ⟨f, g, d⟩ := x
        rw [hm] at h
        have h2 := rmR_bd hm
        have h3 := ih _ _ _ _ _ h
        omega
    · split at h
      · simp only [Option.some.injEq, Prod.mk.injEq] at h; omega
      · cases h
theorem clsR_fuel {l : L8} : ∀ n m a S k, l.length < a + n → l.length < a + m → clsR l n a S k = clsR l m a S k := by
  intro n
  induction n with
  | zero => intro m a S k h1 h2; rw [clsR]; cases m with
    | zero => rw [clsR]
    | succ m => rw [clsR, if_neg (by omega), if_neg (by omega)]
  | succ n ih =>
    intro m a S k h1 h2
    cases m with
    | zero => rw [clsR, clsR, if_neg (by omega), if_neg (by omega)]
    | succ m =>
      rw [clsR, clsR]
      split
      · cases hm : rmR l a with
        | none => rfl
        | some x =>
          obtain ⟨f, g, d⟩ := x
          have h3 := rmR_bd hm
          exact ih m d _ _ (by omega) (by omega)
      · rfl

/-- a sign of the document: its kind, its byte, is it turned, its members -/
structure Rg where
  kind : Nat
  c : Nat
  nt : Bool
  S : Nat → Bool
def Rg.sg (x : Rg) : Sg :=
  if x.kind = 0 then ⟨addS noneS x.c, false, true, x.c⟩
  else if x.kind = 3 then ⟨allS, true, false, 0⟩
  else if x.kind = 4 then classSg x.nt x.S
  else ⟨dropS allS 47, decide (x.kind = 2), false, 0⟩
def sgnR (l : L8) (a : Nat) : Option (Rg × Nat) :=
  if nb l a = 91 then
    match clsR l (l.length + 1) (if bang l a then a + 2 else a + 1) noneS 0 with
    | none => none
    | some (S, b) => some (⟨4, 0, bang l a, S⟩, b)
  else if nb l a = 63 then some (⟨1, 63, false, noneS⟩, a + 1)
  else if nb l a = 42 then some (⟨if stars l a > 1 then 3 else 2, 42, false, noneS⟩, a + stars l a)
  else match rbN l a with
    | none => none
    | some (c, b) => some (⟨0, c, false, noneS⟩, b)
theorem emptyS_none : emptyS noneS = true := (emptyS_iff _).2 fun _ _ => rfl
theorem sgnR_sg (l : L8) (a : Nat) : sgn l a = (sgnR l a).map fun x => (x.1.sg, x.2) := by
  unfold sgn sgnR
  split
  · rw [clsR_cls l _ _ _ _ (by rw [emptyS_none]; simp)]
    cases cls l (l.length + 1) (if bang l a = true then a + 2 else a + 1) noneS <;> rfl
  · split
    · rfl
    · split
      · by_cases h : stars l a > 1 <;> simp [h, Rg.sg]
      · cases rbN l a <;> rfl
def sgnsR (l : L8) : Nat → Nat → Option (List Rg)
  | 0, _ => none
  | n + 1, a =>
    if a < l.length then
      match sgnR l a with
      | none => none
      | some (x, b) => (sgnsR l n b).map (x :: ·)
    else some []
theorem sgnsR_sg (l : L8) : ∀ n a, sgns l n a = (sgnsR l n a).map (List.map Rg.sg) := by
  intro n
  induction n with
  | zero => intro a; rfl
  | succ n ih =>
    intro a
    rw [sgns, sgnsR]
    split
    · rw [sgnR_sg]
      cases sgnR l a with
      | none => rfl
      | some x =>
        obtain ⟨x, b⟩ := x
        simp only [Option.map_some]
        rw [ih b]
        cases sgnsR l n b <;> simp
    · rfl
theorem sgnR_bd {l : L8} {a b : Nat} {x : Rg} (ha : a < l.length) (h : sgnR l a = some (x, b)) : a < b ∧ b ≤ l.length :=
  sgn_bd ha (by rw [sgnR_sg, h]; rfl)
theorem sgnsR_fuel {l : L8} : ∀ n m a, a ≤ l.length → l.length < a + n → l.length < a + m → sgnsR l n a = sgnsR l m a := by
  intro n
  induction n with
  | zero => intro m a h0 h1 h2; omega
  | succ n ih =>
    intro m a h0 h1 h2
    cases m with
    | zero => omega
    | succ m =>
      rw [sgnsR, sgnsR]
      split
      · next h3 =>
        cases hs : sgnR l a with
        | none => rfl
        | some x =>
          obtain ⟨x, b⟩ := x
          have := sgnR_bd h3 hs
          simp only
          rw [ih m b (by omega) (by omega) (by omega)]
      · rfl
def readR (l : L8) : Option (List Rg) := sgnsR l (l.length + 1) 0
theorem readE_R (l : L8) : readE l = if l.length ≤ 100 then (if (readR l).isSome then 0 else 5) else 7 := by
  unfold readE readR
  rw [sgnsR_sg]
  simp
theorem readP_R (l : L8) : readP l = if l.length ≤ 100 then (readR l).map (List.map Rg.sg) else none := by
  unfold readP readR
  rw [sgnsR_sg]

end Go.Proofs.YtokocfoeohddfaaDoor.Pa
