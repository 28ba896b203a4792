/- glob: the signs of a pattern, in numbers and plain lists of bytes. (A template.) -/
import Derived.Test.YtokocfoeohddfaaGreatDoorGlClass
import Derived.Test.YtokocfoeohddfaaGreatDoorGlBase
namespace Go.Proofs.YtokocfoeohddfaaGreatDoor.Pa
set_option linter.unusedVariables false
set_option linter.unusedSimpArgs false
set_option maxRecDepth 100000

/-- a sign: which bytes, as many as there may be, itself, which byte -/
structure Sg where
  S : Nat → Bool
  many : Bool
  itself : Bool
  c : Nat

theorem rb_ok {l : L8} {a : Nat} (h : (rb l a).2.2 = true) : rbAt l a < l.length ∧ rb l a = (bt l (rbAt l a), (rbAt l a : Int) + 1, true) := by
  unfold rb at h ⊢
  by_cases h1 : rbAt l a < l.length
  · rw [if_pos h1]; exact ⟨h1, rfl⟩
  · rw [if_neg h1] at h; simp at h
theorem rbAt_le (l : L8) (a : Nat) : a ≤ rbAt l a ∧ rbAt l a ≤ a + 1 := by unfold rbAt; split <;> omega
def nb (l : L8) (i : Nat) : Nat := (l.getD i 0).toNat
theorem bt_nb (l : L8) (i : Nat) : bt l i = (nb l i : Int) := rfl
theorem nb_lt (l : L8) (i : Nat) : nb l i < 256 := (l.getD i 0).toNat_lt
/-- the byte that stands for itself at a place, and the place behind -/
def rbN (l : L8) (a : Nat) : Option (Nat × Nat) := if rbAt l a < l.length then some (nb l (rbAt l a), rbAt l a + 1) else none
theorem rb_some {l : L8} {a c b : Nat} (h : rbN l a = some (c, b)) : rb l a = ((c : Int), (b : Int), true) ∧ c < 256 ∧ a < b ∧ b ≤ l.length ∧ b ≤ a + 2 := by
  unfold rbN at h
  have hr := rbAt_le l a
  split at h
  · next h1 =>
    simp only [Option.some.injEq, Prod.mk.injEq] at h
    obtain ⟨rfl, rfl⟩ := h
    refine ⟨?_, nb_lt _ _, by omega, by omega, by omega⟩
    unfold rb
    rw [if_pos h1, bt_nb]
    rfl
  · cases h
theorem rb_none {l : L8} {a : Nat} (h : rbN l a = none) : rb l a = (0, 0, false) := by
  unfold rbN at h
  split at h
  · cases h
  · next h1 => unfold rb; rw [if_neg h1]
/-- the member of a class at a place: its first byte, its last one, the place behind -/
def rm (l : L8) (a : Nat) : Option (Nat × Nat × Nat) :=
  match rbN l a with
  | none => none
  | some (f, b) =>
    if ([45].isPrefixOf (l.drop b) = false) ∨ [45, 93].isPrefixOf (l.drop b) = true then some (f, f, b)
    else match rbN l (b + 1) with
      | none => none
      | some (g, d) => if f ≤ g then some (f, g, d) else none
theorem rm_bd {l : L8} {a f g b : Nat} (h : rm l a = some (f, g, b)) : f < 256 ∧ g < 256 ∧ a < b ∧ b ≤ l.length := by
  unfold rm at h
  cases hx : rbN l a with
  | none => rw [hx] at h; simp at h
  | some x =>
    obtain ⟨f1, b1⟩ := x
    have h1 := rb_some hx
    rw [hx] at h
    simp only at h
    split at h
    · simp only [Option.some.injEq, Prod.mk.injEq] at h
      omega
    · cases hy : rbN l (b1 + 1) with
      | none => rw [hy] at h; simp at h
      | some y =>
        obtain ⟨g1, d1⟩ := y
        have h2 := rb_some hy
        rw [hy] at h
        simp only at h
        split at h
        · simp only [Option.some.injEq, Prod.mk.injEq] at h
          omega
        · cases h
/-- a class from the place of a member on, so much of it being read -/
def cls (l : L8) : Nat → Nat → (Nat → Bool) → Option ((Nat → Bool) × Nat)
  | 0, _, _ => none
  | n + 1, a, S =>
    if a < l.length then
      if nb l a = 93 then (if emptyS S = true then none else some (S, a + 1))
      else match rm l a with
        | none => none
        | some (f, g, b) => cls l n b (spanS S f (g + 1))
    else none
def stars (l : L8) (a : Nat) : Nat := ((l.drop a).takeWhile (· == 42)).length
def classSg (nt : Bool) (S : Nat → Bool) : Sg := ⟨dropS (if nt then turnS S else S) 47, false, false, 0⟩
def bang (l : L8) (a : Nat) : Bool := [33].isPrefixOf (l.drop (a + 1))
/-- the sign at a place, and the place behind -/
def sgn (l : L8) (a : Nat) : Option (Sg × Nat) :=
  if nb l a = 91 then
    match cls l (l.length + 1) (if bang l a then a + 2 else a + 1) noneS with
    | none => none
    | some (S, b) => some (classSg (bang l a) S, b)
  else if nb l a = 63 then some (⟨dropS allS 47, false, false, 0⟩, a + 1)
  else if nb l a = 42 then some (if stars l a > 1 then ⟨allS, true, false, 0⟩ else ⟨dropS allS 47, true, false, 0⟩, a + stars l a)
  else match rbN l a with
    | none => none
    | some (c, b) => some (⟨addS noneS c, false, true, c⟩, b)
/-- all signs from a place on -/
def sgns (l : L8) : Nat → Nat → Option (List Sg)
  | 0, _ => none
  | n + 1, a =>
    if a < l.length then
      match sgn l a with
      | none => none
      | some (x, b) => (sgns l n b).map (x :: ·)
    else some []
def readP (l : L8) : Option (List Sg) := if l.length ≤ 100 then sgns l (l.length + 1) 0 else none
def readE (l : L8) : Int := if l.length ≤ 100 then (if (sgns l (l.length + 1) 0).isSome then 0 else 5) else 7
theorem cls_bd {l : L8} : ∀ n a S T b, cls l n a S = some (T, b) → a < b ∧ b ≤ l.length := by
  intro n
  induction n with
  | zero => intro a S T b h; simp [cls] at h
  | succ n ih =>
    intro a S T b h
    rw [cls] at h
    split at h
    · next h1 =>
      split at h
      · split at h
        · cases h
        · simp only [Option.some.injEq, Prod.mk.injEq] at h; omega
      · cases hm : rm l a with
        | none => rw [hm] at h; simp at h
        | some x =>
          obtain ⟨f, g, d⟩ := x
          rw [hm] at h
          have h2 := rm_bd hm
          have h3 := ih _ _ _ _ h
          omega
    · cases h
theorem cls_fuel {l : L8} : ∀ n m a S, l.length < a + n → l.length < a + m → cls l n a S = cls l m a S := by
  intro n
  induction n with
  | zero => intro m a S h1 h2; rw [cls]; cases m with
    | zero => rw [cls]
    | succ m => rw [cls, if_neg (by omega)]
  | succ n ih =>
    intro m a S h1 h2
    cases m with
    | zero => rw [cls, cls, if_neg (by omega)]
    | succ m =>
      rw [cls, cls]
      split
      · split
        · rfl
        · cases hm : rm l a with
          | none => rfl
          | some x =>
            obtain ⟨f, g, d⟩ := x
            have h3 := rm_bd hm
            exact ih m d _ (by omega) (by omega)
      · rfl
theorem stars_pos {l : L8} {a : Nat} (h : a < l.length) (h2 : nb l a = 42) : 1 ≤ stars l a ∧ a + stars l a ≤ l.length := by
  have e : l.drop a = l[a] :: l.drop (a + 1) := List.drop_eq_getElem_cons h
  have ha : l[a] = 42 := by
    unfold nb at h2
    rw [List.getD_eq_getElem?_getD, List.getElem?_eq_getElem h] at h2
    exact UInt8.toNat_inj.1 (by simpa using h2)
  unfold stars
  constructor
  · rw [e, ha]; simp
  · have := (List.takeWhile_prefix (l := l.drop a) (· == (42 : UInt8))).length_le
    rw [List.length_drop] at this
    omega
theorem sgn_bd {l : L8} {a b : Nat} {x : Sg} (ha : a < l.length) (h : sgn l a = some (x, b)) : a < b ∧ b ≤ l.length := by
  unfold sgn at h
  split at h
  · cases hc : cls l (l.length + 1) (if bang l a = true then a + 2 else a + 1) noneS with
    | none => rw [hc] at h; simp at h
    | some y =>
      obtain ⟨S, d⟩ := y
      rw [hc] at h
      have := cls_bd _ _ _ _ _ hc
      simp only [Option.some.injEq, Prod.mk.injEq] at h
      split at this <;> omega
  · split at h
    · simp only [Option.some.injEq, Prod.mk.injEq] at h; omega
    · split at h
      · next h2 =>
        have := stars_pos ha h2
        simp only [Option.some.injEq, Prod.mk.injEq] at h; omega
      · cases hr : rbN l a with
        | none => rw [hr] at h; simp at h
        | some y =>
          obtain ⟨c, d⟩ := y
          rw [hr] at h
          have := rb_some hr
          simp only [Option.some.injEq, Prod.mk.injEq] at h; omega
theorem sgns_fuel {l : L8} : ∀ n m a, a ≤ l.length → l.length < a + n → l.length < a + m → sgns l n a = sgns l m a := by
  intro n
  induction n with
  | zero => intro m a h0 h1 h2; omega
  | succ n ih =>
    intro m a h0 h1 h2
    cases m with
    | zero => omega
    | succ m =>
      rw [sgns, sgns]
      split
      · next h3 =>
        cases hs : sgn l a with
        | none => rfl
        | some x =>
          obtain ⟨x, b⟩ := x
          have := sgn_bd h3 hs
          simp only
          rw [ih m b (by omega) (by omega) (by omega)]
      · rfl

/-! which places of a pattern some way has come to -/
def reachS (L : List Sg) (T : Nat → Bool) (i : Nat) : Nat → Bool := if (L[i]?.map (·.many)).getD false = true then addS (addS T i) (i + 1) else addS T i
def stepK (L : List Sg) (T : Nat → Bool) (c : Nat) : Nat → Nat → Bool
  | 0 => noneS
  | k + 1 => match L[k]? with
    | none => stepK L T c k
    | some x => if T k = true ∧ x.S c = true then reachS L (stepK L T c k) (if x.many then k else k + 1) else stepK L T c k
def stepS (L : List Sg) (T : Nat → Bool) (c : Nat) : Nat → Bool := stepK L T c L.length
def runS (L : List Sg) : (Nat → Bool) → L8 → Nat → Bool
  | T, [] => T
  | T, c :: s => runS L (stepS L T c.toNat) s
def matchB (L : List Sg) (s : L8) : Bool := runS L (reachS L noneS 0) s L.length
end Go.Proofs.YtokocfoeohddfaaGreatDoor.Pa
