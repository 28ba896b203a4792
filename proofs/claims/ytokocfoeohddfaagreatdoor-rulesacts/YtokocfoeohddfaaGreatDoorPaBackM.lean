/- path: parent, base, common, under, behind, by parts. (A template.) -/
import Derived.Test.YtokocfoeohddfaaGreatDoorPaFine
namespace Go.Proofs.YtokocfoeohddfaaGreatDoor.Pa
open Go.RowKit
set_option linter.unusedVariables false
set_option linter.unusedSimpArgs false
set_option maxRecDepth 100000

theorem glue_parts (l : L8) : glue (parts l) = l := by
  unfold parts; split
  · next h => subst h; rfl
  · exact glue_cut l
theorem cut_mid (a b : L8) : cut (a ++ 47 :: b) = cut a ++ cut b := by
  induction a with
  | nil => show cut (47 :: b) = [] :: cut b; rw [cut, if_pos rfl]
  | cons c a ih =>
    rw [List.cons_append, cut, cut, ih]
    split
    · rfl
    · rcases hc : cut a with _ | ⟨p, r⟩
      · exact absurd hc (cut_ne a)
      · rfl
theorem cut_hd (l : L8) : cut l = (cut l).headD [] :: (cut l).tail := by
  rcases hc : cut l with _ | ⟨p, r⟩
  · exact absurd hc (cut_ne l)
  · rfl
theorem cut_app (c d : L8) : ∃ I z, cut c = I ++ [z] ∧ cut (c ++ d) = I ++ (z ++ (cut d).headD []) :: (cut d).tail := by
  induction c with
  | nil => exact ⟨[], [], rfl, by rw [List.nil_append, List.nil_append, List.nil_append]; exact cut_hd d⟩
  | cons x c ih =>
    obtain ⟨I, z, h1, h2⟩ := ih
    rw [List.cons_append, cut, cut, h1, h2]
    by_cases hx : x = 47
    · rw [if_pos hx, if_pos hx]
      exact ⟨[] :: I, z, rfl, rfl⟩
    · rw [if_neg hx, if_neg hx]
      cases I with
      | nil => exact ⟨[], x :: z, rfl, rfl⟩
      | cons y I => exact ⟨(x :: y) :: I, z, rfl, rfl⟩
theorem glue_app {a b : List L8} (ha : a ≠ []) (hb : b ≠ []) : glue (a ++ b) = glue a ++ 47 :: glue b := by
  induction a with
  | nil => exact absurd rfl ha
  | cons p r ih =>
    by_cases hr : r = []
    · subst hr; rw [List.singleton_append, glue_cons p hb]; rfl
    · rw [List.cons_append, glue_cons p (by simp [hr]), ih hr, glue_cons p hr]; simp
theorem last_split (l : L8) : (lastS l = -1 ∧ ∀ c ∈ l, c ≠ 47) ∨ (∃ a b : L8, l = a ++ 47 :: b ∧ lastS l = (a.length : Nat) ∧ ∀ c ∈ b, c ≠ 47) := by
  rcases lastS_spec l with ⟨h1, h2⟩ | ⟨i, h1, h2, h3, h4⟩
  · left
    refine ⟨h1, fun c hc e => ?_⟩
    subst e
    obtain ⟨j, hj, hjc⟩ := List.getElem_of_mem hc
    exact h2 j (by rw [List.getElem?_eq_getElem hj, hjc])
  · right
    refine ⟨l.take i, l.drop (i + 1), ?_, by rw [List.length_take, h2]; congr 1; omega, fun c hc e => ?_⟩
    · obtain ⟨h5, h6⟩ := List.getElem?_eq_some_iff.1 h3
      rw [← h6, ← List.drop_eq_getElem_cons h5, List.take_append_drop]
    · subst e
      obtain ⟨j, hj, hjc⟩ := List.getElem_of_mem hc
      rw [List.length_drop] at hj
      refine h4 (i + 1 + j) (by omega) ?_
      rw [List.getElem_drop] at hjc
      rw [List.getElem?_eq_getElem (by omega), hjc]
theorem parent_cut (l : L8) : parentL l = glue (cut l).dropLast ∧ cut l = (cut l).dropLast ++ [baseL l] := by
  rcases last_split l with ⟨h1, h2⟩ | ⟨a, b, rfl, h1, h2⟩
  · rw [cut_plain h2]
    unfold parentL baseL
    rw [h1]
    exact ⟨rfl, rfl⟩
  · rw [cut_mid, cut_plain h2]
    unfold parentL baseL
    rw [h1]
    have e1 : (((a.length : Nat) : Int)).toNat = a.length := by omega
    have e2 : (((a.length : Nat) : Int) + 1).toNat = a.length + 1 := by omega
    rw [e1, e2]
    have e3 : (cut a ++ [b]).dropLast = cut a := by simp
    have e4 : (a ++ 47 :: b).take a.length = a := by simp
    have e5 : (a ++ 47 :: b).drop (a.length + 1) = b := by
      rw [show a ++ 47 :: b = (a ++ [47]) ++ b by simp, show a.length + 1 = (a ++ [47]).length by simp, List.drop_left]
    rw [e3, e4, e5, glue_cut]
    exact ⟨rfl, rfl⟩

def cp : List L8 → List L8 → List L8
  | x :: a, y :: b => if x = y then x :: cp a b else []
  | _, _ => []
theorem cp_app (I a b : List L8) : cp (I ++ a) (I ++ b) = I ++ cp a b := by
  induction I with
  | nil => rfl
  | cons x I ih => simp [cp, ih]
theorem cp_nil (a : List L8) : cp a [] = [] := by cases a <;> rfl
theorem cp_comm (a b : List L8) : cp a b = cp b a := by
  induction a generalizing b with
  | nil => rw [cp_nil]; rfl
  | cons x a ih =>
    cases b with
    | nil => rfl
    | cons y b =>
      simp only [cp]
      by_cases h : x = y
      · subst h; simp [ih b]
      · rw [if_neg h, if_neg (fun e => h e.symm)]
theorem cp_pre (a b : List L8) : cp a b <+: a ∧ cp a b <+: b := by
  induction a generalizing b with
  | nil => simp [cp]
  | cons x a ih =>
    cases b with
    | nil => simp [cp]
    | cons y b =>
      simp only [cp]
      split
      · next h => subst h; exact ⟨by simpa using (ih b).1, by simpa using (ih b).2⟩
      · simp
theorem pre_cp {d a b : List L8} (h1 : d <+: a) (h2 : d <+: b) : d <+: cp a b := by
  obtain ⟨r, rfl⟩ := h1
  obtain ⟨t, rfl⟩ := h2
  rw [cp_app]
  exact ⟨_, rfl⟩

theorem alike_split (a b : L8) : ∃ c a' b', a = c ++ a' ∧ b = c ++ b' ∧ c.length = alikeN a b ∧ (a' = [] ∨ b' = [] ∨ a'.head? ≠ b'.head?) := by
  induction a generalizing b with
  | nil => exact ⟨[], [], b, rfl, rfl, by simp [alikeN], .inl rfl⟩
  | cons x a ih =>
    cases b with
    | nil => exact ⟨[], x :: a, [], rfl, rfl, by simp [alikeN], .inr (.inl rfl)⟩
    | cons y b =>
      by_cases h : x = y
      · subst h
        obtain ⟨c, a', b', h1, h2, h3, h4⟩ := ih b
        exact ⟨x :: c, a', b', by rw [h1]; rfl, by rw [h2]; rfl, by simp [alikeN, h3], h4⟩
      · exact ⟨[], x :: a, y :: b, rfl, rfl, by simp [alikeN, h], .inr (.inr (by simpa using h))⟩
theorem ends_app (c d : L8) : endsB (c ++ d) c.length = decide (d = [] ∨ d.head? = some 47) := by
  unfold endsB
  apply decide_eq_decide.2
  cases d with
  | nil => simp
  | cons x d =>
    have h : (c ++ x :: d)[c.length]? = some x := by simp
    rw [bt_of h]
    simp only [List.length_append, List.length_cons, List.head?_cons, Option.some.injEq, reduceCtorEq, false_or]
    constructor
    · rintro (h | h)
      · omega
      · exact UInt8.toNat_inj.1 (by have : x.toNat = 47 := by omega
                                    rw [this]; rfl)
    · intro h; right; subst h; rfl
theorem hd_slash (r : L8) : cut (47 :: r) = [] :: cut r := by rw [cut, if_pos rfl]
theorem hd_other {x : UInt8} (r : L8) (h : x ≠ 47) : ∃ u t, cut (x :: r) = (x :: u) :: t := by rw [cut, if_neg h]; exact ⟨_, _, rfl⟩
theorem common_cut (a b : L8) : commonL a b = glue (cp (cut a) (cut b)) := by
  obtain ⟨c, a', b', rfl, rfl, h3, h4⟩ := alike_split a b
  unfold commonL
  rw [← h3, ends_app, ends_app, List.take_left]
  obtain ⟨I, z, e1, e2⟩ := cut_app c a'
  obtain ⟨I', z', e1', e3⟩ := cut_app c b'
  rw [e1] at e1'
  have eI : I = I' := by have := congrArg List.dropLast e1'; simpa using this
  subst eI
  have ez : z = z' := by have := congrArg List.getLast? e1'; simpa using this
  subst ez
  rw [e2, e3, cp_app]
  have hpar : parentL c = glue I := by rw [(parent_cut c).1, e1]; simp
  have hglue : glue (I ++ [z]) = c := by rw [← e1, glue_cut]
  have key : ∀ x : L8, (x = [] ∨ x.head? = some 47) → (cut x).headD [] = [] := by
    intro x hx
    cases x with
    | nil => rfl
    | cons y x =>
      rcases hx with h | h
      · cases h
      · simp at h; subst h; rw [hd_slash]; rfl
  have key2 : ∀ x : L8, ¬ (x = [] ∨ x.head? = some 47) → ∃ y u, x.head? = some y ∧ (cut x).headD [] = y :: u := by
    intro x hx
    cases x with
    | nil => exact absurd (.inl rfl) hx
    | cons y x =>
      obtain ⟨u, t, h⟩ := hd_other (x := y) x (fun e => hx (.inr (by rw [e]; rfl)))
      exact ⟨y, u, rfl, by rw [h]; rfl⟩
  by_cases ha : a' = [] ∨ a'.head? = some 47
  · by_cases hb : b' = [] ∨ b'.head? = some 47
    · rw [if_pos ⟨by simpa using ha, by simpa using hb⟩, key _ ha, key _ hb]
      have ht : cp (cut a').tail (cut b').tail = [] := by
        rcases ha with rfl | ha
        · rfl
        · rcases hb with rfl | hb
          · exact cp_nil _
          · rcases h4 with h | h | h
            · subst h; rfl
            · subst h; exact cp_nil _
            · exact absurd (ha.trans hb.symm) h
      simp only [cp, List.append_nil, if_true, ht]
      exact hglue.symm
    · rw [if_neg (by intro h; exact hb (by simpa using h.2)), key _ ha]
      obtain ⟨y, u, _, h⟩ := key2 _ hb
      rw [h, hpar]
      simp [cp]
  · rw [if_neg (by intro h; exact ha (by simpa using h.1))]
    obtain ⟨y, u, hy, h⟩ := key2 _ ha
    rw [h, hpar]
    by_cases hb : b' = [] ∨ b'.head? = some 47
    · rw [key _ hb]; simp [cp]
    · obtain ⟨y', u', hy', h'⟩ := key2 _ hb
      rw [h']
      have hne : y ≠ y' := by
        rcases h4 with g | g | g
        · exact absurd (.inl g) ha
        · exact absurd (.inl g) hb
        · intro e; subst e; exact g (hy.trans hy'.symm)
      simp [cp, hne]
theorem common_parts (a b : L8) : commonL a b = glue (cp (parts a) (parts b)) := by
  rw [common_cut]
  unfold parts
  by_cases ha : a = []
  · subst ha
    rw [if_pos rfl]
    have e1 : cut ([] : L8) = [[]] := rfl
    rw [e1, cut_hd b]
    simp only [cp]
    split <;> simp [cp, glue]
  · rw [if_neg ha]
    by_cases hb : b = []
    · subst hb
      rw [if_pos rfl, cp_nil]
      have e1 : cut ([] : L8) = [[]] := rfl
      rw [e1, cut_hd a]
      simp only [cp]
      split
      · next h => rw [cp_nil, h]; rfl
      · rfl
    · rw [if_neg hb]
theorem under_parts (p top : L8) : underB p top = true ↔ parts top <+: parts p := by
  unfold underB
  rw [decide_eq_true_iff]
  by_cases h0 : top = []
  · subst h0
    simp [parts]
  · have ht : parts top = cut top := by unfold parts; rw [if_neg h0]
    rw [ht]
    constructor
    · rintro (h | ⟨h1, h2⟩)
      · exact absurd h h0
      · obtain ⟨r, rfl⟩ := List.isPrefixOf_iff_prefix.1 h1
        rw [ends_app, decide_eq_true_iff] at h2
        have hp : parts (top ++ r) = cut (top ++ r) := by unfold parts; rw [if_neg (by simp [h0])]
        rw [hp]
        cases r with
        | nil => rw [List.append_nil]; exact List.prefix_refl _
        | cons x r =>
          simp at h2
          subst h2
          rw [cut_mid]
          exact ⟨_, rfl⟩
    · intro h
      right
      have hp0 : p ≠ [] := by
        intro e; subst e
        obtain ⟨m, hm⟩ := h
        simp [parts] at hm
        exact cut_ne top hm.1
      have hp : parts p = cut p := by unfold parts; rw [if_neg hp0]
      rw [hp] at h
      obtain ⟨m, hm⟩ := h
      have e : p = glue (cut top ++ m) := by rw [hm, glue_cut]
      by_cases hm0 : m = []
      · subst hm0
        rw [List.append_nil, glue_cut] at e
        subst e
        refine ⟨List.isPrefixOf_iff_prefix.2 (List.prefix_refl _), ?_⟩
        have := ends_app p []
        rw [List.append_nil] at this
        rw [this]; simp
      · rw [glue_app (cut_ne top) hm0, glue_cut] at e
        subst e
        refine ⟨List.isPrefixOf_iff_prefix.2 ⟨_, rfl⟩, ?_⟩
        rw [ends_app]; simp
theorem rel_parts {p top : L8} (h : underB p top = true) : relL p top = glue ((parts p).drop (parts top).length) := by
  unfold relL
  rw [if_pos h]
  by_cases h0 : top = []
  · subst h0
    rw [if_pos rfl]
    show p = glue ((parts p).drop 0)
    rw [List.drop_zero, glue_parts]
  · rw [if_neg h0]
    obtain ⟨m, hm⟩ := (under_parts p top).1 h
    have ht : parts top = cut top := by unfold parts; rw [if_neg h0]
    have e : p = glue (parts top ++ m) := by rw [hm, glue_parts]
    rw [← hm, List.drop_left]
    by_cases hm0 : m = []
    · subst hm0
      rw [List.append_nil, glue_parts] at e
      subst e
      rw [List.drop_length]; rfl
    · rw [ht, glue_app (cut_ne top) hm0, glue_cut] at e
      rw [e, List.drop_left]
      unfold Lib.trimPrefix Lib.hasPrefix
      rw [if_pos (by simp)]; rfl
end Go.Proofs.YtokocfoeohddfaaGreatDoor.Pa
