/- GlEsc, GlLawM, GlRMath, GlRSgn, GlRRow, GlRCls, GlRSigns, GlRDp, GlRSmall, GlREsc, GlRMatch, joined. -/
import Derived.Test.YtokocfoeohddfaaGreatDoorGlHead
import Derived.Test.YtokocfoeohddfaaGreatDoorGlBuild
import Derived.Test.YtokocfoeohddfaaGreatDoorShelf
import Derived.Test.YtokocfoeohddfaaGreatDoorGlLang
import Derived.Test.YtokocfoeohddfaaGreatDoorGlStar
import Derived.Deep.MidRow
import Derived.Great.BuildSlice
import Derived.Deep.DeepCutAuto
import Derived.Maps.AppendAt
import Derived.Laws.MakeOwn
import Derived.Deep.LoopGhost
import Derived.WalkMore
import Derived.BigQuiet
import Derived.Test.YtokocfoeohddfaaGreatDoorHeldRound
namespace Go.Proofs.YtokocfoeohddfaaGreatDoor.Pa
open Go.RowKit
set_option linter.unusedVariables false
set_option linter.unusedSimpArgs false
set_option maxRecDepth 100000

def headP (p : L8) : L8 := match readP p with | some L => headL L | none => []
def plainP (p : L8) : L8 × Bool := match readP p with | some L => (if (headL L).length < L.length then ([], false) else (headL L, true)) | none => ([], false)
def special (c : UInt8) : Bool := c == 63 || c == 42 || c == 91 || c == 92
def escC (c : UInt8) : L8 := if special c then [92, c] else [c]
def escB (s : L8) : L8 := s.flatMap escC
theorem escB_snoc {s : L8} {k : Nat} {c : UInt8} (h : s[k]? = some c) : escB (s.take (k + 1)) = escB (s.take k) ++ escC c := by
  rw [List.take_add_one, h]; simp [escB]
theorem escB_len (s : L8) : (escB s).length ≤ 2 * s.length := by
  induction s with
  | nil => simp [escB]
  | cons c s ih =>
    unfold escB at *
    rw [List.flatMap_cons, List.length_append]
    have : (escC c).length ≤ 2 := by unfold escC; split <;> simp
    rw [List.length_cons]; omega
theorem byteCells_app (a b : L8) : Lib.byteCells (a ++ b) = Lib.byteCells a ++ Lib.byteCells b := by simp [Lib.byteCells]
theorem bt_special {s : L8} {k : Nat} {c : UInt8} (h : s[k]? = some c) (n : UInt8) : (bt s k == (n.toNat : Int)) = (c == n) := by
  rw [bt_of h]
  by_cases e : c = n
  · subst e; simp
  · have : ¬ ((c.toNat : Int) = (n.toNat : Int)) := by
      intro h2
      exact e (UInt8.toNat_inj.1 (by omega))
    rw [beq_eq_false_iff_ne.2 this, beq_eq_false_iff_ne.2 e]
end Go.Proofs.YtokocfoeohddfaaGreatDoor.Pa
namespace Go.Proofs.YtokocfoeohddfaaGreatDoor.Pa
set_option linter.unusedVariables false
set_option linter.unusedSimpArgs false

theorem stars_stop : ∀ m : L8, (m.takeWhile (· == 42)).length < m.length → m.getD (m.takeWhile (· == 42)).length 0 ≠ 42 := by
  intro m
  induction m with
  | nil => intro h; simp at h
  | cons c m ih =>
    intro h
    by_cases hc : c = 42
    · subst hc
      simp only [List.takeWhile_cons, beq_self_eq_true, if_true, List.length_cons] at h ⊢
      have := ih (by omega)
      simpa using this
    · rw [List.takeWhile_cons, if_neg (by simpa using hc)]
      simpa using hc
theorem stars_end {l : L8} {a : Nat} (h : a + stars l a < l.length) : nb l (a + stars l a) ≠ 42 := by
  have := stars_stop (l.drop a) (by have : stars l a < (l.drop a).length := by rw [List.length_drop]; omega
                                    exact this)
  intro e
  apply this
  have h2 : (l.drop a).getD (stars l a) 0 = l.getD (a + stars l a) 0 := by simp [List.getD_eq_getElem?_getD]
  change (l.drop a).getD (stars l a) 0 = 42
  rw [h2]
  exact UInt8.toNat_inj.1 (by unfold nb at e; rw [e]; rfl)
/-- what a sign is that was read -/
theorem sgn_kind {l : L8} {a b : Nat} {x : Sg} (h : sgn l a = some (x, b)) : (x.many = true → nb l a = 42 ∧ (b < l.length → nb l b ≠ 42)) ∧ (x.itself = true → x.many = false ∧ x.c < 256 ∧ ∀ d, x.S d = (d == x.c)) := by
  have hf := sgn_fits h
  unfold sgn at h
  split at h
  · cases hc : cls l (l.length + 1) (if bang l a = true then a + 2 else a + 1) noneS with
    | none => rw [hc] at h; simp at h
    | some y => rw [hc] at h; simp at h; rw [← h.1]; simp [classSg]
  · split at h
    · simp at h; rw [← h.1]; simp
    · split at h
      · next h42 =>
        simp at h
        refine ⟨fun _ => ⟨h42, fun hb => ?_⟩, fun hi => ?_⟩
        · rw [← h.2] at hb ⊢; exact stars_end hb
        · rw [← h.1] at hi; split at hi <;> simp at hi
      · cases hr : rbN l a with
        | none => rw [hr] at h; simp at h
        | some y =>
          rw [hr] at h
          simp at h
          refine ⟨fun hm => ?_, fun hi => ?_⟩
          · rw [← h.1] at hm; simp at hm
          · rw [← h.1] at hf ⊢
            exact ⟨rfl, hf, fun d => by simp [addS, noneS]⟩
theorem sgns_kind {l : L8} : ∀ n a L, sgns l n a = some L → (∀ x M, L = x :: M → x.many = true → nb l a = 42 ∧ a < l.length) ∧ Apart L ∧ ∀ x ∈ L, x.itself = true → x.many = false ∧ x.c < 256 ∧ ∀ d, x.S d = (d == x.c) := by
  intro n
  induction n with
  | zero => intro a L h; simp [sgns] at h
  | succ n ih =>
    intro a L h
    rw [sgns_eq] at h
    split at h
    · next ha =>
      cases hs : sgn l a with
      | none => rw [hs] at h; simp at h
      | some x =>
        obtain ⟨x, b⟩ := x
        rw [hs] at h
        simp only at h
        cases hr : sgns l n b with
        | none => rw [hr] at h; simp at h
        | some M =>
          rw [hr] at h
          simp only [Option.map_some, Option.some.injEq] at h
          subst h
          obtain ⟨i1, i2, i3⟩ := ih b M hr
          obtain ⟨k1, k2⟩ := sgn_kind hs
          refine ⟨fun y N e hm => ?_, ?_, ?_⟩
          · simp only [List.cons.injEq] at e
            obtain ⟨rfl, rfl⟩ := e
            exact ⟨(k1 hm).1, ha⟩
          · intro i y z hy hz my mz
            cases i with
            | zero =>
              simp at hy; subst hy
              cases M with
              | nil => simp at hz
              | cons u M =>
                simp at hz; subst hz
                have h1 := k1 my
                have h2 := i1 u M rfl mz
                exact h1.2 h2.2 h2.1
            | succ i => exact i2 i y z (by simpa using hy) (by simpa using hz) my mz
          · intro y hy
            rcases List.mem_cons.1 hy with rfl | hy
            · exact k2
            · exact i3 y hy
    · simp only [Option.some.injEq] at h
      subst h
      exact ⟨fun x M e => (by cases e), fun i y z hy => (by simp at hy), fun x hx => (by simp at hx)⟩
theorem readP_kind {p : L8} {L : List Sg} (h : readP p = some L) : Apart L ∧ ∀ x ∈ L, x.itself = true → x.many = false ∧ x.c < 256 ∧ ∀ d, x.S d = (d == x.c) := by
  unfold readP at h
  split at h
  · exact (sgns_kind _ _ _ h).2
  · cases h
theorem lang_head : ∀ (L : List Sg) (s : L8), (∀ x ∈ L, x.itself = true → x.many = false ∧ x.c < 256 ∧ ∀ d, x.S d = (d == x.c)) → Lang L s → ∃ r, s = headL L ++ r := by
  intro L
  induction L with
  | nil => intro s _ h; exact ⟨s, by simp [headL]⟩
  | cons x L ih =>
    intro s hk h
    rw [headL_cons]
    by_cases hi : x.itself = true
    · rw [if_pos hi]
      obtain ⟨h1, h2, h3⟩ := hk x (by simp) hi
      rw [Lang, if_neg (by rw [h1]; simp)] at h
      obtain ⟨c, s2, rfl, h4, h5⟩ := h
      obtain ⟨r, hr⟩ := ih s2 (fun y hy => hk y (by simp [hy])) h5
      rw [h3] at h4
      have : c = sgByte x := by
        unfold sgByte
        apply UInt8.toNat_inj.1
        rw [UInt8.toNat_ofNat']
        simp at h4
        omega
      exact ⟨r, by rw [hr, this]; rfl⟩
    · rw [if_neg hi]; exact ⟨s, rfl⟩
/-- signs all of which stand for themselves have one text -/
theorem lang_plain : ∀ (L : List Sg) (s : L8), (∀ x ∈ L, x.itself = true → x.many = false ∧ x.c < 256 ∧ ∀ d, x.S d = (d == x.c)) → (∀ x ∈ L, x.itself = true) → (Lang L s ↔ s = headL L) := by
  intro L
  induction L with
  | nil => intro s _ _; simp [Lang, headL]
  | cons x L ih =>
    intro s hk ha
    have hi := ha x (by simp)
    obtain ⟨h1, h2, h3⟩ := hk x (by simp) hi
    rw [headL_cons, if_pos hi, Lang, if_neg (by rw [h1]; simp)]
    have ih := fun s2 => ih s2 (fun y hy => hk y (by simp [hy])) (fun y hy => ha y (by simp [hy]))
    constructor
    · rintro ⟨c, s2, rfl, h4, h5⟩
      rw [h3] at h4
      have : c = sgByte x := by
        unfold sgByte
        apply UInt8.toNat_inj.1
        rw [UInt8.toNat_ofNat']
        simp at h4
        omega
      rw [this, (ih s2).1 h5]
    · intro e
      refine ⟨sgByte x, headL L, e, ?_, (ih _).2 rfl⟩
      rw [h3]
      unfold sgByte
      rw [UInt8.toNat_ofNat']
      simp
      omega
theorem headL_le (L : List Sg) : (headL L).length ≤ L.length := by
  unfold headL
  rw [List.length_map]
  exact (List.takeWhile_prefix (l := L) (·.itself)).length_le
theorem headL_all : ∀ L : List Sg, ¬ (headL L).length < L.length → ∀ x ∈ L, x.itself = true := by
  intro L
  induction L with
  | nil => intro _ x hx; simp at hx
  | cons x L ih =>
    intro h y hy
    rw [headL_cons] at h
    by_cases hi : x.itself = true
    · rw [if_pos hi] at h
      rcases List.mem_cons.1 hy with rfl | hy
      · exact hi
      · exact ih (by simpa using h) y hy
    · rw [if_neg hi] at h; simp at h

/-! GlobBegins -/
theorem match_head {p s : L8} (h : matchP p s = true) : ∃ r, s = headP p ++ r := by
  unfold matchP at h
  unfold headP
  cases hr : readP p with
  | none => rw [hr] at h; simp at h
  | some L =>
    rw [hr] at h
    obtain ⟨h1, h2⟩ := readP_kind hr
    exact lang_head L s h2 ((match_iff h1 s).1 h)
theorem plain_head {p : L8} (h : (plainP p).2 = true) : (plainP p).1 = headP p ∧ ∀ s, matchP p s = decide (s = headP p) := by
  unfold plainP at h ⊢
  unfold headP matchP
  cases hr : readP p with
  | none => rw [hr] at h; simp at h
  | some L =>
    rw [hr] at h
    simp only at h ⊢
    obtain ⟨h1, h2⟩ := readP_kind hr
    by_cases hlt : (headL L).length < L.length
    · rw [if_pos hlt] at h; simp at h
    · rw [if_neg hlt]
      refine ⟨rfl, fun s => ?_⟩
      rw [Bool.eq_iff_iff, match_iff h1 s, lang_plain L s h2 (headL_all L hlt)]
      simp

/-! GlobEscapes -/
theorem nb_get {l : L8} {i : Nat} {c : UInt8} (h : l[i]? = some c) : nb l i = c.toNat := by unfold nb; rw [List.getD_eq_getElem?_getD, h]; rfl
theorem escC_sgn (pre : L8) (c : UInt8) (post : L8) : sgn (pre ++ escC c ++ post) pre.length = some (⟨addS noneS c.toNat, false, true, c.toNat⟩, pre.length + (escC c).length) := by
  unfold escC
  cases hs : special c with
  | true =>
    simp only [if_true]
    have g0 : (pre ++ [92, c] ++ post)[pre.length]? = some 92 := by simp
    have g1 : (pre ++ [92, c] ++ post)[pre.length + 1]? = some c := by simp
    have n0 : nb (pre ++ [92, c] ++ post) pre.length = 92 := nb_get g0
    have n1 := nb_get g1
    have hat : rbAt (pre ++ [92, c] ++ post) pre.length = pre.length + 1 := if_pos ⟨(List.getElem?_eq_some_iff.1 g0).1, by rw [bt_nb, n0]; rfl⟩
    have hr : rbN (pre ++ [92, c] ++ post) pre.length = some (c.toNat, pre.length + 2) := by
      unfold rbN
      rw [hat, if_pos (List.getElem?_eq_some_iff.1 g1).1, n1]
    unfold sgn
    rw [n0, if_neg (by decide), if_neg (by decide), if_neg (by decide), hr]
    rfl
  | false =>
    simp only [Bool.false_eq_true, if_false]
    have g0 : (pre ++ [c] ++ post)[pre.length]? = some c := by simp
    have n0 := nb_get g0
    unfold special at hs
    simp only [Bool.or_eq_false_iff, beq_eq_false_iff_ne] at hs
    have ne : ∀ n : UInt8, c ≠ n → c.toNat ≠ n.toNat := fun n h e => h (UInt8.toNat_inj.1 e)
    have hat : rbAt (pre ++ [c] ++ post) pre.length = pre.length := by
      refine if_neg (fun h => ?_)
      have := h.2
      rw [bt_nb, n0] at this
      have := ne 92 hs.2
      simp at this
      omega
    have hr : rbN (pre ++ [c] ++ post) pre.length = some (c.toNat, pre.length + 1) := by
      unfold rbN
      rw [hat, if_pos (List.getElem?_eq_some_iff.1 g0).1, n0]
    unfold sgn
    rw [n0, if_neg (show c.toNat ≠ 91 from ne 91 hs.1.2), if_neg (show c.toNat ≠ 63 from ne 63 hs.1.1.1), if_neg (show c.toNat ≠ 42 from ne 42 hs.1.1.2), hr]
    rfl
def ownSg (c : UInt8) : Sg := ⟨addS noneS c.toNat, false, true, c.toNat⟩
theorem esc_sgns : ∀ (s pre : L8) (n : Nat), s.length < n → sgns (pre ++ escB s) n pre.length = some (s.map ownSg) := by
  intro s
  induction s with
  | nil =>
    intro pre n hn
    cases n with
    | zero => simp at hn
    | succ n => rw [sgns_eq, if_neg (by simp [escB])]; rfl
  | cons c s ih =>
    intro pre n hn
    cases n with
    | zero => simp at hn
    | succ n =>
      have e : pre ++ escB (c :: s) = pre ++ escC c ++ escB s := by simp [escB]
      have hl : 0 < (escC c).length := by unfold escC; split <;> simp
      rw [sgns_eq, e, if_pos (by simp; omega), escC_sgn]
      simp only
      have := ih (pre ++ escC c) n (by simp at hn; omega)
      rw [List.length_append] at this
      rw [this]
      rfl
theorem escB_ge (s : L8) : s.length ≤ (escB s).length := by
  induction s with
  | nil => simp [escB]
  | cons c s ih =>
    unfold escB at *
    rw [List.flatMap_cons, List.length_append]
    have : 1 ≤ (escC c).length := by unfold escC; split <;> simp
    rw [List.length_cons]; omega
theorem esc_read {s : L8} (h : (escB s).length ≤ 100) : readP (escB s) = some (s.map ownSg) ∧ readE (escB s) = 0 := by
  have := esc_sgns s [] ((escB s).length + 1) (by have := escB_ge s; omega)
  simp only [List.nil_append, List.length_nil] at this
  unfold readP readE
  rw [if_pos h, if_pos h, this]
  exact ⟨rfl, rfl⟩
theorem own_head (s : L8) : headL (s.map ownSg) = s := by
  induction s with
  | nil => rfl
  | cons c s ih =>
    rw [List.map_cons, headL_cons, if_pos (show (ownSg c).itself = true from rfl), ih]
    unfold sgByte ownSg
    simp
theorem esc_big {s p : L8} (h : ¬ p.length ≤ 100) : readE p = 7 ∧ matchP p s = false := by
  unfold readE matchP readP
  rw [if_neg h, if_neg h]
  exact ⟨rfl, rfl⟩
theorem esc_small {s : L8} (h : (escB s).length ≤ 100) : readE (escB s) = 0 ∧ plainP (escB s) = (s, true) ∧ ∀ t, matchP (escB s) t = decide (t = s) := by
  obtain ⟨h1, h2⟩ := esc_read h
  have hp : plainP (escB s) = (s, true) := by
    unfold plainP; rw [h1]; simp only; rw [own_head, if_neg (by simp)]
  have hh : headP (escB s) = s := by unfold headP; rw [h1]; simp only; rw [own_head]
  refine ⟨h2, hp, fun t => ?_⟩
  have := (plain_head (p := escB s) (by rw [hp])).2 t
  rw [hh] at this
  exact this
end Go.Proofs.YtokocfoeohddfaaGreatDoor.Pa
namespace Go.Proofs.YtokocfoeohddfaaGreatDoor.Pa
set_option linter.unusedVariables false
set_option linter.unusedSimpArgs false
set_option maxRecDepth 100000

/-- the document's member of a class at a place -/
def rmR (l : L8) (a : Nat) : Option (Nat × Nat × Nat) :=
  match rbN l a with
  | none => none
  | some (f, b) =>
    if b + 1 < l.length ∧ nb l b = 45 ∧ nb l (b + 1) ≠ 93 then
      match rbN l (b + 1) with
      | none => none
      | some (g, d) => if f ≤ g then some (f, g, d) else none
    else some (f, f, b)
def clsR (l : L8) : Nat → Nat → (Nat → Bool) → Nat → Option ((Nat → Bool) × Nat)
  | 0, _, _, _ => none
  | n + 1, a, S, k =>
    if a < l.length ∧ nb l a ≠ 93 then match rmR l a with
      | none => none
      | some (f, g, b) => clsR l n b (spanS S f (g + 1)) (k + 1)
    else if a < l.length ∧ 0 < k then some (S, a + 1) else none
theorem nb_cons {l : L8} {i : Nat} (h : i < l.length) : ∃ c r, l.drop i = c :: r ∧ nb l i = c.toNat ∧ r = l.drop (i + 1) := by
  refine ⟨l[i], l.drop (i + 1), List.drop_eq_getElem_cons h, ?_, rfl⟩
  unfold nb
  rw [List.getD_eq_getElem?_getD, List.getElem?_eq_getElem h]
  rfl
theorem pre_one (l : L8) (b : Nat) : [45].isPrefixOf (l.drop b) = true ↔ b < l.length ∧ nb l b = 45 := by
  by_cases h : b < l.length
  · obtain ⟨c, r, h1, h2, _⟩ := nb_cons h
    rw [h1, h2]
    simp [List.isPrefixOf, h]
    constructor
    · intro e; rw [← e]; rfl
    · intro e; exact (UInt8.toNat_inj.1 e).symm
  · rw [List.drop_eq_nil_of_le (by omega)]
    simp [List.isPrefixOf, h]
theorem pre_two (l : L8) (b : Nat) : [45, 93].isPrefixOf (l.drop b) = true ↔ b + 1 < l.length ∧ nb l b = 45 ∧ nb l (b + 1) = 93 := by
  by_cases h : b < l.length
  · obtain ⟨c, r, h1, h2, h3⟩ := nb_cons h
    rw [h1, h2]
    by_cases h' : b + 1 < l.length
    · obtain ⟨d, q, k1, k2, k3⟩ := nb_cons h'
      rw [h3, k1, k2]
      simp [List.isPrefixOf, h']
      constructor
      · rintro ⟨e1, e2⟩; rw [← e1, ← e2]; exact ⟨rfl, rfl⟩
      · rintro ⟨e1, e2⟩; exact ⟨(UInt8.toNat_inj.1 e1).symm, (UInt8.toNat_inj.1 e2).symm⟩
    · rw [h3, List.drop_eq_nil_of_le (by omega)]
      simp [List.isPrefixOf, h']
  · rw [List.drop_eq_nil_of_le (by omega)]
    simp [List.isPrefixOf]
    omega
theorem rmR_bd {l : L8} {a f g b : Nat} (h : rmR l a = some (f, g, b)) : f < 256 ∧ g < 256 ∧ f ≤ g ∧ a < b ∧ b ≤ l.length := by
  unfold rmR at h
  cases hx : rbN l a with
  | none => rw [hx] at h; simp at h
  | some x =>
    obtain ⟨f1, b1⟩ := x
    have h1 := rb_some hx
    rw [hx] at h
    simp only at h
    split at h
    · cases hy : rbN l (b1 + 1) with
      | none => rw [hy] at h; simp at h
      | some y =>
        obtain ⟨g1, d1⟩ := y
        have h2 := rb_some hy
        rw [hy] at h
        simp only at h
        split at h
        · simp only [Option.some.injEq, Prod.mk.injEq] at h
          omega
        · cases h
    · simp only [Option.some.injEq, Prod.mk.injEq] at h
      omega
theorem empty_span (S : Nat → Bool) (f g : Nat) (h : f ≤ g) (hf : f < 256) : emptyS (spanS S f (g + 1)) = false := by
  rw [Bool.eq_false_iff]
  intro e
  have := (emptyS_iff _).1 e f hf
  unfold spanS at this
  simp at this
  omega
theorem rb_dash {l : L8} {b : Nat} (h : b < l.length) (h2 : nb l b = 45) : rbN l b = some (45, b + 1) := by
  have e : rbAt l b = b := if_neg (fun h => by have := h.2; rw [bt_nb, h2] at this; omega)
  unfold rbN
  rw [e, if_pos h, h2]
theorem clsR_cls (l : L8) : ∀ n a S k, (emptyS S = true ↔ k = 0) → clsR l n a S k = cls l n a S := by
  intro n
  induction n with
  | zero => intro a S k _; rfl
  | succ n ih =>
    intro a S k hk
    rw [clsR, cls]
    by_cases ha : a < l.length
    · rw [if_pos ha]
      by_cases h93 : nb l a = 93
      · rw [if_neg (fun h => h.2 h93), if_pos h93]
        by_cases h0 : k = 0
        · rw [if_neg (by omega), if_pos (hk.2 h0)]
        · rw [if_pos ⟨ha, by omega⟩, if_neg (fun h => h0 (hk.1 h))]
      · rw [if_pos ⟨ha, h93⟩, if_neg h93]
        unfold rmR rm
        cases hx : rbN l a with
        | none => rfl
        | some x =>
          obtain ⟨f, b⟩ := x
          have h1 := rb_some hx
          simp only
          by_cases hA : b + 1 < l.length ∧ nb l b = 45 ∧ nb l (b + 1) ≠ 93
          · have hp1 : [45].isPrefixOf (l.drop b) = true := (pre_one l b).2 ⟨by omega, hA.2.1⟩
            have hp2 : ¬ [45, 93].isPrefixOf (l.drop b) = true := fun h => hA.2.2 ((pre_two l b).1 h).2.2
            rw [if_pos hA, if_neg (by rw [hp1]; simp [hp2])]
            cases hy : rbN l (b + 1) with
            | none => rfl
            | some y =>
              obtain ⟨g, d⟩ := y
              have h2 := rb_some hy
              simp only
              by_cases hfg : f ≤ g
              · rw [if_pos hfg]
                exact ih _ _ _ (by rw [empty_span S f g hfg h1.2.1]; simp)
              · rw [if_neg hfg]
          · rw [if_neg hA]
            by_cases hB : b < l.length ∧ nb l b = 45 ∧ ¬ b + 1 < l.length
            · have hp1 : [45].isPrefixOf (l.drop b) = true := (pre_one l b).2 ⟨hB.1, hB.2.1⟩
              have hp2 : ¬ [45, 93].isPrefixOf (l.drop b) = true := fun h => hB.2.2 ((pre_two l b).1 h).1
              rw [if_neg (by rw [hp1]; simp [hp2])]
              have hn : rbN l (b + 1) = none := by
                unfold rbN
                rw [if_neg]
                have := rbAt_le l (b + 1)
                omega
              rw [hn]
              simp only
              cases n with
              | zero => rfl
              | succ m =>
                rw [clsR, if_pos ⟨hB.1, by omega⟩]
                unfold rmR
                rw [rb_dash hB.1 hB.2.1]
                simp only
                rw [if_neg (by omega)]
                simp only
                cases m with
                | zero => rfl
                | succ m => rw [clsR, if_neg (by omega), if_neg (by omega)]
            · have hp : ([45].isPrefixOf (l.drop b) = false) ∨ [45, 93].isPrefixOf (l.drop b) = true := by
                by_cases hb : b < l.length ∧ nb l b = 45
                · right
                  rw [pre_two]
                  omega
                · left
                  rw [Bool.eq_false_iff]
                  exact fun h => hb ((pre_one l b).1 h)
              rw [if_pos hp]
              exact ih _ _ _ (by rw [empty_span S f f (Nat.le_refl _) h1.2.1]; simp)
    · rw [if_neg (fun h => ha h.1), if_neg (fun h => ha h.1), if_neg ha]
theorem clsR_bd {l : L8} : ∀ n a S k T b, clsR l n a S k = some (T, b) → a < b ∧ b ≤ l.length := by
  intro n
  induction n with
  | zero => intro a S k T b h; simp [clsR] at h
  | succ n ih =>
    intro a S k T b h
    rw [clsR] at h
    split at h
    · cases hm : rmR l a with
      | none => rw [hm] at h; simp at h
      | some x =>
        obtain ⟨f, g, d⟩ := x
        rw [hm] at h
        have h2 := rmR_bd hm
        have h3 := ih _ _ _ _ _ h
        omega
    · split at h
      · simp only [Option.some.injEq, Prod.mk.injEq] at h; omega
      · cases h
theorem clsR_fuel {l : L8} : ∀ n m a S k, l.length < a + n → l.length < a + m → clsR l n a S k = clsR l m a S k := by
  intro n
  induction n with
  | zero => intro m a S k h1 h2; rw [clsR]; cases m with
    | zero => rw [clsR]
    | succ m => rw [clsR, if_neg (by omega), if_neg (by omega)]
  | succ n ih =>
    intro m a S k h1 h2
    cases m with
    | zero => rw [clsR, clsR, if_neg (by omega), if_neg (by omega)]
    | succ m =>
      rw [clsR, clsR]
      split
      · cases hm : rmR l a with
        | none => rfl
        | some x =>
          obtain ⟨f, g, d⟩ := x
          have h3 := rmR_bd hm
          exact ih m d _ _ (by omega) (by omega)
      · rfl

/-- a sign of the document: its kind, its byte, is it turned, its members -/
structure Rg where
  kind : Nat
  c : Nat
  nt : Bool
  S : Nat → Bool
def Rg.sg (x : Rg) : Sg :=
  if x.kind = 0 then ⟨addS noneS x.c, false, true, x.c⟩
  else if x.kind = 3 then ⟨allS, true, false, 0⟩
  else if x.kind = 4 then classSg x.nt x.S
  else ⟨dropS allS 47, decide (x.kind = 2), false, 0⟩
def sgnR (l : L8) (a : Nat) : Option (Rg × Nat) :=
  if nb l a = 91 then
    match clsR l (l.length + 1) (if bang l a then a + 2 else a + 1) noneS 0 with
    | none => none
    | some (S, b) => some (⟨4, 0, bang l a, S⟩, b)
  else if nb l a = 63 then some (⟨1, 63, false, noneS⟩, a + 1)
  else if nb l a = 42 then some (⟨if stars l a > 1 then 3 else 2, 42, false, noneS⟩, a + stars l a)
  else match rbN l a with
    | none => none
    | some (c, b) => some (⟨0, c, false, noneS⟩, b)
theorem emptyS_none : emptyS noneS = true := (emptyS_iff _).2 fun _ _ => rfl
theorem sgnR_sg (l : L8) (a : Nat) : sgn l a = (sgnR l a).map fun x => (x.1.sg, x.2) := by
  unfold sgn sgnR
  split
  · rw [clsR_cls l _ _ _ _ (by rw [emptyS_none]; simp)]
    cases cls l (l.length + 1) (if bang l a = true then a + 2 else a + 1) noneS <;> rfl
  · split
    · rfl
    · split
      · by_cases h : stars l a > 1 <;> simp [h, Rg.sg]
      · cases rbN l a <;> rfl
def sgnsR (l : L8) : Nat → Nat → Option (List Rg)
  | 0, _ => none
  | n + 1, a =>
    if a < l.length then
      match sgnR l a with
      | none => none
      | some (x, b) => (sgnsR l n b).map (x :: ·)
    else some []
theorem sgnsR_sg (l : L8) : ∀ n a, sgns l n a = (sgnsR l n a).map (List.map Rg.sg) := by
  intro n
  induction n with
  | zero => intro a; rfl
  | succ n ih =>
    intro a
    rw [sgns, sgnsR]
    split
    · rw [sgnR_sg]
      cases sgnR l a with
      | none => rfl
      | some x =>
        obtain ⟨x, b⟩ := x
        simp only [Option.map_some]
        rw [ih b]
        cases sgnsR l n b <;> simp
    · rfl
theorem sgnR_bd {l : L8} {a b : Nat} {x : Rg} (ha : a < l.length) (h : sgnR l a = some (x, b)) : a < b ∧ b ≤ l.length :=
  sgn_bd ha (by rw [sgnR_sg, h]; rfl)
theorem sgnsR_fuel {l : L8} : ∀ n m a, a ≤ l.length → l.length < a + n → l.length < a + m → sgnsR l n a = sgnsR l m a := by
  intro n
  induction n with
  | zero => intro m a h0 h1 h2; omega
  | succ n ih =>
    intro m a h0 h1 h2
    cases m with
    | zero => omega
    | succ m =>
      rw [sgnsR, sgnsR]
      split
      · next h3 =>
        cases hs : sgnR l a with
        | none => rfl
        | some x =>
          obtain ⟨x, b⟩ := x
          have := sgnR_bd h3 hs
          simp only
          rw [ih m b (by omega) (by omega) (by omega)]
      · rfl
def readR (l : L8) : Option (List Rg) := sgnsR l (l.length + 1) 0
theorem readE_R (l : L8) : readE l = if l.length ≤ 100 then (if (readR l).isSome then 0 else 5) else 7 := by
  unfold readE readR
  rw [sgnsR_sg]
  simp
theorem readP_R (l : L8) : readP l = if l.length ≤ 100 then (readR l).map (List.map Rg.sg) else none := by
  unfold readP readR
  rw [sgnsR_sg]

end Go.Proofs.YtokocfoeohddfaaGreatDoor.Pa
namespace Go.Proofs.YtokocfoeohddfaaGreatDoor.Pa
open Go.RowKit
set_option linter.unusedVariables false
set_option linter.unusedSimpArgs false
set_option maxRecDepth 1000000

def sgC (kind c : Int) (nt : Bool) (S : Nat → Bool) : List Value := [.int .i64 kind, .int .u8 c, .bool nt] ++ (List.range 256).map (fun i => Value.bool (S i))
theorem sgC_length (kind c : Int) (nt : Bool) (S : Nat → Bool) : (sgC kind c nt S).length = 259 := by simp [sgC]
theorem sgC_one (kind c : Int) (nt : Bool) (S : Nat → Bool) : ∀ v ∈ sgC kind c nt S, v.oneCell' = true := by
  intro v hv
  simp only [sgC, List.mem_append, List.mem_cons, List.not_mem_nil, or_false, List.mem_map] at hv
  rcases hv with (rfl | rfl | rfl) | ⟨x, _, rfl⟩ <;> rfl
theorem Tryz.infoRg : (Tryz.prog.info? 56).map (fun i => (i.zero, i.size, i.bytes)) = some (some (.agg (sgC 0 0 false noneS).toArray), 259, 272) := by kernel_rfl
theorem size_rg {cs : List Value} (h : cs.length = 259) : (Tryz.prog.info? 56).map (·.size) = some cs.length := by rw [h]; kernel_rfl
theorem size_rga {cs : List Value} (h : cs.length = 259) : (Tryz.prog.info? 56).map (·.size) = some cs.toArray.size := by rw [List.size_toArray, h]; kernel_rfl
theorem zero_rg (W : World) : (zeroValue 56).run Tryz.prog W = .ok (.agg (sgC 0 0 false noneS).toArray) W := by
  obtain ⟨i, hi, hz, -, -⟩ := info_parts Tryz.infoRg
  simp [zeroValue, typeInfo, Sem.run_bind, hi, hz]
theorem built_four : Tryz.prog.built 56 [(0, .int .i64 4)] = some (sgC 4 0 false noneS).toArray := by kernel_rfl
theorem built_byte (c : Int) : Tryz.prog.built 56 [(1, .int .u8 c)] = some (sgC 0 c false noneS).toArray := by kernel_rfl
theorem sgC_set (kind c : Int) (nt : Bool) (S : Nat → Bool) (i : Nat) (hi : i < 256) : (sgC kind c nt S).toArray.setIfInBounds (3 + i) (.bool true) = (sgC kind c nt (addS S i)).toArray := by
  apply Array.ext'
  rw [Array.toList_setIfInBounds]
  unfold sgC
  show ([Value.int .i64 kind, .int .u8 c, .bool nt] ++ (List.range 256).map (fun i => Value.bool (S i))).set (3 + i) (.bool true) = _
  rw [List.set_append_right _ _ (by simp)]
  show _ ++ _ = _ ++ _
  congr 1
  simp only [List.length_cons, List.length_nil]
  rw [show 3 + i - (0 + 1 + 1 + 1) = i from by omega]
  apply List.ext_getElem
  · simp
  intro n h1 h2
  rw [List.getElem_set]
  simp only [List.getElem_map, List.getElem_range]
  unfold addS
  by_cases h : i = n
  · rw [if_pos h, h]; simp
  · rw [if_neg h]
    have : (n == i) = false := by simpa using fun e => h e.symm
    rw [this, Bool.or_false]
theorem sgC_set2 (kind c : Int) (nt b : Bool) (S : Nat → Bool) : (sgC kind c nt S).toArray.setIfInBounds 2 (.bool b) = (sgC kind c b S).toArray := by
  apply Array.ext'
  rw [Array.toList_setIfInBounds]
  rfl
theorem sgC_set0 (kind kind' c : Int) (nt : Bool) (S : Nat → Bool) : (sgC kind c nt S).toArray.setIfInBounds 0 (.int .i64 kind') = (sgC kind' c nt S).toArray := by
  apply Array.ext'
  rw [Array.toList_setIfInBounds]
  rfl
theorem sgC_set1 (kind c c' : Int) (nt : Bool) (S : Nat → Bool) : (sgC kind c nt S).toArray.setIfInBounds 1 (.int .u8 c') = (sgC kind c' nt S).toArray := by
  apply Array.ext'
  rw [Array.toList_setIfInBounds]
  rfl
theorem sgC_get (kind c : Int) (nt : Bool) (S : Nat → Bool) (i : Nat) (hi : i < 256) : (sgC kind c nt S).toArray[3 + i]? = some (.bool (S i)) := by
  rw [List.getElem?_toArray]
  unfold sgC
  rw [List.getElem?_append_right (by simp)]
  simp [hi, show 3 + i - 3 = i from by omega]
/-- a block that was stored whole -/
theorem stored_whole (w : World) (g : Nat) (old : Array Value) (t : TypeId) (vs : List Value) (hb : w.heap[g]? = some (.cells old t)) (hs : old.size = vs.length) : (w.setCells g 0 vs).heap[g]? = some (.cells vs.toArray t) := by
  have key : ∀ (vs : List Value) (o : Nat) (w : World) (old : List Value), w.heap[g]? = some (.cells old.toArray t) → o + vs.length = old.length → (w.setCells g o vs).heap[g]? = some (.cells (old.take o ++ vs).toArray t) := by
    intro vs
    induction vs with
    | nil => intro o w old h hl; simp at hl; subst hl; simpa [World.setCells] using h
    | cons v vs ih =>
      intro o w old h hl
      have h1 := Joins.block_setCell (i := o) h v
      rw [List.setIfInBounds_toArray] at h1
      have h2 := ih (o + 1) _ (old.set o v) h1 (by simp at hl ⊢; omega)
      show ((w.setCell ⟨g, o, none⟩ v).setCells g (o + 1) vs).heap[g]? = _
      rw [h2]
      congr 3
      have ho : o < old.length := by simp at hl; omega
      rw [List.take_succ_eq_append_getElem (by simpa using ho), List.take_set_of_le (Nat.le_refl _), List.getElem_set_self]
      simp
  have h := key vs 0 w old.toList (by simpa using hb) (by simp [hs])
  simpa using h
theorem below_setCells (B g : Nat) (vs : List Value) : ∀ (o : Nat) (w W : World), Below B w W → B ≤ g → Below B w (W.setCells g o vs) := by
  induction vs with
  | nil => intro o w W h _; exact h
  | cons v vs ih => intro o w W h hg; exact ih (o + 1) w _ (Below.setCell (p := ⟨g, o, none⟩) h hg v) hg
theorem heap_setCells (g g' : Nat) (h : g' ≠ g) (vs : List Value) : ∀ (o : Nat) (w : World), (w.setCells g o vs).heap[g']? = w.heap[g']? := by
  induction vs with
  | nil => intro o w; rfl
  | cons v vs ih =>
    intro o w
    show ((w.setCell ⟨g, o, none⟩ v).setCells g (o + 1) vs).heap[g']? = _
    rw [ih]
    simp [World.setCell, Array.getElem?_modify, Ne.symm h]
theorem size_setCells (g : Nat) (vs : List Value) : ∀ (o : Nat) (w : World), (w.setCells g o vs).heap.size = w.heap.size := by
  induction vs with
  | nil => intro o w; rfl
  | cons v vs ih =>
    intro o w
    show ((w.setCell ⟨g, o, none⟩ v).setCells g (o + 1) vs).heap.size = _
    rw [ih]; simp
theorem there_block {W : World} {g : Nat} {cs : Array Value} {t : TypeId} (h : W.heap[g]? = some (.cells cs t)) (n : Nat) (hn : n ≤ cs.size) : W.there g 0 n := by
  intro j hj
  rw [Nat.zero_add]
  refine ⟨?_, unfrozen h⟩
  rw [cell_of_row _ _ j _ _ (0, 0) h, Array.getElem?_eq_getElem (by omega)]; rfl
theorem range_block {W : World} {g : Nat} {cs : List Value} {t : TypeId} (h : W.heap[g]? = some (.cells cs.toArray t)) : W.rangeAt g 0 cs := by
  intro j v hv
  rw [Nat.zero_add, cell_of_row _ _ j _ _ (0, 0) h, List.getElem?_toArray]; exact hv
end Go.Proofs.YtokocfoeohddfaaGreatDoor.Pa
namespace Go.Proofs.YtokocfoeohddfaaGreatDoor.Pa
open Go.RowKit
set_option linter.unusedVariables false
set_option linter.unusedSimpArgs false
set_option maxRecDepth 1000000

def Rg.cs (x : Rg) : List Value := sgC (x.kind : Int) (x.c : Int) x.nt x.S
theorem Rg.cs_length (x : Rg) : x.cs.length = 259 := sgC_length _ _ _ _
def rgCells (L : List Rg) : List Value := L.flatMap Rg.cs
theorem rgCells_length (L : List Rg) : (rgCells L).length = L.length * 259 := by
  induction L with
  | nil => rfl
  | cons x L ih => unfold rgCells at *; rw [List.flatMap_cons, List.length_append, ih, Rg.cs_length, List.length_cons]; omega
theorem rgCells_get (L : List Rg) (i j : Nat) (hj : j < 259) : (rgCells L)[i * 259 + j]? = (L[i]?).bind fun x => x.cs[j]? := by
  induction L generalizing i with
  | nil => simp [rgCells]
  | cons x L ih =>
    unfold rgCells at *
    rw [List.flatMap_cons]
    cases i with
    | zero => rw [List.getElem?_append_left (by rw [Rg.cs_length]; omega)]; simp
    | succ i =>
      rw [List.getElem?_append_right (by rw [Rg.cs_length]; omega), Rg.cs_length, show (i + 1) * 259 + j - 259 = i * 259 + j from by omega, ih i]
      simp
/-- a row of signs that this call made -/
def RgOwn (w : World) (base : Nat) (v : Value) (L : List Rg) : Prop := w.ownsRow base 56 259 v L.length (rgCells L)
theorem RgOwn.form {w : World} {base : Nat} {v : Value} {L : List Rg} (h : RgOwn w base v L) : (L = [] ∧ v = .slice none 0 0) ∨ ∃ g cap, v = .slice (some ⟨g, 0, none⟩) L.length cap ∧ base ≤ g ∧ g < w.heap.size ∧ L.length ≤ cap ∧ ∀ i x, L[i]? = some x → ∀ j, j < 259 → w.cell? ⟨g, i * 259 + j, none⟩ = x.cs[j]? := by
  obtain ⟨h1, h2⟩ := id h
  rcases h2 with ⟨rfl, h0⟩ | ⟨g, cap, cur, rfl, h4, h5, h6, h7, h8, h9⟩
  · exact .inl ⟨List.eq_nil_of_length_eq_zero h0, rfl⟩
  · refine .inr ⟨g, cap, rfl, h4, (Array.getElem?_eq_some_iff.1 h5).1, h6, fun i x hi j hj => ?_⟩
    have hlt : i < L.length := (List.getElem?_eq_some_iff.1 hi).1
    have hg := rgCells_get L i j hj
    rw [hi] at hg
    rw [cell_of_row _ _ (i * 259 + j) _ _ (0, 0) h5]
    have h10 : cur.toList[i * 259 + j]? = (rgCells L)[i * 259 + j]? := by
      rw [← h9, List.getElem?_take]
      rw [if_pos (by omega)]
    rw [hg] at h10
    simpa using h10
theorem RgOwn.slice {w : World} {base : Nat} {v : Value} {L : List Rg} (h : RgOwn w base v L) : ∃ a c, v = .slice a L.length c := by
  rcases h.form with ⟨rfl, rfl⟩ | ⟨g, cap, rfl, _⟩
  · exact ⟨none, 0, rfl⟩
  · exact ⟨_, cap, rfl⟩
theorem RgOwn.later {w w' : World} {base : Nat} {v : Value} {L : List Rg} (h : RgOwn w base v L) (hb : Below w.heap.size w w') : RgOwn w' base v L := by
  obtain ⟨h1, h2⟩ := h
  refine ⟨h1, ?_⟩
  rcases h2 with h2 | ⟨g, cap, cur, h3, h4, h5, h6⟩
  · exact .inl h2
  · exact .inr ⟨g, cap, cur, h3, h4, (hb.block _ (Array.getElem?_eq_some_iff.1 h5).1).trans h5, h6⟩
theorem RgOwn.lt {w : World} {base : Nat} {v : Value} {L : List Rg} (h : RgOwn w base v L) : ∀ k, v.ownBlock = some k → base ≤ k ∧ k < w.heap.size := fun k hk => World.ownsRow.lt h k hk
theorem RgOwn.none (w : World) (base : Nat) : RgOwn w base (.slice none 0 0) [] := ⟨rfl, .inl ⟨rfl, rfl⟩⟩
/-- an append of one sign to such a row -/
theorem append_rg {w : World} {ops : Array Oper} {rest : List Oper} {o : Oper} {a : Act} {Q : Exit → Act → World → Prop}
    (hg : o.guard = none) (s x : Operand) (hop : o.op = Op.call { callee := Callee.builtin Builtin.append, args := #[s, x], argTypes := #[50, 50] })
    (base : Nat) (v : Value) (L : List Rg) (p : Rg) (hs : a.eval s = v) (hown : RgOwn w base v L) (g c : Nat) (hx : a.eval x = .slice (some ⟨g, 0, none⟩) 1 c)
    (hc : ∀ j u, p.cs[j]? = some u → w.cell? ⟨g, j, none⟩ = some u) (hl : L.length ≤ 100000) (b3 : base ≤ w.heap.size)
    (hK : ∀ v' w', RgOwn w' base v' (L ++ [p]) → w.grownBy w' v.ownBlock → (v'.ownBlock = v.ownBlock ∨ v'.ownBlock = some w.heap.size) → wpList Tryz.prog ops Q rest (a.put o.dst v') w') :
    wpList Tryz.prog ops Q (o :: rest) a w := by
  obtain ⟨i0, hi, hz0, hz1, hz2⟩ := info_parts Tryz.infoRg
  refine wpList_append_own_at (P := Tryz.prog) w hg s x 50 hop base 56 i0 _ 259 272 Tryz.underlying50 hi hz0 hz1 hz2 (by simp [Value.cells, sgC_length]) (by decide) v L.length (rgCells L) hs hown ⟨g, 0, none⟩ 1 c p.cs hx (by rw [Rg.cs_length])
    (by intro j u hj; have := hc j u hj; cases j <;> simpa [Addr.add] using this) (fun u hu => sgC_one _ _ _ _ u hu) (by unfold maxLen; omega) (by omega) b3 ?_
  intro v' w' r1 r2 r3 r4
  refine hK v' w' ?_ r2 r4
  show w'.ownsRow base 56 259 v' (L ++ [p]).length (rgCells (L ++ [p]))
  rw [List.length_append]
  have : rgCells (L ++ [p]) = rgCells L ++ p.cs := by simp [rgCells]
  rw [this]
  exact r1
theorem fill_rg (X : List Value) (h : X.length = 259) (z : Value) : Instr.fill (fun i => some (i * 259, 259)) ((Array.range (1 * 259)).map (z.cells[· % z.cells.size]!)) [(0, .agg X.toArray)] = some X.toArray := by
  have := Great.fill_whole (s := 259) (by decide) [.agg X.toArray] ((Array.range (1 * 259)).map (z.cells[· % z.cells.size]!)) (by intro v hv; simp at hv; subst hv; simp [Value.cells, h]) (by simp)
  simpa [Value.cells] using this

theorem sgnsR_eq (l : L8) (n a : Nat) : sgnsR l (n + 1) a = if a < l.length then (match sgnR l a with | none => none | some (x, b) => (sgnsR l n b).map (x :: ·)) else some [] := by rw [sgnsR] <;> rfl
/-- the rest of the signs, behind those that have come -/
def RestR (l : L8) (R : Option (List Rg)) (L : List Rg) (a : Nat) : Prop := R = (sgnsR l (l.length + 1) a).map (L ++ ·)
theorem restR_stop {l : L8} {R : Option (List Rg)} {L : List Rg} {a : Nat} (h : RestR l R L a) (ha : ¬ a < l.length) : R = some L := by
  unfold RestR at h; rw [sgnsR_eq, if_neg ha] at h; simpa using h
theorem restR_none {l : L8} {R : Option (List Rg)} {L : List Rg} {a : Nat} (h : RestR l R L a) (ha : a < l.length) (hs : sgnR l a = none) : R = none := by
  unfold RestR at h; rw [sgnsR_eq, if_pos ha, hs] at h; simpa using h
theorem restR_next {l : L8} {R : Option (List Rg)} {L : List Rg} {a b : Nat} {x : Rg} (h : RestR l R L a) (ha : a < l.length) (hs : sgnR l a = some (x, b)) : RestR l R (L ++ [x]) b := by
  have hb := sgnR_bd ha hs
  unfold RestR at h ⊢
  rw [sgnsR_eq, if_pos ha, hs] at h
  simp only at h
  rw [sgnsR_fuel l.length (l.length + 1) b (by omega) (by omega) (by omega)] at h
  rw [h]
  cases sgnsR l (l.length + 1) b <;> simp
theorem tw_in : ∀ (m : L8) (k : Nat), k < (m.takeWhile (· == 42)).length → k < m.length ∧ m.getD k 0 = 42 := by
  intro m
  induction m with
  | nil => intro k h; simp at h
  | cons c m ih =>
    intro k h
    rw [List.takeWhile_cons] at h
    by_cases hc : (c == 42) = true
    · rw [if_pos hc] at h
      cases k with
      | zero => exact ⟨by simp, by simpa using hc⟩
      | succ k =>
        have := ih k (by simpa using h)
        exact ⟨by simp; exact this.1, by simpa using this.2⟩
    · rw [if_neg hc] at h; simp at h
theorem stars_in {l : L8} {a j : Nat} (h1 : a ≤ j) (h2 : j < a + stars l a) : j < l.length ∧ nb l j = 42 := by
  have := tw_in (l.drop a) (j - a) (by unfold stars at h2; omega)
  rw [List.length_drop] at this
  refine ⟨by omega, ?_⟩
  have h3 := this.2
  rw [List.getD_eq_getElem?_getD, List.getElem?_drop, show a + (j - a) = j from by omega] at h3
  unfold nb
  rw [List.getD_eq_getElem?_getD, h3]
  rfl
theorem stars_more {l : L8} {a j : Nat} (h1 : a ≤ j) (h2 : j ≤ a + stars l a) (h3 : j < l.length) (h4 : nb l j = 42) : j < a + stars l a := by
  rcases Nat.lt_or_ge j (a + stars l a) with h | h
  · exact h
  · have e : j = a + stars l a := by omega
    subst e
    exact absurd h4 (stars_end h3)
theorem sgnR_91 {l : L8} {a : Nat} (h : nb l a = 91) : sgnR l a = match clsR l (l.length + 1) (if bang l a then a + 2 else a + 1) noneS 0 with | none => none | some (S, b) => some (⟨4, 0, bang l a, S⟩, b) := by unfold sgnR; rw [if_pos h] <;> rfl
theorem sgnR_63 {l : L8} {a : Nat} (h : nb l a = 63) : sgnR l a = some (⟨1, 63, false, noneS⟩, a + 1) := by unfold sgnR; rw [if_neg (by omega), if_pos h]
theorem sgnR_42 {l : L8} {a : Nat} (h : nb l a = 42) : sgnR l a = some (⟨if stars l a > 1 then 3 else 2, 42, false, noneS⟩, a + stars l a) := by unfold sgnR; rw [if_neg (by omega), if_neg (by omega), if_pos h]
theorem sgnR_own {l : L8} {a : Nat} (h1 : nb l a ≠ 91) (h2 : nb l a ≠ 63) (h3 : nb l a ≠ 42) : sgnR l a = match rbN l a with | none => none | some (c, b) => some (⟨0, c, false, noneS⟩, b) := by unfold sgnR; rw [if_neg h1, if_neg h2, if_neg h3] <;> rfl
theorem rbN_92 {l : L8} {a : Nat} (h0 : a < l.length) (h : nb l a = 92) : rbN l a = if a + 1 < l.length then some (nb l (a + 1), a + 1 + 1) else none := by
  have e : rbAt l a = a + 1 := if_pos ⟨h0, by rw [bt_nb, h]; rfl⟩
  unfold rbN; rw [e]
theorem rbN_other {l : L8} {a : Nat} (h0 : a < l.length) (h : nb l a ≠ 92) : rbN l a = some (nb l a, a + 1) := by
  have e : rbAt l a = a := if_neg (fun q => h (by have := q.2; rw [bt_nb] at this; omega))
  unfold rbN; rw [e, if_pos h0]
/-- what Signs answers -/
def RDR (l : L8) (base : Nat) (v : Value) (w : World) : Prop := match readR l with
  | none => v = .tuple #[.slice none 0 0, .bool false]
  | some L => ∃ a c, v = .tuple #[.slice a L.length c, .bool true] ∧ RgOwn w base (.slice a L.length c) L
end Go.Proofs.YtokocfoeohddfaaGreatDoor.Pa
namespace Go.Proofs.YtokocfoeohddfaaGreatDoor.Pa
open Go.RowKit
set_option linter.unusedVariables false
set_option linter.unusedSimpArgs false
set_option maxRecDepth 1000000

structure KI (w wx : World) (B : Bool) (S : Nat → Bool) : Prop where
  top : wx.heap[w.heap.size + 1]? = some (.cells (sgC 4 0 B S).toArray 56)
  res : wx.heap[w.heap.size]? = some (.cells (sgC 0 0 false noneS).toArray 56)
  bel : Below w.heap.size w wx
theorem ki_start (w : World) : KI w (((w.alloc (.cells (sgC 0 0 false noneS).toArray 56)).alloc (.cells (sgC 0 0 false noneS).toArray 56)).setCells (w.heap.size + 1) 0 (sgC 4 0 false noneS)) false noneS := by
  have h := heap_new (w.alloc (.cells (sgC 0 0 false noneS).toArray 56)) (.cells (sgC 0 0 false noneS).toArray 56)
  rw [World.size_alloc] at h
  refine ⟨stored_whole _ _ _ _ _ h (by simp [sgC_length]), ?_, ?_⟩
  · rw [heap_setCells _ _ (by omega), Below.heap_alloc _ _ _ (by simp)]; exact heap_new _ _
  · exact below_setCells _ _ _ _ _ _ (((Below.refl _ _).alloc (Nat.le_refl _) _).alloc (by simp) _) (by omega)
theorem KI.turn {w wx : World} (h : KI w wx false noneS) : KI w (wx.setCell ⟨w.heap.size + 1, 2, none⟩ (.bool true)) true noneS := by
  refine ⟨?_, ?_, h.bel.setCell (by show w.heap.size ≤ w.heap.size + 1; omega) _⟩
  · rw [row_set h.top 2, sgC_set2]
  · rw [← h.res]; simp [World.setCell, Array.getElem?_modify]
theorem KI.add {w wx : World} {B : Bool} {S : Nat → Bool} (h : KI w wx B S) (i : Nat) (hi : i < 256) : KI w (wx.setCell ⟨w.heap.size + 1, 3 + i, none⟩ (.bool true)) B (addS S i) := by
  refine ⟨?_, ?_, h.bel.setCell (by show w.heap.size ≤ w.heap.size + 1; omega) _⟩
  · rw [row_set h.top (3 + i), sgC_set _ _ _ _ _ hi]
  · rw [← h.res]; simp [World.setCell, Array.getElem?_modify]
theorem KI.same {w wx : World} {B : Bool} {S T : Nat → Bool} (h : KI w wx B S) (e : ∀ x, x < 256 → S x = T x) : KI w wx B T := by
  have : sgC 4 0 B S = sgC 4 0 B T := by
    unfold sgC; congr 1; apply List.map_congr_left; intro x hx; rw [e x (by simpa using hx)]
  exact ⟨by rw [h.top, this], h.res, h.bel⟩
theorem KI.ret {w wx : World} {B : Bool} {S : Nat → Bool} (h : KI w wx B S) : (wx.setCells w.heap.size 0 (sgC 4 0 B S)).heap[w.heap.size]? = some (.cells (sgC 4 0 B S).toArray 56) ∧ Below w.heap.size w (wx.setCells w.heap.size 0 (sgC 4 0 B S)) :=
  ⟨stored_whole _ _ _ _ _ h.res (by simp [sgC_length]), below_setCells _ _ _ _ _ _ h.bel (Nat.le_refl _)⟩
/-- what class answers -/
def RC (l : L8) (p : Nat) (v : Value) : Prop := match clsR l (l.length + 1) (if [33].isPrefixOf (l.drop p) then p + 1 else p) noneS 0 with
  | none => ∃ nt S z, v = .tuple #[.agg (sgC 4 0 nt S).toArray, .int .i64 z, .bool false]
  | some (S, b) => v = .tuple #[.agg (sgC 4 0 ([33].isPrefixOf (l.drop p)) S).toArray, .int .i64 (b : Int), .bool true]
theorem pre_bang (l : L8) (p : Nat) : [33].isPrefixOf (l.drop p) = true ↔ p < l.length ∧ nb l p = 33 := by
  by_cases h : p < l.length
  · obtain ⟨c, r, h1, h2, _⟩ := nb_cons h
    rw [h1, h2]
    simp [List.isPrefixOf, h]
    constructor
    · intro e; rw [← e]; rfl
    · intro e; exact (UInt8.toNat_inj.1 e).symm
  · rw [List.drop_eq_nil_of_le (by omega)]
    simp [List.isPrefixOf, h]
theorem clsR_eq (l : L8) (n a : Nat) (S : Nat → Bool) (k : Nat) : clsR l (n + 1) a S k = if a < l.length ∧ nb l a ≠ 93 then (match rmR l a with
      | none => none
      | some (f, g, b) => clsR l n b (spanS S f (g + 1)) (k + 1))
    else if a < l.length ∧ 0 < k then some (S, a + 1) else none := by rw [clsR] <;> rfl
/-- what the second member comes to -/
def okIf (ok : Bool) (f g d : Nat) : Option (Nat × Nat × Nat) := if ok = true ∧ f ≤ g then some (f, g, d) else none
theorem bt_ne {l : L8} {a n : Nat} (h : nb l a ≠ n) : (bt l a == (n : Int)) = false := by rw [bt_nb]; simpa using fun e => h (by omega)
set_option maxHeartbeats 16000000 in
theorem class_any (l : L8) (p : Nat) (w : World) (hp : p ≤ l.length) (hl : l.length ≤ 4611686018427387000) :
    Calls Tryz.prog 50 #[.string (mk l), .int .i64 (p : Int)] w fun e w' => ∃ v, e = .returned v ∧ RC l p v ∧ Below w.heap.size w w' := by
  have hs : (mk l).size = l.length := mk_size l
  have HS := Lib.hid hs
  obtain ⟨B, hB⟩ : ∃ B, B = [33].isPrefixOf (l.drop p) := ⟨_, rfl⟩
  obtain ⟨st, hst⟩ : ∃ st, st = (if B then p + 1 else p : Nat) := ⟨_, rfl⟩
  obtain ⟨R, hR⟩ : ∃ R, R = clsR l (l.length + 1) st noneS 0 := ⟨_, rfl⟩
  have HNO : Hid (R = none → ∀ S z, RC l p (.tuple #[.agg (sgC 4 0 B S).toArray, .int .i64 z, .bool false])) := by
    intro h S z
    unfold RC
    rw [← hB, ← hst, ← hR, h]
    exact ⟨_, _, _, rfl⟩
  have HYES : Hid (∀ S b, R = some (S, b) → RC l p (.tuple #[.agg (sgC 4 0 B S).toArray, .int .i64 (b : Int), .bool true])) := by
    intro S b h
    unfold RC
    rw [← hB, ← hst, ← hR, h]
  have HR0 : Hid (R = clsR l (l.length + 1) st noneS 0) := hR
  have HP : Hid (p ≤ l.length) := hp
  have HL : Hid (l.length ≤ 4611686018427387000) := hl
  have HST : Hid (st ≤ l.length) := by
    show _ ≤ _
    rw [hst]; split
    · next h => rw [hB] at h; have := (pre_bang l p).1 h; omega
    · omega
  have HBV : Hid (B = true ↔ p < l.length ∧ nb l p = 33) := by show _ ↔ _; rw [hB]; exact pre_bang l p
  have HSV : Hid (st = if B then p + 1 else p) := hst
  have hz := zero_rg
  have HK1 := Lib.hid (ki_start w)
  have HBF := Lib.hid built_four
  have hh := heap_new (w.alloc (.cells (sgC 0 0 false noneS).toArray 56)) (.cells (sgC 0 0 false noneS).toArray 56)
  rw [World.size_alloc] at hh
  have HTH0 : Hid (((w.alloc (.cells (sgC 0 0 false noneS).toArray 56)).alloc (.cells (sgC 0 0 false noneS).toArray 56)).there (w.heap.size + 1) 0 (sgC 4 0 false noneS).toArray.size) := there_block hh _ (by simp [sgC_length])
  have HSZ0 : Hid ((Tryz.prog.info? 56).map (·.size) = some (sgC 4 0 false noneS).toArray.size) := size_rga (sgC_length _ _ _ _)
  have HON0 : Hid ((sgC 4 0 false noneS).toArray.all (·.oneCell') = true) := all_oneCell_toArray (sgC_one _ _ _ _)
  obtain ⟨Z, hZ⟩ : ∃ Z, Z = sgC 0 0 false noneS := ⟨_, rfl⟩
  obtain ⟨F, hF⟩ : ∃ F, F = sgC 4 0 false noneS := ⟨_, rfl⟩
  rw [← hZ] at HK1 HTH0
  rw [← hZ] at hz
  rw [← hF] at HK1 HBF HTH0 HSZ0 HON0
  clear hp hl hB hst hR hs hh hZ hF
  go_enter Tryz.func50, Tryz.ntmps50
  go_upto_region 2 with (first
    | ((with_reducible show wpList _ _ _ (Oper.mk (some 14) _ _ _ _ _ :: _) _ _); go_must (refine wpList_buildTo rfl 56 #[(0, .const (.int .i64 4))] rfl (some 14) rfl F.toArray (by simpa [Act.eval] using HBF.out) ?_))
    | ((with_reducible show wpList _ _ _ (Oper.mk none (Op.store 56 _ _) _ _ _ _ :: _) _ _); go_must (refine wpList_store_mid rfl 56 (.tmp 7) (.tmp 14) rfl (w.heap.size + 1) 0 F.toArray rfl rfl HTH0.out HSZ0.out HON0.out ?_)))
  try simp only [Act.put, List.setIfInBounds_toArray, List.set_cons_zero, List.set_cons_succ]
  generalize (((w.alloc (.cells Z.toArray 56)).alloc (.cells Z.toArray 56)).setCells (w.heap.size + 1) 0 F) = w1 at HK1 ⊢
  clear hz HTH0 HSZ0 HON0 HBF
  go_cut [24] (fun v wx => v = .bool B ∧ w1 = wx)
  case first =>
    by_cases h1 : p < l.length
    · have hI1 : (p : Int) < ((mk l).size : Int) := by rw [HS.out]; omega
      have hI1' : ¬ ((mk l).size : Int) ≤ (p : Int) := by rw [HS.out]; omega
      have hx := run_at l p h1
      by_cases h2 : nb l p = 33
      · have hb : bt l p = 33 := by rw [bt_nb, h2]; rfl
        rw [hb] at hx
        have HE : Hid (B = true) := HBV.out.2 ⟨h1, h2⟩
        clear h1 h2 hb
        go_wp2
        go_meet
        exact ⟨by rw [HE.out], rfl⟩
      · have hq : (bt l p == 33) = false := bt_ne (n := 33) h2
        have HE : Hid (B = false) := by
          show B = false
          rw [Bool.eq_false_iff]; exact fun h => h2 (HBV.out.1 h).2
        generalize bt l p = c at *
        clear h1 h2
        go_wp2
        go_meet
        exact ⟨by rw [HE.out], rfl⟩
    · have hI1 : ¬ (p : Int) < ((mk l).size : Int) := by rw [HS.out]; omega
      have hI1' : ((mk l).size : Int) ≤ (p : Int) := by rw [HS.out]; omega
      have HE : Hid (B = false) := by
        show B = false
        rw [Bool.eq_false_iff]; exact fun h => h1 (HBV.out.1 h).1
      clear h1
      go_wp2
      go_meet
      exact ⟨by rw [HE.out], rfl⟩
  case rest =>
  obtain ⟨rfl, rfl⟩ := hcut
  go_upto_if 24 with (fail)
  go_cut [1] (fun a wx => a = .int .i64 (st : Int) ∧ Hid (KI w wx B noneS))
  case first =>
    have HPL := HP.out
    have HLL := HL.out
    have hw1 : IntKind.i64.wrap ((p : Int) + 1) = (p : Int) + 1 := IntWalk.i64_in _ (by omega)
    have hc2 : w1.cell? ⟨w.heap.size + 1, 2, none⟩ = some (.bool false) := by rw [cell_of_row _ _ 2 _ _ (0, 0) HK1.out.top]; rfl
    have hf2 : w1.frozen? ⟨w.heap.size + 1, 2, none⟩ = false := unfrozen HK1.out.top
    have HS2 := HSV.out
    cases hBB : B with
    | false =>
      have HE : Hid (st = p) := by show _ = _; rw [HS2, hBB]; rfl
      have HKE : Hid (KI w w1 false noneS) := HK1
      clear HPL HLL HS2
      go_wp2
      go_meet
      exact ⟨by rw [HE.out], by rw [hBB]; exact HKE⟩
    | true =>
      have HE : Hid (st = p + 1) := by show _ = _; rw [HS2, hBB]; rfl
      have HKE : Hid (KI w (w1.setCell ⟨w.heap.size + 1, 2, none⟩ (.bool true)) true noneS) := HK1.out.turn
      clear HPL HLL HS2
      go_wp2
      go_meet
      exact ⟨by rw [HE.out]; go_num, by rw [hBB]; exact HKE⟩
  case rest =>
  obtain ⟨rfl, HK0⟩ := hcut
  clear HK1
  go_wp2
  go_loopw [1, 8] (fun a c wr => ∃ (i k : Nat) (S : Nat → Bool), a = .int .i64 i ∧ c = .int .i64 k ∧ Hid (i ≤ l.length) ∧ Hid (k ≤ i) ∧ Hid (R = clsR l (l.length + 1) i S k) ∧ Hid (KI w wr B S)) (fun a _ _ => l.length - (intOf a).toNat)
  case atStart => exact ⟨st, 0, noneS, rfl, rfl, HST, Nat.zero_le _, HR0, HK0⟩
  case round =>
    clear HK0 HR0
    obtain ⟨i, k, S, rfl, rfl, HI, HKI, HRS, HK⟩ := hrel
    have hIL := HI.out
    have hLL := HL.out
    obtain ⟨X, hX⟩ : ∃ X, X = sgC 4 0 B S := ⟨_, rfl⟩
    have HRG : Hid (wr.rangeAt (w.heap.size + 1) 0 X) := by show World.rangeAt _ _ _ _; rw [hX]; exact range_block HK.out.top
    have HSZ : Hid ((Tryz.prog.info? 56).map (·.size) = some X.length) := by show _ = _; rw [hX]; exact size_rg (sgC_length _ _ _ _)
    have HSZ2 : Hid ((Tryz.prog.info? 56).map (·.size) = some X.toArray.size) := by show _ = _; rw [hX]; exact size_rga (sgC_length _ _ _ _)
    have HON : Hid (X.toArray.all (·.oneCell') = true) := by show _ = _; rw [hX]; exact all_oneCell_toArray (sgC_one _ _ _ _)
    have HTH : Hid (wr.there w.heap.size 0 X.toArray.size) := by show World.there _ _ _ _; rw [hX]; exact there_block HK.out.res _ (by simp [sgC_length])
    have HRT : Hid ((wr.setCells w.heap.size 0 X).heap[w.heap.size]? = some (.cells X.toArray 56) ∧ Below w.heap.size w (wr.setCells w.heap.size 0 X)) := by show _ ∧ _; rw [hX]; exact HK.out.ret
    have HNX : Hid (R = none → ∀ z, RC l p (.tuple #[.agg X.toArray, .int .i64 z, .bool false])) := by
      intro h z; rw [hX]; exact HNO.out h S z
    have HYX : Hid (∀ b, R = some (S, b) → RC l p (.tuple #[.agg X.toArray, .int .i64 (b : Int), .bool true])) := by
      intro b h; rw [hX]; exact HYES.out S b h
    clear hX
    by_cases hi : i < l.length
    · have hIi : (i : Int) < ((mk l).size : Int) := by rw [HS.out]; omega
      have hIi' : ¬ ((mk l).size : Int) ≤ (i : Int) := by rw [HS.out]; omega
      have hx := run_at l i hi
      have hw1 : IntKind.i64.wrap ((i : Int) + 1) = (i : Int) + 1 := IntWalk.i64_in _ (by omega)
      have HIT := Lib.hid hi
      by_cases h93 : nb l i = 93
      · have hb93 : bt l i = 93 := by rw [bt_nb, h93]; rfl
        rw [hb93] at hx
        by_cases hk : 0 < k
        · have hkI : (0 : Int) < (k : Int) := by omega
          have HRES : Hid (RC l p (.tuple #[.agg X.toArray, .int .i64 ((i : Int) + 1), .bool true])) := HYX.out (i + 1) (by rw [HRS.out, clsR_eq, if_neg (fun h => h.2 h93), if_pos ⟨hi, hk⟩])
          clear hIL hLL hi h93 hb93
          go_wp2_with (first
            | ((with_reducible show wpList _ _ _ (Oper.mk (some 97) _ _ _ _ _ :: _) _ _); go_must (refine wpList_load_mid rfl 56 (.tmp 7) rfl (w.heap.size + 1) 0 rfl X _ HRG.out Tryz.underlying56 rfl HSZ.out ?_))
            | ((with_reducible show wpList _ _ _ (Oper.mk none (Op.store 56 _ _) _ _ _ _ :: _) _ _); go_must (refine wpList_store_mid rfl 56 (.tmp 4) (.tmp 97) rfl w.heap.size 0 X.toArray rfl rfl HTH.out HSZ2.out HON.out ?_)))
          try simp only [Exit.inBlock, Exit.then]
          refine bodyPost_ret (v := .tuple #[.agg X.toArray, .int .i64 ((i : Int) + 1), .bool true]) (results_cell3_row (p := 4) (u := 5) (v := 6) rfl _ _ w.heap.size 56 X.toArray (0, 0) _ rfl HRT.out.1 Tryz.underlying56 rfl HSZ2.out) rfl ?_
          exact ⟨_, rfl, HRES.out, HRT.out.2⟩
        · have hk0 : k = 0 := by omega
          have HRES : Hid (RC l p (.tuple #[.agg X.toArray, .int .i64 ((i : Int) + 1), .bool false])) := HNX.out (by rw [HRS.out, clsR_eq, if_neg (fun h => h.2 h93), if_neg (fun h => hk h.2)]) _
          subst hk0
          clear hIL hLL hi h93 hb93 hk
          go_wp2_with (first
            | ((with_reducible show wpList _ _ _ (Oper.mk (some 97) _ _ _ _ _ :: _) _ _); go_must (refine wpList_load_mid rfl 56 (.tmp 7) rfl (w.heap.size + 1) 0 rfl X _ HRG.out Tryz.underlying56 rfl HSZ.out ?_))
            | ((with_reducible show wpList _ _ _ (Oper.mk none (Op.store 56 _ _) _ _ _ _ :: _) _ _); go_must (refine wpList_store_mid rfl 56 (.tmp 4) (.tmp 97) rfl w.heap.size 0 X.toArray rfl rfl HTH.out HSZ2.out HON.out ?_)))
          try simp only [Exit.inBlock, Exit.then]
          refine bodyPost_ret (v := .tuple #[.agg X.toArray, .int .i64 ((i : Int) + 1), .bool false]) (results_cell3_row (p := 4) (u := 5) (v := 6) rfl _ _ w.heap.size 56 X.toArray (0, 0) _ rfl HRT.out.1 Tryz.underlying56 rfl HSZ2.out) rfl ?_
          exact ⟨_, rfl, HRES.out, HRT.out.2⟩
      · have hq : (bt l i == 93) = false := bt_ne (n := 93) h93
        have HM := Lib.hid (rmember_any l i wr (by omega) (by omega))
        generalize bt l i = c at *
        have HRE : Hid (R = match rmR l i with | none => none | some (f, g, b) => clsR l l.length b (spanS S f (g + 1)) (k + 1)) := by show _ = _; rw [HRS.out, clsR_eq, if_pos ⟨hi, h93⟩]
        cases hrb : rbN l i with
        | none =>
          have HM0 := HM.out
          rw [rb_none hrb] at HM0
          have HM := Lib.hid HM0
          have HRES : Hid (∀ z, RC l p (.tuple #[.agg X.toArray, .int .i64 z, .bool false])) := HNX.out (by rw [HRE.out]; unfold rmR; rw [hrb])
          clear HM0 hIL hLL hi h93 hrb
          go_wp2_with (first
            | (go_at_call 68; refine HM.out.mono ?_; rintro e w' ⟨rfl, rfl⟩)
            | ((with_reducible show wpList _ _ _ (Oper.mk (some 47) _ _ _ _ _ :: _) _ _); go_must (refine wpList_load_mid rfl 56 (.tmp 7) rfl (w.heap.size + 1) 0 rfl X _ HRG.out Tryz.underlying56 rfl HSZ.out ?_))
            | ((with_reducible show wpList _ _ _ (Oper.mk none (Op.store 56 _ _) _ _ _ _ :: _) _ _); go_must (refine wpList_store_mid rfl 56 (.tmp 4) (.tmp 47) rfl w.heap.size 0 X.toArray rfl rfl HTH.out HSZ2.out HON.out ?_)))
          try simp only [Exit.inBlock, Exit.then]
          refine bodyPost_ret (v := .tuple #[.agg X.toArray, .int .i64 0, .bool false]) (results_cell3_row (p := 4) (u := 5) (v := 6) rfl _ _ w.heap.size 56 X.toArray (0, 0) _ rfl HRT.out.1 Tryz.underlying56 rfl HSZ2.out) rfl ?_
          exact ⟨_, rfl, HRES.out _, HRT.out.2⟩
        | some fb =>
          obtain ⟨f, b⟩ := fb
          obtain ⟨e1, hf, hib, hbl, -⟩ := rb_some hrb
          have HM0 := HM.out
          rw [e1] at HM0
          have HM := Lib.hid HM0
          have HRM : Hid (rmR l i = if b + 1 < l.length ∧ nb l b = 45 ∧ nb l (b + 1) ≠ 93 then (match rbN l (b + 1) with | none => none | some (g, d) => if f ≤ g then some (f, g, d) else none) else some (f, f, b)) := by show _ = _; unfold rmR; rw [hrb] <;> rfl
          have HFB : Hid (f < 256 ∧ i < b ∧ b ≤ l.length) := ⟨hf, hib, hbl⟩
          have hwb : IntKind.i64.wrap ((b : Int) + 1) = (b : Int) + 1 := IntWalk.i64_in _ (by omega)
          clear HM0 hIL hLL hi h93 hrb e1 hf hib hbl
          go_upto_region 11 with (go_at_call 68; refine HM.out.mono ?_; rintro e w' ⟨rfl, rfl⟩)
          obtain ⟨A, hA⟩ : ∃ A, A = decide (b + 1 < l.length ∧ nb l b = 45 ∧ nb l (b + 1) ≠ 93) := ⟨_, rfl⟩
          have HA := Lib.hid hA
          clear hA
          go_cut [66] (fun v wx => v = .bool A ∧ wr = wx)
          case first =>
            have hFB := HFB.out
            by_cases h1 : b + 1 < l.length
            · have hI1 : (b : Int) + 1 < ((mk l).size : Int) := by rw [HS.out]; omega
              have hI0 : (b : Int) < ((mk l).size : Int) := by rw [HS.out]; omega
              have hI2 : ¬ ((mk l).size : Int) ≤ (b : Int) + 1 := by rw [HS.out]; omega
              have hI3 : ¬ ((mk l).size : Int) ≤ (b : Int) := by rw [HS.out]; omega
              have hxb := run_at l b (by omega)
              have hxb1 := run_at l (b + 1) h1
              rw [show ((b + 1 : Nat) : Int) = (b : Int) + 1 from by omega] at hxb1
              by_cases h2 : nb l b = 45
              · have hb45 : bt l b = 45 := by rw [bt_nb, h2]; rfl
                rw [hb45] at hxb
                by_cases h3 : nb l (b + 1) = 93
                · have hb93 : bt l (b + 1) = 93 := by rw [bt_nb, h3]; rfl
                  rw [hb93] at hxb1
                  have HE : Hid (A = false) := by show _ = _; rw [HA.out]; exact decide_eq_false (fun h => h.2.2 h3)
                  clear h1 h2 h3 hb45 hb93 hFB
                  go_wp2
                  go_meet
                  exact ⟨by rw [HE.out], rfl⟩
                · have hq3 : (bt l (b + 1) == 93) = false := bt_ne (n := 93) h3
                  have HE : Hid (A = true) := by show _ = _; rw [HA.out]; exact decide_eq_true ⟨h1, h2, h3⟩
                  generalize bt l (b + 1) = c2 at *
                  clear h1 h2 h3 hb45 hFB
                  have HQ3 := Lib.hid hq3
                  go_wp2
                  go_meet
                  exact ⟨by rw [HE.out]; have := HQ3.out; simp [bne, this], rfl⟩
              · have hq2 : (bt l b == 45) = false := bt_ne (n := 45) h2
                have HE : Hid (A = false) := by show _ = _; rw [HA.out]; exact decide_eq_false (fun h => h2 h.2.1)
                generalize bt l b = c2 at *
                clear h1 h2 hFB hxb1
                go_wp2
                go_meet
                exact ⟨by rw [HE.out], rfl⟩
            · have hI1 : ¬ (b : Int) + 1 < ((mk l).size : Int) := by rw [HS.out]; omega
              have hI2 : ((mk l).size : Int) ≤ (b : Int) + 1 := by rw [HS.out]; omega
              have HE : Hid (A = false) := by show _ = _; rw [HA.out]; exact decide_eq_false (fun h => h1 h.1)
              clear h1 hFB
              go_wp2
              go_meet
              exact ⟨by rw [HE.out], rfl⟩
          case rest =>
          obtain ⟨rfl, rfl⟩ := hcut
          clear HM
          go_upto_if 66 with (fail)
          go_cut [10, 11, 12] (fun x y z wx => ∃ (g d : Nat) (ok : Bool), x = .int .i64 (d : Int) ∧ y = .bool ok ∧ z = .int .u8 (g : Int) ∧ wr = wx ∧ Hid (g < 256) ∧ Hid (rmR l i = okIf ok f g d))
          case first =>
            cases hAA : A with
            | false =>
              have HE : Hid (rmR l i = okIf true f f b) := by
                show _ = _
                unfold okIf
                rw [HRM.out, if_neg (of_decide_eq_false (by rw [← HA.out]; exact hAA)), if_pos ⟨rfl, Nat.le_refl _⟩]
              go_wp2
              go_meet
              exact ⟨f, b, true, rfl, rfl, rfl, rfl, HFB.out.1, HE⟩
            | true =>
              have hd := of_decide_eq_true (by rw [← HA.out]; exact hAA : decide (b + 1 < l.length ∧ nb l b = 45 ∧ nb l (b + 1) ≠ 93) = true)
              have hm := rmember_any l (b + 1) wr (by omega) (by have := HL.out; omega)
              rw [show ((b + 1 : Nat) : Int) = (b : Int) + 1 from by omega] at hm
              have HRM2 : Hid (rmR l i = match rbN l (b + 1) with | none => none | some (g, d) => if f ≤ g then some (f, g, d) else none) := by show _ = _; rw [HRM.out, if_pos hd]
              cases hy : rbN l (b + 1) with
              | none =>
                rw [rb_none hy] at hm
                have HM := Lib.hid hm
                have HE : Hid (rmR l i = okIf false f 0 0) := by
                  show _ = _
                  unfold okIf
                  rw [HRM2.out, hy, if_neg (by simp)]
                clear hd hm hy
                go_wp2_with (go_at_call 68; refine HM.out.mono ?_; rintro e w' ⟨rfl, rfl⟩)
                go_meet
                exact ⟨0, 0, false, rfl, rfl, rfl, rfl, by show 0 < 256; omega, HE⟩
              | some y =>
                obtain ⟨g, d⟩ := y
                obtain ⟨k1, k2, k3, k4, k5⟩ := rb_some hy
                rw [k1] at hm
                have HM := Lib.hid hm
                have HE : Hid (rmR l i = okIf true f g d) := by
                  show _ = _
                  unfold okIf
                  rw [HRM2.out, hy]
                  by_cases h : f ≤ g
                  · rw [if_pos ⟨rfl, h⟩]; exact if_pos h
                  · rw [if_neg (fun q => h q.2)]; exact if_neg h
                have HG : Hid (g < 256) := k2
                clear hd hm hy k1 k2 k3 k4 k5
                go_wp2_with (go_at_call 68; refine HM.out.mono ?_; rintro e w' ⟨rfl, rfl⟩)
                go_meet
                exact ⟨g, d, true, rfl, rfl, rfl, rfl, HG, HE⟩
          case rest =>
          obtain ⟨g, d, ok, rfl, rfl, rfl, rfl, HG, HRQ⟩ := hcut
          clear HRM
          by_cases hok : ok = true ∧ f ≤ g
          · obtain ⟨hok1, hfg⟩ := hok
            subst hok1
            have HRR : Hid (rmR l i = some (f, g, d)) := by show _ = _; rw [HRQ.out]; exact if_pos ⟨rfl, hfg⟩
            have HBD := Lib.hid (rmR_bd HRR.out)
            have hnlt : ¬ (g : Int) < (f : Int) := by omega
            have HFG := Lib.hid hfg
            have HSP : Hid (KI w wr B (spanS S f f)) := HK.out.same fun x hx => by
              unfold spanS
              have : (decide (f ≤ x) && decide (x < f)) = false := by rw [Bool.eq_false_iff]; simp
              rw [this, Bool.or_false]
            have hcf : IntKind.i64.wrap (f : Int) = (f : Int) := IntWalk.i64_in _ (by have := HFB.out; omega)
            have hcg : IntKind.i64.wrap (g : Int) = (g : Int) := IntWalk.i64_in _ (by have := HG.out; omega)
            have hwk : IntKind.i64.wrap ((k : Int) + 1) = (k : Int) + 1 := IntWalk.i64_in _ (by have := HKI.out; have := HI.out; have := HL.out; omega)
            clear HK HRG HSZ HSZ2 HON HTH HRT HNX HYX HRQ hfg
            go_wp2
            go_loopw [13] (fun v wx => ∃ j : Nat, v = .int .i64 j ∧ Hid (f ≤ j) ∧ Hid (j ≤ g + 1) ∧ Hid (KI w wx B (spanS S f j))) (fun v _ => 256 - (intOf v).toNat)
            case atStart => exact ⟨f, rfl, Nat.le_refl f, by show _ ≤ _; have := HFG.out; omega, HSP⟩
            case round =>
              clear HSP
              obtain ⟨j, rfl, HJ1, HJ2, HK⟩ := hrel
              have hg := HG.out
              have hj2 := HJ2.out
              by_cases hjg : j ≤ g
              · have hI : (j : Int) ≤ (g : Int) := by omega
                have hw : IntKind.i64.wrap ((j : Int) + 1) = (j : Int) + 1 := IntWalk.i64_in _ (by omega)
                have hj0 : (0 : Int) ≤ (j : Int) := by omega
                have hj256 : (j : Int) < 256 := by omega
                have hc := cell_of_row wr (w.heap.size + 1) (3 + j) _ _ (0, 0) HK.out.top
                rw [sgC_get _ _ _ _ _ (by omega)] at hc
                have hf : wr.frozen? ⟨w.heap.size + 1, 3 + j, none⟩ = false := unfrozen HK.out.top
                have HKN : Hid (KI w (wr.setCell ⟨w.heap.size + 1, 3 + j, none⟩ (.bool true)) B (spanS S f (j + 1))) := (HK.out.add j (by omega)).same fun x hx => by
                  have := HJ1.out
                  unfold addS spanS
                  rw [Bool.eq_iff_iff]
                  cases S x
                  · simp; omega
                  · simp
                have HJG := Lib.hid hjg
                clear hg hj2 hjg
                go_wp2
                go_roundw
                case rel => exact ⟨j + 1, by go_num, by show _ ≤ _; have := HJ1.out; omega, by show _ ≤ _; have := HJG.out; omega, HKN⟩
                case measure => have := HJG.out; have := HG.out; simp [intOf]; omega
              · have hI : ¬ (j : Int) ≤ (g : Int) := by omega
                have HKF : Hid (KI w wr B (spanS S f (g + 1))) := by
                  have : j = g + 1 := by omega
                  rw [this] at HK; exact HK
                clear hg hj2 hjg
                go_wp2
                go_roundw
                case rel => exact ⟨d, k + 1, spanS S f (g + 1), rfl, by go_num, by show _ ≤ _; have := HBD.out; omega, by show _ ≤ _; have := HBD.out; have := HKI.out; omega, by
                    show _ = _
                    rw [HRE.out, HRR.out]
                    have := HBD.out
                    exact clsR_fuel _ _ _ _ _ (by omega) (by omega), HKF⟩
                case measure => have := HBD.out; have := HIT.out; simp [intOf]; omega
          · have HRES : Hid (∀ z, RC l p (.tuple #[.agg X.toArray, .int .i64 z, .bool false])) := HNX.out (by rw [HRE.out, HRQ.out, show okIf ok f g d = none from if_neg hok])
            have HGF : Hid (ok = true → g < f) := fun h => by by_cases hq : f ≤ g; exact absurd ⟨h, hq⟩ hok; omega
            clear hok HRQ
            cases ok with
            | false =>
              go_wp2_with (first
                | ((with_reducible show wpList _ _ _ (Oper.mk (some 82) _ _ _ _ _ :: _) _ _); go_must (refine wpList_load_mid rfl 56 (.tmp 7) rfl (w.heap.size + 1) 0 rfl X _ HRG.out Tryz.underlying56 rfl HSZ.out ?_))
                | ((with_reducible show wpList _ _ _ (Oper.mk none (Op.store 56 _ _) _ _ _ _ :: _) _ _); go_must (refine wpList_store_mid rfl 56 (.tmp 4) (.tmp 82) rfl w.heap.size 0 X.toArray rfl rfl HTH.out HSZ2.out HON.out ?_)))
              try simp only [Exit.inBlock, Exit.then]
              refine bodyPost_ret (v := .tuple #[.agg X.toArray, .int .i64 0, .bool false]) (results_cell3_row (p := 4) (u := 5) (v := 6) rfl _ _ w.heap.size 56 X.toArray (0, 0) _ rfl HRT.out.1 Tryz.underlying56 rfl HSZ2.out) rfl ?_
              exact ⟨_, rfl, HRES.out _, HRT.out.2⟩
            | true =>
              have hlt : (g : Int) < (f : Int) := by have := HGF.out rfl; omega
              go_wp2_with (first
                | ((with_reducible show wpList _ _ _ (Oper.mk (some 82) _ _ _ _ _ :: _) _ _); go_must (refine wpList_load_mid rfl 56 (.tmp 7) rfl (w.heap.size + 1) 0 rfl X _ HRG.out Tryz.underlying56 rfl HSZ.out ?_))
                | ((with_reducible show wpList _ _ _ (Oper.mk none (Op.store 56 _ _) _ _ _ _ :: _) _ _); go_must (refine wpList_store_mid rfl 56 (.tmp 4) (.tmp 82) rfl w.heap.size 0 X.toArray rfl rfl HTH.out HSZ2.out HON.out ?_)))
              try simp only [Exit.inBlock, Exit.then]
              refine bodyPost_ret (v := .tuple #[.agg X.toArray, .int .i64 0, .bool false]) (results_cell3_row (p := 4) (u := 5) (v := 6) rfl _ _ w.heap.size 56 X.toArray (0, 0) _ rfl HRT.out.1 Tryz.underlying56 rfl HSZ2.out) rfl ?_
              exact ⟨_, rfl, HRES.out _, HRT.out.2⟩
    · have hIi : ¬ (i : Int) < ((mk l).size : Int) := by rw [HS.out]; omega
      have hIi' : ((mk l).size : Int) ≤ (i : Int) := by rw [HS.out]; omega
      have hw1 : IntKind.i64.wrap ((i : Int) + 1) = (i : Int) + 1 := IntWalk.i64_in _ (by omega)
      have HRES : Hid (RC l p (.tuple #[.agg X.toArray, .int .i64 ((i : Int) + 1), .bool false])) := HNX.out (by rw [HRS.out, clsR_eq, if_neg (fun h => hi h.1), if_neg (fun h => hi h.1)]) _
      clear hIL hLL hi
      go_wp2_with (first
        | ((with_reducible show wpList _ _ _ (Oper.mk (some 97) _ _ _ _ _ :: _) _ _); go_must (refine wpList_load_mid rfl 56 (.tmp 7) rfl (w.heap.size + 1) 0 rfl X _ HRG.out Tryz.underlying56 rfl HSZ.out ?_))
        | ((with_reducible show wpList _ _ _ (Oper.mk none (Op.store 56 _ _) _ _ _ _ :: _) _ _); go_must (refine wpList_store_mid rfl 56 (.tmp 4) (.tmp 97) rfl w.heap.size 0 X.toArray rfl rfl HTH.out HSZ2.out HON.out ?_)))
      try simp only [Exit.inBlock, Exit.then]
      refine bodyPost_ret (v := .tuple #[.agg X.toArray, .int .i64 ((i : Int) + 1), .bool false]) (results_cell3_row (p := 4) (u := 5) (v := 6) rfl _ _ w.heap.size 56 X.toArray (0, 0) _ rfl HRT.out.1 Tryz.underlying56 rfl HSZ2.out) rfl ?_
      exact ⟨_, rfl, HRES.out, HRT.out.2⟩
end Go.Proofs.YtokocfoeohddfaaGreatDoor.Pa
namespace Go.Proofs.YtokocfoeohddfaaGreatDoor.Pa
open Go.RowKit
set_option linter.unusedVariables false
set_option linter.unusedSimpArgs false
set_option maxRecDepth 1000000

theorem rg_keep {w wx wy : World} {v : Value} {L : List Rg} {g : Nat} (h : RgOwn wx w.heap.size v L) (hg : g = wx.heap.size) (hb : Below wx.heap.size wx wy) : RgOwn wy w.heap.size v L := h.later hb
set_option maxHeartbeats 16000000 in
theorem rsigns_any (l : L8) (w : World) (hl : l.length ≤ 100) :
    Calls Tryz.prog 38 #[.string (mk l)] w fun e w' => ∃ v, e = .returned v ∧ RDR l w.heap.size v w' ∧ Below w.heap.size w w' := by
  have hs : (mk l).size = l.length := mk_size l
  have HS := Lib.hid hs
  have HL : Hid (l.length ≤ 100) := hl
  obtain ⟨R, hR⟩ : ∃ R, R = readR l := ⟨_, rfl⟩
  have HRD : Hid (∀ v w', (match R with | none => v = .tuple #[.slice none 0 0, .bool false] | some L => ∃ a c, v = .tuple #[.slice a L.length c, .bool true] ∧ RgOwn w' w.heap.size (.slice a L.length c) L) → RDR l w.heap.size v w') := by
    intro v w' h
    unfold RDR
    rw [← hR]
    exact h
  have HR0 : Hid (RestR l R [] 0) := by
    show RestR _ _ _ _
    unfold RestR
    rw [hR]
    unfold readR
    cases sgnsR l (l.length + 1) 0 <;> simp
  obtain ⟨i0, hi0, hz0, hz1, hzz⟩ := info_parts Tryz.infoRg
  have HI0 := Lib.hid hi0
  have HZ0 := Lib.hid hz0
  have HZ1 := Lib.hid hz1
  have hz := zero_rg
  obtain ⟨Z, hZ⟩ : ∃ Z, Z = sgC 0 0 false noneS := ⟨_, rfl⟩
  have HZL : Hid (Z.length = 259) := by show _ = _; rw [hZ]; exact sgC_length _ _ _ _
  rw [← hZ] at hz HZ0
  clear hs hl hR hi0 hz0 hz1 hzz hZ
  go_enter Tryz.func38, Tryz.ntmps38
  go_wp2
  go_loopw [4, 5] (fun v i wr => ∃ (a : Nat) (L : List Rg), i = .int .i64 a ∧ (∃ aa cc, v = .slice aa L.length cc) ∧ Hid (a ≤ l.length) ∧ Hid (L.length ≤ a) ∧ Hid (RestR l R L a) ∧ Hid (RgOwn wr w.heap.size v L) ∧ Hid (Below w.heap.size w wr)) (fun _ i _ => l.length - (intOf i).toNat)
  case atStart => exact ⟨0, [], rfl, ⟨none, 0, rfl⟩, Nat.zero_le _, Nat.zero_le _, HR0, RgOwn.none _ _, Below.refl _ _⟩
  case round =>
    clear HR0
    obtain ⟨a, L, rfl, ⟨a4, c4, rfl⟩, HA, HLA, HRS, HO, HB⟩ := hrel
    have hA := HA.out
    have hLL := HL.out
    by_cases ha : a < l.length
    · have hIa : (a : Int) < ((mk l).size : Int) := by rw [HS.out]; omega
      have hx := run_at l a ha
      have hw1 : IntKind.i64.wrap ((a : Int) + 1) = (a : Int) + 1 := IntWalk.i64_in _ (by omega)
      rw [bt_nb] at hx
      obtain ⟨n, hn⟩ : ∃ n, n = nb l a := ⟨_, rfl⟩
      rw [← hn] at hx
      have HN := Lib.hid hn
      obtain ⟨F, hF⟩ : ∃ F, F = sgC 0 (n : Int) false noneS := ⟨_, rfl⟩
      have HF := Lib.hid hF
      have HBF : Hid (Tryz.prog.built 56 [(1, .int .u8 (n : Int))] = some F.toArray) := by show _ = _; rw [hF]; exact built_byte _
      have HFL : Hid (F.length = 259) := by show _ = _; rw [hF]; exact sgC_length _ _ _ _
      have HFS : Hid ((Tryz.prog.info? 56).map (·.size) = some F.toArray.size) := size_rga HFL.out
      have HFO : Hid (F.toArray.all (·.oneCell') = true) := by show _ = _; rw [hF]; exact all_oneCell_toArray (sgC_one _ _ _ _)
      have hh := heap_new wr (.cells Z.toArray 56)
      have HFT : Hid ((wr.alloc (.cells Z.toArray 56)).there wr.heap.size 0 F.toArray.size) := there_block hh _ (by rw [List.size_toArray, List.size_toArray, HFL.out, HZL.out]; exact Nat.le_refl _)
      have HX0 : Hid (((wr.alloc (.cells Z.toArray 56)).setCells wr.heap.size 0 F).heap[wr.heap.size]? = some (.cells F.toArray 56)) := stored_whole _ _ _ _ _ hh (by rw [List.size_toArray, HFL.out, HZL.out])
      have HBB : Hid (Below wr.heap.size wr ((wr.alloc (.cells Z.toArray 56)).setCells wr.heap.size 0 F)) := below_setCells _ _ _ _ _ _ ((Below.refl _ _).alloc (Nat.le_refl _) _) (Nat.le_refl _)
      have HSW : Hid (w.heap.size ≤ wr.heap.size ∧ wr.heap.size < ((wr.alloc (.cells Z.toArray 56)).setCells wr.heap.size 0 F).heap.size) := ⟨HB.out.size, by rw [size_setCells]; simp⟩
      have HIL := Lib.hid ha
      clear hn hF hh hA hLL
      go_upto_region 6 with (first
        | ((with_reducible show wpList _ _ _ (Oper.mk (some 19) _ _ _ _ _ :: _) _ _); go_must (refine wpList_buildTo rfl 56 #[(1, .tmp 18)] rfl (some 19) rfl F.toArray (by simpa [Act.eval] using HBF.out) ?_))
        | ((with_reducible show wpList _ _ _ (Oper.mk none (Op.store 56 _ _) _ _ _ _ :: _) _ _); go_must (refine wpList_store_mid rfl 56 (.tmp 7) (.tmp 19) rfl wr.heap.size 0 F.toArray rfl rfl HFT.out HFS.out HFO.out ?_)))
      try simp only [Act.put, List.setIfInBounds_toArray, List.set_cons_zero, List.set_cons_succ]
      generalize ((wr.alloc (.cells Z.toArray 56)).setCells wr.heap.size 0 F) = wB at HX0 HBB HSW ⊢
      obtain ⟨gS, hgS⟩ : ∃ gS, gS = wr.heap.size := ⟨_, rfl⟩
      rw [← hgS] at HX0 HSW ⊢
      have HG := Lib.hid hgS
      have HO2 : Hid (RgOwn wB w.heap.size (.slice a4 L.length c4) L) := HO.out.later HBB.out
      have HB2 : Hid (Below w.heap.size w wB) := HB.out.trans (HBB.out.mono HB.out.size)
      rw [HF.out] at HX0
      clear hgS HBF HFL HFS HFO HFT
      by_cases h91 : n = 91
      · have p91 : ((n : Int) == 91) = true := by simp [h91]
        have q92 : ((n : Int) == 92) = false := by simp [h91]
        have q63 : ((n : Int) == 63) = false := by simp [h91]
        have q42 : ((n : Int) == 42) = false := by simp [h91]
        have hLL := HL.out
        have hIL := HIL.out
        have HSG : Hid (sgnR l a = match clsR l (l.length + 1) (if bang l a then a + 2 else a + 1) noneS 0 with | none => none | some (S, b) => some (⟨4, 0, bang l a, S⟩, b)) := sgnR_91 (by rw [← HN.out]; exact h91)
        have hcl := class_any l (a + 1) wB (by omega) (by omega)
        rw [show ((a + 1 : Nat) : Int) = (a : Int) + 1 from by omega] at hcl
        have HCL := Lib.hid hcl
        have HRC : Hid (RC l (a + 1) = fun v => match clsR l (l.length + 1) (if bang l a then a + 2 else a + 1) noneS 0 with
          | none => ∃ nt S z, v = .tuple #[.agg (sgC 4 0 nt S).toArray, .int .i64 z, .bool false]
          | some (S, b) => v = .tuple #[.agg (sgC 4 0 (bang l a) S).toArray, .int .i64 (b : Int), .bool true]) := rfl
        have HOB : Hid (∀ W, Below gS wB W → RgOwn W w.heap.size (.slice a4 L.length c4) L) := fun W hW => HO.out.later (HBB.out.trans (hW.mono (Nat.le_of_eq HG.out.symm)))
        have HWR : Hid (w.heap.size ≤ gS ∧ gS < wB.heap.size) := HSW.out
        have HLX : Hid (∀ k c nt S, ((Tryz.prog.info? 56).map (·.size) = some (sgC k c nt S).toArray.size) ∧ (sgC k c nt S).toArray.all (·.oneCell') = true) := fun k c nt S => ⟨size_rga (sgC_length _ _ _ _), all_oneCell_toArray (sgC_one _ _ _ _)⟩
        have HTX : Hid (∀ (W : World) k c nt S, (W.alloc (.cells Z.toArray 56)).there W.heap.size 0 (sgC k c nt S).toArray.size) := fun W k c nt S => there_block (heap_new _ _) _ (by rw [List.size_toArray, List.size_toArray, HZL.out, sgC_length]; exact Nat.le_refl _)
        clear h91 hLL hIL hcl
        cases hcs : clsR l (l.length + 1) (if bang l a then a + 2 else a + 1) noneS 0 with
        | none =>
          have HRN : Hid (R = none) := restR_none HRS.out HIL.out (by rw [HSG.out, hcs])
          have HF4 : Hid (∀ v, RC l (a + 1) v → ∃ nt S z, v = .tuple #[.agg (sgC 4 0 nt S).toArray, .int .i64 z, .bool false]) := by
            intro v hv; rw [HRC.out] at hv; simp only [hcs] at hv; exact hv
          clear hcs
          go_wp2_with (first
            | (go_at_call 50; refine HCL.out.mono ?_; rintro e w2 ⟨v, rfl, hv, hb⟩; obtain ⟨nt, S, z, e⟩ := HF4.out v hv; subst e; have HBC := Lib.hid hb; obtain ⟨X4, hX4⟩ : ∃ X, X = sgC 4 0 nt S := ⟨_, rfl⟩; have HLX4 := Lib.hid (HLX.out 4 0 nt S); have HTX4 := Lib.hid (HTX.out w2 4 0 nt S); rw [← hX4] at HLX4 HTX4 ⊢; clear hv hb hX4)
            | ((with_reducible show wpList _ _ _ (Oper.mk none (Op.store 56 _ _) _ _ _ _ :: _) _ _); go_must (refine wpList_store_mid rfl 56 (.tmp 8) (.tmp 59) rfl w2.heap.size 0 X4.toArray rfl rfl HTX4.out HLX4.out.1 HLX4.out.2 ?_)))
          go_ret2
          exact ⟨_, rfl, HRD.out _ _ (by rw [HRN.out]; rfl), by
            have h1 : Below wB.heap.size wB ((w2.alloc (.cells Z.toArray 56)).setCells w2.heap.size 0 X4) := below_setCells _ _ _ _ _ _ (HBC.out.alloc HBC.out.size _) HBC.out.size
            simpa using HB2.out.trans (h1.mono HB2.out.size)⟩
        | some y =>
          obtain ⟨S, b⟩ := y
          have HSN : Hid (sgnR l a = some (⟨4, 0, bang l a, S⟩, b)) := by show _ = _; rw [HSG.out, hcs]
          have HBD := Lib.hid (sgnR_bd HIL.out HSN.out)
          have HF4 : Hid (∀ v, RC l (a + 1) v → v = .tuple #[.agg (sgC 4 0 (bang l a) S).toArray, .int .i64 (b : Int), .bool true]) := by
            intro v hv; rw [HRC.out] at hv; simp only [hcs] at hv; exact hv
          clear hcs
          obtain ⟨X4, hX4⟩ : ∃ X, X = sgC 4 0 (bang l a) S := ⟨_, rfl⟩
          have HLX4 := Lib.hid (HLX.out 4 0 (bang l a) S)
          have HTX4 : Hid (∀ W : World, (W.alloc (.cells Z.toArray 56)).there W.heap.size 0 X4.toArray.size) := by intro W; rw [hX4]; exact HTX.out W 4 0 _ S
          have HX4L : Hid (X4.length = 259) := by show _ = _; rw [hX4]; exact sgC_length _ _ _ _
          have HX4S : Hid ((Tryz.prog.info? 56).map (·.size) = some X4.length) := size_rg HX4L.out
          have HX4E := Lib.hid hX4
          rw [← hX4] at HLX4 HF4
          have HCC : Hid (∀ w2, Below wB.heap.size wB w2 → ((w2.alloc (.cells Z.toArray 56)).setCells w2.heap.size 0 X4).rangeAt w2.heap.size 0 X4 ∧ ((w2.alloc (.cells Z.toArray 56)).setCells w2.heap.size 0 X4).there gS 0 X4.toArray.size ∧ Below gS wB (((w2.alloc (.cells Z.toArray 56)).setCells w2.heap.size 0 X4).setCells gS 0 X4) ∧ (((w2.alloc (.cells Z.toArray 56)).setCells w2.heap.size 0 X4).setCells gS 0 X4).heap[gS]? = some (.cells X4.toArray 56)) := by
            intro w2 hb
            have hg := HWR.out
            have hne : gS ≠ w2.heap.size := by have := hb.size; omega
            have h1 : ((w2.alloc (.cells Z.toArray 56)).setCells w2.heap.size 0 X4).heap[gS]? = some (.cells (sgC 0 (n : Int) false noneS).toArray 56) := by
              rw [heap_setCells _ _ hne, Below.heap_alloc _ _ _ (by have := hb.size; omega), hb.block _ (by omega)]; exact HX0.out
            refine ⟨range_block (stored_whole _ _ _ _ _ (heap_new _ _) (by rw [List.size_toArray, HZL.out, HX4L.out])), there_block h1 _ (by rw [List.size_toArray, List.size_toArray, HX4L.out, sgC_length]; exact Nat.le_refl _), ?_, stored_whole _ _ _ _ _ h1 (by rw [List.size_toArray, HX4L.out, sgC_length])⟩
            have h2 : Below gS wB (w2.alloc (.cells Z.toArray 56)) := (hb.mono (by omega)).alloc (by have := hb.size; omega) _
            exact below_setCells _ _ _ _ _ _ (below_setCells _ _ _ _ _ _ h2 (by have := hb.size; omega)) (Nat.le_refl _)
          clear hX4
          go_upto_region 25 with (first
            | (go_at_call 50; refine HCL.out.mono ?_; rintro e w2 ⟨v, rfl, hv, hb⟩; have e := HF4.out v hv; subst e; have HC2 := Lib.hid (HCC.out w2 hb); have HTW := Lib.hid (HTX4.out w2); clear hv hb)
            | ((with_reducible show wpList _ _ _ (Oper.mk none (Op.store 56 (.tmp 8) _) _ _ _ _ :: _) _ _); go_must (refine wpList_store_mid rfl 56 (.tmp 8) (.tmp 59) rfl w2.heap.size 0 X4.toArray rfl rfl HTW.out HLX4.out.1 HLX4.out.2 ?_))
            | ((with_reducible show wpList _ _ _ (Oper.mk (some 64) _ _ _ _ _ :: _) _ _); go_must (refine wpList_load_mid rfl 56 (.tmp 8) rfl w2.heap.size 0 rfl X4 _ HC2.out.1 Tryz.underlying56 rfl HX4S.out ?_))
            | ((with_reducible show wpList _ _ _ (Oper.mk none (Op.store 56 (.tmp 7) _) _ _ _ _ :: _) _ _); go_must (refine wpList_store_mid rfl 56 (.tmp 7) (.tmp 64) rfl gS 0 X4.toArray rfl rfl HC2.out.2.1 HLX4.out.1 HLX4.out.2 ?_)))
          try simp only [Act.put, List.setIfInBounds_toArray, List.set_cons_zero, List.set_cons_succ]
          have HC3 : Hid (Below gS wB (((w2.alloc (.cells Z.toArray 56)).setCells w2.heap.size 0 X4).setCells gS 0 X4) ∧ (((w2.alloc (.cells Z.toArray 56)).setCells w2.heap.size 0 X4).setCells gS 0 X4).heap[gS]? = some (.cells X4.toArray 56)) := HC2.out.2.2
          clear HC2 HTW
          generalize (((w2.alloc (.cells Z.toArray 56)).setCells w2.heap.size 0 X4).setCells gS 0 X4) = wE at HC3 ⊢
          obtain ⟨x, hxx⟩ : ∃ x, x = (⟨4, 0, bang l a, S⟩ : Rg) := ⟨_, rfl⟩
          have HXB : Hid ((wE).heap[gS]? = some (.cells x.cs.toArray 56)) := by show _ = _; rw [hxx]; exact (by rw [HC3.out.2, HX4E.out]; rfl)
          have HB3 : Hid (Below w.heap.size w (wE)) := HB2.out.trans (HC3.out.1.mono HWR.out.1)
          have HO3 : Hid (RgOwn (wE) w.heap.size (.slice a4 L.length c4) L) := HOB.out _ HC3.out.1
          have HNX : Hid (RestR l R (L ++ [x]) (b)) := by show RestR _ _ _ _; rw [hxx]; exact restR_next HRS.out HIL.out HSN.out
          clear hxx
          obtain ⟨X, hX⟩ : ∃ X, X = x.cs := ⟨_, rfl⟩
          have HXL : Hid (X.length = 259) := by show _ = _; rw [hX]; exact Rg.cs_length _
          have HXS : Hid ((Tryz.prog.info? 56).map (·.size) = some X.length) := size_rg HXL.out
          rw [← hX] at HXB
          have HRG : Hid ((wE).rangeAt gS 0 X) := range_block HXB.out
          have HFI : Hid (Instr.fill (fun i => some (i * i0.size, i0.size)) ((Array.range (1 * i0.size)).map ((Value.agg Z.toArray).cells[· % (Value.agg Z.toArray).cells.size]!)) [(0, .agg X.toArray)] = some X.toArray) := by show _ = _; rw [HZ1.out]; exact fill_rg X HXL.out _
          have HSM : Hid ((¬ 1 * i0.size > 2 ^ 24) ∧ ¬ 1 * i0.size = 0) := by show _ ∧ _; rw [HZ1.out]; omega
          have hbA : Below (wE).heap.size (wE) ((wE).alloc (.cells X.toArray 56)) := (Below.refl _ _).alloc (Nat.le_refl _) _
          have HO4 : Hid (RgOwn ((wE).alloc (.cells X.toArray 56)) w.heap.size (.slice a4 L.length c4) L) := HO3.out.later hbA
          have HB4 : Hid (Below w.heap.size w ((wE).alloc (.cells X.toArray 56))) := HB3.out.trans (hbA.mono HB3.out.size)
          have HC4 : Hid (∀ j u, x.cs[j]? = some u → ((wE).alloc (.cells X.toArray 56)).cell? ⟨(wE).heap.size, j, none⟩ = some u) := by
            intro j u hj
            rw [cell_of_row _ _ j _ _ (0, 0) (heap_new _ _), List.getElem?_toArray, hX]; exact hj
          have HLN : Hid (L.length ≤ 100000) := (by show _ ≤ _; have := HLA.out; have := HA.out; have := HL.out; omega)
          clear hbA hX
          go_wp2_with (first
            | ((with_reducible show wpList _ _ _ (Oper.mk (some 67) _ _ _ _ _ :: _) _ _); go_must (refine wpList_load_mid rfl 56 (.tmp 7) rfl gS 0 rfl X _ HRG.out Tryz.underlying56 rfl HXS.out ?_))
            | ((with_reducible show wpList _ _ _ (Oper.mk (some 68) _ _ _ _ _ :: _) _ _); go_must (refine wpList_buildSlice rfl 50 56 1 #[(0, .tmp 67)] rfl X.toArray i0 (.agg Z.toArray) Tryz.underlying50 HI0.out HZ0.out HSM.out.1 HSM.out.2 (by simp only [List.map_toArray, List.map_cons, List.map_nil]; exact HFI.out) ?_))
            | (at_builtin; go_must (refine append_rg rfl (.tmp 66) (.tmp 68) rfl w.heap.size (.slice a4 L.length c4) L x rfl HO4.out _ 1 rfl HC4.out HLN.out HB4.out.size ?_); intro v5 w5 hO5 hG5 hV5
               have HO5 := Lib.hid hO5; have HB5 := Lib.hid (HB4.out.grown hG5 HB4.out.size (fun k hk => (HO4.out.lt k hk).1)); clear hG5 hV5 hO5))
          obtain ⟨a5, c5, rfl⟩ : ∃ aa cc, v5 = .slice aa (L ++ [x]).length cc := HO5.out.slice
          go_roundw
          case rel => exact ⟨b, L ++ [x], by go_num, ⟨_, _, rfl⟩, by show _ ≤ _; have := HBD.out; omega, by show _ ≤ _; have := HLA.out; have := HBD.out; simp; omega, HNX, HO5, HB5⟩
          case measure => have := HIL.out; have := HBD.out; simp [intOf]; omega
      · have q91 : ((n : Int) == 91) = false := by simpa using fun e => h91 (by omega)
        by_cases h63 : n = 63
        · have p63 : ((n : Int) == 63) = true := by simp [h63]
          have q92 : ((n : Int) == 92) = false := by simp [h63]
          have q42 : ((n : Int) == 42) = false := by simp [h63]
          have HSG : Hid (sgnR l a = some (⟨1, 63, false, noneS⟩, a + 1)) := sgnR_63 (by rw [← HN.out]; exact h63)
          have hc0 : wB.cell? ⟨gS, 0, none⟩ = some (.int .i64 0) := by rw [cell_of_row _ _ 0 _ _ (0, 0) HX0.out]; rfl
          have hf0 : wB.frozen? ⟨gS, 0, none⟩ = false := unfrozen HX0.out
          have HX1 : Hid ((wB.setCell ⟨gS, 0, none⟩ (.int .i64 1)).heap[gS]? = some (.cells (sgC 1 63 false noneS).toArray 56)) := by show _ = _; rw [row_set HX0.out 0, sgC_set0, h63]; rfl
          have HB1 : Hid (Below gS wB (wB.setCell ⟨gS, 0, none⟩ (.int .i64 1))) := Below.setCell (p := ⟨gS, 0, none⟩) (Below.refl _ _) (Nat.le_refl _) _
          have HWR : Hid (gS ≤ wB.heap.size ∧ w.heap.size ≤ gS) := ⟨Nat.le_of_lt HSW.out.2, HSW.out.1⟩
          have HOX : Hid (RgOwn (wB.setCell ⟨gS, 0, none⟩ (.int .i64 1)) w.heap.size (.slice a4 L.length c4) L) := by
            show RgOwn _ _ _ _
            have h1 := HBB.out.trans (HB1.out.mono (Nat.le_of_eq HG.out.symm))
            exact HO.out.later h1
          clear h63
          go_upto_region 25 with (fail)
          obtain ⟨x, hxx⟩ : ∃ x, x = (⟨1, 63, false, noneS⟩ : Rg) := ⟨_, rfl⟩
          have HXB : Hid ((wB.setCell ⟨gS, 0, none⟩ (.int .i64 1)).heap[gS]? = some (.cells x.cs.toArray 56)) := by show _ = _; rw [hxx]; exact HX1.out
          have HB3 : Hid (Below w.heap.size w (wB.setCell ⟨gS, 0, none⟩ (.int .i64 1))) := HB2.out.trans (HB1.out.mono HWR.out.2)
          have HO3 : Hid (RgOwn (wB.setCell ⟨gS, 0, none⟩ (.int .i64 1)) w.heap.size (.slice a4 L.length c4) L) := HOX.out
          have HNX : Hid (RestR l R (L ++ [x]) (a + 1)) := by show RestR _ _ _ _; rw [hxx]; exact restR_next HRS.out HIL.out HSG.out
          clear hxx
          obtain ⟨X, hX⟩ : ∃ X, X = x.cs := ⟨_, rfl⟩
          have HXL : Hid (X.length = 259) := by show _ = _; rw [hX]; exact Rg.cs_length _
          have HXS : Hid ((Tryz.prog.info? 56).map (·.size) = some X.length) := size_rg HXL.out
          rw [← hX] at HXB
          have HRG : Hid ((wB.setCell ⟨gS, 0, none⟩ (.int .i64 1)).rangeAt gS 0 X) := range_block HXB.out
          have HFI : Hid (Instr.fill (fun i => some (i * i0.size, i0.size)) ((Array.range (1 * i0.size)).map ((Value.agg Z.toArray).cells[· % (Value.agg Z.toArray).cells.size]!)) [(0, .agg X.toArray)] = some X.toArray) := by show _ = _; rw [HZ1.out]; exact fill_rg X HXL.out _
          have HSM : Hid ((¬ 1 * i0.size > 2 ^ 24) ∧ ¬ 1 * i0.size = 0) := by show _ ∧ _; rw [HZ1.out]; omega
          have hbA : Below (wB.setCell ⟨gS, 0, none⟩ (.int .i64 1)).heap.size (wB.setCell ⟨gS, 0, none⟩ (.int .i64 1)) ((wB.setCell ⟨gS, 0, none⟩ (.int .i64 1)).alloc (.cells X.toArray 56)) := (Below.refl _ _).alloc (Nat.le_refl _) _
          have HO4 : Hid (RgOwn ((wB.setCell ⟨gS, 0, none⟩ (.int .i64 1)).alloc (.cells X.toArray 56)) w.heap.size (.slice a4 L.length c4) L) := HO3.out.later hbA
          have HB4 : Hid (Below w.heap.size w ((wB.setCell ⟨gS, 0, none⟩ (.int .i64 1)).alloc (.cells X.toArray 56))) := HB3.out.trans (hbA.mono HB3.out.size)
          have HC4 : Hid (∀ j u, x.cs[j]? = some u → ((wB.setCell ⟨gS, 0, none⟩ (.int .i64 1)).alloc (.cells X.toArray 56)).cell? ⟨(wB.setCell ⟨gS, 0, none⟩ (.int .i64 1)).heap.size, j, none⟩ = some u) := by
            intro j u hj
            rw [cell_of_row _ _ j _ _ (0, 0) (heap_new _ _), List.getElem?_toArray, hX]; exact hj
          have HWS : Hid ((wB.setCell ⟨gS, 0, none⟩ (.int .i64 1)).heap.size = wB.heap.size) := (by show _ = _; first | rfl | simp)
          have HLN : Hid (L.length ≤ 100000) := (by show _ ≤ _; have := HLA.out; have := HA.out; have := HL.out; omega)
          clear hbA hX
          go_wp2_with (first
            | ((with_reducible show wpList _ _ _ (Oper.mk (some 67) _ _ _ _ _ :: _) _ _); go_must (refine wpList_load_mid rfl 56 (.tmp 7) rfl gS 0 rfl X _ HRG.out Tryz.underlying56 rfl HXS.out ?_))
            | ((with_reducible show wpList _ _ _ (Oper.mk (some 68) _ _ _ _ _ :: _) _ _); go_must (refine wpList_buildSlice rfl 50 56 1 #[(0, .tmp 67)] rfl X.toArray i0 (.agg Z.toArray) Tryz.underlying50 HI0.out HZ0.out HSM.out.1 HSM.out.2 (by simp only [List.map_toArray, List.map_cons, List.map_nil]; exact HFI.out) ?_))
            | (at_builtin; go_must (refine append_rg rfl (.tmp 66) (.tmp 68) rfl w.heap.size (.slice a4 L.length c4) L x rfl HO4.out _ 1 rfl HC4.out HLN.out HB4.out.size ?_); intro v5 w5 hO5 hG5 hV5
               have HO5 := Lib.hid hO5; have HB5 := Lib.hid (HB4.out.grown hG5 HB4.out.size (fun k hk => (HO4.out.lt k hk).1)); clear hG5 hV5 hO5))
          obtain ⟨a5, c5, rfl⟩ : ∃ aa cc, v5 = .slice aa (L ++ [x]).length cc := HO5.out.slice
          go_roundw
          case rel => exact ⟨a + 1, L ++ [x], by go_num, ⟨_, _, rfl⟩, by show _ ≤ _; have := HIL.out; omega, by show _ ≤ _; have := HLA.out; simp; omega, HNX, HO5, HB5⟩
          case measure => have := HIL.out; simp [intOf]; omega
        · have q63 : ((n : Int) == 63) = false := by simpa using fun e => h63 (by omega)
          by_cases h42 : n = 42
          · have p42 : ((n : Int) == 42) = true := by simp [h42]
            have q92 : ((n : Int) == 92) = false := by simp [h42]
            have hSP := stars_pos HIL.out (by rw [← HN.out]; exact h42)
            have HSP := Lib.hid hSP
            have HSG : Hid (sgnR l a = some (⟨if stars l a > 1 then 3 else 2, 42, false, noneS⟩, a + stars l a)) := sgnR_42 (by rw [← HN.out]; exact h42)
            have hc0 : wB.cell? ⟨gS, 0, none⟩ = some (.int .i64 0) := by rw [cell_of_row _ _ 0 _ _ (0, 0) HX0.out]; rfl
            have hf0 : wB.frozen? ⟨gS, 0, none⟩ = false := unfrozen HX0.out
            have HX1 : Hid ((wB.setCell ⟨gS, 0, none⟩ (.int .i64 2)).heap[gS]? = some (.cells (sgC (if a + 1 > a + 1 then 3 else 2) 42 false noneS).toArray 56)) := by show _ = _; rw [row_set HX0.out 0, sgC_set0, h42, if_neg (by omega)]; rfl
            have HB1 : Hid (Below gS wB (wB.setCell ⟨gS, 0, none⟩ (.int .i64 2))) := Below.setCell (p := ⟨gS, 0, none⟩) (Below.refl _ _) (Nat.le_refl _) _
            have HWR : Hid (w.heap.size ≤ gS) := HSW.out.1
            have HOB : Hid (∀ W, Below gS wB W → RgOwn W w.heap.size (.slice a4 L.length c4) L) := fun W hW => HO.out.later (HBB.out.trans (hW.mono (Nat.le_of_eq HG.out.symm)))
            have H91 : Hid (n ≠ 91) := h91
            clear h63 h42 hSP h91
            go_wp2
            go_loopw [5] (fun v wx => ∃ j : Nat, v = .int .i64 j ∧ Hid (a + 1 ≤ j) ∧ Hid (j ≤ a + stars l a) ∧ Hid (wx.heap[gS]? = some (.cells (sgC (if j > a + 1 then 3 else 2) 42 false noneS).toArray 56)) ∧ Hid (Below gS wB wx)) (fun v _ => l.length - (intOf v).toNat)
            case atStart => exact ⟨a + 1, by go_num, Nat.le_refl _, by show _ ≤ _; have := HSP.out; omega, HX1, HB1⟩
            case round =>
              clear HX0 HX1 HB1 hx hw1 hc0 hf0
              obtain ⟨j, rfl, HJ1, HJ2, HXJ, HBJ⟩ := hrel
              have hj2 := HJ2.out
              have hj1 := HJ1.out
              have hSP := HSP.out
              have hLL := HL.out
              by_cases hj : j < l.length
              · have hIj : (j : Int) < ((mk l).size : Int) := by rw [HS.out]; omega
                have hIj' : ¬ ((mk l).size : Int) ≤ (j : Int) := by rw [HS.out]; omega
                have hxj := run_at l j hj
                by_cases h42 : nb l j = 42
                · have hb42 : bt l j = 42 := by rw [bt_nb, h42]; rfl
                  rw [hb42] at hxj
                  have hjs := stars_more (by omega) hj2 hj h42
                  have HJS := Lib.hid hjs
                  have HJL := Lib.hid hj
                  have hw1 : IntKind.i64.wrap ((j : Int) + 1) = (j : Int) + 1 := IntWalk.i64_in _ (by omega)
                  have hc0 : wr.cell? ⟨gS, 0, none⟩ = some (.int .i64 (if j > a + 1 then 3 else 2)) := by rw [cell_of_row _ _ 0 _ _ (0, 0) HXJ.out]; rfl
                  have hf0 : wr.frozen? ⟨gS, 0, none⟩ = false := unfrozen HXJ.out
                  have HXN : Hid ((wr.setCell ⟨gS, 0, none⟩ (.int .i64 3)).heap[gS]? = some (.cells (sgC (if j + 1 > a + 1 then 3 else 2) 42 false noneS).toArray 56)) := by show _ = _; rw [row_set HXJ.out 0, sgC_set0, if_pos (by omega)]
                  have HBN : Hid (Below gS wB (wr.setCell ⟨gS, 0, none⟩ (.int .i64 3))) := HBJ.out.setCell (Nat.le_refl _) _
                  generalize (if j > a + 1 then (3 : Int) else 2) = kk at hc0
                  clear hj2 hj1 hSP hLL hj h42 hb42 hjs
                  go_wp2
                  go_roundw
                  case rel => exact ⟨j + 1, by go_num, by show _ ≤ _; have := HJ1.out; omega, HJS.out, HXN, HBN⟩
                  case measure => have := HJL.out; simp [intOf]; omega
                · have hq : (bt l j == 42) = false := bt_ne (n := 42) h42
                  have HJE : Hid (j = a + stars l a) := by
                    show _ = _
                    rcases Nat.lt_or_ge j (a + stars l a) with h | h
                    · exact absurd (stars_in (by omega) h).2 h42
                    · omega
                  generalize bt l j = c at *
                  clear hj2 hj1 hSP hLL hj h42
                  go_upto_region 25 with (fail)
                  obtain ⟨x, hxx⟩ : ∃ x, x = (⟨if stars l a > 1 then 3 else 2, 42, false, noneS⟩ : Rg) := ⟨_, rfl⟩
                  have HXB : Hid ((wr).heap[gS]? = some (.cells x.cs.toArray 56)) := by show _ = _; rw [hxx]; exact (by have h := HXJ.out; rw [h]; have e : (if j > a + 1 then (3 : Int) else 2) = ((if stars l a > 1 then 3 else 2 : Nat) : Int) := (by have := HJE.out; split <;> split <;> first | rfl | (exfalso; omega)); rw [e]; rfl)
                  have HB3 : Hid (Below w.heap.size w (wr)) := HB2.out.trans (HBJ.out.mono HWR.out)
                  have HO3 : Hid (RgOwn (wr) w.heap.size (.slice a4 L.length c4) L) := HOB.out _ HBJ.out
                  have HNX : Hid (RestR l R (L ++ [x]) (j)) := by show RestR _ _ _ _; rw [hxx]; exact (by rw [HJE.out]; exact restR_next HRS.out HIL.out HSG.out)
                  clear hxx
                  obtain ⟨X, hX⟩ : ∃ X, X = x.cs := ⟨_, rfl⟩
                  have HXL : Hid (X.length = 259) := by show _ = _; rw [hX]; exact Rg.cs_length _
                  have HXS : Hid ((Tryz.prog.info? 56).map (·.size) = some X.length) := size_rg HXL.out
                  rw [← hX] at HXB
                  have HRG : Hid ((wr).rangeAt gS 0 X) := range_block HXB.out
                  have HFI : Hid (Instr.fill (fun i => some (i * i0.size, i0.size)) ((Array.range (1 * i0.size)).map ((Value.agg Z.toArray).cells[· % (Value.agg Z.toArray).cells.size]!)) [(0, .agg X.toArray)] = some X.toArray) := by show _ = _; rw [HZ1.out]; exact fill_rg X HXL.out _
                  have HSM : Hid ((¬ 1 * i0.size > 2 ^ 24) ∧ ¬ 1 * i0.size = 0) := by show _ ∧ _; rw [HZ1.out]; omega
                  have hbA : Below (wr).heap.size (wr) ((wr).alloc (.cells X.toArray 56)) := (Below.refl _ _).alloc (Nat.le_refl _) _
                  have HO4 : Hid (RgOwn ((wr).alloc (.cells X.toArray 56)) w.heap.size (.slice a4 L.length c4) L) := HO3.out.later hbA
                  have HB4 : Hid (Below w.heap.size w ((wr).alloc (.cells X.toArray 56))) := HB3.out.trans (hbA.mono HB3.out.size)
                  have HC4 : Hid (∀ j u, x.cs[j]? = some u → ((wr).alloc (.cells X.toArray 56)).cell? ⟨(wr).heap.size, j, none⟩ = some u) := by
                    intro j u hj
                    rw [cell_of_row _ _ j _ _ (0, 0) (heap_new _ _), List.getElem?_toArray, hX]; exact hj
                  have HLN : Hid (L.length ≤ 100000) := (by show _ ≤ _; have := HLA.out; have := HA.out; have := HL.out; omega)
                  clear hbA hX
                  go_wp2_with (first
                    | ((with_reducible show wpList _ _ _ (Oper.mk (some 67) _ _ _ _ _ :: _) _ _); go_must (refine wpList_load_mid rfl 56 (.tmp 7) rfl gS 0 rfl X _ HRG.out Tryz.underlying56 rfl HXS.out ?_))
                    | ((with_reducible show wpList _ _ _ (Oper.mk (some 68) _ _ _ _ _ :: _) _ _); go_must (refine wpList_buildSlice rfl 50 56 1 #[(0, .tmp 67)] rfl X.toArray i0 (.agg Z.toArray) Tryz.underlying50 HI0.out HZ0.out HSM.out.1 HSM.out.2 (by simp only [List.map_toArray, List.map_cons, List.map_nil]; exact HFI.out) ?_))
                    | (at_builtin; go_must (refine append_rg rfl (.tmp 66) (.tmp 68) rfl w.heap.size (.slice a4 L.length c4) L x rfl HO4.out _ 1 rfl HC4.out HLN.out HB4.out.size ?_); intro v5 w5 hO5 hG5 hV5
                       have HO5 := Lib.hid hO5; have HB5 := Lib.hid (HB4.out.grown hG5 HB4.out.size (fun k hk => (HO4.out.lt k hk).1)); clear hG5 hV5 hO5))
                  obtain ⟨a5, c5, rfl⟩ : ∃ aa cc, v5 = .slice aa (L ++ [x]).length cc := HO5.out.slice
                  go_roundw
                  case rel => exact ⟨j, L ++ [x], by go_num, ⟨_, _, rfl⟩, by show _ ≤ _; have := HJ2.out; have := HSP.out; omega, by show _ ≤ _; have := HLA.out; have := HJ1.out; simp; omega, HNX, HO5, HB5⟩
                  case measure => have := HIL.out; have := HJ1.out; simp [intOf]; omega
              · have hIj : ¬ (j : Int) < ((mk l).size : Int) := by rw [HS.out]; omega
                have hIj' : ((mk l).size : Int) ≤ (j : Int) := by rw [HS.out]; omega
                have HJE : Hid (j = a + stars l a) := by show _ = _; omega
                clear hj2 hj1 hSP hLL hj
                go_upto_region 25 with (fail)
                obtain ⟨x, hxx⟩ : ∃ x, x = (⟨if stars l a > 1 then 3 else 2, 42, false, noneS⟩ : Rg) := ⟨_, rfl⟩
                have HXB : Hid ((wr).heap[gS]? = some (.cells x.cs.toArray 56)) := by show _ = _; rw [hxx]; exact (by have h := HXJ.out; rw [h]; have e : (if j > a + 1 then (3 : Int) else 2) = ((if stars l a > 1 then 3 else 2 : Nat) : Int) := (by have := HJE.out; split <;> split <;> first | rfl | (exfalso; omega)); rw [e]; rfl)
                have HB3 : Hid (Below w.heap.size w (wr)) := HB2.out.trans (HBJ.out.mono HWR.out)
                have HO3 : Hid (RgOwn (wr) w.heap.size (.slice a4 L.length c4) L) := HOB.out _ HBJ.out
                have HNX : Hid (RestR l R (L ++ [x]) (j)) := by show RestR _ _ _ _; rw [hxx]; exact (by rw [HJE.out]; exact restR_next HRS.out HIL.out HSG.out)
                clear hxx
                obtain ⟨X, hX⟩ : ∃ X, X = x.cs := ⟨_, rfl⟩
                have HXL : Hid (X.length = 259) := by show _ = _; rw [hX]; exact Rg.cs_length _
                have HXS : Hid ((Tryz.prog.info? 56).map (·.size) = some X.length) := size_rg HXL.out
                rw [← hX] at HXB
                have HRG : Hid ((wr).rangeAt gS 0 X) := range_block HXB.out
                have HFI : Hid (Instr.fill (fun i => some (i * i0.size, i0.size)) ((Array.range (1 * i0.size)).map ((Value.agg Z.toArray).cells[· % (Value.agg Z.toArray).cells.size]!)) [(0, .agg X.toArray)] = some X.toArray) := by show _ = _; rw [HZ1.out]; exact fill_rg X HXL.out _
                have HSM : Hid ((¬ 1 * i0.size > 2 ^ 24) ∧ ¬ 1 * i0.size = 0) := by show _ ∧ _; rw [HZ1.out]; omega
                have hbA : Below (wr).heap.size (wr) ((wr).alloc (.cells X.toArray 56)) := (Below.refl _ _).alloc (Nat.le_refl _) _
                have HO4 : Hid (RgOwn ((wr).alloc (.cells X.toArray 56)) w.heap.size (.slice a4 L.length c4) L) := HO3.out.later hbA
                have HB4 : Hid (Below w.heap.size w ((wr).alloc (.cells X.toArray 56))) := HB3.out.trans (hbA.mono HB3.out.size)
                have HC4 : Hid (∀ j u, x.cs[j]? = some u → ((wr).alloc (.cells X.toArray 56)).cell? ⟨(wr).heap.size, j, none⟩ = some u) := by
                  intro j u hj
                  rw [cell_of_row _ _ j _ _ (0, 0) (heap_new _ _), List.getElem?_toArray, hX]; exact hj
                have HLN : Hid (L.length ≤ 100000) := (by show _ ≤ _; have := HLA.out; have := HA.out; have := HL.out; omega)
                clear hbA hX
                go_wp2_with (first
                  | ((with_reducible show wpList _ _ _ (Oper.mk (some 67) _ _ _ _ _ :: _) _ _); go_must (refine wpList_load_mid rfl 56 (.tmp 7) rfl gS 0 rfl X _ HRG.out Tryz.underlying56 rfl HXS.out ?_))
                  | ((with_reducible show wpList _ _ _ (Oper.mk (some 68) _ _ _ _ _ :: _) _ _); go_must (refine wpList_buildSlice rfl 50 56 1 #[(0, .tmp 67)] rfl X.toArray i0 (.agg Z.toArray) Tryz.underlying50 HI0.out HZ0.out HSM.out.1 HSM.out.2 (by simp only [List.map_toArray, List.map_cons, List.map_nil]; exact HFI.out) ?_))
                  | (at_builtin; go_must (refine append_rg rfl (.tmp 66) (.tmp 68) rfl w.heap.size (.slice a4 L.length c4) L x rfl HO4.out _ 1 rfl HC4.out HLN.out HB4.out.size ?_); intro v5 w5 hO5 hG5 hV5
                     have HO5 := Lib.hid hO5; have HB5 := Lib.hid (HB4.out.grown hG5 HB4.out.size (fun k hk => (HO4.out.lt k hk).1)); clear hG5 hV5 hO5))
                obtain ⟨a5, c5, rfl⟩ : ∃ aa cc, v5 = .slice aa (L ++ [x]).length cc := HO5.out.slice
                go_roundw
                case rel => exact ⟨j, L ++ [x], by go_num, ⟨_, _, rfl⟩, by show _ ≤ _; have := HJ2.out; have := HSP.out; omega, by show _ ≤ _; have := HLA.out; have := HJ1.out; simp; omega, HNX, HO5, HB5⟩
                case measure => have := HIL.out; have := HJ1.out; simp [intOf]; omega
          · have q42 : ((n : Int) == 42) = false := by simpa using fun e => h42 (by omega)
            have HSG : Hid (sgnR l a = match rbN l a with | none => none | some (c, b) => some (⟨0, c, false, noneS⟩, b)) := sgnR_own (by rw [← HN.out]; exact h91) (by rw [← HN.out]; exact h63) (by rw [← HN.out]; exact h42)
            by_cases h92 : n = 92
            · have p92 : ((n : Int) == 92) = true := by simp [h92]
              have hLL := HL.out
              have hIL := HIL.out
              by_cases h1 : a + 1 < l.length
              · have hI1 : ¬ ((mk l).size : Int) ≤ (a : Int) + 1 := by rw [HS.out]; omega
                have hx1 := run_at l (a + 1) h1
                rw [show ((a + 1 : Nat) : Int) = (a : Int) + 1 from by omega, bt_nb] at hx1
                have hw2 : IntKind.i64.wrap ((a : Int) + 1 + 1) = (a : Int) + 1 + 1 := IntWalk.i64_in _ (by omega)
                obtain ⟨m, hm⟩ : ∃ m, m = nb l (a + 1) := ⟨_, rfl⟩
                rw [← hm] at hx1
                have HH1 := Lib.hid h1
                have HSN : Hid (sgnR l a = some (⟨0, m, false, noneS⟩, a + 1 + 1)) := by show _ = _; rw [HSG.out, rbN_92 HIL.out (by rw [← HN.out]; exact h92), if_pos h1, ← hm]
                have hc0 : wB.cell? ⟨gS, 1, none⟩ = some (.int .u8 (n : Int)) := by rw [cell_of_row _ _ 1 _ _ (0, 0) HX0.out]; rfl
                have hf0 : wB.frozen? ⟨gS, 1, none⟩ = false := unfrozen HX0.out
                have HX1 : Hid ((wB.setCell ⟨gS, 1, none⟩ (.int .u8 (m : Int))).heap[gS]? = some (.cells (sgC 0 (m : Int) false noneS).toArray 56)) := by show _ = _; rw [row_set HX0.out 1, sgC_set1]
                have HB1 : Hid (Below gS wB (wB.setCell ⟨gS, 1, none⟩ (.int .u8 (m : Int)))) := Below.setCell (p := ⟨gS, 1, none⟩) (Below.refl _ _) (Nat.le_refl _) _
                have HWR : Hid (gS ≤ wB.heap.size ∧ w.heap.size ≤ gS) := ⟨Nat.le_of_lt HSW.out.2, HSW.out.1⟩
                have HOX : Hid (RgOwn (wB.setCell ⟨gS, 1, none⟩ (.int .u8 (m : Int))) w.heap.size (.slice a4 L.length c4) L) := by
                  show RgOwn _ _ _ _
                  have h1 := HBB.out.trans (HB1.out.mono (Nat.le_of_eq HG.out.symm))
                  exact HO.out.later h1
                clear h91 h63 h42 h92 h1 hm hLL hIL
                go_upto_region 25 with (fail)
                obtain ⟨x, hxx⟩ : ∃ x, x = (⟨0, m, false, noneS⟩ : Rg) := ⟨_, rfl⟩
                have HXB : Hid ((wB.setCell ⟨gS, 1, none⟩ (.int .u8 (m : Int))).heap[gS]? = some (.cells x.cs.toArray 56)) := by show _ = _; rw [hxx]; exact HX1.out
                have HB3 : Hid (Below w.heap.size w (wB.setCell ⟨gS, 1, none⟩ (.int .u8 (m : Int)))) := HB2.out.trans (HB1.out.mono HWR.out.2)
                have HO3 : Hid (RgOwn (wB.setCell ⟨gS, 1, none⟩ (.int .u8 (m : Int))) w.heap.size (.slice a4 L.length c4) L) := HOX.out
                have HNX : Hid (RestR l R (L ++ [x]) (a + 1 + 1)) := by show RestR _ _ _ _; rw [hxx]; exact restR_next HRS.out HIL.out HSN.out
                clear hxx
                obtain ⟨X, hX⟩ : ∃ X, X = x.cs := ⟨_, rfl⟩
                have HXL : Hid (X.length = 259) := by show _ = _; rw [hX]; exact Rg.cs_length _
                have HXS : Hid ((Tryz.prog.info? 56).map (·.size) = some X.length) := size_rg HXL.out
                rw [← hX] at HXB
                have HRG : Hid ((wB.setCell ⟨gS, 1, none⟩ (.int .u8 (m : Int))).rangeAt gS 0 X) := range_block HXB.out
                have HFI : Hid (Instr.fill (fun i => some (i * i0.size, i0.size)) ((Array.range (1 * i0.size)).map ((Value.agg Z.toArray).cells[· % (Value.agg Z.toArray).cells.size]!)) [(0, .agg X.toArray)] = some X.toArray) := by show _ = _; rw [HZ1.out]; exact fill_rg X HXL.out _
                have HSM : Hid ((¬ 1 * i0.size > 2 ^ 24) ∧ ¬ 1 * i0.size = 0) := by show _ ∧ _; rw [HZ1.out]; omega
                have hbA : Below (wB.setCell ⟨gS, 1, none⟩ (.int .u8 (m : Int))).heap.size (wB.setCell ⟨gS, 1, none⟩ (.int .u8 (m : Int))) ((wB.setCell ⟨gS, 1, none⟩ (.int .u8 (m : Int))).alloc (.cells X.toArray 56)) := (Below.refl _ _).alloc (Nat.le_refl _) _
                have HO4 : Hid (RgOwn ((wB.setCell ⟨gS, 1, none⟩ (.int .u8 (m : Int))).alloc (.cells X.toArray 56)) w.heap.size (.slice a4 L.length c4) L) := HO3.out.later hbA
                have HB4 : Hid (Below w.heap.size w ((wB.setCell ⟨gS, 1, none⟩ (.int .u8 (m : Int))).alloc (.cells X.toArray 56))) := HB3.out.trans (hbA.mono HB3.out.size)
                have HC4 : Hid (∀ j u, x.cs[j]? = some u → ((wB.setCell ⟨gS, 1, none⟩ (.int .u8 (m : Int))).alloc (.cells X.toArray 56)).cell? ⟨(wB.setCell ⟨gS, 1, none⟩ (.int .u8 (m : Int))).heap.size, j, none⟩ = some u) := by
                  intro j u hj
                  rw [cell_of_row _ _ j _ _ (0, 0) (heap_new _ _), List.getElem?_toArray, hX]; exact hj
                have HWS : Hid ((wB.setCell ⟨gS, 1, none⟩ (.int .u8 (m : Int))).heap.size = wB.heap.size) := (by show _ = _; first | rfl | simp)
                have HLN : Hid (L.length ≤ 100000) := (by show _ ≤ _; have := HLA.out; have := HA.out; have := HL.out; omega)
                clear hbA hX
                go_wp2_with (first
                  | ((with_reducible show wpList _ _ _ (Oper.mk (some 67) _ _ _ _ _ :: _) _ _); go_must (refine wpList_load_mid rfl 56 (.tmp 7) rfl gS 0 rfl X _ HRG.out Tryz.underlying56 rfl HXS.out ?_))
                  | ((with_reducible show wpList _ _ _ (Oper.mk (some 68) _ _ _ _ _ :: _) _ _); go_must (refine wpList_buildSlice rfl 50 56 1 #[(0, .tmp 67)] rfl X.toArray i0 (.agg Z.toArray) Tryz.underlying50 HI0.out HZ0.out HSM.out.1 HSM.out.2 (by simp only [List.map_toArray, List.map_cons, List.map_nil]; exact HFI.out) ?_))
                  | (at_builtin; go_must (refine append_rg rfl (.tmp 66) (.tmp 68) rfl w.heap.size (.slice a4 L.length c4) L x rfl HO4.out _ 1 rfl HC4.out HLN.out HB4.out.size ?_); intro v5 w5 hO5 hG5 hV5
                     have HO5 := Lib.hid hO5; have HB5 := Lib.hid (HB4.out.grown hG5 HB4.out.size (fun k hk => (HO4.out.lt k hk).1)); clear hG5 hV5 hO5))
                obtain ⟨a5, c5, rfl⟩ : ∃ aa cc, v5 = .slice aa (L ++ [x]).length cc := HO5.out.slice
                go_roundw
                case rel => exact ⟨a + 1 + 1, L ++ [x], by go_num, ⟨_, _, rfl⟩, by show _ ≤ _; have := HH1.out; omega, by show _ ≤ _; have := HLA.out; have := HH1.out; simp; omega, HNX, HO5, HB5⟩
                case measure => have := HIL.out; have := HH1.out; simp [intOf]; omega
              · have hI1 : ((mk l).size : Int) ≤ (a : Int) + 1 := by rw [HS.out]; omega
                have HRN : Hid (R = none) := restR_none HRS.out HIL.out (by rw [HSG.out, rbN_92 HIL.out (by rw [← HN.out]; exact h92), if_neg h1])
                clear h91 h63 h42 h92 h1 hLL hIL
                go_wp2
                go_ret2
                exact ⟨_, rfl, HRD.out _ _ (by rw [HRN.out]; rfl), HB2.out⟩
            · have q92 : ((n : Int) == 92) = false := by simpa using fun e => h92 (by omega)
              have HSN : Hid (sgnR l a = some (⟨0, n, false, noneS⟩, a + 1)) := by show _ = _; rw [HSG.out, rbN_other HIL.out (by rw [← HN.out]; exact h92), ← HN.out]
              clear h91 h63 h42 h92
              go_upto_region 25 with (fail)
              obtain ⟨x, hxx⟩ : ∃ x, x = (⟨0, n, false, noneS⟩ : Rg) := ⟨_, rfl⟩
              have HXB : Hid ((wB).heap[gS]? = some (.cells x.cs.toArray 56)) := by show _ = _; rw [hxx]; exact HX0.out
              have HB3 : Hid (Below w.heap.size w (wB)) := HB2.out
              have HO3 : Hid (RgOwn (wB) w.heap.size (.slice a4 L.length c4) L) := HO2.out
              have HNX : Hid (RestR l R (L ++ [x]) (a + 1)) := by show RestR _ _ _ _; rw [hxx]; exact restR_next HRS.out HIL.out HSN.out
              clear hxx
              obtain ⟨X, hX⟩ : ∃ X, X = x.cs := ⟨_, rfl⟩
              have HXL : Hid (X.length = 259) := by show _ = _; rw [hX]; exact Rg.cs_length _
              have HXS : Hid ((Tryz.prog.info? 56).map (·.size) = some X.length) := size_rg HXL.out
              rw [← hX] at HXB
              have HRG : Hid ((wB).rangeAt gS 0 X) := range_block HXB.out
              have HFI : Hid (Instr.fill (fun i => some (i * i0.size, i0.size)) ((Array.range (1 * i0.size)).map ((Value.agg Z.toArray).cells[· % (Value.agg Z.toArray).cells.size]!)) [(0, .agg X.toArray)] = some X.toArray) := by show _ = _; rw [HZ1.out]; exact fill_rg X HXL.out _
              have HSM : Hid ((¬ 1 * i0.size > 2 ^ 24) ∧ ¬ 1 * i0.size = 0) := by show _ ∧ _; rw [HZ1.out]; omega
              have hbA : Below (wB).heap.size (wB) ((wB).alloc (.cells X.toArray 56)) := (Below.refl _ _).alloc (Nat.le_refl _) _
              have HO4 : Hid (RgOwn ((wB).alloc (.cells X.toArray 56)) w.heap.size (.slice a4 L.length c4) L) := HO3.out.later hbA
              have HB4 : Hid (Below w.heap.size w ((wB).alloc (.cells X.toArray 56))) := HB3.out.trans (hbA.mono HB3.out.size)
              have HC4 : Hid (∀ j u, x.cs[j]? = some u → ((wB).alloc (.cells X.toArray 56)).cell? ⟨(wB).heap.size, j, none⟩ = some u) := by
                intro j u hj
                rw [cell_of_row _ _ j _ _ (0, 0) (heap_new _ _), List.getElem?_toArray, hX]; exact hj
              have HWS : Hid ((wB).heap.size = wB.heap.size) := (by show _ = _; first | rfl | simp)
              have HLN : Hid (L.length ≤ 100000) := (by show _ ≤ _; have := HLA.out; have := HA.out; have := HL.out; omega)
              clear hbA hX
              go_wp2_with (first
                | ((with_reducible show wpList _ _ _ (Oper.mk (some 67) _ _ _ _ _ :: _) _ _); go_must (refine wpList_load_mid rfl 56 (.tmp 7) rfl gS 0 rfl X _ HRG.out Tryz.underlying56 rfl HXS.out ?_))
                | ((with_reducible show wpList _ _ _ (Oper.mk (some 68) _ _ _ _ _ :: _) _ _); go_must (refine wpList_buildSlice rfl 50 56 1 #[(0, .tmp 67)] rfl X.toArray i0 (.agg Z.toArray) Tryz.underlying50 HI0.out HZ0.out HSM.out.1 HSM.out.2 (by simp only [List.map_toArray, List.map_cons, List.map_nil]; exact HFI.out) ?_))
                | (at_builtin; go_must (refine append_rg rfl (.tmp 66) (.tmp 68) rfl w.heap.size (.slice a4 L.length c4) L x rfl HO4.out _ 1 rfl HC4.out HLN.out HB4.out.size ?_); intro v5 w5 hO5 hG5 hV5
                   have HO5 := Lib.hid hO5; have HB5 := Lib.hid (HB4.out.grown hG5 HB4.out.size (fun k hk => (HO4.out.lt k hk).1)); clear hG5 hV5 hO5))
              obtain ⟨a5, c5, rfl⟩ : ∃ aa cc, v5 = .slice aa (L ++ [x]).length cc := HO5.out.slice
              go_roundw
              case rel => exact ⟨a + 1, L ++ [x], by go_num, ⟨_, _, rfl⟩, by show _ ≤ _; have := HIL.out; omega, by show _ ≤ _; have := HLA.out; simp; omega, HNX, HO5, HB5⟩
              case measure => have := HIL.out; simp [intOf]; omega
    · have hIa : ¬ (a : Int) < ((mk l).size : Int) := by rw [HS.out]; omega
      have HRL : Hid (R = some L) := restR_stop HRS.out ha
      clear hA hLL ha
      go_wp2
      go_ret2
      exact ⟨_, rfl, HRD.out _ _ (by rw [HRL.out]; exact ⟨_, _, rfl, HO.out⟩), HB.out⟩
end Go.Proofs.YtokocfoeohddfaaGreatDoor.Pa
namespace Go.Proofs.YtokocfoeohddfaaGreatDoor.Pa
set_option linter.unusedVariables false
set_option linter.unusedSimpArgs false
set_option maxRecDepth 100000

/-! the document's way to match: up to which places the signs so far come -/
def takesB (x : Rg) (d : Nat) : Bool := x.sg.S d
def dpRow (x : Rg) (s : L8) (T : Nat → Bool) : Nat → Bool
  | 0 => if x.sg.many then T 0 else false
  | k + 1 => if x.sg.many then T (k + 1) || (dpRow x s T k && takesB x (nb s k)) else T k && takesB x (nb s k)
def dp (s : L8) : (Nat → Bool) → List Rg → Nat → Bool
  | T, [] => T
  | T, x :: L => dp s (dpRow x s T) L
theorem dp_snoc (s : L8) : ∀ (L : List Rg) (x : Rg) (T : Nat → Bool), dp s T (L ++ [x]) = dpRow x s (dp s T L) := by
  intro L
  induction L with
  | nil => intro x T; rfl
  | cons y L ih => intro x T; rw [List.cons_append, dp, dp]; exact ih x _
def T0 : Nat → Bool := fun k => decide (k = 0)
theorem take_nb {s : L8} {k : Nat} (h : k < s.length) : ∃ c, s.take (k + 1) = s.take k ++ [c] ∧ c.toNat = nb s k := by
  refine ⟨s[k], ?_, ?_⟩
  · rw [List.take_add_one, List.getElem?_eq_getElem h]; rfl
  · unfold nb; rw [List.getD_eq_getElem?_getD, List.getElem?_eq_getElem h]; rfl
theorem snoc_inj {a b : L8} {c d : UInt8} (h : a ++ [c] = b ++ [d]) : a = b ∧ c = d := by
  have := List.append_inj' h rfl
  exact ⟨this.1, by simpa using this.2⟩
theorem lang_dpRow {A : List Sg} {x : Rg} {s : L8} {T : Nat → Bool} (hT : ∀ k, k ≤ s.length → (T k = true ↔ Lang A (s.take k))) : ∀ k, k ≤ s.length → (dpRow x s T k = true ↔ Lang (A ++ [x.sg]) (s.take k)) := by
  intro k
  induction k with
  | zero =>
    intro _
    rw [Lang_snoc, dpRow]
    cases hm : x.sg.many with
    | true =>
      simp only [if_true]
      rw [hT 0 (Nat.zero_le _)]
      simp only [List.take_zero]
      constructor
      · intro h; exact ⟨[], [], rfl, h, by simp⟩
      · rintro ⟨s1, s2, h, h1, _⟩
        have := List.append_eq_nil_iff.1 h.symm
        rw [this.1] at h1; exact h1
    | false =>
      simp only [Bool.false_eq_true, if_false, List.take_zero, false_iff]
      rintro ⟨s1, s2, h, _, c, rfl, _⟩
      simp at h
  | succ k ih =>
    intro hk
    obtain ⟨c, hc, hcn⟩ := take_nb (show k < s.length by omega)
    rw [Lang_snoc, dpRow, hc]
    cases hm : x.sg.many with
    | true =>
      rw [Lang_snoc, hm] at ih
      simp only [if_true] at ih ⊢
      rw [Bool.or_eq_true, Bool.and_eq_true, ih (by omega), hT (k + 1) hk, hc, ← hcn]
      unfold takesB
      constructor
      · rintro (h | ⟨⟨s1, s2, h1, h2, h3⟩, h4⟩)
        · exact ⟨_, [], by simp, h, by simp⟩
        · refine ⟨s1, s2 ++ [c], by rw [h1]; simp, h2, ?_⟩
          intro d hd
          rcases List.mem_append.1 hd with hd | hd
          · exact h3 d hd
          · simp at hd; subst hd; exact h4
      · rintro ⟨s1, s2, h1, h2, h3⟩
        rcases List.eq_nil_or_concat s2 with rfl | ⟨s3, d, rfl⟩
        · left; rw [h1]; simpa using h2
        · right
          rw [List.concat_eq_append] at h1 h3
          rw [← List.append_assoc] at h1
          obtain ⟨e1, e2⟩ := snoc_inj h1
          refine ⟨⟨s1, s3, e1, h2, fun d hd => h3 d (List.mem_append_left _ hd)⟩, ?_⟩
          rw [e2]; exact h3 d (by simp)
    | false =>
      simp only [Bool.false_eq_true, if_false]
      rw [Bool.and_eq_true, hT k (by omega), ← hcn]
      unfold takesB
      constructor
      · rintro ⟨h1, h2⟩
        exact ⟨_, [c], rfl, h1, c, rfl, h2⟩
      · rintro ⟨s1, s2, h1, h2, d, rfl, h3⟩
        obtain ⟨e1, e2⟩ := snoc_inj h1
        rw [e1, e2]; exact ⟨h2, h3⟩
theorem lang_dp (s : L8) : ∀ (L : List Rg) (A : List Sg) (T : Nat → Bool), (∀ k, k ≤ s.length → (T k = true ↔ Lang A (s.take k))) → ∀ k, k ≤ s.length → (dp s T L k = true ↔ Lang (A ++ L.map Rg.sg) (s.take k)) := by
  intro L
  induction L with
  | nil => intro A T h; simpa [dp] using h
  | cons x L ih =>
    intro A T h k hk
    rw [dp, ih (A ++ [x.sg]) _ (lang_dpRow h) k hk, List.map_cons, List.append_assoc]
    rfl
theorem dp_lang (s : L8) (L : List Rg) : dp s T0 L s.length = true ↔ Lang (L.map Rg.sg) s := by
  have h := lang_dp s L [] T0 (fun k hk => by
    unfold T0
    rw [decide_eq_true_eq, Lang]
    constructor
    · rintro rfl; rfl
    · intro h; have := congrArg List.length h; simp at this; rcases this with h | h
      · exact h
      · rw [h] at hk; simpa using hk) s.length (Nat.le_refl _)
  simpa using h
/-- the document's Match is the program's -/
theorem matchP_R {p : L8} {L : List Rg} (hp : p.length ≤ 100) (h : readR p = some L) (s : L8) : matchP p s = dp s T0 L s.length := by
  have hr : readP p = some (L.map Rg.sg) := by rw [readP_R, if_pos hp, h]; rfl
  have hA := (readP_kind hr).1
  rw [Bool.eq_iff_iff, dp_lang]
  unfold matchP
  rw [hr]
  exact match_iff hA s
theorem matchP_none {p : L8} (h : readE p ≠ 0) (s : L8) : matchP p s = false := by
  unfold matchP
  cases hr : readP p with
  | none => rfl
  | some L =>
    exfalso
    apply h
    rw [readE_R]
    rw [readP_R] at hr
    split at hr
    · next hl =>
      rw [if_pos hl]
      cases hq : readR p with
      | none => rw [hq] at hr; simp at hr
      | some _ => rfl
    · cases hr
end Go.Proofs.YtokocfoeohddfaaGreatDoor.Pa
namespace Go.Proofs.YtokocfoeohddfaaGreatDoor.Pa
open Go.RowKit
set_option linter.unusedVariables false
set_option linter.unusedSimpArgs false
set_option maxRecDepth 1000000

/-- a row of signs that is handed on -/
def RgAt (w : World) (v : Value) (L : List Rg) : Prop := ∃ a c, v = .slice a L.length c ∧ (L ≠ [] → ∃ g, a = some ⟨g, 0, none⟩ ∧ g < w.heap.size ∧ ∀ i x, L[i]? = some x → w.rangeAt g (i * 259) x.cs)
theorem RgOwn.at {w : World} {base : Nat} {v : Value} {L : List Rg} (h : RgOwn w base v L) : RgAt w v L := by
  rcases h.form with ⟨rfl, rfl⟩ | ⟨g, cap, rfl, h1, h2, h3, h4⟩
  · exact ⟨Option.none, 0, rfl, fun h => absurd rfl h⟩
  · refine ⟨_, cap, rfl, fun _ => ⟨g, rfl, h2, fun i x hi j v hv => ?_⟩⟩
    have hj : j < 259 := by rw [← Rg.cs_length x]; exact (List.getElem?_eq_some_iff.1 hv).1
    rw [h4 i x hi j hj]; exact hv
theorem RgAt.later {w w' : World} {v : Value} {L : List Rg} (h : RgAt w v L) (hb : Below w.heap.size w w') : RgAt w' v L := by
  obtain ⟨a, c, e, h⟩ := h
  refine ⟨a, c, e, fun hn => ?_⟩
  obtain ⟨g, e2, hg, hc⟩ := h hn
  refine ⟨g, e2, Nat.lt_of_lt_of_le hg hb.size, fun i x hi j v hv => ?_⟩
  rw [hb.cell (p := ⟨g, i * 259 + j, none⟩) hg]
  exact hc i x hi j v hv
theorem range_kind {w : World} {g i : Nat} {x : Rg} (h : w.rangeAt g (i * 259) x.cs) : w.cell? ⟨g, i * 259, none⟩ = some (.int .i64 (x.kind : Int)) := by
  have := h 0 _ (by unfold Rg.cs sgC; rfl)
  simpa using this
theorem range_byte {w : World} {g i : Nat} {x : Rg} (h : w.rangeAt g (i * 259) x.cs) : w.cell? ⟨g, i * 259 + 1, none⟩ = some (.int .u8 (x.c : Int)) := h 1 _ (by unfold Rg.cs sgC; rfl)
theorem sgnsR_len {l : L8} : ∀ n a L, sgnsR l n a = some L → a ≤ l.length → L.length + a ≤ l.length := by
  intro n a L h ha
  have h2 : sgns l n a = some (L.map Rg.sg) := by rw [sgnsR_sg, h]; rfl
  have := sgns_len _ _ _ h2 ha
  simpa using this
/-- Signs in two cases -/
theorem rdr_cases (l : L8) : (readR l = none ∧ ∀ base v w, RDR l base v w → v = .tuple #[.slice none 0 0, .bool false]) ∨ (∃ L, readR l = some L ∧ L.length ≤ l.length ∧ ∀ base v w, RDR l base v w → ∃ u, v = .tuple #[u, .bool true] ∧ RgAt w u L) := by
  unfold RDR
  cases h : readR l with
  | none => left; exact ⟨rfl, fun base v w h => h⟩
  | some L =>
    right
    refine ⟨L, rfl, by have := sgnsR_len _ _ _ h (Nat.zero_le _); simpa using this, fun base v w h => ?_⟩
    obtain ⟨a, c, e, ho⟩ := h
    exact ⟨_, e, ho.at⟩
theorem rcheck_any (l : L8) (w : World) (hl : l.length ≤ 4611686018427387904) :
    Calls Tryz.prog 35 #[.string (mk l)] w fun e w' => e = .returned (.int .i64 (readE l)) ∧ Below w.heap.size w w' := by
  have hs : (mk l).size = l.length := mk_size l
  by_cases h1 : l.length ≤ 100
  · have hI : ¬ ((mk l).size : Int) > 100 := by rw [hs]; omega
    have HR := Lib.hid (rsigns_any l w h1)
    rcases rdr_cases l with ⟨h, hv⟩ | ⟨L, h, -, hv⟩
    · have H := Lib.hid hv
      have he : readE l = 5 := by rw [readE_R, if_pos h1, h]; rfl
      rw [he]
      clear hv h h1 he hs
      go_enter Tryz.func35, Tryz.ntmps35
      go_wp2_with (go_at_call 38; refine HR.out.mono ?_; rintro e w' ⟨v, rfl, hv, hb⟩; have e := H.out _ _ _ hv; subst e; have HB := Lib.hid hb; clear hb hv)
      go_ret
      exact ⟨rfl, HB.out⟩
    · have H := Lib.hid hv
      have he : readE l = 0 := by rw [readE_R, if_pos h1, h]; rfl
      rw [he]
      clear hv h h1 he hs
      go_enter Tryz.func35, Tryz.ntmps35
      go_wp2_with (go_at_call 38; refine HR.out.mono ?_; rintro e w' ⟨v, rfl, hv, hb⟩; obtain ⟨u, e, -⟩ := H.out _ _ _ hv; subst e; have HB := Lib.hid hb; clear hb hv)
      go_ret
      exact ⟨rfl, HB.out⟩
  · have hI : ((mk l).size : Int) > 100 := by rw [hs]; omega
    have he : readE l = 7 := by rw [readE_R, if_neg h1]
    rw [he]
    clear h1 he hs
    go_enter Tryz.func35, Tryz.ntmps35
    go_wp2
    go_ret
    exact ⟨rfl, Below.refl _ _⟩
/-- is it a pattern? the three ways -/
theorem read_ways (l : L8) : (readE l ≠ 0 ∧ readP l = none) ∨ (readE l = 0 ∧ l.length ≤ 100 ∧ ∃ L, readR l = some L ∧ readP l = some (L.map Rg.sg) ∧ L.length ≤ l.length ∧ Fits (L.map Rg.sg)) := by
  by_cases h1 : l.length ≤ 100
  · cases h : readR l with
    | none => left; exact ⟨by rw [readE_R, if_pos h1, h]; simp, by rw [readP_R, if_pos h1, h]; rfl⟩
    | some L =>
      right
      have hp : readP l = some (L.map Rg.sg) := by rw [readP_R, if_pos h1, h]; rfl
      refine ⟨by rw [readE_R, if_pos h1, h]; rfl, h1, L, rfl, hp, by have := sgnsR_len _ _ _ h (Nat.zero_le _); simpa using this, ?_⟩
      unfold readP at hp
      rw [if_pos h1] at hp
      exact sgns_fits _ _ _ hp
  · left; exact ⟨by rw [readE_R, if_neg h1]; omega, by rw [readP_R, if_neg h1]⟩
theorem rdr_at {l : L8} {L : List Rg} (h : readR l = some L) : ∀ base v w, RDR l base v w → ∃ u, v = .tuple #[u, .bool true] ∧ RgAt w u L := by
  intro base v w hv
  unfold RDR at hv
  rw [h] at hv
  obtain ⟨a, c, e, ho⟩ := hv
  exact ⟨_, e, ho.at⟩
theorem sg_itself (x : Rg) : x.sg.itself = decide (x.kind = 0) := by
  unfold Rg.sg
  by_cases h : x.kind = 0
  · rw [if_pos h, decide_eq_true h]
  · rw [if_neg h, decide_eq_false h]
    split
    · rfl
    · split <;> rfl
theorem sg_byte {x : Rg} (h : x.kind = 0) : x.sg.c = x.c := by unfold Rg.sg; rw [if_pos h]
theorem map_get {L : List Rg} {k : Nat} {x : Rg} (h : L[k]? = some x) : (L.map Rg.sg)[k]? = some x.sg := by rw [List.getElem?_map, h]; rfl
theorem headL_some {M : List Sg} {k : Nat} {x : Sg} (h : M[k]? = some x) (hi : x.itself = false) : (headL M).length < M.length := by
  induction M generalizing k with
  | nil => simp at h
  | cons y M ih =>
    rw [headL_cons]
    split
    · next hy =>
      cases k with
      | zero => simp at h; rw [← h] at hi; rw [hi] at hy; cases hy
      | succ k => have := ih (by simpa using h); simp; omega
    · simp
theorem headL_every {M : List Sg} (h : ∀ (k : Nat) (x : Sg), M[k]? = some x → x.itself = true) : ¬ (headL M).length < M.length := by
  induction M with
  | nil => simp
  | cons y M ih =>
    rw [headL_cons, if_pos (h 0 y (by simp))]
    have := ih (fun k x hx => h (k + 1) x (by simpa using hx))
    simp; omega
end Go.Proofs.YtokocfoeohddfaaGreatDoor.Pa
namespace Go.Proofs.YtokocfoeohddfaaGreatDoor.Pa
open Go.RowKit
set_option linter.unusedVariables false
set_option linter.unusedSimpArgs false
set_option maxRecDepth 1000000

theorem bel_drewN {B : Nat} {w W : World} (h : Below B w W) (n : Nat) : Below B w (W.drewN n) := ⟨h.os, h.tape, h.output, h.size, h.block⟩
theorem ints_app (a b : L8) : ints (a ++ b) = ints a ++ ints b := by simp [ints]
/-- does a sign take a byte? -/
theorem takes_eq (x : Rg) (d : Nat) : takesB x d = if x.kind = 0 then d == x.c else if x.kind = 3 then true else if x.kind = 4 then (d != 47 && (x.S d != x.nt)) else d != 47 := by
  unfold takesB Rg.sg
  split
  · simp [addS, noneS]
  · split
    · rfl
    · split
      · unfold classSg dropS turnS
        cases x.nt <;> simp [Bool.and_comm]
      · simp [dropS, allS]
set_option maxHeartbeats 8000000 in
theorem takes_any (x : Rg) (d : Nat) (hd : d < 256) (w : World) :
    Calls Tryz.prog 39 #[.agg x.cs.toArray, .int .u8 (d : Int)] w fun e w' => e = .returned (.bool (takesB x d)) ∧ Below w.heap.size w w' := by
  have hh : (w.alloc (.cells x.cs.toArray 56)).heap[w.heap.size]? = some (.cells x.cs.toArray 56) := heap_new _ _
  have hb : Below w.heap.size w (w.alloc (.cells x.cs.toArray 56)) := (Below.refl _ _).alloc (Nat.le_refl _) _
  have c0 : (w.alloc (.cells x.cs.toArray 56)).cell? ⟨w.heap.size, 0, none⟩ = some (.int .i64 (x.kind : Int)) := by rw [cell_of_row _ _ 0 _ _ (0, 0) hh]; rfl
  have c1 : (w.alloc (.cells x.cs.toArray 56)).cell? ⟨w.heap.size, 1, none⟩ = some (.int .u8 (x.c : Int)) := by rw [cell_of_row _ _ 1 _ _ (0, 0) hh]; rfl
  have c2 : (w.alloc (.cells x.cs.toArray 56)).cell? ⟨w.heap.size, 2, none⟩ = some (.bool x.nt) := by rw [cell_of_row _ _ 2 _ _ (0, 0) hh]; rfl
  have c3 : (w.alloc (.cells x.cs.toArray 56)).cell? ⟨w.heap.size, 3 + d, none⟩ = some (.bool (x.S d)) := by rw [cell_of_row _ _ (3 + d) _ _ (0, 0) hh]; exact sgC_get _ _ _ _ _ hd
  have HBW := Lib.hid hb
  obtain ⟨R, hR⟩ : ∃ R, R = takesB x d := ⟨_, rfl⟩
  rw [← hR]
  rw [takes_eq] at hR
  obtain ⟨X, hX⟩ : ∃ X, X = x.cs := ⟨_, rfl⟩
  rw [← hX] at c0 c1 c2 c3 HBW ⊢
  obtain ⟨kind, c, nt, S⟩ := x
  simp only at hR c0 c1 c2 c3
  clear hh hb hX
  by_cases h0 : kind = 0
  · rw [if_pos h0] at hR
    have HE : Hid (R = (d == c)) := hR
    have hde : ((c : Int) == (d : Int)) = (d == c) := by
      rw [Bool.eq_iff_iff]; simp; omega
    rw [h0] at c0
    clear hR h0 c2 c3
    go_enter Tryz.func39, Tryz.ntmps39
    go_wp2
    go_ret
    exact ⟨by rw [HE.out]; first | rfl | (rw [← hde]) | simp [hde], HBW.out⟩
  · rw [if_neg h0] at hR
    have k0 : ((kind : Int) == 0) = false := by simpa using fun e => h0 (by omega)
    by_cases h3 : kind = 3
    · rw [if_pos h3] at hR
      have HE : Hid (R = true) := hR
      rw [h3] at c0
      clear hR h0 h3 c1 c2 c3 k0
      go_enter Tryz.func39, Tryz.ntmps39
      go_wp2
      go_ret
      exact ⟨by rw [HE.out]; rfl, HBW.out⟩
    · rw [if_neg h3] at hR
      have k3 : ((kind : Int) == 3) = false := by simpa using fun e => h3 (by omega)
      by_cases h4 : kind = 4
      · rw [if_pos h4] at hR
        rw [h4] at c0
        by_cases h47 : d = 47
        · have HE : Hid (R = false) := by show _ = _; rw [hR, h47]; rfl
          subst h47
          clear hR h0 h3 h4 c1 c2 c3 k0 k3 hd
          go_enter Tryz.func39, Tryz.ntmps39
          go_wp2
          go_quiet (fail)
          go_wp2
          go_ret
          exact ⟨by rw [HE.out]; rfl, bel_drewN HBW.out _⟩
        · have q47 : ((d : Int) == 47) = false := by simpa using fun e => h47 (by omega)
          have q47' : ((d : Int) != 47) = true := by simp [bne, q47]
          have hdN : (d != 47) = true := by simp [h47]
          have HE : Hid (R = (S d != nt)) := by show _ = _; rw [hR, hdN, Bool.true_and]
          have hd0 : (0 : Int) ≤ (d : Int) := by omega
          have hd1 : (d : Int) < 256 := by omega
          generalize S d = sd at *
          clear hR h0 h3 h4 c1 k0 k3 hd h47 hdN
          go_enter Tryz.func39, Tryz.ntmps39
          go_wp2
          go_quiet (fail)
          go_wp2
          go_ret
          exact ⟨by rw [HE.out]; rfl, bel_drewN HBW.out _⟩
      · rw [if_neg h4] at hR
        have k4 : ((kind : Int) == 4) = false := by simpa using fun e => h4 (by omega)
        have HE : Hid (R = (d != 47)) := hR
        have hde : ((d : Int) != 47) = (d != 47) := by rw [Bool.eq_iff_iff]; simp; omega
        clear hR h0 h3 h4 c1 c2 c3
        go_enter Tryz.func39, Tryz.ntmps39
        go_wp2
        go_ret
        exact ⟨by rw [HE.out]; first | rfl | (rw [← hde]) | simp [hde], HBW.out⟩
end Go.Proofs.YtokocfoeohddfaaGreatDoor.Pa
namespace Go.Proofs.YtokocfoeohddfaaGreatDoor.Pa
open Go.RowKit Go.Proofs.HeldRound
set_option linter.unusedVariables false
set_option linter.unusedSimpArgs false
set_option maxRecDepth 1000000

theorem wpAnyK_takeD {P : Program} {md : _} {ops : Array Oper} {Q : Exit → Act → World → Prop} {S : World → Prop} {bad : List Nat} {i : Nat} (d : Nat) (ws : List Nat) {oi : Oper} {v : Value} {fuel : Nat} {listed : Array Bool} {a : Act} {w : World} (hi : ops[i]? = some oi) (hd : oi.dst = some d)
    (hs : Region.noSelect ops = true) (hf : Region.free md ops listed i = true) (hr : (Region.ready md ops listed).contains i = true)
    (hw : (waits md ops i ws && bad.all (fun j => ws.contains j || listed.getD j true) && ws.all (fun j => !listed.getD j true)) = true)
    (hQ : ∀ c a w, Q (.panic c) (a.put oi.dst v) w → Q (.panic c) a w) (hy : YieldsIf P ops S oi v a) (hS : S w)
    (h : wpAnyK P md ops Q S bad fuel (listed.setIfInBounds i true) (a.put (some d) v) w) : wpAnyK P md ops Q S bad (fuel + 1) listed a w :=
  wpAnyK_take ws hi hs hf hr hw hQ hy hS (by rw [hd]; exact h)

/-- a row of truths -/
def bC (T : Nat → Bool) (n : Nat) : List Value := (List.range n).map fun k => Value.bool (T k)
def BAt (w : World) (g n : Nat) (T : Nat → Bool) : Prop := w.heap[g]? = some (.cells (bC T n).toArray 4)
theorem BAt.cell {w : World} {g n : Nat} {T : Nat → Bool} (h : BAt w g n T) (k : Nat) (hk : k < n) : w.cell? ⟨g, k, none⟩ = some (.bool (T k)) := by
  rw [cell_of_row _ _ k _ _ (0, 0) h, List.getElem?_toArray]
  unfold bC
  rw [List.getElem?_map, List.getElem?_range hk]; rfl
theorem BAt.soft {w : World} {g n : Nat} {T : Nat → Bool} (h : BAt w g n T) (k : Nat) : w.frozen? ⟨g, k, none⟩ = false := unfrozen h
theorem BAt.lt {w : World} {g n : Nat} {T : Nat → Bool} (h : BAt w g n T) : g < w.heap.size := (Array.getElem?_eq_some_iff.1 h).1
theorem BAt.later {w w' : World} {g n : Nat} {T : Nat → Bool} (h : BAt w g n T) (hb : Below w.heap.size w w') : BAt w' g n T := by
  unfold BAt at *
  rw [hb.block _ (Array.getElem?_eq_some_iff.1 h).1]; exact h
theorem BAt.same {w : World} {g n : Nat} {T U : Nat → Bool} (h : BAt w g n T) (e : ∀ k, k < n → T k = U k) : BAt w g n U := by
  have : bC T n = bC U n := by unfold bC; apply List.map_congr_left; intro k hk; rw [e k (by simpa using hk)]
  unfold BAt at *; rw [h, this]
theorem bC_set (T : Nat → Bool) (n k : Nat) (b : Bool) : (bC T n).toArray.setIfInBounds k (.bool b) = (bC (fun j => if j = k then b else T j) n).toArray := by
  apply Array.ext'
  rw [Array.toList_setIfInBounds]
  unfold bC
  simp only
  apply List.ext_getElem
  · simp
  intro m h1 h2
  rw [List.getElem_set]
  simp only [List.getElem_map, List.getElem_range]
  by_cases e : k = m
  · rw [if_pos e, if_pos e.symm]
  · rw [if_neg e, if_neg (fun q => e q.symm)]
theorem BAt.set {w : World} {g n : Nat} {T : Nat → Bool} (h : BAt w g n T) (k : Nat) (b : Bool) : BAt (w.setCell ⟨g, k, none⟩ (.bool b)) g n (fun j => if j = k then b else T j) := by
  unfold BAt at *
  rw [row_set h k, bC_set]
theorem BAt.other {w : World} {g n g' k : Nat} {T : Nat → Bool} {v : Value} (h : BAt w g n T) (hne : g ≠ g') : BAt (w.setCell ⟨g', k, none⟩ v) g n T := by
  unfold BAt at *
  rw [← h]; simp [World.setCell, Array.getElem?_modify, Ne.symm hne]
theorem Tryz.infoBool : (Tryz.prog.info? 4).map (fun i => (i.zero, i.size, i.bytes)) = some (some (.bool false), 1, 1) := by kernel_rfl
theorem made_bools (w : World) (n : Nat) (hn : n ≤ 1000000) : (Instr.makeSlice 53 (.int .i64 (n : Int)) (.int .i64 (n : Int))).run Tryz.prog w = .ok (.slice (some ⟨w.heap.size, 0, none⟩) n n) (w.alloc (.cells (bC noneS n).toArray 4)) := by
  obtain ⟨i0, hi0, hz0, hz1, hzz⟩ := info_parts Tryz.infoBool
  have hmk := run_make (P := Tryz.prog) w 53 4 i0 (.bool false) Tryz.underlying53 hi0 hz0 .i64 .i64 n n (by omega) (by omega) (by rw [hzz]; omega) (by omega)
  rw [hz1] at hmk
  simp only [Int.toNat_natCast] at hmk
  rw [hmk]
  congr 3
  apply Array.ext'
  unfold madeCells bC noneS
  apply List.ext_getElem
  · simp
  intro m h1 h2
  simp [Value.cells, Nat.mod_one]
theorem bel_from_drew {w w' : World} (h : Below w.drew.heap.size w.drew w') : Below w.heap.size w w' := ⟨h.os, h.tape, h.output, h.size, h.block⟩
theorem bel_drew_self (w : World) : Below w.heap.size w w.drew := (Below.refl _ _).drew
/-- the world between two rounds: what the signs ahead have come to, and this one so far -/
structure MI (w2 wx : World) (gA gT n : Nat) (T U : Nat → Bool) : Prop where
  at_ : BAt wx gA n T
  to_ : BAt wx gT n U
  bel : Below w2.heap.size w2 wx
  ne : gA ≠ gT
  lo : w2.heap.size ≤ gT
theorem MI.later {w2 wx wy : World} {gA gT n : Nat} {T U : Nat → Bool} (h : MI w2 wx gA gT n T U) (hb : Below wx.heap.size wx wy) : MI w2 wy gA gT n T U :=
  ⟨h.at_.later hb, h.to_.later hb, h.bel.trans (hb.mono h.bel.size), h.ne, h.lo⟩
theorem MI.set {w2 wx : World} {gA gT n k : Nat} {T D : Nat → Bool} {b : Bool} (h : MI w2 wx gA gT n T (fun j => if j < k then D j else false)) (hk : k < n) (hb : b = D k) :
    MI w2 (wx.setCell ⟨gT, k, none⟩ (.bool b)) gA gT n T (fun j => if j < k + 1 then D j else false) := by
  refine ⟨h.at_.other h.ne, (h.to_.set k b).same fun j hj => ?_, h.bel.setCell h.lo _, h.ne, h.lo⟩
  by_cases e : j = k
  · subst e; simp only [if_true]; rw [if_pos (by omega), hb]
  · simp only [if_neg e]
    by_cases hl : j < k
    · rw [if_pos hl, if_pos (by omega)]
    · rw [if_neg hl, if_neg (by omega)]
theorem sg_many (x : Rg) : x.sg.many = decide (x.kind = 2 ∨ x.kind = 3) := by
  unfold Rg.sg
  split
  · next h => rw [h]; rfl
  · split
    · next h => rw [h]; rfl
    · split
      · next h => rw [h]; rfl
      · next h0 h3 h4 =>
        show decide (x.kind = 2) = _
        by_cases h : x.kind = 2 <;> simp [h, h3]
theorem dpRow_star {x : Rg} {s : L8} {T : Nat → Bool} (h : x.sg.many = true) (k : Nat) : dpRow x s T k = (T k || (decide (0 < k) && (dpRow x s T (k - 1) && takesB x (nb s (k - 1))))) := by
  cases k with
  | zero => rw [dpRow, h]; simp
  | succ k => rw [dpRow, h]; simp
theorem dpRow_one {x : Rg} {s : L8} {T : Nat → Bool} (h : x.sg.many = false) (k : Nat) : dpRow x s T k = (decide (0 < k) && (T (k - 1) && takesB x (nb s (k - 1)))) := by
  cases k with
  | zero => rw [dpRow, h]; simp
  | succ k => rw [dpRow, h]; simp
set_option maxHeartbeats 32000000 in
theorem rmatch_any (p s : L8) (w : World) (hp : p.length ≤ 4611686018427387904) (hs : s.length ≤ 900000) :
    Calls Tryz.prog 21 #[.string (mk p), .string (mk s)] w fun e w' => e = .returned (.bool (matchP p s)) ∧ Below w.heap.size w w' := by
  have HC := Lib.hid (rcheck_any p w hp)
  rcases read_ways p with ⟨h1, h2⟩ | ⟨h1, hl, L, hR, hP, hLl, hF⟩
  · have hm : matchP p s = false := matchP_none h1 s
    have hne : (readE p == 0) = false := by simpa using h1
    rw [hm]
    generalize readE p = r at *
    clear hp h1 h2 hm
    go_enter Tryz.func21, Tryz.ntmps21
    go_wp2_with (go_at_call 35; refine HC.out.mono ?_; rintro e w' ⟨rfl, hb⟩; have HB := Lib.hid hb; clear hb)
    go_ret
    exact ⟨rfl, HB.out⟩
  · obtain ⟨R, hRR⟩ : ∃ R, R = matchP p s := ⟨_, rfl⟩
    have HRR : Hid (R = dp s T0 L s.length) := by show _ = _; rw [hRR]; exact matchP_R hl hR s
    rw [← hRR]
    rw [h1] at HC
    have HSG : Hid (∀ W, Below w.heap.size w W → Calls Tryz.prog 38 #[.string (mk p)] W fun e w' => ∃ u, e = .returned (.tuple #[u, .bool true]) ∧ RgAt w' u L ∧ Below w.heap.size w w') := by
      intro W hW
      refine (rsigns_any p W hl).mono ?_
      rintro e w' ⟨v, rfl, hv, hb⟩
      obtain ⟨u, rfl, ha⟩ := rdr_at hR _ _ _ hv
      exact ⟨u, rfl, ha, hW.trans (hb.mono hW.size)⟩
    have HLL : Hid (L.length ≤ 100) := by show _ ≤ _; omega
    have hss : (mk s).size = s.length := mk_size s
    have HSS := Lib.hid hss
    obtain ⟨n, hn⟩ : ∃ n, n = s.length + 1 := ⟨_, rfl⟩
    have HN : Hid (n = s.length + 1 ∧ n ≤ 1000000) := ⟨hn, by omega⟩
    have hwn : IntKind.i64.wrap (((mk s).size : Int) + 1) = (n : Int) := by rw [hss, IntWalk.i64_in _ (by omega)]; omega
    clear hp h1 hl hR hP hLl hF hRR hss hs hn
    go_enter Tryz.func21, Tryz.ntmps21
    go_upto_region 4 with (first
      | (go_at_call 35; refine HC.out.mono ?_; rintro e w1 ⟨rfl, hb⟩; have HB1 := Lib.hid hb; clear hb)
      | (go_at_call 38; refine (HSG.out _ HB1.out).mono ?_; rintro e w2 ⟨u, rfl, ha, hb⟩; have HA2 := Lib.hid ha; have HB2 := Lib.hid hb; obtain ⟨sa, sc, rfl, hrow⟩ := ha; have HROW := Lib.hid hrow; clear hb hrow))
    have hmk := made_bools w2 n HN.out.2
    have HBA0 : Hid (BAt (w2.alloc (.cells (bC noneS n).toArray 4)) w2.heap.size n noneS) := heap_new _ _
    have HBB0 : Hid (Below w2.heap.size w2 (w2.alloc (.cells (bC noneS n).toArray 4))) := (Below.refl _ _).alloc (Nat.le_refl _) _
    obtain ⟨CN, hCN⟩ : ∃ CN, CN = (bC noneS n).toArray := ⟨_, rfl⟩
    have HCN := Lib.hid hCN
    rw [← hCN] at hmk HBA0 HBB0
    have c00 : (w2.alloc (.cells CN 4)).cell? ⟨w2.heap.size, 0, none⟩ = some (.bool (noneS 0)) := HBA0.out.cell 0 (by have := HN.out; omega)
    have f00 : (w2.alloc (.cells CN 4)).frozen? ⟨w2.heap.size, 0, none⟩ = false := HBA0.out.soft 0
    have hn0 : (0 : Int) < (n : Int) := by have := HN.out; omega
    have hnN : 0 < n := by have := HN.out; omega
    have HBA1 : Hid (BAt (w2.alloc (.cells (CN.setIfInBounds 0 (.bool true)) 4)) w2.heap.size n (dp s T0 (L.take 0))) := by
      have h : BAt (w2.alloc (.cells (CN.setIfInBounds 0 (.bool true)) 4)) w2.heap.size n (fun j => if j = 0 then true else noneS j) := by unfold BAt; rw [heap_new, HCN.out, bC_set]
      exact h.same fun j hj => by
        simp only [List.take_zero, dp, T0, noneS]
        by_cases e : j = 0 <;> simp [e]
    have HBB1 : Hid (Below w2.heap.size w2 (w2.alloc (.cells (CN.setIfInBounds 0 (.bool true)) 4))) := (Below.refl _ _).alloc (Nat.le_refl _) _
    clear hCN
    go_wp2
    clear hmk c00 f00
    go_loopw [7, 8] (fun v iv wr => ∃ (i gA : Nat), iv = .int .i64 i ∧ v = .slice (some ⟨gA, 0, none⟩) n n ∧ Hid (i ≤ L.length) ∧ Hid (w2.heap.size ≤ gA) ∧ Hid (BAt wr gA n (dp s T0 (L.take i))) ∧ Hid (Below w2.heap.size w2 wr)) (fun _ iv _ => L.length - (intOf iv).toNat)
    case atStart => exact ⟨0, w2.heap.size, rfl, rfl, Nat.zero_le _, Nat.le_refl _, HBA1, HBB1⟩
    case round =>
      clear HBA0 HBB0 HBA1 HBB1
      obtain ⟨i, gA, rfl, rfl, HI, HGA, HBA, HBW⟩ := hrel
      have hLL := HLL.out
      by_cases hi : i < L.length
      · have hIi : (i : Int) < (L.length : Int) := by omega
        obtain ⟨x, hx⟩ : ∃ x, L[i]? = some x := ⟨_, List.getElem?_eq_getElem hi⟩
        have hw1 : IntKind.i64.wrap ((i : Int) + 1) = (i : Int) + 1 := IntWalk.i64_in _ (by omega)
        obtain ⟨gg, rfl, hgl, hr4⟩ := HROW.out (by intro e; rw [e] at hi; simp at hi)
        have HX2 : Hid (w2.rangeAt gg (i * 259) x.cs) := hr4 i x hx
        have HGG : Hid (gg < w2.heap.size) := hgl
        obtain ⟨TT, hTT⟩ : ∃ TT, TT = dp s T0 (L.take i) := ⟨_, rfl⟩
        rw [← hTT] at HBA
        obtain ⟨DD, hDD⟩ : ∃ DD, DD = dpRow x s TT := ⟨_, rfl⟩
        have HDD := Lib.hid hDD
        have HNXT : Hid (dp s T0 (L.take (i + 1)) = DD) := by
          show _ = _
          rw [hDD, hTT, List.take_add_one, hx]
          exact dp_snoc s _ x T0
        have HIL := Lib.hid hi
        have hmk := made_bools wr n HN.out.2
        have HMI0 : Hid (MI w2 (wr.alloc (.cells (bC noneS n).toArray 4)) gA wr.heap.size n TT (fun j => if j < 0 then DD j else false)) := by
          have hb : Below wr.heap.size wr (wr.alloc (.cells (bC noneS n).toArray 4)) := (Below.refl _ _).alloc (Nat.le_refl _) _
          have h1 : BAt (wr.alloc (.cells (bC noneS n).toArray 4)) wr.heap.size n noneS := heap_new _ _
          exact ⟨HBA.out.later hb, h1.same (fun j hj => by rw [if_neg (by omega)]; rfl), HBW.out.trans (hb.mono HBW.out.size), Nat.ne_of_lt HBA.out.lt, HBW.out.size⟩
        rw [← HCN.out] at hmk HMI0
        clear hx hgl hr4 hTT hDD hi hLL
        go_wp2
        clear hmk
        obtain ⟨gT, hgT⟩ : ∃ gT, gT = wr.heap.size := ⟨_, rfl⟩
        rw [← hgT] at HMI0 ⊢
        clear hgT HBA HBW
        go_loopw [10] (fun kv wx => ∃ k : Nat, kv = .int .i64 k ∧ Hid (k ≤ n) ∧ Hid (MI w2 wx gA gT n TT (fun j => if j < k then DD j else false))) (fun kv _ => n - (intOf kv).toNat)
        case atStart => exact ⟨0, rfl, Nat.zero_le _, HMI0⟩
        case round =>
          clear HMI0
          obtain ⟨k, rfl, HKL, HMI⟩ := hrel
          by_cases hk : k < n
          · have hIk : (k : Int) ≤ ((mk s).size : Int) := by rw [HSS.out]; have := HN.out; omega
            have hkn : (k : Int) < (n : Int) := by omega
            have HKN := Lib.hid hk
            have hn9 := HN.out
            have hwk : IntKind.i64.wrap ((k : Int) + 1) = (k : Int) + 1 := IntWalk.i64_in _ (by omega)
            have HXR : Hid (wr.rangeAt gg (i * 259) x.cs) := fun j u hj => by
              rw [HMI.out.bel.cell (p := ⟨gg, i * 259 + j, none⟩) HGG.out]; exact HX2.out j u hj
            have HGL : Hid (gg < wr.drew.heap.size) := Nat.lt_of_lt_of_le HGG.out HMI.out.bel.size
            have c0 := range_kind HXR.out
            clear hk hn9
            go_upto_region 13 with (fail)
            go_cut [54] (fun v wx => v = .bool x.sg.many ∧ wr = wx)
            case first =>
              by_cases h2 : x.kind = 2
              · have HQ : Hid (x.sg.many = true) := by show _ = _; rw [sg_many, h2]; rfl
                rw [h2] at c0
                clear h2
                go_wp2
                go_meet
                exact ⟨by rw [HQ.out], rfl⟩
              · have q2 : ((x.kind : Int) == 2) = false := by simpa using fun e => h2 (by omega)
                by_cases h3 : x.kind = 3
                · have HQ : Hid (x.sg.many = true) := by show _ = _; rw [sg_many, h3]; rfl
                  rw [h3] at c0
                  clear h2 h3 q2
                  go_wp2
                  go_meet
                  exact ⟨by rw [HQ.out], rfl⟩
                · have q3 : ((x.kind : Int) == 3) = false := by simpa using fun e => h3 (by omega)
                  have HQ : Hid (x.sg.many = false) := by show _ = _; rw [sg_many]; exact decide_eq_false (by simp [h2, h3])
                  generalize x.kind = kk at *
                  clear h2 h3
                  go_wp2
                  go_meet
                  exact ⟨by rw [HQ.out], rfl⟩
            case rest =>
            obtain ⟨rfl, rfl⟩ := hcut
            clear c0
            have HTKa : Hid (∀ d : Nat, d < 256 → ∀ W : World, Calls Tryz.prog 39 #[.agg x.cs.toArray, .int .u8 (d : Int)] W fun e w' => e = .returned (.bool (takesB x d)) ∧ Below W.heap.size W w') := fun d hd W => takes_any x d hd W
            have HXS : Hid ((Tryz.prog.info? 56).map (·.size) = some x.cs.length) := size_rg (Rg.cs_length x)
            have HBT : Hid (BAt wr gT n (fun j => if j < k then DD j else false)) := HMI.out.to_
            have hS0 : Below wr.drew.heap.size wr.drew wr.drew := Below.refl _ _
            have cT : wr.drew.cell? ⟨gT, k, none⟩ = some (.bool (if k < k then DD k else false)) := by have := HBT.out.cell k HKN.out; simpa using this
            have fT : wr.drew.frozen? ⟨gT, k, none⟩ = false := by have := HBT.out.soft k; simpa using this
            cases hmany : x.sg.many with
            | true =>
              have HDK0 : Hid (DD k = (TT k || (decide (0 < k) && (DD (k - 1) && takesB x (nb s (k - 1)))))) := by show _ = _; rw [HDD.out]; exact dpRow_star hmany k
              cases hta : TT k with
              | true =>
                have HDK : Hid (DD k = true) := by show _ = _; rw [HDK0.out, hta]; rfl
                have cA : wr.drew.cell? ⟨gA, k, none⟩ = some (.bool true) := by have := HMI.out.at_.cell k HKN.out; rw [hta] at this; simpa using this
                clear hmany hta
                go_wp2
                refine region_plain (S := fun W' => Below wr.drew.heap.size wr.drew W') (bad := [29]) (by kernel_rfl) ?_
                refine wpAnyK_takeD (i := 0) 55 [28, 29] (v := .slice (some ⟨gT, 0, none⟩) n n) rfl (by kernel_rfl) (by kernel_rfl) (by kernel_rfl) (by kernel_rfl) (by kernel_rfl) (fun _ _ _ h => h) (Or.inl ⟨by kernel_rfl, fun w' hw' => by go_simp⟩) hS0 ?_
                try simp only [Act.put, List.setIfInBounds_toArray, List.set_cons_zero, List.set_cons_succ]
                refine wpAnyK_takeD (i := 1) 56 [28, 29] (v := .int .i64 (k : Int)) rfl (by kernel_rfl) (by kernel_rfl) (by kernel_rfl) (by kernel_rfl) (by kernel_rfl) (fun _ _ _ h => h) (Or.inl ⟨by kernel_rfl, fun w' hw' => by go_simp⟩) hS0 ?_
                try simp only [Act.put, List.setIfInBounds_toArray, List.set_cons_zero, List.set_cons_succ]
                refine wpAnyK_takeD (i := 2) 57 [4, 5, 6, 27, 29] (v := .slice (some ⟨gA, 0, none⟩) n n) rfl (by kernel_rfl) (by kernel_rfl) (by kernel_rfl) (by kernel_rfl) (by kernel_rfl) (fun _ _ _ h => h) (Or.inl ⟨by kernel_rfl, fun w' hw' => by go_simp⟩) hS0 ?_
                try simp only [Act.put, List.setIfInBounds_toArray, List.set_cons_zero, List.set_cons_succ]
                refine wpAnyK_takeD (i := 3) 58 [4, 5, 6, 27, 29] (v := .int .i64 (k : Int)) rfl (by kernel_rfl) (by kernel_rfl) (by kernel_rfl) (by kernel_rfl) (by kernel_rfl) (fun _ _ _ h => h) (Or.inl ⟨by kernel_rfl, fun w' hw' => by go_simp⟩) hS0 ?_
                try simp only [Act.put, List.setIfInBounds_toArray, List.set_cons_zero, List.set_cons_succ]
                refine wpAnyK_takeD (i := 4) 59 [5, 6, 27, 29] (v := .pointer (some ⟨gA, k, none⟩)) rfl (by kernel_rfl) (by kernel_rfl) (by kernel_rfl) (by kernel_rfl) (by kernel_rfl) (fun _ _ _ h => h) (Or.inl ⟨by kernel_rfl, fun w' hw' => by go_simp⟩) hS0 ?_
                try simp only [Act.put, List.setIfInBounds_toArray, List.set_cons_zero, List.set_cons_succ]
                refine wpAnyK_takeD (i := 5) 60 [6, 27, 29] (v := .bool true) rfl (by kernel_rfl) (by kernel_rfl) (by kernel_rfl) (by kernel_rfl) (by kernel_rfl) (fun _ _ _ h => h) (Or.inl ⟨by kernel_rfl, fun w' hw' => by have hcc := cell_later hw' cA; go_simp⟩) hS0 ?_
                try simp only [Act.put, List.setIfInBounds_toArray, List.set_cons_zero, List.set_cons_succ]
                refine wpAnyK_takeD (i := 6) 61 [27, 29] (v := .bool true) rfl (by kernel_rfl) (by kernel_rfl) (by kernel_rfl) (by kernel_rfl) (by kernel_rfl) (fun _ _ _ h => h) (Or.inl ⟨by kernel_rfl, fun w' hw' => by go_simp⟩) hS0 ?_
                try simp only [Act.put, List.setIfInBounds_toArray, List.set_cons_zero, List.set_cons_succ]
                refine wpAnyK_takeD (i := 7) 62 [8, 9, 15, 16, 26, 27, 29] (v := undef) rfl (by kernel_rfl) (by kernel_rfl) (by kernel_rfl) (by kernel_rfl) (by kernel_rfl) (fun _ _ _ h => h) (Or.inr ⟨by kernel_rfl, rfl⟩) hS0 ?_
                try simp only [Act.put, List.setIfInBounds_toArray, List.set_cons_zero, List.set_cons_succ]
                refine wpAnyK_takeD (i := 8) 63 [9, 15, 16, 26, 27, 29] (v := undef) rfl (by kernel_rfl) (by kernel_rfl) (by kernel_rfl) (by kernel_rfl) (by kernel_rfl) (fun _ _ _ h => h) (Or.inr ⟨by kernel_rfl, rfl⟩) hS0 ?_
                try simp only [Act.put, List.setIfInBounds_toArray, List.set_cons_zero, List.set_cons_succ]
                refine wpAnyK_takeD (i := 9) 64 [15, 16, 26, 27, 29] (v := undef) rfl (by kernel_rfl) (by kernel_rfl) (by kernel_rfl) (by kernel_rfl) (by kernel_rfl) (fun _ _ _ h => h) (Or.inr ⟨by kernel_rfl, rfl⟩) hS0 ?_
                try simp only [Act.put, List.setIfInBounds_toArray, List.set_cons_zero, List.set_cons_succ]
                refine wpAnyK_takeD (i := 10) 65 [13, 14, 15, 16, 26, 27, 29] (v := undef) rfl (by kernel_rfl) (by kernel_rfl) (by kernel_rfl) (by kernel_rfl) (by kernel_rfl) (fun _ _ _ h => h) (Or.inr ⟨by kernel_rfl, rfl⟩) hS0 ?_
                try simp only [Act.put, List.setIfInBounds_toArray, List.set_cons_zero, List.set_cons_succ]
                refine wpAnyK_takeD (i := 11) 66 [12, 13, 14, 15, 16, 26, 27, 29] (v := undef) rfl (by kernel_rfl) (by kernel_rfl) (by kernel_rfl) (by kernel_rfl) (by kernel_rfl) (fun _ _ _ h => h) (Or.inr ⟨by kernel_rfl, rfl⟩) hS0 ?_
                try simp only [Act.put, List.setIfInBounds_toArray, List.set_cons_zero, List.set_cons_succ]
                refine wpAnyK_takeD (i := 12) 67 [13, 14, 15, 16, 26, 27, 29] (v := undef) rfl (by kernel_rfl) (by kernel_rfl) (by kernel_rfl) (by kernel_rfl) (by kernel_rfl) (fun _ _ _ h => h) (Or.inr ⟨by kernel_rfl, rfl⟩) hS0 ?_
                try simp only [Act.put, List.setIfInBounds_toArray, List.set_cons_zero, List.set_cons_succ]
                refine wpAnyK_takeD (i := 13) 68 [14, 15, 16, 26, 27, 29] (v := undef) rfl (by kernel_rfl) (by kernel_rfl) (by kernel_rfl) (by kernel_rfl) (by kernel_rfl) (fun _ _ _ h => h) (Or.inr ⟨by kernel_rfl, rfl⟩) hS0 ?_
                try simp only [Act.put, List.setIfInBounds_toArray, List.set_cons_zero, List.set_cons_succ]
                refine wpAnyK_takeD (i := 14) 69 [15, 16, 26, 27, 29] (v := undef) rfl (by kernel_rfl) (by kernel_rfl) (by kernel_rfl) (by kernel_rfl) (by kernel_rfl) (fun _ _ _ h => h) (Or.inr ⟨by kernel_rfl, rfl⟩) hS0 ?_
                try simp only [Act.put, List.setIfInBounds_toArray, List.set_cons_zero, List.set_cons_succ]
                refine wpAnyK_takeD (i := 15) 70 [16, 26, 27, 29] (v := undef) rfl (by kernel_rfl) (by kernel_rfl) (by kernel_rfl) (by kernel_rfl) (by kernel_rfl) (fun _ _ _ h => h) (Or.inr ⟨by kernel_rfl, rfl⟩) hS0 ?_
                try simp only [Act.put, List.setIfInBounds_toArray, List.set_cons_zero, List.set_cons_succ]
                refine wpAnyK_takeD (i := 16) 71 [26, 27, 29] (v := undef) rfl (by kernel_rfl) (by kernel_rfl) (by kernel_rfl) (by kernel_rfl) (by kernel_rfl) (fun _ _ _ h => h) (Or.inr ⟨by kernel_rfl, rfl⟩) hS0 ?_
                try simp only [Act.put, List.setIfInBounds_toArray, List.set_cons_zero, List.set_cons_succ]
                refine wpAnyK_takeD (i := 17) 72 [19, 20, 25, 26, 27, 29] (v := undef) rfl (by kernel_rfl) (by kernel_rfl) (by kernel_rfl) (by kernel_rfl) (by kernel_rfl) (fun _ _ _ h => h) (Or.inr ⟨by kernel_rfl, rfl⟩) hS0 ?_
                try simp only [Act.put, List.setIfInBounds_toArray, List.set_cons_zero, List.set_cons_succ]
                refine wpAnyK_takeD (i := 18) 73 [19, 20, 25, 26, 27, 29] (v := undef) rfl (by kernel_rfl) (by kernel_rfl) (by kernel_rfl) (by kernel_rfl) (by kernel_rfl) (fun _ _ _ h => h) (Or.inr ⟨by kernel_rfl, rfl⟩) hS0 ?_
                try simp only [Act.put, List.setIfInBounds_toArray, List.set_cons_zero, List.set_cons_succ]
                refine wpAnyK_takeD (i := 19) 74 [20, 25, 26, 27, 29] (v := undef) rfl (by kernel_rfl) (by kernel_rfl) (by kernel_rfl) (by kernel_rfl) (by kernel_rfl) (fun _ _ _ h => h) (Or.inr ⟨by kernel_rfl, rfl⟩) hS0 ?_
                try simp only [Act.put, List.setIfInBounds_toArray, List.set_cons_zero, List.set_cons_succ]
                refine wpAnyK_takeD (i := 20) 75 [25, 26, 27, 29] (v := undef) rfl (by kernel_rfl) (by kernel_rfl) (by kernel_rfl) (by kernel_rfl) (by kernel_rfl) (fun _ _ _ h => h) (Or.inr ⟨by kernel_rfl, rfl⟩) hS0 ?_
                try simp only [Act.put, List.setIfInBounds_toArray, List.set_cons_zero, List.set_cons_succ]
                refine wpAnyK_takeD (i := 21) 76 [24, 25, 26, 27, 29] (v := undef) rfl (by kernel_rfl) (by kernel_rfl) (by kernel_rfl) (by kernel_rfl) (by kernel_rfl) (fun _ _ _ h => h) (Or.inr ⟨by kernel_rfl, rfl⟩) hS0 ?_
                try simp only [Act.put, List.setIfInBounds_toArray, List.set_cons_zero, List.set_cons_succ]
                refine wpAnyK_takeD (i := 22) 77 [23, 24, 25, 26, 27, 29] (v := undef) rfl (by kernel_rfl) (by kernel_rfl) (by kernel_rfl) (by kernel_rfl) (by kernel_rfl) (fun _ _ _ h => h) (Or.inr ⟨by kernel_rfl, rfl⟩) hS0 ?_
                try simp only [Act.put, List.setIfInBounds_toArray, List.set_cons_zero, List.set_cons_succ]
                refine wpAnyK_takeD (i := 23) 78 [24, 25, 26, 27, 29] (v := undef) rfl (by kernel_rfl) (by kernel_rfl) (by kernel_rfl) (by kernel_rfl) (by kernel_rfl) (fun _ _ _ h => h) (Or.inr ⟨by kernel_rfl, rfl⟩) hS0 ?_
                try simp only [Act.put, List.setIfInBounds_toArray, List.set_cons_zero, List.set_cons_succ]
                refine wpAnyK_takeD (i := 24) 79 [25, 26, 27, 29] (v := undef) rfl (by kernel_rfl) (by kernel_rfl) (by kernel_rfl) (by kernel_rfl) (by kernel_rfl) (fun _ _ _ h => h) (Or.inr ⟨by kernel_rfl, rfl⟩) hS0 ?_
                try simp only [Act.put, List.setIfInBounds_toArray, List.set_cons_zero, List.set_cons_succ]
                refine wpAnyK_takeD (i := 25) 80 [26, 27, 29] (v := undef) rfl (by kernel_rfl) (by kernel_rfl) (by kernel_rfl) (by kernel_rfl) (by kernel_rfl) (fun _ _ _ h => h) (Or.inr ⟨by kernel_rfl, rfl⟩) hS0 ?_
                try simp only [Act.put, List.setIfInBounds_toArray, List.set_cons_zero, List.set_cons_succ]
                refine wpAnyK_takeD (i := 26) 81 [27, 29] (v := undef) rfl (by kernel_rfl) (by kernel_rfl) (by kernel_rfl) (by kernel_rfl) (by kernel_rfl) (fun _ _ _ h => h) (Or.inr ⟨by kernel_rfl, rfl⟩) hS0 ?_
                try simp only [Act.put, List.setIfInBounds_toArray, List.set_cons_zero, List.set_cons_succ]
                refine wpAnyK_takeD (i := 27) 82 [29] (v := .bool true) rfl (by kernel_rfl) (by kernel_rfl) (by kernel_rfl) (by kernel_rfl) (by kernel_rfl) (fun _ _ _ h => h) (Or.inl ⟨by kernel_rfl, fun w' hw' => by go_simp⟩) hS0 ?_
                try simp only [Act.put, List.setIfInBounds_toArray, List.set_cons_zero, List.set_cons_succ]
                refine wpAnyK_takeD (i := 28) 83 [29] (v := .pointer (some ⟨gT, k, none⟩)) rfl (by kernel_rfl) (by kernel_rfl) (by kernel_rfl) (by kernel_rfl) (by kernel_rfl) (fun _ _ _ h => h) (Or.inl ⟨by kernel_rfl, fun w' hw' => by go_simp⟩) hS0 ?_
                try simp only [Act.put, List.setIfInBounds_toArray, List.set_cons_zero, List.set_cons_succ]
                clear hS0
                refine wpAnyK_only (i := 29) (by kernel_rfl) rfl (by rfl) (fun K0 hK0 => ?_)
                have HK0 := Lib.hid hK0
                clear hK0
                go_simp
                refine HK0.out _ _ (fun h => by simp at h) ?_
                refine wpAnyK_done (by kernel_rfl) ?_ _
                clear HK0
                have HNX : Hid (MI w2 (wr.drew.setCell ⟨gT, k, none⟩ (.bool true)) gA gT n TT (fun j => if j < k + 1 then DD j else false)) := (HMI.out.later (bel_drew_self wr)).set HKN.out (by rw [HDK.out])
                go_wp2
                go_roundw
                case rel => exact ⟨k + 1, by go_num, by show _ ≤ _; have := HKN.out; omega, HNX⟩
                case measure => have := HKN.out; simp [intOf]; omega
              | false =>
                have cA : wr.drew.cell? ⟨gA, k, none⟩ = some (.bool false) := by have := HMI.out.at_.cell k HKN.out; rw [hta] at this; simpa using this
                by_cases hk0 : 0 < k
                · obtain ⟨z, hz⟩ : ∃ z, z = k - 1 := ⟨_, rfl⟩
                  have hzk : z < k := by omega
                  have hkz : IntKind.i64.wrap ((k : Int) - 1) = (z : Int) := by have := HN.out; have := HKN.out; rw [IntWalk.i64_in _ (by omega)]; omega
                  have hzn : (z : Int) < (n : Int) := by omega
                  have hk0I : (0 : Int) < (k : Int) := by omega
                  rw [← hz] at HDK0
                  rw [hta, decide_eq_true hk0] at HDK0
                  have cP0 := HMI.out.to_.cell z (by have := HKN.out; omega)
                  simp only [if_pos hzk] at cP0
                  cases hdz : DD z with
                  | false =>
                    have HDK : Hid (DD k = false) := by show _ = _; rw [HDK0.out, hdz]; rfl
                    rw [hdz] at cP0
                    have cP : wr.drew.cell? ⟨gT, z, none⟩ = some (.bool false) := by simpa using cP0
                    clear hmany hta hz hzk cP0 hdz
                    go_wp2
                    refine region_plain (S := fun W' => Below wr.drew.heap.size wr.drew W') (bad := [29]) (by kernel_rfl) ?_
                    refine wpAnyK_takeD (i := 0) 55 [28, 29] (v := .slice (some ⟨gT, 0, none⟩) n n) rfl (by kernel_rfl) (by kernel_rfl) (by kernel_rfl) (by kernel_rfl) (by kernel_rfl) (fun _ _ _ h => h) (Or.inl ⟨by kernel_rfl, fun w' hw' => by go_simp⟩) hS0 ?_
                    try simp only [Act.put, List.setIfInBounds_toArray, List.set_cons_zero, List.set_cons_succ]
                    refine wpAnyK_takeD (i := 1) 56 [28, 29] (v := .int .i64 (k : Int)) rfl (by kernel_rfl) (by kernel_rfl) (by kernel_rfl) (by kernel_rfl) (by kernel_rfl) (fun _ _ _ h => h) (Or.inl ⟨by kernel_rfl, fun w' hw' => by go_simp⟩) hS0 ?_
                    try simp only [Act.put, List.setIfInBounds_toArray, List.set_cons_zero, List.set_cons_succ]
                    refine wpAnyK_takeD (i := 2) 57 [4, 5, 6, 27, 29] (v := .slice (some ⟨gA, 0, none⟩) n n) rfl (by kernel_rfl) (by kernel_rfl) (by kernel_rfl) (by kernel_rfl) (by kernel_rfl) (fun _ _ _ h => h) (Or.inl ⟨by kernel_rfl, fun w' hw' => by go_simp⟩) hS0 ?_
                    try simp only [Act.put, List.setIfInBounds_toArray, List.set_cons_zero, List.set_cons_succ]
                    refine wpAnyK_takeD (i := 3) 58 [4, 5, 6, 27, 29] (v := .int .i64 (k : Int)) rfl (by kernel_rfl) (by kernel_rfl) (by kernel_rfl) (by kernel_rfl) (by kernel_rfl) (fun _ _ _ h => h) (Or.inl ⟨by kernel_rfl, fun w' hw' => by go_simp⟩) hS0 ?_
                    try simp only [Act.put, List.setIfInBounds_toArray, List.set_cons_zero, List.set_cons_succ]
                    refine wpAnyK_takeD (i := 4) 59 [5, 6, 27, 29] (v := .pointer (some ⟨gA, k, none⟩)) rfl (by kernel_rfl) (by kernel_rfl) (by kernel_rfl) (by kernel_rfl) (by kernel_rfl) (fun _ _ _ h => h) (Or.inl ⟨by kernel_rfl, fun w' hw' => by go_simp⟩) hS0 ?_
                    try simp only [Act.put, List.setIfInBounds_toArray, List.set_cons_zero, List.set_cons_succ]
                    refine wpAnyK_takeD (i := 5) 60 [6, 27, 29] (v := .bool false) rfl (by kernel_rfl) (by kernel_rfl) (by kernel_rfl) (by kernel_rfl) (by kernel_rfl) (fun _ _ _ h => h) (Or.inl ⟨by kernel_rfl, fun w' hw' => by have hcc := cell_later hw' cA; go_simp⟩) hS0 ?_
                    try simp only [Act.put, List.setIfInBounds_toArray, List.set_cons_zero, List.set_cons_succ]
                    refine wpAnyK_takeD (i := 6) 61 [27, 29] (v := .bool false) rfl (by kernel_rfl) (by kernel_rfl) (by kernel_rfl) (by kernel_rfl) (by kernel_rfl) (fun _ _ _ h => h) (Or.inl ⟨by kernel_rfl, fun w' hw' => by go_simp⟩) hS0 ?_
                    try simp only [Act.put, List.setIfInBounds_toArray, List.set_cons_zero, List.set_cons_succ]
                    refine wpAnyK_takeD (i := 7) 62 [8, 9, 15, 16, 26, 27, 29] (v := .int .i64 (k : Int)) rfl (by kernel_rfl) (by kernel_rfl) (by kernel_rfl) (by kernel_rfl) (by kernel_rfl) (fun _ _ _ h => h) (Or.inl ⟨by kernel_rfl, fun w' hw' => by go_simp⟩) hS0 ?_
                    try simp only [Act.put, List.setIfInBounds_toArray, List.set_cons_zero, List.set_cons_succ]
                    refine wpAnyK_takeD (i := 8) 63 [9, 15, 16, 26, 27, 29] (v := .bool true) rfl (by kernel_rfl) (by kernel_rfl) (by kernel_rfl) (by kernel_rfl) (by kernel_rfl) (fun _ _ _ h => h) (Or.inl ⟨by kernel_rfl, fun w' hw' => by go_simp⟩) hS0 ?_
                    try simp only [Act.put, List.setIfInBounds_toArray, List.set_cons_zero, List.set_cons_succ]
                    refine wpAnyK_takeD (i := 9) 64 [15, 16, 26, 27, 29] (v := .bool true) rfl (by kernel_rfl) (by kernel_rfl) (by kernel_rfl) (by kernel_rfl) (by kernel_rfl) (fun _ _ _ h => h) (Or.inl ⟨by kernel_rfl, fun w' hw' => by go_simp⟩) hS0 ?_
                    try simp only [Act.put, List.setIfInBounds_toArray, List.set_cons_zero, List.set_cons_succ]
                    refine wpAnyK_takeD (i := 10) 65 [13, 14, 15, 16, 26, 27, 29] (v := .slice (some ⟨gT, 0, none⟩) n n) rfl (by kernel_rfl) (by kernel_rfl) (by kernel_rfl) (by kernel_rfl) (by kernel_rfl) (fun _ _ _ h => h) (Or.inl ⟨by kernel_rfl, fun w' hw' => by go_simp⟩) hS0 ?_
                    try simp only [Act.put, List.setIfInBounds_toArray, List.set_cons_zero, List.set_cons_succ]
                    refine wpAnyK_takeD (i := 11) 66 [12, 13, 14, 15, 16, 26, 27, 29] (v := .int .i64 (k : Int)) rfl (by kernel_rfl) (by kernel_rfl) (by kernel_rfl) (by kernel_rfl) (by kernel_rfl) (fun _ _ _ h => h) (Or.inl ⟨by kernel_rfl, fun w' hw' => by go_simp⟩) hS0 ?_
                    try simp only [Act.put, List.setIfInBounds_toArray, List.set_cons_zero, List.set_cons_succ]
                    refine wpAnyK_takeD (i := 12) 67 [13, 14, 15, 16, 26, 27, 29] (v := .int .i64 (z : Int)) rfl (by kernel_rfl) (by kernel_rfl) (by kernel_rfl) (by kernel_rfl) (by kernel_rfl) (fun _ _ _ h => h) (Or.inl ⟨by kernel_rfl, fun w' hw' => by go_simp⟩) hS0 ?_
                    try simp only [Act.put, List.setIfInBounds_toArray, List.set_cons_zero, List.set_cons_succ]
                    refine wpAnyK_takeD (i := 13) 68 [14, 15, 16, 26, 27, 29] (v := .pointer (some ⟨gT, z, none⟩)) rfl (by kernel_rfl) (by kernel_rfl) (by kernel_rfl) (by kernel_rfl) (by kernel_rfl) (fun _ _ _ h => h) (Or.inl ⟨by kernel_rfl, fun w' hw' => by go_simp⟩) hS0 ?_
                    try simp only [Act.put, List.setIfInBounds_toArray, List.set_cons_zero, List.set_cons_succ]
                    refine wpAnyK_takeD (i := 14) 69 [15, 16, 26, 27, 29] (v := .bool false) rfl (by kernel_rfl) (by kernel_rfl) (by kernel_rfl) (by kernel_rfl) (by kernel_rfl) (fun _ _ _ h => h) (Or.inl ⟨by kernel_rfl, fun w' hw' => by have hcc := cell_later hw' cP; go_simp⟩) hS0 ?_
                    try simp only [Act.put, List.setIfInBounds_toArray, List.set_cons_zero, List.set_cons_succ]
                    refine wpAnyK_takeD (i := 15) 70 [16, 26, 27, 29] (v := .bool false) rfl (by kernel_rfl) (by kernel_rfl) (by kernel_rfl) (by kernel_rfl) (by kernel_rfl) (fun _ _ _ h => h) (Or.inl ⟨by kernel_rfl, fun w' hw' => by go_simp⟩) hS0 ?_
                    try simp only [Act.put, List.setIfInBounds_toArray, List.set_cons_zero, List.set_cons_succ]
                    refine wpAnyK_takeD (i := 16) 71 [26, 27, 29] (v := .bool false) rfl (by kernel_rfl) (by kernel_rfl) (by kernel_rfl) (by kernel_rfl) (by kernel_rfl) (fun _ _ _ h => h) (Or.inl ⟨by kernel_rfl, fun w' hw' => by go_simp⟩) hS0 ?_
                    try simp only [Act.put, List.setIfInBounds_toArray, List.set_cons_zero, List.set_cons_succ]
                    refine wpAnyK_takeD (i := 17) 72 [19, 20, 25, 26, 27, 29] (v := undef) rfl (by kernel_rfl) (by kernel_rfl) (by kernel_rfl) (by kernel_rfl) (by kernel_rfl) (fun _ _ _ h => h) (Or.inr ⟨by kernel_rfl, rfl⟩) hS0 ?_
                    try simp only [Act.put, List.setIfInBounds_toArray, List.set_cons_zero, List.set_cons_succ]
                    refine wpAnyK_takeD (i := 18) 73 [19, 20, 25, 26, 27, 29] (v := undef) rfl (by kernel_rfl) (by kernel_rfl) (by kernel_rfl) (by kernel_rfl) (by kernel_rfl) (fun _ _ _ h => h) (Or.inr ⟨by kernel_rfl, rfl⟩) hS0 ?_
                    try simp only [Act.put, List.setIfInBounds_toArray, List.set_cons_zero, List.set_cons_succ]
                    refine wpAnyK_takeD (i := 19) 74 [20, 25, 26, 27, 29] (v := undef) rfl (by kernel_rfl) (by kernel_rfl) (by kernel_rfl) (by kernel_rfl) (by kernel_rfl) (fun _ _ _ h => h) (Or.inr ⟨by kernel_rfl, rfl⟩) hS0 ?_
                    try simp only [Act.put, List.setIfInBounds_toArray, List.set_cons_zero, List.set_cons_succ]
                    refine wpAnyK_takeD (i := 20) 75 [25, 26, 27, 29] (v := undef) rfl (by kernel_rfl) (by kernel_rfl) (by kernel_rfl) (by kernel_rfl) (by kernel_rfl) (fun _ _ _ h => h) (Or.inr ⟨by kernel_rfl, rfl⟩) hS0 ?_
                    try simp only [Act.put, List.setIfInBounds_toArray, List.set_cons_zero, List.set_cons_succ]
                    refine wpAnyK_takeD (i := 21) 76 [24, 25, 26, 27, 29] (v := undef) rfl (by kernel_rfl) (by kernel_rfl) (by kernel_rfl) (by kernel_rfl) (by kernel_rfl) (fun _ _ _ h => h) (Or.inr ⟨by kernel_rfl, rfl⟩) hS0 ?_
                    try simp only [Act.put, List.setIfInBounds_toArray, List.set_cons_zero, List.set_cons_succ]
                    refine wpAnyK_takeD (i := 22) 77 [23, 24, 25, 26, 27, 29] (v := undef) rfl (by kernel_rfl) (by kernel_rfl) (by kernel_rfl) (by kernel_rfl) (by kernel_rfl) (fun _ _ _ h => h) (Or.inr ⟨by kernel_rfl, rfl⟩) hS0 ?_
                    try simp only [Act.put, List.setIfInBounds_toArray, List.set_cons_zero, List.set_cons_succ]
                    refine wpAnyK_takeD (i := 23) 78 [24, 25, 26, 27, 29] (v := undef) rfl (by kernel_rfl) (by kernel_rfl) (by kernel_rfl) (by kernel_rfl) (by kernel_rfl) (fun _ _ _ h => h) (Or.inr ⟨by kernel_rfl, rfl⟩) hS0 ?_
                    try simp only [Act.put, List.setIfInBounds_toArray, List.set_cons_zero, List.set_cons_succ]
                    refine wpAnyK_takeD (i := 24) 79 [25, 26, 27, 29] (v := undef) rfl (by kernel_rfl) (by kernel_rfl) (by kernel_rfl) (by kernel_rfl) (by kernel_rfl) (fun _ _ _ h => h) (Or.inr ⟨by kernel_rfl, rfl⟩) hS0 ?_
                    try simp only [Act.put, List.setIfInBounds_toArray, List.set_cons_zero, List.set_cons_succ]
                    refine wpAnyK_takeD (i := 25) 80 [26, 27, 29] (v := undef) rfl (by kernel_rfl) (by kernel_rfl) (by kernel_rfl) (by kernel_rfl) (by kernel_rfl) (fun _ _ _ h => h) (Or.inr ⟨by kernel_rfl, rfl⟩) hS0 ?_
                    try simp only [Act.put, List.setIfInBounds_toArray, List.set_cons_zero, List.set_cons_succ]
                    refine wpAnyK_takeD (i := 26) 81 [27, 29] (v := .bool false) rfl (by kernel_rfl) (by kernel_rfl) (by kernel_rfl) (by kernel_rfl) (by kernel_rfl) (fun _ _ _ h => h) (Or.inl ⟨by kernel_rfl, fun w' hw' => by go_simp⟩) hS0 ?_
                    try simp only [Act.put, List.setIfInBounds_toArray, List.set_cons_zero, List.set_cons_succ]
                    refine wpAnyK_takeD (i := 27) 82 [29] (v := .bool false) rfl (by kernel_rfl) (by kernel_rfl) (by kernel_rfl) (by kernel_rfl) (by kernel_rfl) (fun _ _ _ h => h) (Or.inl ⟨by kernel_rfl, fun w' hw' => by go_simp⟩) hS0 ?_
                    try simp only [Act.put, List.setIfInBounds_toArray, List.set_cons_zero, List.set_cons_succ]
                    refine wpAnyK_takeD (i := 28) 83 [29] (v := .pointer (some ⟨gT, k, none⟩)) rfl (by kernel_rfl) (by kernel_rfl) (by kernel_rfl) (by kernel_rfl) (by kernel_rfl) (fun _ _ _ h => h) (Or.inl ⟨by kernel_rfl, fun w' hw' => by go_simp⟩) hS0 ?_
                    try simp only [Act.put, List.setIfInBounds_toArray, List.set_cons_zero, List.set_cons_succ]
                    clear hS0
                    refine wpAnyK_only (i := 29) (by kernel_rfl) rfl (by rfl) (fun K0 hK0 => ?_)
                    have HK0 := Lib.hid hK0
                    clear hK0
                    go_simp
                    refine HK0.out _ _ (fun h => by simp at h) ?_
                    refine wpAnyK_done (by kernel_rfl) ?_ _
                    clear HK0
                    have HNX : Hid (MI w2 (wr.drew.setCell ⟨gT, k, none⟩ (.bool false)) gA gT n TT (fun j => if j < k + 1 then DD j else false)) := (HMI.out.later (bel_drew_self wr)).set HKN.out (by rw [HDK.out])
                    go_wp2
                    go_roundw
                    case rel => exact ⟨k + 1, by go_num, by show _ ≤ _; have := HKN.out; omega, HNX⟩
                    case measure => have := HKN.out; simp [intOf]; omega
                  | true =>
                    obtain ⟨d, hd⟩ : ∃ d, d = nb s z := ⟨_, rfl⟩
                    obtain ⟨tb, htb⟩ : ∃ tb, tb = takesB x d := ⟨_, rfl⟩
                    have HDK : Hid (DD k = tb) := by show _ = _; rw [HDK0.out, hdz, htb, hd]; simp
                    rw [hdz] at cP0
                    have cP : wr.drew.cell? ⟨gT, z, none⟩ = some (.bool true) := by simpa using cP0
                    have hxs := run_at s z (by have := HN.out; have := HKN.out; omega)
                    rw [bt_nb, ← hd] at hxs
                    have HTK := Lib.hid (HTKa.out d (by rw [hd]; exact nb_lt _ _))
                    rw [← htb] at HTK
                    clear hmany hta hz hzk cP0 hdz hd htb
                    clear HTKa
                    generalize x.cs = X at *
                    go_wp2
                    refine region_plain (S := fun W' => Below wr.drew.heap.size wr.drew W') (bad := [29]) (by kernel_rfl) ?_
                    refine wpAnyK_takeD (i := 0) 55 [28, 29] (v := .slice (some ⟨gT, 0, none⟩) n n) rfl (by kernel_rfl) (by kernel_rfl) (by kernel_rfl) (by kernel_rfl) (by kernel_rfl) (fun _ _ _ h => h) (Or.inl ⟨by kernel_rfl, fun w' hw' => by go_simp⟩) hS0 ?_
                    try simp only [Act.put, List.setIfInBounds_toArray, List.set_cons_zero, List.set_cons_succ]
                    refine wpAnyK_takeD (i := 1) 56 [28, 29] (v := .int .i64 (k : Int)) rfl (by kernel_rfl) (by kernel_rfl) (by kernel_rfl) (by kernel_rfl) (by kernel_rfl) (fun _ _ _ h => h) (Or.inl ⟨by kernel_rfl, fun w' hw' => by go_simp⟩) hS0 ?_
                    try simp only [Act.put, List.setIfInBounds_toArray, List.set_cons_zero, List.set_cons_succ]
                    refine wpAnyK_takeD (i := 2) 57 [4, 5, 6, 27, 29] (v := .slice (some ⟨gA, 0, none⟩) n n) rfl (by kernel_rfl) (by kernel_rfl) (by kernel_rfl) (by kernel_rfl) (by kernel_rfl) (fun _ _ _ h => h) (Or.inl ⟨by kernel_rfl, fun w' hw' => by go_simp⟩) hS0 ?_
                    try simp only [Act.put, List.setIfInBounds_toArray, List.set_cons_zero, List.set_cons_succ]
                    refine wpAnyK_takeD (i := 3) 58 [4, 5, 6, 27, 29] (v := .int .i64 (k : Int)) rfl (by kernel_rfl) (by kernel_rfl) (by kernel_rfl) (by kernel_rfl) (by kernel_rfl) (fun _ _ _ h => h) (Or.inl ⟨by kernel_rfl, fun w' hw' => by go_simp⟩) hS0 ?_
                    try simp only [Act.put, List.setIfInBounds_toArray, List.set_cons_zero, List.set_cons_succ]
                    refine wpAnyK_takeD (i := 4) 59 [5, 6, 27, 29] (v := .pointer (some ⟨gA, k, none⟩)) rfl (by kernel_rfl) (by kernel_rfl) (by kernel_rfl) (by kernel_rfl) (by kernel_rfl) (fun _ _ _ h => h) (Or.inl ⟨by kernel_rfl, fun w' hw' => by go_simp⟩) hS0 ?_
                    try simp only [Act.put, List.setIfInBounds_toArray, List.set_cons_zero, List.set_cons_succ]
                    refine wpAnyK_takeD (i := 5) 60 [6, 27, 29] (v := .bool false) rfl (by kernel_rfl) (by kernel_rfl) (by kernel_rfl) (by kernel_rfl) (by kernel_rfl) (fun _ _ _ h => h) (Or.inl ⟨by kernel_rfl, fun w' hw' => by have hcc := cell_later hw' cA; go_simp⟩) hS0 ?_
                    try simp only [Act.put, List.setIfInBounds_toArray, List.set_cons_zero, List.set_cons_succ]
                    refine wpAnyK_takeD (i := 6) 61 [27, 29] (v := .bool false) rfl (by kernel_rfl) (by kernel_rfl) (by kernel_rfl) (by kernel_rfl) (by kernel_rfl) (fun _ _ _ h => h) (Or.inl ⟨by kernel_rfl, fun w' hw' => by go_simp⟩) hS0 ?_
                    try simp only [Act.put, List.setIfInBounds_toArray, List.set_cons_zero, List.set_cons_succ]
                    refine wpAnyK_takeD (i := 7) 62 [8, 9, 15, 16, 26, 27, 29] (v := .int .i64 (k : Int)) rfl (by kernel_rfl) (by kernel_rfl) (by kernel_rfl) (by kernel_rfl) (by kernel_rfl) (fun _ _ _ h => h) (Or.inl ⟨by kernel_rfl, fun w' hw' => by go_simp⟩) hS0 ?_
                    try simp only [Act.put, List.setIfInBounds_toArray, List.set_cons_zero, List.set_cons_succ]
                    refine wpAnyK_takeD (i := 8) 63 [9, 15, 16, 26, 27, 29] (v := .bool true) rfl (by kernel_rfl) (by kernel_rfl) (by kernel_rfl) (by kernel_rfl) (by kernel_rfl) (fun _ _ _ h => h) (Or.inl ⟨by kernel_rfl, fun w' hw' => by go_simp⟩) hS0 ?_
                    try simp only [Act.put, List.setIfInBounds_toArray, List.set_cons_zero, List.set_cons_succ]
                    refine wpAnyK_takeD (i := 9) 64 [15, 16, 26, 27, 29] (v := .bool true) rfl (by kernel_rfl) (by kernel_rfl) (by kernel_rfl) (by kernel_rfl) (by kernel_rfl) (fun _ _ _ h => h) (Or.inl ⟨by kernel_rfl, fun w' hw' => by go_simp⟩) hS0 ?_
                    try simp only [Act.put, List.setIfInBounds_toArray, List.set_cons_zero, List.set_cons_succ]
                    refine wpAnyK_takeD (i := 10) 65 [13, 14, 15, 16, 26, 27, 29] (v := .slice (some ⟨gT, 0, none⟩) n n) rfl (by kernel_rfl) (by kernel_rfl) (by kernel_rfl) (by kernel_rfl) (by kernel_rfl) (fun _ _ _ h => h) (Or.inl ⟨by kernel_rfl, fun w' hw' => by go_simp⟩) hS0 ?_
                    try simp only [Act.put, List.setIfInBounds_toArray, List.set_cons_zero, List.set_cons_succ]
                    refine wpAnyK_takeD (i := 11) 66 [12, 13, 14, 15, 16, 26, 27, 29] (v := .int .i64 (k : Int)) rfl (by kernel_rfl) (by kernel_rfl) (by kernel_rfl) (by kernel_rfl) (by kernel_rfl) (fun _ _ _ h => h) (Or.inl ⟨by kernel_rfl, fun w' hw' => by go_simp⟩) hS0 ?_
                    try simp only [Act.put, List.setIfInBounds_toArray, List.set_cons_zero, List.set_cons_succ]
                    refine wpAnyK_takeD (i := 12) 67 [13, 14, 15, 16, 26, 27, 29] (v := .int .i64 (z : Int)) rfl (by kernel_rfl) (by kernel_rfl) (by kernel_rfl) (by kernel_rfl) (by kernel_rfl) (fun _ _ _ h => h) (Or.inl ⟨by kernel_rfl, fun w' hw' => by go_simp⟩) hS0 ?_
                    try simp only [Act.put, List.setIfInBounds_toArray, List.set_cons_zero, List.set_cons_succ]
                    refine wpAnyK_takeD (i := 13) 68 [14, 15, 16, 26, 27, 29] (v := .pointer (some ⟨gT, z, none⟩)) rfl (by kernel_rfl) (by kernel_rfl) (by kernel_rfl) (by kernel_rfl) (by kernel_rfl) (fun _ _ _ h => h) (Or.inl ⟨by kernel_rfl, fun w' hw' => by go_simp⟩) hS0 ?_
                    try simp only [Act.put, List.setIfInBounds_toArray, List.set_cons_zero, List.set_cons_succ]
                    refine wpAnyK_takeD (i := 14) 69 [15, 16, 26, 27, 29] (v := .bool true) rfl (by kernel_rfl) (by kernel_rfl) (by kernel_rfl) (by kernel_rfl) (by kernel_rfl) (fun _ _ _ h => h) (Or.inl ⟨by kernel_rfl, fun w' hw' => by have hcc := cell_later hw' cP; go_simp⟩) hS0 ?_
                    try simp only [Act.put, List.setIfInBounds_toArray, List.set_cons_zero, List.set_cons_succ]
                    refine wpAnyK_takeD (i := 15) 70 [16, 26, 27, 29] (v := .bool true) rfl (by kernel_rfl) (by kernel_rfl) (by kernel_rfl) (by kernel_rfl) (by kernel_rfl) (fun _ _ _ h => h) (Or.inl ⟨by kernel_rfl, fun w' hw' => by go_simp⟩) hS0 ?_
                    try simp only [Act.put, List.setIfInBounds_toArray, List.set_cons_zero, List.set_cons_succ]
                    refine wpAnyK_takeD (i := 16) 71 [26, 27, 29] (v := .bool true) rfl (by kernel_rfl) (by kernel_rfl) (by kernel_rfl) (by kernel_rfl) (by kernel_rfl) (fun _ _ _ h => h) (Or.inl ⟨by kernel_rfl, fun w' hw' => by go_simp⟩) hS0 ?_
                    try simp only [Act.put, List.setIfInBounds_toArray, List.set_cons_zero, List.set_cons_succ]
                    refine wpAnyK_takeD (i := 17) 72 [19, 20, 25, 26, 27, 29] (v := .slice (some ⟨gg, 0, none⟩) L.length sc) rfl (by kernel_rfl) (by kernel_rfl) (by kernel_rfl) (by kernel_rfl) (by kernel_rfl) (fun _ _ _ h => h) (Or.inl ⟨by kernel_rfl, fun w' hw' => by go_simp⟩) hS0 ?_
                    try simp only [Act.put, List.setIfInBounds_toArray, List.set_cons_zero, List.set_cons_succ]
                    refine wpAnyK_takeD (i := 18) 73 [19, 20, 25, 26, 27, 29] (v := .int .i64 (i : Int)) rfl (by kernel_rfl) (by kernel_rfl) (by kernel_rfl) (by kernel_rfl) (by kernel_rfl) (fun _ _ _ h => h) (Or.inl ⟨by kernel_rfl, fun w' hw' => by go_simp⟩) hS0 ?_
                    try simp only [Act.put, List.setIfInBounds_toArray, List.set_cons_zero, List.set_cons_succ]
                    refine wpAnyK_takeD (i := 19) 74 [20, 25, 26, 27, 29] (v := .pointer (some ⟨gg, i * 259, none⟩)) rfl (by kernel_rfl) (by kernel_rfl) (by kernel_rfl) (by kernel_rfl) (by kernel_rfl) (fun _ _ _ h => h) (Or.inl ⟨by kernel_rfl, fun w' hw' => by go_simp⟩) hS0 ?_
                    try simp only [Act.put, List.setIfInBounds_toArray, List.set_cons_zero, List.set_cons_succ]
                    refine wpAnyK_takeD (i := 20) 75 [25, 26, 27, 29] (v := .agg X.toArray) rfl (by kernel_rfl) (by kernel_rfl) (by kernel_rfl) (by kernel_rfl) (by kernel_rfl) (fun _ _ _ h => h) (yieldsIf_load_mid (by kernel_rfl) 56 (.tmp 74) rfl gg (i * 259) rfl X _ (fun W hW j u hj => by rw [hW.cell (p := ⟨gg, i * 259 + j, none⟩) HGL.out]; exact HXR.out j u hj) Tryz.underlying56 rfl HXS.out) hS0 ?_
                    try simp only [Act.put, List.setIfInBounds_toArray, List.set_cons_zero, List.set_cons_succ]
                    refine wpAnyK_takeD (i := 21) 76 [24, 25, 26, 27, 29] (v := .string (mk s)) rfl (by kernel_rfl) (by kernel_rfl) (by kernel_rfl) (by kernel_rfl) (by kernel_rfl) (fun _ _ _ h => h) (Or.inl ⟨by kernel_rfl, fun w' hw' => by go_simp⟩) hS0 ?_
                    try simp only [Act.put, List.setIfInBounds_toArray, List.set_cons_zero, List.set_cons_succ]
                    refine wpAnyK_takeD (i := 22) 77 [23, 24, 25, 26, 27, 29] (v := .int .i64 (k : Int)) rfl (by kernel_rfl) (by kernel_rfl) (by kernel_rfl) (by kernel_rfl) (by kernel_rfl) (fun _ _ _ h => h) (Or.inl ⟨by kernel_rfl, fun w' hw' => by go_simp⟩) hS0 ?_
                    try simp only [Act.put, List.setIfInBounds_toArray, List.set_cons_zero, List.set_cons_succ]
                    refine wpAnyK_takeD (i := 23) 78 [24, 25, 26, 27, 29] (v := .int .i64 (z : Int)) rfl (by kernel_rfl) (by kernel_rfl) (by kernel_rfl) (by kernel_rfl) (by kernel_rfl) (fun _ _ _ h => h) (Or.inl ⟨by kernel_rfl, fun w' hw' => by go_simp⟩) hS0 ?_
                    try simp only [Act.put, List.setIfInBounds_toArray, List.set_cons_zero, List.set_cons_succ]
                    refine wpAnyK_takeD (i := 24) 79 [25, 26, 27, 29] (v := .int .u8 (d : Int)) rfl (by kernel_rfl) (by kernel_rfl) (by kernel_rfl) (by kernel_rfl) (by kernel_rfl) (fun _ _ _ h => h) (Or.inl ⟨by kernel_rfl, fun w' hw' => by go_simp⟩) hS0 ?_
                    try simp only [Act.put, List.setIfInBounds_toArray, List.set_cons_zero, List.set_cons_succ]
                    refine wpAnyK_only (i := 25) (by kernel_rfl) rfl (by rfl) (fun K0 hK0 => ?_)
                    have HK0 := Lib.hid hK0
                    clear hK0
                    go_simp
                    refine (HTK.out _).mono ?_
                    rintro e w9 ⟨rfl, hb9'⟩
                    have hb9 : Below wr.drew.heap.size wr.drew w9 := by simpa using hb9'
                    have HB9 := Lib.hid hb9
                    refine HK0.out _ _ (fun _ => hb9) ?_
                    clear HK0 hb9'
                    try simp only [Act.put, List.setIfInBounds_toArray, List.set_cons_zero, List.set_cons_succ]
                    refine wpAnyK_takeD (i := 26) 81 [27, 29] (v := .bool tb) rfl (by kernel_rfl) (by kernel_rfl) (by kernel_rfl) (by kernel_rfl) (by kernel_rfl) (fun _ _ _ h => h) (Or.inl ⟨by kernel_rfl, fun w' hw' => by go_simp⟩) hb9 ?_
                    try simp only [Act.put, List.setIfInBounds_toArray, List.set_cons_zero, List.set_cons_succ]
                    refine wpAnyK_takeD (i := 27) 82 [29] (v := .bool tb) rfl (by kernel_rfl) (by kernel_rfl) (by kernel_rfl) (by kernel_rfl) (by kernel_rfl) (fun _ _ _ h => h) (Or.inl ⟨by kernel_rfl, fun w' hw' => by go_simp⟩) hb9 ?_
                    try simp only [Act.put, List.setIfInBounds_toArray, List.set_cons_zero, List.set_cons_succ]
                    refine wpAnyK_takeD (i := 28) 83 [29] (v := .pointer (some ⟨gT, k, none⟩)) rfl (by kernel_rfl) (by kernel_rfl) (by kernel_rfl) (by kernel_rfl) (by kernel_rfl) (fun _ _ _ h => h) (Or.inl ⟨by kernel_rfl, fun w' hw' => by go_simp⟩) hb9 ?_
                    try simp only [Act.put, List.setIfInBounds_toArray, List.set_cons_zero, List.set_cons_succ]
                    have HBT9 := Lib.hid (BAt.later HBT.out (bel_from_drew hb9))
                    have cT := HBT9.out.cell k (by have := HKN.out; omega)
                    have fT := HBT9.out.soft k
                    clear hS0 hb9
                    refine wpAnyK_only (i := 29) (by kernel_rfl) rfl (by rfl) (fun K0 hK0 => ?_)
                    have HK0 := Lib.hid hK0
                    clear hK0
                    go_simp
                    refine HK0.out _ _ (fun h => by simp at h) ?_
                    refine wpAnyK_done (by kernel_rfl) ?_ _
                    clear HK0
                    have HNX : Hid (MI w2 (w9.setCell ⟨gT, k, none⟩ (.bool tb)) gA gT n TT (fun j => if j < k + 1 then DD j else false)) := (HMI.out.later (bel_from_drew HB9.out)).set HKN.out (by rw [HDK.out])
                    go_wp2
                    go_roundw
                    case rel => exact ⟨k + 1, by go_num, by show _ ≤ _; have := HKN.out; omega, HNX⟩
                    case measure => have := HKN.out; simp [intOf]; omega
                · have HDK : Hid (DD k = false) := by show _ = _; rw [HDK0.out, hta, decide_eq_false hk0]; rfl
                  have hk00 : k = 0 := by omega
                  have hk0I : ¬ (0 : Int) < (k : Int) := by omega
                  have hk0J : (k : Int) ≤ 0 := by omega
                  clear hmany hta hk00
                  go_wp2
                  refine region_plain (S := fun W' => Below wr.drew.heap.size wr.drew W') (bad := [29]) (by kernel_rfl) ?_
                  refine wpAnyK_takeD (i := 0) 55 [28, 29] (v := .slice (some ⟨gT, 0, none⟩) n n) rfl (by kernel_rfl) (by kernel_rfl) (by kernel_rfl) (by kernel_rfl) (by kernel_rfl) (fun _ _ _ h => h) (Or.inl ⟨by kernel_rfl, fun w' hw' => by go_simp⟩) hS0 ?_
                  try simp only [Act.put, List.setIfInBounds_toArray, List.set_cons_zero, List.set_cons_succ]
                  refine wpAnyK_takeD (i := 1) 56 [28, 29] (v := .int .i64 (k : Int)) rfl (by kernel_rfl) (by kernel_rfl) (by kernel_rfl) (by kernel_rfl) (by kernel_rfl) (fun _ _ _ h => h) (Or.inl ⟨by kernel_rfl, fun w' hw' => by go_simp⟩) hS0 ?_
                  try simp only [Act.put, List.setIfInBounds_toArray, List.set_cons_zero, List.set_cons_succ]
                  refine wpAnyK_takeD (i := 2) 57 [4, 5, 6, 27, 29] (v := .slice (some ⟨gA, 0, none⟩) n n) rfl (by kernel_rfl) (by kernel_rfl) (by kernel_rfl) (by kernel_rfl) (by kernel_rfl) (fun _ _ _ h => h) (Or.inl ⟨by kernel_rfl, fun w' hw' => by go_simp⟩) hS0 ?_
                  try simp only [Act.put, List.setIfInBounds_toArray, List.set_cons_zero, List.set_cons_succ]
                  refine wpAnyK_takeD (i := 3) 58 [4, 5, 6, 27, 29] (v := .int .i64 (k : Int)) rfl (by kernel_rfl) (by kernel_rfl) (by kernel_rfl) (by kernel_rfl) (by kernel_rfl) (fun _ _ _ h => h) (Or.inl ⟨by kernel_rfl, fun w' hw' => by go_simp⟩) hS0 ?_
                  try simp only [Act.put, List.setIfInBounds_toArray, List.set_cons_zero, List.set_cons_succ]
                  refine wpAnyK_takeD (i := 4) 59 [5, 6, 27, 29] (v := .pointer (some ⟨gA, k, none⟩)) rfl (by kernel_rfl) (by kernel_rfl) (by kernel_rfl) (by kernel_rfl) (by kernel_rfl) (fun _ _ _ h => h) (Or.inl ⟨by kernel_rfl, fun w' hw' => by go_simp⟩) hS0 ?_
                  try simp only [Act.put, List.setIfInBounds_toArray, List.set_cons_zero, List.set_cons_succ]
                  refine wpAnyK_takeD (i := 5) 60 [6, 27, 29] (v := .bool false) rfl (by kernel_rfl) (by kernel_rfl) (by kernel_rfl) (by kernel_rfl) (by kernel_rfl) (fun _ _ _ h => h) (Or.inl ⟨by kernel_rfl, fun w' hw' => by have hcc := cell_later hw' cA; go_simp⟩) hS0 ?_
                  try simp only [Act.put, List.setIfInBounds_toArray, List.set_cons_zero, List.set_cons_succ]
                  refine wpAnyK_takeD (i := 6) 61 [27, 29] (v := .bool false) rfl (by kernel_rfl) (by kernel_rfl) (by kernel_rfl) (by kernel_rfl) (by kernel_rfl) (fun _ _ _ h => h) (Or.inl ⟨by kernel_rfl, fun w' hw' => by go_simp⟩) hS0 ?_
                  try simp only [Act.put, List.setIfInBounds_toArray, List.set_cons_zero, List.set_cons_succ]
                  refine wpAnyK_takeD (i := 7) 62 [8, 9, 15, 16, 26, 27, 29] (v := .int .i64 (k : Int)) rfl (by kernel_rfl) (by kernel_rfl) (by kernel_rfl) (by kernel_rfl) (by kernel_rfl) (fun _ _ _ h => h) (Or.inl ⟨by kernel_rfl, fun w' hw' => by go_simp⟩) hS0 ?_
                  try simp only [Act.put, List.setIfInBounds_toArray, List.set_cons_zero, List.set_cons_succ]
                  refine wpAnyK_takeD (i := 8) 63 [9, 15, 16, 26, 27, 29] (v := .bool false) rfl (by kernel_rfl) (by kernel_rfl) (by kernel_rfl) (by kernel_rfl) (by kernel_rfl) (fun _ _ _ h => h) (Or.inl ⟨by kernel_rfl, fun w' hw' => by go_simp⟩) hS0 ?_
                  try simp only [Act.put, List.setIfInBounds_toArray, List.set_cons_zero, List.set_cons_succ]
                  refine wpAnyK_takeD (i := 9) 64 [15, 16, 26, 27, 29] (v := .bool false) rfl (by kernel_rfl) (by kernel_rfl) (by kernel_rfl) (by kernel_rfl) (by kernel_rfl) (fun _ _ _ h => h) (Or.inl ⟨by kernel_rfl, fun w' hw' => by go_simp⟩) hS0 ?_
                  try simp only [Act.put, List.setIfInBounds_toArray, List.set_cons_zero, List.set_cons_succ]
                  refine wpAnyK_takeD (i := 10) 65 [13, 14, 15, 16, 26, 27, 29] (v := undef) rfl (by kernel_rfl) (by kernel_rfl) (by kernel_rfl) (by kernel_rfl) (by kernel_rfl) (fun _ _ _ h => h) (Or.inr ⟨by kernel_rfl, rfl⟩) hS0 ?_
                  try simp only [Act.put, List.setIfInBounds_toArray, List.set_cons_zero, List.set_cons_succ]
                  refine wpAnyK_takeD (i := 11) 66 [12, 13, 14, 15, 16, 26, 27, 29] (v := undef) rfl (by kernel_rfl) (by kernel_rfl) (by kernel_rfl) (by kernel_rfl) (by kernel_rfl) (fun _ _ _ h => h) (Or.inr ⟨by kernel_rfl, rfl⟩) hS0 ?_
                  try simp only [Act.put, List.setIfInBounds_toArray, List.set_cons_zero, List.set_cons_succ]
                  refine wpAnyK_takeD (i := 12) 67 [13, 14, 15, 16, 26, 27, 29] (v := undef) rfl (by kernel_rfl) (by kernel_rfl) (by kernel_rfl) (by kernel_rfl) (by kernel_rfl) (fun _ _ _ h => h) (Or.inr ⟨by kernel_rfl, rfl⟩) hS0 ?_
                  try simp only [Act.put, List.setIfInBounds_toArray, List.set_cons_zero, List.set_cons_succ]
                  refine wpAnyK_takeD (i := 13) 68 [14, 15, 16, 26, 27, 29] (v := undef) rfl (by kernel_rfl) (by kernel_rfl) (by kernel_rfl) (by kernel_rfl) (by kernel_rfl) (fun _ _ _ h => h) (Or.inr ⟨by kernel_rfl, rfl⟩) hS0 ?_
                  try simp only [Act.put, List.setIfInBounds_toArray, List.set_cons_zero, List.set_cons_succ]
                  refine wpAnyK_takeD (i := 14) 69 [15, 16, 26, 27, 29] (v := undef) rfl (by kernel_rfl) (by kernel_rfl) (by kernel_rfl) (by kernel_rfl) (by kernel_rfl) (fun _ _ _ h => h) (Or.inr ⟨by kernel_rfl, rfl⟩) hS0 ?_
                  try simp only [Act.put, List.setIfInBounds_toArray, List.set_cons_zero, List.set_cons_succ]
                  refine wpAnyK_takeD (i := 15) 70 [16, 26, 27, 29] (v := .bool false) rfl (by kernel_rfl) (by kernel_rfl) (by kernel_rfl) (by kernel_rfl) (by kernel_rfl) (fun _ _ _ h => h) (Or.inl ⟨by kernel_rfl, fun w' hw' => by go_simp⟩) hS0 ?_
                  try simp only [Act.put, List.setIfInBounds_toArray, List.set_cons_zero, List.set_cons_succ]
                  refine wpAnyK_takeD (i := 16) 71 [26, 27, 29] (v := .bool false) rfl (by kernel_rfl) (by kernel_rfl) (by kernel_rfl) (by kernel_rfl) (by kernel_rfl) (fun _ _ _ h => h) (Or.inl ⟨by kernel_rfl, fun w' hw' => by go_simp⟩) hS0 ?_
                  try simp only [Act.put, List.setIfInBounds_toArray, List.set_cons_zero, List.set_cons_succ]
                  refine wpAnyK_takeD (i := 17) 72 [19, 20, 25, 26, 27, 29] (v := undef) rfl (by kernel_rfl) (by kernel_rfl) (by kernel_rfl) (by kernel_rfl) (by kernel_rfl) (fun _ _ _ h => h) (Or.inr ⟨by kernel_rfl, rfl⟩) hS0 ?_
                  try simp only [Act.put, List.setIfInBounds_toArray, List.set_cons_zero, List.set_cons_succ]
                  refine wpAnyK_takeD (i := 18) 73 [19, 20, 25, 26, 27, 29] (v := undef) rfl (by kernel_rfl) (by kernel_rfl) (by kernel_rfl) (by kernel_rfl) (by kernel_rfl) (fun _ _ _ h => h) (Or.inr ⟨by kernel_rfl, rfl⟩) hS0 ?_
                  try simp only [Act.put, List.setIfInBounds_toArray, List.set_cons_zero, List.set_cons_succ]
                  refine wpAnyK_takeD (i := 19) 74 [20, 25, 26, 27, 29] (v := undef) rfl (by kernel_rfl) (by kernel_rfl) (by kernel_rfl) (by kernel_rfl) (by kernel_rfl) (fun _ _ _ h => h) (Or.inr ⟨by kernel_rfl, rfl⟩) hS0 ?_
                  try simp only [Act.put, List.setIfInBounds_toArray, List.set_cons_zero, List.set_cons_succ]
                  refine wpAnyK_takeD (i := 20) 75 [25, 26, 27, 29] (v := undef) rfl (by kernel_rfl) (by kernel_rfl) (by kernel_rfl) (by kernel_rfl) (by kernel_rfl) (fun _ _ _ h => h) (Or.inr ⟨by kernel_rfl, rfl⟩) hS0 ?_
                  try simp only [Act.put, List.setIfInBounds_toArray, List.set_cons_zero, List.set_cons_succ]
                  refine wpAnyK_takeD (i := 21) 76 [24, 25, 26, 27, 29] (v := undef) rfl (by kernel_rfl) (by kernel_rfl) (by kernel_rfl) (by kernel_rfl) (by kernel_rfl) (fun _ _ _ h => h) (Or.inr ⟨by kernel_rfl, rfl⟩) hS0 ?_
                  try simp only [Act.put, List.setIfInBounds_toArray, List.set_cons_zero, List.set_cons_succ]
                  refine wpAnyK_takeD (i := 22) 77 [23, 24, 25, 26, 27, 29] (v := undef) rfl (by kernel_rfl) (by kernel_rfl) (by kernel_rfl) (by kernel_rfl) (by kernel_rfl) (fun _ _ _ h => h) (Or.inr ⟨by kernel_rfl, rfl⟩) hS0 ?_
                  try simp only [Act.put, List.setIfInBounds_toArray, List.set_cons_zero, List.set_cons_succ]
                  refine wpAnyK_takeD (i := 23) 78 [24, 25, 26, 27, 29] (v := undef) rfl (by kernel_rfl) (by kernel_rfl) (by kernel_rfl) (by kernel_rfl) (by kernel_rfl) (fun _ _ _ h => h) (Or.inr ⟨by kernel_rfl, rfl⟩) hS0 ?_
                  try simp only [Act.put, List.setIfInBounds_toArray, List.set_cons_zero, List.set_cons_succ]
                  refine wpAnyK_takeD (i := 24) 79 [25, 26, 27, 29] (v := undef) rfl (by kernel_rfl) (by kernel_rfl) (by kernel_rfl) (by kernel_rfl) (by kernel_rfl) (fun _ _ _ h => h) (Or.inr ⟨by kernel_rfl, rfl⟩) hS0 ?_
                  try simp only [Act.put, List.setIfInBounds_toArray, List.set_cons_zero, List.set_cons_succ]
                  refine wpAnyK_takeD (i := 25) 80 [26, 27, 29] (v := undef) rfl (by kernel_rfl) (by kernel_rfl) (by kernel_rfl) (by kernel_rfl) (by kernel_rfl) (fun _ _ _ h => h) (Or.inr ⟨by kernel_rfl, rfl⟩) hS0 ?_
                  try simp only [Act.put, List.setIfInBounds_toArray, List.set_cons_zero, List.set_cons_succ]
                  refine wpAnyK_takeD (i := 26) 81 [27, 29] (v := .bool false) rfl (by kernel_rfl) (by kernel_rfl) (by kernel_rfl) (by kernel_rfl) (by kernel_rfl) (fun _ _ _ h => h) (Or.inl ⟨by kernel_rfl, fun w' hw' => by go_simp⟩) hS0 ?_
                  try simp only [Act.put, List.setIfInBounds_toArray, List.set_cons_zero, List.set_cons_succ]
                  refine wpAnyK_takeD (i := 27) 82 [29] (v := .bool false) rfl (by kernel_rfl) (by kernel_rfl) (by kernel_rfl) (by kernel_rfl) (by kernel_rfl) (fun _ _ _ h => h) (Or.inl ⟨by kernel_rfl, fun w' hw' => by go_simp⟩) hS0 ?_
                  try simp only [Act.put, List.setIfInBounds_toArray, List.set_cons_zero, List.set_cons_succ]
                  refine wpAnyK_takeD (i := 28) 83 [29] (v := .pointer (some ⟨gT, k, none⟩)) rfl (by kernel_rfl) (by kernel_rfl) (by kernel_rfl) (by kernel_rfl) (by kernel_rfl) (fun _ _ _ h => h) (Or.inl ⟨by kernel_rfl, fun w' hw' => by go_simp⟩) hS0 ?_
                  try simp only [Act.put, List.setIfInBounds_toArray, List.set_cons_zero, List.set_cons_succ]
                  clear hS0
                  refine wpAnyK_only (i := 29) (by kernel_rfl) rfl (by rfl) (fun K0 hK0 => ?_)
                  have HK0 := Lib.hid hK0
                  clear hK0
                  go_simp
                  refine HK0.out _ _ (fun h => by simp at h) ?_
                  refine wpAnyK_done (by kernel_rfl) ?_ _
                  clear HK0
                  have HNX : Hid (MI w2 (wr.drew.setCell ⟨gT, k, none⟩ (.bool false)) gA gT n TT (fun j => if j < k + 1 then DD j else false)) := (HMI.out.later (bel_drew_self wr)).set HKN.out (by rw [HDK.out])
                  go_wp2
                  go_roundw
                  case rel => exact ⟨k + 1, by go_num, by show _ ≤ _; have := HKN.out; omega, HNX⟩
                  case measure => have := HKN.out; simp [intOf]; omega
            | false =>
              have HDK0 : Hid (DD k = (decide (0 < k) && (TT (k - 1) && takesB x (nb s (k - 1))))) := by show _ = _; rw [HDD.out]; exact dpRow_one hmany k
              by_cases hk0 : 0 < k
              · obtain ⟨z, hz⟩ : ∃ z, z = k - 1 := ⟨_, rfl⟩
                have hzk : z < k := by omega
                have hkz : IntKind.i64.wrap ((k : Int) - 1) = (z : Int) := by have := HN.out; have := HKN.out; rw [IntWalk.i64_in _ (by omega)]; omega
                have hzn : (z : Int) < (n : Int) := by omega
                have hk0I : (0 : Int) < (k : Int) := by omega
                rw [← hz, decide_eq_true hk0] at HDK0
                have cP0 := HMI.out.at_.cell z (by have := HKN.out; omega)
                cases hdz : TT z with
                | false =>
                  have HDK : Hid (DD k = false) := by show _ = _; rw [HDK0.out, hdz]; rfl
                  rw [hdz] at cP0
                  have cP : wr.drew.cell? ⟨gA, z, none⟩ = some (.bool false) := by simpa using cP0
                  clear hmany hz hzk cP0 hdz
                  go_wp2
                  refine region_plain (S := fun W' => Below wr.drew.heap.size wr.drew W') (bad := [23]) (by kernel_rfl) ?_
                  refine wpAnyK_takeD (i := 0) 84 [22, 23] (v := .slice (some ⟨gT, 0, none⟩) n n) rfl (by kernel_rfl) (by kernel_rfl) (by kernel_rfl) (by kernel_rfl) (by kernel_rfl) (fun _ _ _ h => h) (Or.inl ⟨by kernel_rfl, fun w' hw' => by go_simp⟩) hS0 ?_
                  try simp only [Act.put, List.setIfInBounds_toArray, List.set_cons_zero, List.set_cons_succ]
                  refine wpAnyK_takeD (i := 1) 85 [22, 23] (v := .int .i64 (k : Int)) rfl (by kernel_rfl) (by kernel_rfl) (by kernel_rfl) (by kernel_rfl) (by kernel_rfl) (fun _ _ _ h => h) (Or.inl ⟨by kernel_rfl, fun w' hw' => by go_simp⟩) hS0 ?_
                  try simp only [Act.put, List.setIfInBounds_toArray, List.set_cons_zero, List.set_cons_succ]
                  refine wpAnyK_takeD (i := 2) 86 [3, 4, 10, 11, 21, 23] (v := .int .i64 (k : Int)) rfl (by kernel_rfl) (by kernel_rfl) (by kernel_rfl) (by kernel_rfl) (by kernel_rfl) (fun _ _ _ h => h) (Or.inl ⟨by kernel_rfl, fun w' hw' => by go_simp⟩) hS0 ?_
                  try simp only [Act.put, List.setIfInBounds_toArray, List.set_cons_zero, List.set_cons_succ]
                  refine wpAnyK_takeD (i := 3) 87 [4, 10, 11, 21, 23] (v := .bool true) rfl (by kernel_rfl) (by kernel_rfl) (by kernel_rfl) (by kernel_rfl) (by kernel_rfl) (fun _ _ _ h => h) (Or.inl ⟨by kernel_rfl, fun w' hw' => by go_simp⟩) hS0 ?_
                  try simp only [Act.put, List.setIfInBounds_toArray, List.set_cons_zero, List.set_cons_succ]
                  refine wpAnyK_takeD (i := 4) 88 [10, 11, 21, 23] (v := .bool true) rfl (by kernel_rfl) (by kernel_rfl) (by kernel_rfl) (by kernel_rfl) (by kernel_rfl) (fun _ _ _ h => h) (Or.inl ⟨by kernel_rfl, fun w' hw' => by go_simp⟩) hS0 ?_
                  try simp only [Act.put, List.setIfInBounds_toArray, List.set_cons_zero, List.set_cons_succ]
                  refine wpAnyK_takeD (i := 5) 89 [8, 9, 10, 11, 21, 23] (v := .slice (some ⟨gA, 0, none⟩) n n) rfl (by kernel_rfl) (by kernel_rfl) (by kernel_rfl) (by kernel_rfl) (by kernel_rfl) (fun _ _ _ h => h) (Or.inl ⟨by kernel_rfl, fun w' hw' => by go_simp⟩) hS0 ?_
                  try simp only [Act.put, List.setIfInBounds_toArray, List.set_cons_zero, List.set_cons_succ]
                  refine wpAnyK_takeD (i := 6) 90 [7, 8, 9, 10, 11, 21, 23] (v := .int .i64 (k : Int)) rfl (by kernel_rfl) (by kernel_rfl) (by kernel_rfl) (by kernel_rfl) (by kernel_rfl) (fun _ _ _ h => h) (Or.inl ⟨by kernel_rfl, fun w' hw' => by go_simp⟩) hS0 ?_
                  try simp only [Act.put, List.setIfInBounds_toArray, List.set_cons_zero, List.set_cons_succ]
                  refine wpAnyK_takeD (i := 7) 91 [8, 9, 10, 11, 21, 23] (v := .int .i64 (z : Int)) rfl (by kernel_rfl) (by kernel_rfl) (by kernel_rfl) (by kernel_rfl) (by kernel_rfl) (fun _ _ _ h => h) (Or.inl ⟨by kernel_rfl, fun w' hw' => by go_simp⟩) hS0 ?_
                  try simp only [Act.put, List.setIfInBounds_toArray, List.set_cons_zero, List.set_cons_succ]
                  refine wpAnyK_takeD (i := 8) 92 [9, 10, 11, 21, 23] (v := .pointer (some ⟨gA, z, none⟩)) rfl (by kernel_rfl) (by kernel_rfl) (by kernel_rfl) (by kernel_rfl) (by kernel_rfl) (fun _ _ _ h => h) (Or.inl ⟨by kernel_rfl, fun w' hw' => by go_simp⟩) hS0 ?_
                  try simp only [Act.put, List.setIfInBounds_toArray, List.set_cons_zero, List.set_cons_succ]
                  refine wpAnyK_takeD (i := 9) 93 [10, 11, 21, 23] (v := .bool false) rfl (by kernel_rfl) (by kernel_rfl) (by kernel_rfl) (by kernel_rfl) (by kernel_rfl) (fun _ _ _ h => h) (Or.inl ⟨by kernel_rfl, fun w' hw' => by have hcc := cell_later hw' cP; go_simp⟩) hS0 ?_
                  try simp only [Act.put, List.setIfInBounds_toArray, List.set_cons_zero, List.set_cons_succ]
                  refine wpAnyK_takeD (i := 10) 94 [11, 21, 23] (v := .bool false) rfl (by kernel_rfl) (by kernel_rfl) (by kernel_rfl) (by kernel_rfl) (by kernel_rfl) (fun _ _ _ h => h) (Or.inl ⟨by kernel_rfl, fun w' hw' => by go_simp⟩) hS0 ?_
                  try simp only [Act.put, List.setIfInBounds_toArray, List.set_cons_zero, List.set_cons_succ]
                  refine wpAnyK_takeD (i := 11) 95 [21, 23] (v := .bool false) rfl (by kernel_rfl) (by kernel_rfl) (by kernel_rfl) (by kernel_rfl) (by kernel_rfl) (fun _ _ _ h => h) (Or.inl ⟨by kernel_rfl, fun w' hw' => by go_simp⟩) hS0 ?_
                  try simp only [Act.put, List.setIfInBounds_toArray, List.set_cons_zero, List.set_cons_succ]
                  refine wpAnyK_takeD (i := 12) 96 [14, 15, 20, 21, 23] (v := undef) rfl (by kernel_rfl) (by kernel_rfl) (by kernel_rfl) (by kernel_rfl) (by kernel_rfl) (fun _ _ _ h => h) (Or.inr ⟨by kernel_rfl, rfl⟩) hS0 ?_
                  try simp only [Act.put, List.setIfInBounds_toArray, List.set_cons_zero, List.set_cons_succ]
                  refine wpAnyK_takeD (i := 13) 97 [14, 15, 20, 21, 23] (v := undef) rfl (by kernel_rfl) (by kernel_rfl) (by kernel_rfl) (by kernel_rfl) (by kernel_rfl) (fun _ _ _ h => h) (Or.inr ⟨by kernel_rfl, rfl⟩) hS0 ?_
                  try simp only [Act.put, List.setIfInBounds_toArray, List.set_cons_zero, List.set_cons_succ]
                  refine wpAnyK_takeD (i := 14) 98 [15, 20, 21, 23] (v := undef) rfl (by kernel_rfl) (by kernel_rfl) (by kernel_rfl) (by kernel_rfl) (by kernel_rfl) (fun _ _ _ h => h) (Or.inr ⟨by kernel_rfl, rfl⟩) hS0 ?_
                  try simp only [Act.put, List.setIfInBounds_toArray, List.set_cons_zero, List.set_cons_succ]
                  refine wpAnyK_takeD (i := 15) 99 [20, 21, 23] (v := undef) rfl (by kernel_rfl) (by kernel_rfl) (by kernel_rfl) (by kernel_rfl) (by kernel_rfl) (fun _ _ _ h => h) (Or.inr ⟨by kernel_rfl, rfl⟩) hS0 ?_
                  try simp only [Act.put, List.setIfInBounds_toArray, List.set_cons_zero, List.set_cons_succ]
                  refine wpAnyK_takeD (i := 16) 100 [19, 20, 21, 23] (v := undef) rfl (by kernel_rfl) (by kernel_rfl) (by kernel_rfl) (by kernel_rfl) (by kernel_rfl) (fun _ _ _ h => h) (Or.inr ⟨by kernel_rfl, rfl⟩) hS0 ?_
                  try simp only [Act.put, List.setIfInBounds_toArray, List.set_cons_zero, List.set_cons_succ]
                  refine wpAnyK_takeD (i := 17) 101 [18, 19, 20, 21, 23] (v := undef) rfl (by kernel_rfl) (by kernel_rfl) (by kernel_rfl) (by kernel_rfl) (by kernel_rfl) (fun _ _ _ h => h) (Or.inr ⟨by kernel_rfl, rfl⟩) hS0 ?_
                  try simp only [Act.put, List.setIfInBounds_toArray, List.set_cons_zero, List.set_cons_succ]
                  refine wpAnyK_takeD (i := 18) 102 [19, 20, 21, 23] (v := undef) rfl (by kernel_rfl) (by kernel_rfl) (by kernel_rfl) (by kernel_rfl) (by kernel_rfl) (fun _ _ _ h => h) (Or.inr ⟨by kernel_rfl, rfl⟩) hS0 ?_
                  try simp only [Act.put, List.setIfInBounds_toArray, List.set_cons_zero, List.set_cons_succ]
                  refine wpAnyK_takeD (i := 19) 103 [20, 21, 23] (v := undef) rfl (by kernel_rfl) (by kernel_rfl) (by kernel_rfl) (by kernel_rfl) (by kernel_rfl) (fun _ _ _ h => h) (Or.inr ⟨by kernel_rfl, rfl⟩) hS0 ?_
                  try simp only [Act.put, List.setIfInBounds_toArray, List.set_cons_zero, List.set_cons_succ]
                  refine wpAnyK_takeD (i := 20) 104 [21, 23] (v := undef) rfl (by kernel_rfl) (by kernel_rfl) (by kernel_rfl) (by kernel_rfl) (by kernel_rfl) (fun _ _ _ h => h) (Or.inr ⟨by kernel_rfl, rfl⟩) hS0 ?_
                  try simp only [Act.put, List.setIfInBounds_toArray, List.set_cons_zero, List.set_cons_succ]
                  refine wpAnyK_takeD (i := 21) 105 [23] (v := .bool false) rfl (by kernel_rfl) (by kernel_rfl) (by kernel_rfl) (by kernel_rfl) (by kernel_rfl) (fun _ _ _ h => h) (Or.inl ⟨by kernel_rfl, fun w' hw' => by go_simp⟩) hS0 ?_
                  try simp only [Act.put, List.setIfInBounds_toArray, List.set_cons_zero, List.set_cons_succ]
                  refine wpAnyK_takeD (i := 22) 106 [23] (v := .pointer (some ⟨gT, k, none⟩)) rfl (by kernel_rfl) (by kernel_rfl) (by kernel_rfl) (by kernel_rfl) (by kernel_rfl) (fun _ _ _ h => h) (Or.inl ⟨by kernel_rfl, fun w' hw' => by go_simp⟩) hS0 ?_
                  try simp only [Act.put, List.setIfInBounds_toArray, List.set_cons_zero, List.set_cons_succ]
                  clear hS0
                  refine wpAnyK_only (i := 23) (by kernel_rfl) rfl (by rfl) (fun K0 hK0 => ?_)
                  have HK0 := Lib.hid hK0
                  clear hK0
                  go_simp
                  refine HK0.out _ _ (fun h => by simp at h) ?_
                  refine wpAnyK_done (by kernel_rfl) ?_ _
                  clear HK0
                  have HNX : Hid (MI w2 (wr.drew.setCell ⟨gT, k, none⟩ (.bool false)) gA gT n TT (fun j => if j < k + 1 then DD j else false)) := (HMI.out.later (bel_drew_self wr)).set HKN.out (by rw [HDK.out])
                  go_wp2
                  go_roundw
                  case rel => exact ⟨k + 1, by go_num, by show _ ≤ _; have := HKN.out; omega, HNX⟩
                  case measure => have := HKN.out; simp [intOf]; omega
                | true =>
                  obtain ⟨d, hd⟩ : ∃ d, d = nb s z := ⟨_, rfl⟩
                  obtain ⟨tb, htb⟩ : ∃ tb, tb = takesB x d := ⟨_, rfl⟩
                  have HDK : Hid (DD k = tb) := by show _ = _; rw [HDK0.out, hdz, htb, hd]; simp
                  rw [hdz] at cP0
                  have cP : wr.drew.cell? ⟨gA, z, none⟩ = some (.bool true) := by simpa using cP0
                  have hxs := run_at s z (by have := HN.out; have := HKN.out; omega)
                  rw [bt_nb, ← hd] at hxs
                  have HTK := Lib.hid (HTKa.out d (by rw [hd]; exact nb_lt _ _))
                  rw [← htb] at HTK
                  clear hmany hz hzk cP0 hdz hd htb
                  clear HTKa
                  generalize x.cs = X at *
                  go_wp2
                  refine region_plain (S := fun W' => Below wr.drew.heap.size wr.drew W') (bad := [23]) (by kernel_rfl) ?_
                  refine wpAnyK_takeD (i := 0) 84 [22, 23] (v := .slice (some ⟨gT, 0, none⟩) n n) rfl (by kernel_rfl) (by kernel_rfl) (by kernel_rfl) (by kernel_rfl) (by kernel_rfl) (fun _ _ _ h => h) (Or.inl ⟨by kernel_rfl, fun w' hw' => by go_simp⟩) hS0 ?_
                  try simp only [Act.put, List.setIfInBounds_toArray, List.set_cons_zero, List.set_cons_succ]
                  refine wpAnyK_takeD (i := 1) 85 [22, 23] (v := .int .i64 (k : Int)) rfl (by kernel_rfl) (by kernel_rfl) (by kernel_rfl) (by kernel_rfl) (by kernel_rfl) (fun _ _ _ h => h) (Or.inl ⟨by kernel_rfl, fun w' hw' => by go_simp⟩) hS0 ?_
                  try simp only [Act.put, List.setIfInBounds_toArray, List.set_cons_zero, List.set_cons_succ]
                  refine wpAnyK_takeD (i := 2) 86 [3, 4, 10, 11, 21, 23] (v := .int .i64 (k : Int)) rfl (by kernel_rfl) (by kernel_rfl) (by kernel_rfl) (by kernel_rfl) (by kernel_rfl) (fun _ _ _ h => h) (Or.inl ⟨by kernel_rfl, fun w' hw' => by go_simp⟩) hS0 ?_
                  try simp only [Act.put, List.setIfInBounds_toArray, List.set_cons_zero, List.set_cons_succ]
                  refine wpAnyK_takeD (i := 3) 87 [4, 10, 11, 21, 23] (v := .bool true) rfl (by kernel_rfl) (by kernel_rfl) (by kernel_rfl) (by kernel_rfl) (by kernel_rfl) (fun _ _ _ h => h) (Or.inl ⟨by kernel_rfl, fun w' hw' => by go_simp⟩) hS0 ?_
                  try simp only [Act.put, List.setIfInBounds_toArray, List.set_cons_zero, List.set_cons_succ]
                  refine wpAnyK_takeD (i := 4) 88 [10, 11, 21, 23] (v := .bool true) rfl (by kernel_rfl) (by kernel_rfl) (by kernel_rfl) (by kernel_rfl) (by kernel_rfl) (fun _ _ _ h => h) (Or.inl ⟨by kernel_rfl, fun w' hw' => by go_simp⟩) hS0 ?_
                  try simp only [Act.put, List.setIfInBounds_toArray, List.set_cons_zero, List.set_cons_succ]
                  refine wpAnyK_takeD (i := 5) 89 [8, 9, 10, 11, 21, 23] (v := .slice (some ⟨gA, 0, none⟩) n n) rfl (by kernel_rfl) (by kernel_rfl) (by kernel_rfl) (by kernel_rfl) (by kernel_rfl) (fun _ _ _ h => h) (Or.inl ⟨by kernel_rfl, fun w' hw' => by go_simp⟩) hS0 ?_
                  try simp only [Act.put, List.setIfInBounds_toArray, List.set_cons_zero, List.set_cons_succ]
                  refine wpAnyK_takeD (i := 6) 90 [7, 8, 9, 10, 11, 21, 23] (v := .int .i64 (k : Int)) rfl (by kernel_rfl) (by kernel_rfl) (by kernel_rfl) (by kernel_rfl) (by kernel_rfl) (fun _ _ _ h => h) (Or.inl ⟨by kernel_rfl, fun w' hw' => by go_simp⟩) hS0 ?_
                  try simp only [Act.put, List.setIfInBounds_toArray, List.set_cons_zero, List.set_cons_succ]
                  refine wpAnyK_takeD (i := 7) 91 [8, 9, 10, 11, 21, 23] (v := .int .i64 (z : Int)) rfl (by kernel_rfl) (by kernel_rfl) (by kernel_rfl) (by kernel_rfl) (by kernel_rfl) (fun _ _ _ h => h) (Or.inl ⟨by kernel_rfl, fun w' hw' => by go_simp⟩) hS0 ?_
                  try simp only [Act.put, List.setIfInBounds_toArray, List.set_cons_zero, List.set_cons_succ]
                  refine wpAnyK_takeD (i := 8) 92 [9, 10, 11, 21, 23] (v := .pointer (some ⟨gA, z, none⟩)) rfl (by kernel_rfl) (by kernel_rfl) (by kernel_rfl) (by kernel_rfl) (by kernel_rfl) (fun _ _ _ h => h) (Or.inl ⟨by kernel_rfl, fun w' hw' => by go_simp⟩) hS0 ?_
                  try simp only [Act.put, List.setIfInBounds_toArray, List.set_cons_zero, List.set_cons_succ]
                  refine wpAnyK_takeD (i := 9) 93 [10, 11, 21, 23] (v := .bool true) rfl (by kernel_rfl) (by kernel_rfl) (by kernel_rfl) (by kernel_rfl) (by kernel_rfl) (fun _ _ _ h => h) (Or.inl ⟨by kernel_rfl, fun w' hw' => by have hcc := cell_later hw' cP; go_simp⟩) hS0 ?_
                  try simp only [Act.put, List.setIfInBounds_toArray, List.set_cons_zero, List.set_cons_succ]
                  refine wpAnyK_takeD (i := 10) 94 [11, 21, 23] (v := .bool true) rfl (by kernel_rfl) (by kernel_rfl) (by kernel_rfl) (by kernel_rfl) (by kernel_rfl) (fun _ _ _ h => h) (Or.inl ⟨by kernel_rfl, fun w' hw' => by go_simp⟩) hS0 ?_
                  try simp only [Act.put, List.setIfInBounds_toArray, List.set_cons_zero, List.set_cons_succ]
                  refine wpAnyK_takeD (i := 11) 95 [21, 23] (v := .bool true) rfl (by kernel_rfl) (by kernel_rfl) (by kernel_rfl) (by kernel_rfl) (by kernel_rfl) (fun _ _ _ h => h) (Or.inl ⟨by kernel_rfl, fun w' hw' => by go_simp⟩) hS0 ?_
                  try simp only [Act.put, List.setIfInBounds_toArray, List.set_cons_zero, List.set_cons_succ]
                  refine wpAnyK_takeD (i := 12) 96 [14, 15, 20, 21, 23] (v := .slice (some ⟨gg, 0, none⟩) L.length sc) rfl (by kernel_rfl) (by kernel_rfl) (by kernel_rfl) (by kernel_rfl) (by kernel_rfl) (fun _ _ _ h => h) (Or.inl ⟨by kernel_rfl, fun w' hw' => by go_simp⟩) hS0 ?_
                  try simp only [Act.put, List.setIfInBounds_toArray, List.set_cons_zero, List.set_cons_succ]
                  refine wpAnyK_takeD (i := 13) 97 [14, 15, 20, 21, 23] (v := .int .i64 (i : Int)) rfl (by kernel_rfl) (by kernel_rfl) (by kernel_rfl) (by kernel_rfl) (by kernel_rfl) (fun _ _ _ h => h) (Or.inl ⟨by kernel_rfl, fun w' hw' => by go_simp⟩) hS0 ?_
                  try simp only [Act.put, List.setIfInBounds_toArray, List.set_cons_zero, List.set_cons_succ]
                  refine wpAnyK_takeD (i := 14) 98 [15, 20, 21, 23] (v := .pointer (some ⟨gg, i * 259, none⟩)) rfl (by kernel_rfl) (by kernel_rfl) (by kernel_rfl) (by kernel_rfl) (by kernel_rfl) (fun _ _ _ h => h) (Or.inl ⟨by kernel_rfl, fun w' hw' => by go_simp⟩) hS0 ?_
                  try simp only [Act.put, List.setIfInBounds_toArray, List.set_cons_zero, List.set_cons_succ]
                  refine wpAnyK_takeD (i := 15) 99 [20, 21, 23] (v := .agg X.toArray) rfl (by kernel_rfl) (by kernel_rfl) (by kernel_rfl) (by kernel_rfl) (by kernel_rfl) (fun _ _ _ h => h) (yieldsIf_load_mid (by kernel_rfl) 56 (.tmp 98) rfl gg (i * 259) rfl X _ (fun W hW j u hj => by rw [hW.cell (p := ⟨gg, i * 259 + j, none⟩) HGL.out]; exact HXR.out j u hj) Tryz.underlying56 rfl HXS.out) hS0 ?_
                  try simp only [Act.put, List.setIfInBounds_toArray, List.set_cons_zero, List.set_cons_succ]
                  refine wpAnyK_takeD (i := 16) 100 [19, 20, 21, 23] (v := .string (mk s)) rfl (by kernel_rfl) (by kernel_rfl) (by kernel_rfl) (by kernel_rfl) (by kernel_rfl) (fun _ _ _ h => h) (Or.inl ⟨by kernel_rfl, fun w' hw' => by go_simp⟩) hS0 ?_
                  try simp only [Act.put, List.setIfInBounds_toArray, List.set_cons_zero, List.set_cons_succ]
                  refine wpAnyK_takeD (i := 17) 101 [18, 19, 20, 21, 23] (v := .int .i64 (k : Int)) rfl (by kernel_rfl) (by kernel_rfl) (by kernel_rfl) (by kernel_rfl) (by kernel_rfl) (fun _ _ _ h => h) (Or.inl ⟨by kernel_rfl, fun w' hw' => by go_simp⟩) hS0 ?_
                  try simp only [Act.put, List.setIfInBounds_toArray, List.set_cons_zero, List.set_cons_succ]
                  refine wpAnyK_takeD (i := 18) 102 [19, 20, 21, 23] (v := .int .i64 (z : Int)) rfl (by kernel_rfl) (by kernel_rfl) (by kernel_rfl) (by kernel_rfl) (by kernel_rfl) (fun _ _ _ h => h) (Or.inl ⟨by kernel_rfl, fun w' hw' => by go_simp⟩) hS0 ?_
                  try simp only [Act.put, List.setIfInBounds_toArray, List.set_cons_zero, List.set_cons_succ]
                  refine wpAnyK_takeD (i := 19) 103 [20, 21, 23] (v := .int .u8 (d : Int)) rfl (by kernel_rfl) (by kernel_rfl) (by kernel_rfl) (by kernel_rfl) (by kernel_rfl) (fun _ _ _ h => h) (Or.inl ⟨by kernel_rfl, fun w' hw' => by go_simp⟩) hS0 ?_
                  try simp only [Act.put, List.setIfInBounds_toArray, List.set_cons_zero, List.set_cons_succ]
                  refine wpAnyK_only (i := 20) (by kernel_rfl) rfl (by rfl) (fun K0 hK0 => ?_)
                  have HK0 := Lib.hid hK0
                  clear hK0
                  go_simp
                  refine (HTK.out _).mono ?_
                  rintro e w9 ⟨rfl, hb9'⟩
                  have hb9 : Below wr.drew.heap.size wr.drew w9 := by simpa using hb9'
                  have HB9 := Lib.hid hb9
                  refine HK0.out _ _ (fun _ => hb9) ?_
                  clear HK0 hb9'
                  try simp only [Act.put, List.setIfInBounds_toArray, List.set_cons_zero, List.set_cons_succ]
                  refine wpAnyK_takeD (i := 21) 105 [23] (v := .bool tb) rfl (by kernel_rfl) (by kernel_rfl) (by kernel_rfl) (by kernel_rfl) (by kernel_rfl) (fun _ _ _ h => h) (Or.inl ⟨by kernel_rfl, fun w' hw' => by go_simp⟩) hb9 ?_
                  try simp only [Act.put, List.setIfInBounds_toArray, List.set_cons_zero, List.set_cons_succ]
                  refine wpAnyK_takeD (i := 22) 106 [23] (v := .pointer (some ⟨gT, k, none⟩)) rfl (by kernel_rfl) (by kernel_rfl) (by kernel_rfl) (by kernel_rfl) (by kernel_rfl) (fun _ _ _ h => h) (Or.inl ⟨by kernel_rfl, fun w' hw' => by go_simp⟩) hb9 ?_
                  try simp only [Act.put, List.setIfInBounds_toArray, List.set_cons_zero, List.set_cons_succ]
                  have HBT9 := Lib.hid (BAt.later HBT.out (bel_from_drew hb9))
                  have cT := HBT9.out.cell k (by have := HKN.out; omega)
                  have fT := HBT9.out.soft k
                  clear hS0 hb9
                  refine wpAnyK_only (i := 23) (by kernel_rfl) rfl (by rfl) (fun K0 hK0 => ?_)
                  have HK0 := Lib.hid hK0
                  clear hK0
                  go_simp
                  refine HK0.out _ _ (fun h => by simp at h) ?_
                  refine wpAnyK_done (by kernel_rfl) ?_ _
                  clear HK0
                  have HNX : Hid (MI w2 (w9.setCell ⟨gT, k, none⟩ (.bool tb)) gA gT n TT (fun j => if j < k + 1 then DD j else false)) := (HMI.out.later (bel_from_drew HB9.out)).set HKN.out (by rw [HDK.out])
                  go_wp2
                  go_roundw
                  case rel => exact ⟨k + 1, by go_num, by show _ ≤ _; have := HKN.out; omega, HNX⟩
                  case measure => have := HKN.out; simp [intOf]; omega
              · have HDK : Hid (DD k = false) := by show _ = _; rw [HDK0.out, decide_eq_false hk0]; rfl
                have hk0I : ¬ (0 : Int) < (k : Int) := by omega
                have hk0J : (k : Int) ≤ 0 := by omega
                clear hmany
                go_wp2
                refine region_plain (S := fun W' => Below wr.drew.heap.size wr.drew W') (bad := [23]) (by kernel_rfl) ?_
                refine wpAnyK_takeD (i := 0) 84 [22, 23] (v := .slice (some ⟨gT, 0, none⟩) n n) rfl (by kernel_rfl) (by kernel_rfl) (by kernel_rfl) (by kernel_rfl) (by kernel_rfl) (fun _ _ _ h => h) (Or.inl ⟨by kernel_rfl, fun w' hw' => by go_simp⟩) hS0 ?_
                try simp only [Act.put, List.setIfInBounds_toArray, List.set_cons_zero, List.set_cons_succ]
                refine wpAnyK_takeD (i := 1) 85 [22, 23] (v := .int .i64 (k : Int)) rfl (by kernel_rfl) (by kernel_rfl) (by kernel_rfl) (by kernel_rfl) (by kernel_rfl) (fun _ _ _ h => h) (Or.inl ⟨by kernel_rfl, fun w' hw' => by go_simp⟩) hS0 ?_
                try simp only [Act.put, List.setIfInBounds_toArray, List.set_cons_zero, List.set_cons_succ]
                refine wpAnyK_takeD (i := 2) 86 [3, 4, 10, 11, 21, 23] (v := .int .i64 (k : Int)) rfl (by kernel_rfl) (by kernel_rfl) (by kernel_rfl) (by kernel_rfl) (by kernel_rfl) (fun _ _ _ h => h) (Or.inl ⟨by kernel_rfl, fun w' hw' => by go_simp⟩) hS0 ?_
                try simp only [Act.put, List.setIfInBounds_toArray, List.set_cons_zero, List.set_cons_succ]
                refine wpAnyK_takeD (i := 3) 87 [4, 10, 11, 21, 23] (v := .bool false) rfl (by kernel_rfl) (by kernel_rfl) (by kernel_rfl) (by kernel_rfl) (by kernel_rfl) (fun _ _ _ h => h) (Or.inl ⟨by kernel_rfl, fun w' hw' => by go_simp⟩) hS0 ?_
                try simp only [Act.put, List.setIfInBounds_toArray, List.set_cons_zero, List.set_cons_succ]
                refine wpAnyK_takeD (i := 4) 88 [10, 11, 21, 23] (v := .bool false) rfl (by kernel_rfl) (by kernel_rfl) (by kernel_rfl) (by kernel_rfl) (by kernel_rfl) (fun _ _ _ h => h) (Or.inl ⟨by kernel_rfl, fun w' hw' => by go_simp⟩) hS0 ?_
                try simp only [Act.put, List.setIfInBounds_toArray, List.set_cons_zero, List.set_cons_succ]
                refine wpAnyK_takeD (i := 5) 89 [8, 9, 10, 11, 21, 23] (v := undef) rfl (by kernel_rfl) (by kernel_rfl) (by kernel_rfl) (by kernel_rfl) (by kernel_rfl) (fun _ _ _ h => h) (Or.inr ⟨by kernel_rfl, rfl⟩) hS0 ?_
                try simp only [Act.put, List.setIfInBounds_toArray, List.set_cons_zero, List.set_cons_succ]
                refine wpAnyK_takeD (i := 6) 90 [7, 8, 9, 10, 11, 21, 23] (v := undef) rfl (by kernel_rfl) (by kernel_rfl) (by kernel_rfl) (by kernel_rfl) (by kernel_rfl) (fun _ _ _ h => h) (Or.inr ⟨by kernel_rfl, rfl⟩) hS0 ?_
                try simp only [Act.put, List.setIfInBounds_toArray, List.set_cons_zero, List.set_cons_succ]
                refine wpAnyK_takeD (i := 7) 91 [8, 9, 10, 11, 21, 23] (v := undef) rfl (by kernel_rfl) (by kernel_rfl) (by kernel_rfl) (by kernel_rfl) (by kernel_rfl) (fun _ _ _ h => h) (Or.inr ⟨by kernel_rfl, rfl⟩) hS0 ?_
                try simp only [Act.put, List.setIfInBounds_toArray, List.set_cons_zero, List.set_cons_succ]
                refine wpAnyK_takeD (i := 8) 92 [9, 10, 11, 21, 23] (v := undef) rfl (by kernel_rfl) (by kernel_rfl) (by kernel_rfl) (by kernel_rfl) (by kernel_rfl) (fun _ _ _ h => h) (Or.inr ⟨by kernel_rfl, rfl⟩) hS0 ?_
                try simp only [Act.put, List.setIfInBounds_toArray, List.set_cons_zero, List.set_cons_succ]
                refine wpAnyK_takeD (i := 9) 93 [10, 11, 21, 23] (v := undef) rfl (by kernel_rfl) (by kernel_rfl) (by kernel_rfl) (by kernel_rfl) (by kernel_rfl) (fun _ _ _ h => h) (Or.inr ⟨by kernel_rfl, rfl⟩) hS0 ?_
                try simp only [Act.put, List.setIfInBounds_toArray, List.set_cons_zero, List.set_cons_succ]
                refine wpAnyK_takeD (i := 10) 94 [11, 21, 23] (v := .bool false) rfl (by kernel_rfl) (by kernel_rfl) (by kernel_rfl) (by kernel_rfl) (by kernel_rfl) (fun _ _ _ h => h) (Or.inl ⟨by kernel_rfl, fun w' hw' => by go_simp⟩) hS0 ?_
                try simp only [Act.put, List.setIfInBounds_toArray, List.set_cons_zero, List.set_cons_succ]
                refine wpAnyK_takeD (i := 11) 95 [21, 23] (v := .bool false) rfl (by kernel_rfl) (by kernel_rfl) (by kernel_rfl) (by kernel_rfl) (by kernel_rfl) (fun _ _ _ h => h) (Or.inl ⟨by kernel_rfl, fun w' hw' => by go_simp⟩) hS0 ?_
                try simp only [Act.put, List.setIfInBounds_toArray, List.set_cons_zero, List.set_cons_succ]
                refine wpAnyK_takeD (i := 12) 96 [14, 15, 20, 21, 23] (v := undef) rfl (by kernel_rfl) (by kernel_rfl) (by kernel_rfl) (by kernel_rfl) (by kernel_rfl) (fun _ _ _ h => h) (Or.inr ⟨by kernel_rfl, rfl⟩) hS0 ?_
                try simp only [Act.put, List.setIfInBounds_toArray, List.set_cons_zero, List.set_cons_succ]
                refine wpAnyK_takeD (i := 13) 97 [14, 15, 20, 21, 23] (v := undef) rfl (by kernel_rfl) (by kernel_rfl) (by kernel_rfl) (by kernel_rfl) (by kernel_rfl) (fun _ _ _ h => h) (Or.inr ⟨by kernel_rfl, rfl⟩) hS0 ?_
                try simp only [Act.put, List.setIfInBounds_toArray, List.set_cons_zero, List.set_cons_succ]
                refine wpAnyK_takeD (i := 14) 98 [15, 20, 21, 23] (v := undef) rfl (by kernel_rfl) (by kernel_rfl) (by kernel_rfl) (by kernel_rfl) (by kernel_rfl) (fun _ _ _ h => h) (Or.inr ⟨by kernel_rfl, rfl⟩) hS0 ?_
                try simp only [Act.put, List.setIfInBounds_toArray, List.set_cons_zero, List.set_cons_succ]
                refine wpAnyK_takeD (i := 15) 99 [20, 21, 23] (v := undef) rfl (by kernel_rfl) (by kernel_rfl) (by kernel_rfl) (by kernel_rfl) (by kernel_rfl) (fun _ _ _ h => h) (Or.inr ⟨by kernel_rfl, rfl⟩) hS0 ?_
                try simp only [Act.put, List.setIfInBounds_toArray, List.set_cons_zero, List.set_cons_succ]
                refine wpAnyK_takeD (i := 16) 100 [19, 20, 21, 23] (v := undef) rfl (by kernel_rfl) (by kernel_rfl) (by kernel_rfl) (by kernel_rfl) (by kernel_rfl) (fun _ _ _ h => h) (Or.inr ⟨by kernel_rfl, rfl⟩) hS0 ?_
                try simp only [Act.put, List.setIfInBounds_toArray, List.set_cons_zero, List.set_cons_succ]
                refine wpAnyK_takeD (i := 17) 101 [18, 19, 20, 21, 23] (v := undef) rfl (by kernel_rfl) (by kernel_rfl) (by kernel_rfl) (by kernel_rfl) (by kernel_rfl) (fun _ _ _ h => h) (Or.inr ⟨by kernel_rfl, rfl⟩) hS0 ?_
                try simp only [Act.put, List.setIfInBounds_toArray, List.set_cons_zero, List.set_cons_succ]
                refine wpAnyK_takeD (i := 18) 102 [19, 20, 21, 23] (v := undef) rfl (by kernel_rfl) (by kernel_rfl) (by kernel_rfl) (by kernel_rfl) (by kernel_rfl) (fun _ _ _ h => h) (Or.inr ⟨by kernel_rfl, rfl⟩) hS0 ?_
                try simp only [Act.put, List.setIfInBounds_toArray, List.set_cons_zero, List.set_cons_succ]
                refine wpAnyK_takeD (i := 19) 103 [20, 21, 23] (v := undef) rfl (by kernel_rfl) (by kernel_rfl) (by kernel_rfl) (by kernel_rfl) (by kernel_rfl) (fun _ _ _ h => h) (Or.inr ⟨by kernel_rfl, rfl⟩) hS0 ?_
                try simp only [Act.put, List.setIfInBounds_toArray, List.set_cons_zero, List.set_cons_succ]
                refine wpAnyK_takeD (i := 20) 104 [21, 23] (v := undef) rfl (by kernel_rfl) (by kernel_rfl) (by kernel_rfl) (by kernel_rfl) (by kernel_rfl) (fun _ _ _ h => h) (Or.inr ⟨by kernel_rfl, rfl⟩) hS0 ?_
                try simp only [Act.put, List.setIfInBounds_toArray, List.set_cons_zero, List.set_cons_succ]
                refine wpAnyK_takeD (i := 21) 105 [23] (v := .bool false) rfl (by kernel_rfl) (by kernel_rfl) (by kernel_rfl) (by kernel_rfl) (by kernel_rfl) (fun _ _ _ h => h) (Or.inl ⟨by kernel_rfl, fun w' hw' => by go_simp⟩) hS0 ?_
                try simp only [Act.put, List.setIfInBounds_toArray, List.set_cons_zero, List.set_cons_succ]
                refine wpAnyK_takeD (i := 22) 106 [23] (v := .pointer (some ⟨gT, k, none⟩)) rfl (by kernel_rfl) (by kernel_rfl) (by kernel_rfl) (by kernel_rfl) (by kernel_rfl) (fun _ _ _ h => h) (Or.inl ⟨by kernel_rfl, fun w' hw' => by go_simp⟩) hS0 ?_
                try simp only [Act.put, List.setIfInBounds_toArray, List.set_cons_zero, List.set_cons_succ]
                clear hS0
                refine wpAnyK_only (i := 23) (by kernel_rfl) rfl (by rfl) (fun K0 hK0 => ?_)
                have HK0 := Lib.hid hK0
                clear hK0
                go_simp
                refine HK0.out _ _ (fun h => by simp at h) ?_
                refine wpAnyK_done (by kernel_rfl) ?_ _
                clear HK0
                have HNX : Hid (MI w2 (wr.drew.setCell ⟨gT, k, none⟩ (.bool false)) gA gT n TT (fun j => if j < k + 1 then DD j else false)) := (HMI.out.later (bel_drew_self wr)).set HKN.out (by rw [HDK.out])
                go_wp2
                go_roundw
                case rel => exact ⟨k + 1, by go_num, by show _ ≤ _; have := HKN.out; omega, HNX⟩
                case measure => have := HKN.out; simp [intOf]; omega
          · have hIk : ¬ (k : Int) ≤ ((mk s).size : Int) := by rw [HSS.out]; have := HN.out; omega
            have hke : k = n := by have := HKL.out; omega
            have HBN : Hid (BAt wr gT n (dp s T0 (L.take (i + 1)))) := HMI.out.to_.same fun j hj => by rw [if_pos (by omega), HNXT.out]
            have HBE : Hid (Below w2.heap.size w2 wr ∧ w2.heap.size ≤ gT) := ⟨HMI.out.bel, HMI.out.lo⟩
            clear hk hke
            go_wp2
            go_roundw
            case rel => exact ⟨i + 1, gT, by go_num, rfl, by show _ ≤ _; have := HIL.out; omega, HBE.out.2, HBN, HBE.out.1⟩
            case measure => have := HIL.out; simp [intOf]; omega
      · have hIi : ¬ (i : Int) < (L.length : Int) := by omega
        have hie : i = L.length := by have := HI.out; omega
        have hn9 := HN.out
        have hba := HBA.out
        rw [hie, List.take_length] at hba
        have cE := hba.cell s.length (by omega)
        have HE : Hid (R = dp s T0 L s.length) := HRR
        rw [← HRR.out] at cE
        have hsn : ((mk s).size : Int) < (n : Int) := by rw [HSS.out]; omega
        rw [← HSS.out] at cE
        have HBE : Hid (Below w.heap.size w wr) := HB2.out.trans (HBW.out.mono HB2.out.size)
        clear hi hie hn9 hba hLL HE
        go_wp2
        go_ret
        exact ⟨rfl, HBE.out⟩
end Go.Proofs.YtokocfoeohddfaaGreatDoor.Pa
