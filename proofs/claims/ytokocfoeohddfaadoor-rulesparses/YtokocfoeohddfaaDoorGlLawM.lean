/- glob: what the laws say, of signs and their texts. (A template.) -/
import Derived.Test.YtokocfoeohddfaaDoorGlEsc
namespace Go.Proofs.YtokocfoeohddfaaDoor.Pa
set_option linter.unusedVariables false
set_option linter.unusedSimpArgs false

theorem stars_stop : ∀ m : L8, (m.takeWhile (· == 42)).length < m.length → m.getD (m.takeWhile (· == 42)).length 0 ≠ 42 := by
  intro m
  induction m with
  | nil => intro h; simp at h
  | cons c m ih =>
    intro h
    by_cases hc : c = 42
    · subst hc
      simp only [List.takeWhile_cons, beq_self_eq_true, if_true, List.length_cons] at h ⊢
      have := ih (by omega)
      simpa using this
    · rw [List.takeWhile_cons, if_neg (by simpa using hc)]
      simpa using hc
theorem stars_end {l : L8} {a : Nat} (h : a + stars l a < l.length) : nb l (a + stars l a) ≠ 42 := by
  have := stars_stop (l.drop a) (by have : stars l a < (l.drop a).length := by rw [List.length_drop]; omega
                                    exact this)
  intro e
  apply this
  have h2 : (l.drop a).getD (stars l a) 0 = l.getD (a + stars l a) 0 := by simp [List.getD_eq_getElem?_getD]
  change (l.drop a).getD (stars l a) 0 = 42
  rw [h2]
  exact UInt8.toNat_inj.1 (by unfold nb at e; rw [e]; rfl)
/-- what a sign is that was read -/
theorem sgn_kind {l : L8} {a b : Nat} {x : Sg} (h : sgn l a = some (x, b)) : (x.many = true → nb l a = 42 ∧ (b < l.length → nb l b ≠ 42)) ∧ (x.itself = true → x.many = false ∧ x.c < 256 ∧ ∀ d, x.S d = (d == x.c)) := by
  have hf := sgn_fits h
  unfold sgn at h
  split at h
  · cases hc : cls l (l.length + 1) (if bang l a = true then a + 2 else a + 1) noneS with
    | none => rw [hc] at h; simp at h
    | some y => rw [hc] at h; simp at h; rw [← h.1]; simp [classSg]
  · split at h
    · simp at h; rw [← h.1]; simp
    · split at h
      · next h42 =>
        simp at h
        refine ⟨fun _ => ⟨h42, fun hb => ?_⟩, fun hi => ?_⟩
        · rw [← h.2] at hb ⊢; exact stars_end hb
        · rw [← h.1] at hi; split at hi <;> simp at hi
      · cases hr : rbN l a with
        | none => rw [hr] at h; simp at h
        | some y =>
          rw [hr] at h
          simp at h
          refine ⟨fun hm => ?_, fun hi => ?_⟩
          · rw [← h.1] at hm; simp at hm
          · rw [← h.1] at hf ⊢
            exact ⟨rfl, hf, fun d => by simp [addS, noneS]⟩
theorem sgns_kind {l : L8} : ∀ n a L, sgns l n a = some L → (∀ x M, L = x :: M → x.many = true → nb l a = 42 ∧ a < l.length) ∧ Apart L ∧ ∀ x ∈ L, x.itself = true → x.many = false ∧ x.c < 256 ∧ ∀ d, x.S d = (d == x.c) := by
  intro n
  induction n with
  | zero => intro a L h; simp [sgns] at h
  | succ n ih =>
    intro a L h
    rw [sgns_eq] at h
    split at h
    · next ha =>
      cases hs : sgn l a with
      | none => rw [hs] at h; simp at h
      | some x =>
        obtain ⟨x, b⟩ := x
        rw [hs] at h
        simp only at h
        cases hr : sgns l n b with
        | none => rw [hr] at h; simp at h
        | some M =>
          rw [hr] at h
          simp only [Option.map_some, Option.some.injEq] at h
          subst h
          obtain ⟨i1, i2, i3⟩ := ih b M hr
          obtain ⟨k1, k2⟩ := sgn_kind hs
          refine ⟨fun y N e hm => ?_, ?_, ?_⟩
          · simp only [List.cons.injEq] at e
            obtain ⟨rfl, rfl⟩ := e
            exact ⟨(k1 hm).1, ha⟩
          · intro i y z hy hz my mz
            cases i with
            | zero =>
              simp at hy; subst hy
              cases M with
              | nil => simp at hz
              | cons u M =>
                simp at hz; subst hz
                have h1 := k1 my
                have h2 := i1 u M rfl mz
                exact h1.2 h2.2 h2.1
            | succ i => exact i2 i y z (by simpa using hy) (by simpa using hz) my mz
          · intro y hy
            rcases List.mem_cons.1 hy with rfl | hy
            · exact k2
            · exact i3 y hy
    · simp only [Option.some.injEq] at h
      subst h
      exact ⟨fun x M e => (by cases e), fun i y z hy => (by simp at hy), fun x hx => (by simp at hx)⟩
theorem readP_kind {p : L8} {L : List Sg} (h : readP p = some L) : Apart L ∧ ∀ x ∈ L, x.itself = true → x.many = false ∧ x.c < 256 ∧ ∀ d, x.S d = (d == x.c) := by
  unfold readP at h
  split at h
  · exact (sgns_kind _ _ _ h).2
  · cases h
theorem lang_head : ∀ (L : List Sg) (s : L8), (∀ x ∈ L, x.itself = true → x.many = false ∧ x.c < 256 ∧ ∀ d, x.S d = (d == x.c)) → Lang L s → ∃ r, s = headL L ++ r := by
  intro L
  induction L with
  | nil => intro s _ h; exact ⟨s, by simp [headL]⟩
  | cons x L ih =>
    intro s hk h
    rw [headL_cons]
    by_cases hi : x.itself = true
    · rw [if_pos hi]
      obtain ⟨h1, h2, h3⟩ := hk x (by simp) hi
      rw [Lang, if_neg (by rw [h1]; simp)] at h
      obtain ⟨c, s2, rfl, h4, h5⟩ := h
      obtain ⟨r, hr⟩ := ih s2 (fun y hy => hk y (by simp [hy])) h5
      rw [h3] at h4
      have : c = sgByte x := by
        unfold sgByte
        apply UInt8.toNat_inj.1
        rw [UInt8.toNat_ofNat']
        simp at h4
        omega
      exact ⟨r, by rw [hr, this]; rfl⟩
    · rw [if_neg hi]; exact ⟨s, rfl⟩
/-- signs all of which stand for themselves have one text -/
theorem lang_plain : ∀ (L : List Sg) (s : L8), (∀ x ∈ L, x.itself = true → x.many = false ∧ x.c < 256 ∧ ∀ d, x.S d = (d == x.c)) → (∀ x ∈ L, x.itself = true) → (Lang L s ↔ s = headL L) := by
  intro L
  induction L with
  | nil => intro s _ _; simp [Lang, headL]
  | cons x L ih =>
    intro s hk ha
    have hi := ha x (by simp)
    obtain ⟨h1, h2, h3⟩ := hk x (by simp) hi
    rw [headL_cons, if_pos hi, Lang, if_neg (by rw [h1]; simp)]
    have ih := fun s2 => ih s2 (fun y hy => hk y (by simp [hy])) (fun y hy => ha y (by simp [hy]))
    constructor
    · rintro ⟨c, s2, rfl, h4, h5⟩
      rw [h3] at h4
      have : c = sgByte x := by
        unfold sgByte
        apply UInt8.toNat_inj.1
        rw [UInt8.toNat_ofNat']
        simp at h4
        omega
      rw [this, (ih s2).1 h5]
    · intro e
      refine ⟨sgByte x, headL L, e, ?_, (ih _).2 rfl⟩
      rw [h3]
      unfold sgByte
      rw [UInt8.toNat_ofNat']
      simp
      omega
theorem headL_le (L : List Sg) : (headL L).length ≤ L.length := by
  unfold headL
  rw [List.length_map]
  exact (List.takeWhile_prefix (l := L) (·.itself)).length_le
theorem headL_all : ∀ L : List Sg, ¬ (headL L).length < L.length → ∀ x ∈ L, x.itself = true := by
  intro L
  induction L with
  | nil => intro _ x hx; simp at hx
  | cons x L ih =>
    intro h y hy
    rw [headL_cons] at h
    by_cases hi : x.itself = true
    · rw [if_pos hi] at h
      rcases List.mem_cons.1 hy with rfl | hy
      · exact hi
      · exact ih (by simpa using h) y hy
    · rw [if_neg hi] at h; simp at h

/-! GlobBegins -/
theorem match_head {p s : L8} (h : matchP p s = true) : ∃ r, s = headP p ++ r := by
  unfold matchP at h
  unfold headP
  cases hr : readP p with
  | none => rw [hr] at h; simp at h
  | some L =>
    rw [hr] at h
    obtain ⟨h1, h2⟩ := readP_kind hr
    exact lang_head L s h2 ((match_iff h1 s).1 h)
theorem plain_head {p : L8} (h : (plainP p).2 = true) : (plainP p).1 = headP p ∧ ∀ s, matchP p s = decide (s = headP p) := by
  unfold plainP at h ⊢
  unfold headP matchP
  cases hr : readP p with
  | none => rw [hr] at h; simp at h
  | some L =>
    rw [hr] at h
    simp only at h ⊢
    obtain ⟨h1, h2⟩ := readP_kind hr
    by_cases hlt : (headL L).length < L.length
    · rw [if_pos hlt] at h; simp at h
    · rw [if_neg hlt]
      refine ⟨rfl, fun s => ?_⟩
      rw [Bool.eq_iff_iff, match_iff h1 s, lang_plain L s h2 (headL_all L hlt)]
      simp

/-! GlobEscapes -/
theorem nb_get {l : L8} {i : Nat} {c : UInt8} (h : l[i]? = some c) : nb l i = c.toNat := by unfold nb; rw [List.getD_eq_getElem?_getD, h]; rfl
theorem escC_sgn (pre : L8) (c : UInt8) (post : L8) : sgn (pre ++ escC c ++ post) pre.length = some (⟨addS noneS c.toNat, false, true, c.toNat⟩, pre.length + (escC c).length) := by
  unfold escC
  cases hs : special c with
  | true =>
    simp only [if_true]
    have g0 : (pre ++ [92, c] ++ post)[pre.length]? = some 92 := by simp
    have g1 : (pre ++ [92, c] ++ post)[pre.length + 1]? = some c := by simp
    have n0 : nb (pre ++ [92, c] ++ post) pre.length = 92 := nb_get g0
    have n1 := nb_get g1
    have hat : rbAt (pre ++ [92, c] ++ post) pre.length = pre.length + 1 := if_pos ⟨(List.getElem?_eq_some_iff.1 g0).1, by rw [bt_nb, n0]; rfl⟩
    have hr : rbN (pre ++ [92, c] ++ post) pre.length = some (c.toNat, pre.length + 2) := by
      unfold rbN
      rw [hat, if_pos (List.getElem?_eq_some_iff.1 g1).1, n1]
    unfold sgn
    rw [n0, if_neg (by decide), if_neg (by decide), if_neg (by decide), hr]
    rfl
  | false =>
    simp only [Bool.false_eq_true, if_false]
    have g0 : (pre ++ [c] ++ post)[pre.length]? = some c := by simp
    have n0 := nb_get g0
    unfold special at hs
    simp only [Bool.or_eq_false_iff, beq_eq_false_iff_ne] at hs
    have ne : ∀ n : UInt8, c ≠ n → c.toNat ≠ n.toNat := fun n h e => h (UInt8.toNat_inj.1 e)
    have hat : rbAt (pre ++ [c] ++ post) pre.length = pre.length := by
      refine if_neg (fun h => ?_)
      have := h.2
      rw [bt_nb, n0] at this
      have := ne 92 hs.2
      simp at this
      omega
    have hr : rbN (pre ++ [c] ++ post) pre.length = some (c.toNat, pre.length + 1) := by
      unfold rbN
      rw [hat, if_pos (List.getElem?_eq_some_iff.1 g0).1, n0]
    unfold sgn
    rw [n0, if_neg (show c.toNat ≠ 91 from ne 91 hs.1.2), if_neg (show c.toNat ≠ 63 from ne 63 hs.1.1.1), if_neg (show c.toNat ≠ 42 from ne 42 hs.1.1.2), hr]
    rfl
def ownSg (c : UInt8) : Sg := ⟨addS noneS c.toNat, false, true, c.toNat⟩
theorem esc_sgns : ∀ (s pre : L8) (n : Nat), s.length < n → sgns (pre ++ escB s) n pre.length = some (s.map ownSg) := by
  intro s
  induction s with
  | nil =>
    intro pre n hn
    cases n with
    | zero => simp at hn
    | succ n => rw [sgns_eq, if_neg (by simp [escB])]; rfl
  | cons c s ih =>
    intro pre n hn
    cases n with
    | zero => simp at hn
    | succ n =>
      have e : pre ++ escB (c :: s) = pre ++ escC c ++ escB s := by simp [escB]
      have hl : 0 < (escC c).length := by unfold escC; split <;> simp
      rw [sgns_eq, e, if_pos (by simp; omega), escC_sgn]
      simp only
      have := ih (pre ++ escC c) n (by simp at hn; omega)
      rw [List.length_append] at this
      rw [this]
      rfl
theorem escB_ge (s : L8) : s.length ≤ (escB s).length := by
  induction s with
  | nil => simp [escB]
  | cons c s ih =>
    unfold escB at *
    rw [List.flatMap_cons, List.length_append]
    have : 1 ≤ (escC c).length := by unfold escC; split <;> simp
    rw [List.length_cons]; omega
theorem esc_read {s : L8} (h : (escB s).length ≤ 100) : readP (escB s) = some (s.map ownSg) ∧ readE (escB s) = 0 := by
  have := esc_sgns s [] ((escB s).length + 1) (by have := escB_ge s; omega)
  simp only [List.nil_append, List.length_nil] at this
  unfold readP readE
  rw [if_pos h, if_pos h, this]
  exact ⟨rfl, rfl⟩
theorem own_head (s : L8) : headL (s.map ownSg) = s := by
  induction s with
  | nil => rfl
  | cons c s ih =>
    rw [List.map_cons, headL_cons, if_pos (show (ownSg c).itself = true from rfl), ih]
    unfold sgByte ownSg
    simp
theorem esc_big {s p : L8} (h : ¬ p.length ≤ 100) : readE p = 7 ∧ matchP p s = false := by
  unfold readE matchP readP
  rw [if_neg h, if_neg h]
  exact ⟨rfl, rfl⟩
theorem esc_small {s : L8} (h : (escB s).length ≤ 100) : readE (escB s) = 0 ∧ plainP (escB s) = (s, true) ∧ ∀ t, matchP (escB s) t = decide (t = s) := by
  obtain ⟨h1, h2⟩ := esc_read h
  have hp : plainP (escB s) = (s, true) := by
    unfold plainP; rw [h1]; simp only; rw [own_head, if_neg (by simp)]
  have hh : headP (escB s) = s := by unfold headP; rw [h1]; simp only; rw [own_head]
  refine ⟨h2, hp, fun t => ?_⟩
  have := (plain_head (p := escB s) (by rw [hp])).2 t
  rw [hh] at this
  exact this
end Go.Proofs.YtokocfoeohddfaaDoor.Pa
