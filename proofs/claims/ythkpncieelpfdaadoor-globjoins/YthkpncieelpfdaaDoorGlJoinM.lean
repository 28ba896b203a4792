/- glob: patterns one behind the other. (A template.) -/
import Derived.Test.YthkpncieelpfdaaDoorGlLawM
namespace Go.Proofs.YthkpncieelpfdaaDoor.Pa
set_option linter.unusedVariables false
set_option linter.unusedSimpArgs false

theorem nb_left {l m : L8} {i : Nat} (h : i < l.length) : nb (l ++ m) i = nb l i := by unfold nb; rw [List.getD_eq_getElem?_getD, List.getD_eq_getElem?_getD, List.getElem?_append_left h]
theorem nb_right (l m : L8) (i : Nat) : nb (l ++ m) (l.length + i) = nb m i := by unfold nb; rw [List.getD_eq_getElem?_getD, List.getD_eq_getElem?_getD, List.getElem?_append_right (by omega)]; congr 3; omega
theorem bt92 (l : L8) (a : Nat) : bt l a = 92 ↔ nb l a = 92 := by rw [bt_nb]; omega
theorem rbAt_left {l m : L8} {a : Nat} (h : a < l.length) : rbAt (l ++ m) a = rbAt l a := by
  unfold rbAt
  by_cases e : nb l a = 92
  · rw [if_pos ⟨by rw [List.length_append]; omega, (bt92 _ _).2 (by rw [nb_left h]; exact e)⟩, if_pos ⟨h, (bt92 _ _).2 e⟩]
  · rw [if_neg (fun q => e (by rw [← nb_left h]; exact (bt92 _ _).1 q.2)), if_neg (fun q => e ((bt92 _ _).1 q.2))]
theorem rbN_left {l m : L8} {a c b : Nat} (h : rbN l a = some (c, b)) : rbN (l ++ m) a = some (c, b) := by
  have hb := rb_some h
  have ha : a < l.length := by omega
  unfold rbN at h ⊢
  rw [rbAt_left ha]
  split at h
  · next h1 => rw [if_pos (by rw [List.length_append]; omega), nb_left h1]; exact h
  · cases h
theorem rbAt_right (l m : L8) (a : Nat) : rbAt (l ++ m) (l.length + a) = l.length + rbAt m a := by
  unfold rbAt
  by_cases e : a < m.length ∧ nb m a = 92
  · rw [if_pos ⟨by rw [List.length_append]; omega, (bt92 _ _).2 (by rw [nb_right]; exact e.2)⟩, if_pos ⟨e.1, (bt92 _ _).2 e.2⟩]; omega
  · rw [if_neg (fun q => e ⟨by have := q.1; rw [List.length_append] at this; omega, by rw [← nb_right l]; exact (bt92 _ _).1 q.2⟩), if_neg (fun q => e ⟨q.1, (bt92 _ _).1 q.2⟩)]
theorem rbN_right (l m : L8) (a : Nat) : rbN (l ++ m) (l.length + a) = (rbN m a).map fun x => (x.1, l.length + x.2) := by
  unfold rbN
  rw [rbAt_right]
  by_cases h : rbAt m a < m.length
  · rw [if_pos (by rw [List.length_append]; omega), if_pos h, nb_right]; simp; omega
  · rw [if_neg (by rw [List.length_append]; omega), if_neg h]; rfl
theorem drop_right (l m : L8) (a : Nat) : (l ++ m).drop (l.length + a) = m.drop a := by rw [List.drop_append]; simp
theorem drop_left {l : L8} (m : L8) {a : Nat} (h : a ≤ l.length) : (l ++ m).drop a = l.drop a ++ m := List.drop_append_of_le_length h
theorem pre1 {c : UInt8} {u : L8} (v : L8) (h : 0 < u.length) : [c].isPrefixOf (u ++ v) = [c].isPrefixOf u := by
  cases u with
  | nil => simp at h
  | cons x u => rfl
theorem pre2 {c d : UInt8} {u : L8} (v : L8) (h : 1 < u.length) : [c, d].isPrefixOf (u ++ v) = [c, d].isPrefixOf u := by
  match u, h with
  | x :: y :: u, _ => rfl
theorem pre2_len {c d : UInt8} {u : L8} (h : [c, d].isPrefixOf u = true) : 1 < u.length := by
  match u, h with
  | [], h => simp [List.isPrefixOf] at h
  | [x], h => simp [List.isPrefixOf] at h
  | x :: y :: u, _ => simp
theorem pre21 {c d : UInt8} {u : L8} (h : [c, d].isPrefixOf u = true) : [c].isPrefixOf u = true := by
  match u, h with
  | [], h => simp [List.isPrefixOf] at h
  | [x], h => simp [List.isPrefixOf] at h
  | x :: y :: u, h => simp [List.isPrefixOf] at h ⊢; exact h.1
theorem rm_left {l m : L8} {a f g b : Nat} (h : rm l a = some (f, g, b)) (hb : b < l.length) : rm (l ++ m) a = some (f, g, b) := by
  unfold rm at h ⊢
  cases hx : rbN l a with
  | none => rw [hx] at h; simp at h
  | some x =>
    obtain ⟨f1, b1⟩ := x
    have k1 := rb_some hx
    rw [rbN_left hx]
    rw [hx] at h
    simp only at h ⊢
    rw [drop_left m k1.2.2.2.1]
    by_cases hq : [45].isPrefixOf (l.drop b1) = false ∨ [45, 93].isPrefixOf (l.drop b1) = true
    · rw [if_pos hq] at h
      simp only [Option.some.injEq, Prod.mk.injEq] at h
      obtain ⟨h1, h2, h3⟩ := h
      have hl : 0 < (l.drop b1).length := by rw [List.length_drop]; omega
      rw [if_pos ?_]
      · rw [h1, h3, ← h2, h1]
      · rw [pre1 m hl]
        rcases hq with hq | hq
        · exact .inl hq
        · right; rw [pre2 m (pre2_len hq)]; exact hq
    · rw [if_neg hq] at h
      cases hy : rbN l (b1 + 1) with
      | none => rw [hy] at h; simp at h
      | some y =>
        obtain ⟨g1, d1⟩ := y
        have k2 := rb_some hy
        rw [hy] at h
        simp only at h
        have hl : 1 < (l.drop b1).length := by rw [List.length_drop]; omega
        rw [if_neg (by rw [pre1 m (by omega), pre2 m hl]; exact hq), rbN_left hy]
        exact h
theorem rm_right (l m : L8) (a : Nat) : rm (l ++ m) (l.length + a) = (rm m a).map fun x => (x.1, x.2.1, l.length + x.2.2) := by
  unfold rm
  rw [rbN_right]
  cases hx : rbN m a with
  | none => rfl
  | some x =>
    obtain ⟨f1, b1⟩ := x
    simp only [Option.map_some]
    rw [drop_right, show l.length + b1 + 1 = l.length + (b1 + 1) from by omega, rbN_right]
    by_cases hq : [45].isPrefixOf (m.drop b1) = false ∨ [45, 93].isPrefixOf (m.drop b1) = true
    · rw [if_pos hq, if_pos hq]; rfl
    · rw [if_neg hq, if_neg hq]
      cases hy : rbN m (b1 + 1) with
      | none => rfl
      | some y =>
        obtain ⟨g1, d1⟩ := y
        simp only [Option.map_some]
        split <;> rfl
theorem cls_left {l m : L8} : ∀ n a S T b, cls l n a S = some (T, b) → cls (l ++ m) n a S = some (T, b) := by
  intro n
  induction n with
  | zero => intro a S T b h; simp [cls] at h
  | succ n ih =>
    intro a S T b h
    rw [cls_eq] at h ⊢
    split at h
    · next ha =>
      rw [if_pos (by rw [List.length_append]; omega), nb_left ha]
      split at h
      · next h93 => rw [if_pos h93]; exact h
      · next h93 =>
        rw [if_neg h93]
        cases hr : rm l a with
        | none => rw [hr] at h; simp at h
        | some x =>
          obtain ⟨f, g, b1⟩ := x
          rw [hr] at h
          simp only at h
          have hb1 : b1 < l.length := by
            cases n with
            | zero => simp [cls] at h
            | succ n =>
              rw [cls_eq] at h
              split at h
              · assumption
              · cases h
          rw [rm_left hr hb1]
          exact ih _ _ _ _ h
    · cases h
theorem cls_right (l m : L8) : ∀ n a S, cls (l ++ m) n (l.length + a) S = (cls m n a S).map fun x => (x.1, l.length + x.2) := by
  intro n
  induction n with
  | zero => intro a S; simp [cls]
  | succ n ih =>
    intro a S
    rw [cls_eq, cls_eq, nb_right, rm_right]
    by_cases ha : a < m.length
    · rw [if_pos (by rw [List.length_append]; omega), if_pos ha]
      split
      · split
        · rfl
        · simp; omega
      · cases hr : rm m a with
        | none => rfl
        | some x => obtain ⟨f, g, b1⟩ := x; simp only [Option.map_some]; exact ih _ _
    · rw [if_neg (by rw [List.length_append]; omega), if_neg ha]; rfl
theorem stars_right (l m : L8) (a : Nat) : stars (l ++ m) (l.length + a) = stars m a := by unfold stars; rw [drop_right]
theorem sgn_right (l m : L8) (a : Nat) (ha : a < m.length) : sgn (l ++ m) (l.length + a) = (sgn m a).map fun x => (x.1, l.length + x.2) := by
  have hbang : bang (l ++ m) (l.length + a) = bang m a := by unfold bang; rw [show l.length + a + 1 = l.length + (a + 1) from by omega, drop_right]
  unfold sgn
  rw [nb_right, hbang, stars_right, rbN_right]
  have hcl : cls (l ++ m) ((l ++ m).length + 1) (if bang m a = true then l.length + a + 2 else l.length + a + 1) noneS = (cls m (m.length + 1) (if bang m a = true then a + 2 else a + 1) noneS).map fun x => (x.1, l.length + x.2) := by
    have e : (if bang m a = true then l.length + a + 2 else l.length + a + 1) = l.length + (if bang m a = true then a + 2 else a + 1) := by split <;> omega
    rw [e, cls_right, cls_fuel ((l ++ m).length + 1) (m.length + 1) _ _ (by rw [List.length_append]; split <;> omega) (by split <;> omega)]
  rw [hcl]
  by_cases h91 : nb m a = 91
  · rw [if_pos h91, if_pos h91]
    cases cls m (m.length + 1) (if bang m a = true then a + 2 else a + 1) noneS <;> rfl
  · rw [if_neg h91, if_neg h91]
    by_cases h63 : nb m a = 63
    · rw [if_pos h63, if_pos h63]; simp; omega
    · rw [if_neg h63, if_neg h63]
      by_cases h42 : nb m a = 42
      · rw [if_pos h42, if_pos h42]; simp; omega
      · rw [if_neg h42, if_neg h42]
        cases rbN m a <;> rfl
theorem sgns_right (l m : L8) : ∀ n a, sgns (l ++ m) n (l.length + a) = sgns m n a := by
  intro n
  induction n with
  | zero => intro a; simp [sgns]
  | succ n ih =>
    intro a
    rw [sgns_eq, sgns_eq]
    by_cases ha : a < m.length
    · rw [if_pos (by rw [List.length_append]; omega), if_pos ha, sgn_right l m a ha]
      cases sgn m a with
      | none => rfl
      | some x => obtain ⟨x, b⟩ := x; simp only [Option.map_some]; rw [ih]
    · rw [if_neg (by rw [List.length_append]; omega), if_neg ha]
theorem stars_left {l : L8} (m : L8) {a : Nat} (ha : a ≤ l.length) : stars (l ++ m) a = if a + stars l a = l.length then stars l a + stars m 0 else stars l a := by
  unfold stars
  rw [drop_left m ha, List.takeWhile_append, List.drop_zero]
  have hle := (List.takeWhile_prefix (l := l.drop a) (· == 42)).length_le
  rw [List.length_drop] at hle ⊢
  by_cases h : ((l.drop a).takeWhile (· == 42)).length = l.length - a
  · rw [if_pos h, if_pos (by omega), List.length_append, List.length_drop, h]
  · rw [if_neg h, if_neg (by omega)]
/-- a sign that was read is read, whatever stands behind, but for stars at the end -/
theorem sgn_left {l m : L8} {a b : Nat} {x : Sg} (ha : a < l.length) (h : sgn l a = some (x, b)) (hq : ¬ (nb l a = 42 ∧ b = l.length)) : sgn (l ++ m) a = some (x, b) := by
  unfold sgn at h ⊢
  rw [nb_left ha]
  by_cases h91 : nb l a = 91
  · rw [if_pos h91] at h ⊢
    cases hc : cls l (l.length + 1) (if bang l a = true then a + 2 else a + 1) noneS with
    | none => rw [hc] at h; simp at h
    | some y =>
      obtain ⟨T, d⟩ := y
      have hd := cls_bd _ _ _ _ _ hc
      rw [hc] at h
      have h1 : a + 1 < l.length := by
        have : (if bang l a = true then a + 2 else a + 1) < l.length := Nat.lt_of_lt_of_le hd.1 hd.2
        split at this <;> omega
      have hbang : bang (l ++ m) a = bang l a := by unfold bang; rw [drop_left m (by omega), pre1 m (by rw [List.length_drop]; omega)]
      rw [hbang, cls_fuel ((l ++ m).length + 1) (l.length + 1 + m.length) _ _ (by rw [List.length_append]; split <;> omega) (by rw [List.length_append]; split <;> omega)]
      have hc2 : cls l (l.length + 1 + m.length) (if bang l a = true then a + 2 else a + 1) noneS = some (T, d) := by
        rw [cls_fuel _ (l.length + 1) _ _ (by split <;> omega) (by split <;> omega)]; exact hc
      rw [cls_left _ _ _ _ _ hc2]
      exact h
  · rw [if_neg h91] at h ⊢
    by_cases h63 : nb l a = 63
    · rw [if_pos h63] at h ⊢; exact h
    · rw [if_neg h63] at h ⊢
      by_cases h42 : nb l a = 42
      · rw [if_pos h42] at h ⊢
        have hst : ¬ a + stars l a = l.length := by
          intro e
          simp only [Option.some.injEq, Prod.mk.injEq] at h
          exact hq ⟨h42, by omega⟩
        rw [stars_left m (by omega), if_neg hst]; exact h
      · rw [if_neg h42] at h ⊢
        cases hr : rbN l a with
        | none => rw [hr] at h; simp at h
        | some y => obtain ⟨c, d⟩ := y; rw [rbN_left hr]; rw [hr] at h; exact h
theorem joins {p m : L8} {L1 : List Sg} (h1 : sgns m (m.length + 1) 0 = some L1) : ∀ n a L0, a ≤ p.length → sgns p n a = some L0 → ∃ L, sgns (p ++ m) ((p ++ m).length + 1) a = some L ∧ ∀ s0 s1, Lang L0 s0 → Lang L1 s1 → Lang L (s0 ++ s1) := by
  intro n
  have hpl : (p ++ m).length = p.length + m.length := List.length_append
  -- from the end of the first one on
  have rest : ∀ j, j ≤ m.length → ∀ N, (p ++ m).length < p.length + j + N → sgns (p ++ m) N (p.length + j) = sgns m (m.length + 1) j := by
    intro j hj N hN
    rw [sgns_right, sgns_fuel N (m.length + 1) j hj (by omega) (by omega)]
  induction n with
  | zero => intro a L0 ha h; simp [sgns] at h
  | succ n ih =>
    intro a L0 ha h
    rw [sgns_eq] at h
    split at h
    · next hlt =>
      cases hs : sgn p a with
      | none => rw [hs] at h; simp at h
      | some x =>
        obtain ⟨x, b⟩ := x
        have hb := sgn_bd hlt hs
        rw [hs] at h
        simp only at h
        cases hr : sgns p n b with
        | none => rw [hr] at h; simp at h
        | some M =>
          rw [hr] at h
          simp only [Option.map_some, Option.some.injEq] at h
          subst h
          by_cases hq : nb p a = 42 ∧ b = p.length
          · -- stars at the end
            obtain ⟨h42, rfl⟩ := hq
            have hM : M = [] := by
              cases n with
              | zero => simp [sgns] at hr
              | succ n => rw [sgns_eq, if_neg (by omega)] at hr; simpa using hr.symm
            subst hM
            have hx : x = (if stars p a > 1 then ⟨allS, true, false, 0⟩ else ⟨dropS allS 47, true, false, 0⟩) ∧ a + stars p a = p.length := by
              unfold sgn at hs
              rw [if_neg (by rw [h42]; decide), if_neg (by rw [h42]; decide), if_pos h42] at hs
              simp only [Option.some.injEq, Prod.mk.injEq] at hs
              exact ⟨hs.1.symm, hs.2⟩
            have hxm : x.many = true := by rw [hx.1]; split <;> rfl
            have hsp := (stars_pos hlt h42).1
            have hnew : sgn (p ++ m) a = some ((if stars p a + stars m 0 > 1 then ⟨allS, true, false, 0⟩ else ⟨dropS allS 47, true, false, 0⟩), p.length + stars m 0) := by
              unfold sgn
              rw [nb_left hlt, if_neg (by rw [h42]; decide), if_neg (by rw [h42]; decide), if_pos h42, stars_left m ha, if_pos hx.2]
              simp only [Option.some.injEq, Prod.mk.injEq, true_and]
              omega
            by_cases hj : stars m 0 = 0
            · rw [hj, Nat.add_zero, Nat.add_zero, ← hx.1] at hnew
              refine ⟨x :: L1, ?_, ?_⟩
              · rw [sgns_eq, if_pos (by omega), hnew]
                simp only
                have := rest 0 (Nat.zero_le _) (p ++ m).length (by omega)
                simp only [Nat.add_zero] at this
                rw [this, h1]; rfl
              · intro s0 s1 k0 k1
                rw [Lang, if_pos hxm] at k0
                obtain ⟨t1, t2, rfl, k2, k3⟩ := k0
                rw [Lang] at k3
                subst k3
                rw [Lang, if_pos hxm]
                exact ⟨t1, s1, by simp, k2, k1⟩
            · have hm0 : 0 < m.length := by
                unfold stars at hj
                rw [List.drop_zero] at hj
                cases m with
                | nil => simp at hj
                | cons c m => simp
              have hm42 : nb m 0 = 42 := by
                unfold stars at hj
                rw [List.drop_zero] at hj
                cases m with
                | nil => simp at hj
                | cons c m =>
                  rw [List.takeWhile_cons] at hj
                  split at hj
                  · next hc => have hc : c = 42 := by simpa using hc
                               subst hc; rfl
                  · simp at hj
              have hjl := (stars_pos hm0 hm42).2
              rw [Nat.zero_add] at hjl
              -- the second one begins with stars
              rw [sgns_eq, if_pos hm0] at h1
              have hs1 : sgn m 0 = some ((if stars m 0 > 1 then ⟨allS, true, false, 0⟩ else ⟨dropS allS 47, true, false, 0⟩), stars m 0) := by
                unfold sgn
                rw [if_neg (by rw [hm42]; decide), if_neg (by rw [hm42]; decide), if_pos hm42, Nat.zero_add]
              rw [hs1] at h1
              simp only at h1
              cases hr1 : sgns m m.length (stars m 0) with
              | none => rw [hr1] at h1; simp at h1
              | some M1 =>
                rw [hr1] at h1
                simp only [Option.map_some, Option.some.injEq] at h1
                subst h1
                rw [if_pos (show stars p a + stars m 0 > 1 by omega)] at hnew
                refine ⟨⟨allS, true, false, 0⟩ :: M1, ?_, ?_⟩
                · rw [sgns_eq, if_pos (by omega), hnew]
                  simp only
                  rw [rest _ hjl (p ++ m).length (by omega), sgns_fuel (m.length + 1) m.length _ hjl (by omega) (by omega), hr1]; rfl
                · intro s0 s1 k0 k1
                  rw [Lang, if_pos hxm] at k0
                  obtain ⟨t1, t2, rfl, k2, k3⟩ := k0
                  rw [Lang] at k3
                  subst k3
                  have hym : (if stars m 0 > 1 then (⟨allS, true, false, 0⟩ : Sg) else ⟨dropS allS 47, true, false, 0⟩).many = true := by split <;> rfl
                  rw [Lang, if_pos hym] at k1
                  obtain ⟨u1, u2, rfl, k4, k5⟩ := k1
                  rw [Lang, if_pos rfl]
                  exact ⟨t1 ++ u1, u2, by simp, fun c _ => rfl, k5⟩
          · have hnew := sgn_left (m := m) hlt hs hq
            obtain ⟨L', h2, h3⟩ := ih b M hb.2 hr
            refine ⟨x :: L', ?_, ?_⟩
            · rw [sgns_eq, if_pos (by omega), hnew]
              simp only
              rw [sgns_fuel _ ((p ++ m).length + 1) b (by omega) (by omega) (by omega), h2]; rfl
            · intro s0 s1 k0 k1
              rw [Lang] at k0 ⊢
              by_cases hm : x.many = true
              · rw [if_pos hm] at k0 ⊢
                obtain ⟨t1, t2, rfl, k2, k3⟩ := k0
                exact ⟨t1, t2 ++ s1, by simp, k2, h3 _ _ k3 k1⟩
              · rw [if_neg hm] at k0 ⊢
                obtain ⟨c, t2, rfl, k2, k3⟩ := k0
                exact ⟨c, t2 ++ s1, by simp, k2, h3 _ _ k3 k1⟩
    · simp only [Option.some.injEq] at h
      subst h
      have hae : a = p.length := by omega
      refine ⟨L1, ?_, ?_⟩
      · have := rest 0 (Nat.zero_le _) ((p ++ m).length + 1) (by omega)
        simp only [Nat.add_zero] at this
        rw [hae, this, h1]
      · intro s0 s1 k0 k1
        rw [Lang] at k0
        subst k0
        exact k1
theorem join_matches {p0 p1 s0 s1 : L8} (h0 : matchP p0 s0 = true) (h1 : matchP p1 s1 = true) (hl : (p0 ++ p1).length ≤ 100) : readE (p0 ++ p1) = 0 ∧ matchP (p0 ++ p1) (s0 ++ s1) = true := by
  unfold matchP at h0 h1
  cases r0 : readP p0 with
  | none => rw [r0] at h0; simp at h0
  | some L0 =>
    cases r1 : readP p1 with
    | none => rw [r1] at h1; simp at h1
    | some L1 =>
      rw [r0] at h0
      rw [r1] at h1
      have l0 := (match_iff (readP_kind r0).1 s0).1 h0
      have l1 := (match_iff (readP_kind r1).1 s1).1 h1
      have a0 : sgns p0 (p0.length + 1) 0 = some L0 := by unfold readP at r0; split at r0; exact r0; cases r0
      have a1 : sgns p1 (p1.length + 1) 0 = some L1 := by unfold readP at r1; split at r1; exact r1; cases r1
      obtain ⟨L, h2, h3⟩ := joins (p := p0) a1 (p0.length + 1) 0 L0 (Nat.zero_le _) a0
      have r : readP (p0 ++ p1) = some L := by unfold readP; rw [if_pos hl]; exact h2
      refine ⟨by unfold readE; rw [if_pos hl, h2]; rfl, ?_⟩
      unfold matchP
      rw [r]
      exact (match_iff (readP_kind r).1 _).2 (h3 _ _ l0 l1)
end Go.Proofs.YthkpncieelpfdaaDoor.Pa
