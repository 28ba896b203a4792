/- rules: there and back: mathematics. (A template.) -/
import Derived.Test.YtalbmkkplphahabDoorRuText
namespace Go.Proofs.YtalbmkkplphahabDoor.Pa
set_option linter.unusedVariables false
set_option linter.unusedSimpArgs false
open Go.Proofs.YtalbmkkplphahabDoor.Me

theorem sign_back (act : Int) (h : 1 ≤ act ∧ act ≤ 4) : ∃ c : UInt8, signOf act = [c] ∧ signI c = act - 1 ∧ c ≠ 10 ∧ c ≠ 35 := by
  have : act = 1 ∨ act = 2 ∨ act = 3 ∨ act = 4 := by omega
  rcases this with rfl | rfl | rfl | rfl
  · exact ⟨43, rfl, by decide, by decide, by decide⟩
  · exact ⟨45, rfl, by decide, by decide, by decide⟩
  · exact ⟨80, rfl, by decide, by decide, by decide⟩
  · exact ⟨82, rfl, by decide, by decide, by decide⟩
theorem sign_fore (c : UInt8) (h : 0 ≤ signI c) : signOf (1 + signI c) = [c] := by
  have hs : signI c = 0 ∧ c = 43 ∨ signI c = 1 ∧ c = 45 ∨ signI c = 2 ∧ c = 80 ∨ signI c = 3 ∧ c = 82 := by
    unfold signI at h ⊢
    simp only [Lib.indexByte] at h ⊢
    repeat' split at h
    all_goals simp_all
  rcases hs with ⟨h1, rfl⟩ | ⟨h1, rfl⟩ | ⟨h1, rfl⟩ | ⟨h1, rfl⟩ <;> rw [h1] <;> rfl
theorem may_of {r : Ru} (h : refE r.act r.pat = 0) : (1 ≤ r.act ∧ r.act ≤ 4) ∧ ¬ bad r.pat := by
  unfold refE misE at h
  by_cases h1 : r.act < 1 ∨ 4 < r.act
  · rw [if_pos h1] at h; simp at h
  · rw [if_neg h1] at h
    by_cases h2 : bad r.pat
    · rw [if_pos h2] at h; simp at h
    · exact ⟨by omega, h2⟩
theorem nb_get (l : L8) (i : Nat) (c : UInt8) (h : l[i]? = some c) : nb l i = c.toNat := by
  unfold nb; rw [List.getD_eq_getElem?_getD, h]; rfl
theorem cutp_not {l : L8} (h : nb l 0 ≠ 47) : cutp l = (l, false) := by
  unfold cutp
  rw [if_neg]
  cases l with
  | nil => simp
  | cons c l =>
    intro e
    simp [List.isPrefixOf] at e
    subst e
    exact h rfl
theorem cutp_yes (l : L8) : cutp (47 :: l) = (l, true) := by
  unfold cutp
  rw [if_pos (by simp [List.isPrefixOf])]; rfl
theorem cuts_yes (l : L8) : cuts (l ++ [47]) = (l, true) := by
  unfold cuts sufB
  have e : nb (l ++ [47]) ((l ++ [47]).length - 1) = 47 := by
    apply nb_get _ _ (47 : UInt8)
    rw [List.length_append]; simp
  rw [if_pos (decide_eq_true ⟨by simp, e⟩)]
  simp
theorem cuts_not {l : L8} (h : nb l (l.length - 1) ≠ 47) : cuts l = (l, false) := by
  unfold cuts sufB
  rw [if_neg (by simp [h])]
theorem parse_print {r : Ru} (h : refE r.act r.pat = 0) : parseR (lineOf r) = (r, 0) := by
  obtain ⟨hact, hbad⟩ := may_of h
  obtain ⟨act, pat, di, an⟩ := r
  simp only at h hact hbad
  obtain ⟨c, hc, hs, -, -⟩ := sign_back act hact
  have hne : pat ≠ [] := fun e => hbad (.inl e)
  have hn0 : nb pat 0 ≠ 47 := fun e => hbad (.inr (.inl e))
  have hnl : nb pat (pat.length - 1) ≠ 47 := fun e => hbad (.inr (.inr (.inl e)))
  obtain ⟨body, hb⟩ : ∃ b : L8, b = (if an then [47] else []) ++ pat ++ (if di then [47] else []) := ⟨_, rfl⟩
  have hl : lineOf ⟨act, pat, di, an⟩ = c :: 32 :: body := by
    unfold lineOf
    simp only [hc, hb]
    simp
  have hcut : cutp body = (pat ++ (if di then [47] else []), an) := by
    cases an with
    | true => rw [hb]; simp [cutp_yes]
    | false =>
      have e : body = pat ++ (if di then [47] else []) := by rw [hb]; simp
      rw [← e]
      apply cutp_not
      rw [e]
      obtain ⟨x, y, rfl⟩ := List.exists_cons_of_ne_nil hne
      simpa [nb] using hn0
  have hcs : cuts (pat ++ (if di then [47] else [])) = (pat, di) := by
    cases di with
    | true => simpa using cuts_yes pat
    | false =>
      have e : pat ++ (if false = true then [47] else []) = pat := by simp
      rw [e]; exact cuts_not hnl
  have hlr : lineRu (lineOf ⟨act, pat, di, an⟩) = ⟨act, pat, di, an⟩ := by
    unfold lineRu
    rw [hl]
    simp only [List.drop_succ_cons, List.drop_zero, List.getD_cons_zero, hcut, hcs, hs]
    congr 1
    omega
  unfold parseR
  rw [hlr, if_neg, if_neg (by simpa using h)]
  rw [hl]
  have h1 : nb (c :: 32 :: body) 1 = 32 := rfl
  rw [h1]
  simp only [List.length_cons, List.getD_cons_zero, hs]
  omega
theorem print_parse {l : L8} {r : Ru} (h : parseR l = (r, 0)) : refE r.act r.pat = 0 ∧ lineOf r = l := by
  unfold parseR at h
  by_cases h1 : l.length < 2 ∨ nb l 1 ≠ 32 ∨ signI (l.getD 0 0) < 0
  · rw [if_pos h1] at h; simp at h
  · rw [if_neg h1] at h
    by_cases h2 : refE (lineRu l).act (lineRu l).pat ≠ 0
    · rw [if_pos h2] at h
      injection h with _ h; exact absurd h h2
    · rw [if_neg h2] at h
      injection h with h _
      subst h
      refine ⟨by simpa using h2, ?_⟩
      have hlen : 2 ≤ l.length := by omega
      have h32 : nb l 1 = 32 := by omega
      have hsg : 0 ≤ signI (l.getD 0 0) := by omega
      obtain ⟨c, d, body, rfl⟩ : ∃ c d b, l = c :: d :: b := by
        match l, hlen with
        | c :: d :: b, _ => exact ⟨c, d, b, rfl⟩
      have hd : d = 32 := by
        unfold nb at h32
        simp at h32
        apply UInt8.toNat_inj.1
        rw [h32]; rfl
      subst hd
      simp only [List.getD_cons_zero] at hsg
      have h3 : ∀ b : L8, (if (cutp b).2 = true then [47] else []) ++ (cutp b).1 = b := by
        intro b
        unfold cutp
        by_cases hp : [47].isPrefixOf b = true
        · rw [if_pos hp]
          cases b with
          | nil => simp [List.isPrefixOf] at hp
          | cons x y => simp [List.isPrefixOf] at hp; subst hp; simp
        · rw [if_neg hp]; simp
      have h4 : ∀ b : L8, (cuts b).1 ++ (if (cuts b).2 = true then [47] else []) = b := by
        intro b
        unfold cuts
        by_cases hp : sufB b = true
        · rw [if_pos hp]
          unfold sufB at hp
          obtain ⟨hp1, hp2⟩ := of_decide_eq_true hp
          have hlt : b.length - 1 < b.length := by have := List.length_pos_iff.2 hp1; omega
          have e : b[b.length - 1] = 47 := by
            apply UInt8.toNat_inj.1
            have := nb_get b (b.length - 1) _ (List.getElem?_eq_getElem hlt)
            rw [← this, hp2]; rfl
          have e2 := List.take_append_getElem hlt
          rw [e, Nat.sub_add_cancel (by omega), List.take_length] at e2
          simpa using e2
        · rw [if_neg hp]; simp
      unfold lineOf lineRu
      simp only [List.drop_succ_cons, List.drop_zero, List.getD_cons_zero]
      rw [sign_fore c hsg]
      have e3 := h3 body
      have e4 := h4 (cutp body).1
      rw [List.append_assoc, List.append_assoc, e4, e3]
      rfl
/-! the lines of a text -/
theorem lineOf_no10 {r : Ru} (h : refE r.act r.pat = 0) : (∀ x ∈ lineOf r, x ≠ 10) ∧ passed (lineOf r) = false := by
  obtain ⟨hact, hbad⟩ := may_of h
  obtain ⟨act, pat, di, an⟩ := r
  simp only at h hact hbad
  obtain ⟨c, hc, -, h10, h35⟩ := sign_back act hact
  have hp : ∀ x ∈ pat, x ≠ 10 := fun x hx e => hbad (.inr (.inr (.inr (e ▸ hx))))
  have hl : lineOf ⟨act, pat, di, an⟩ = c :: 32 :: ((if an then [47] else []) ++ pat ++ (if di then [47] else [])) := by
    unfold lineOf
    simp only [hc]
    simp
  rw [hl]
  constructor
  · intro x hx
    simp only [List.mem_cons, List.mem_append] at hx
    rcases hx with rfl | rfl | (hx | hx) | hx
    · exact h10
    · decide
    · cases an <;> simp at hx; subst hx; decide
    · exact hp x hx
    · cases di <;> simp at hx; subst hx; decide
  · unfold passed
    apply decide_eq_false
    rintro (e | e)
    · simp at e
    · have : c.toNat = 35 := e
      exact h35 (UInt8.toNat_inj.1 (by rw [this]; rfl))
theorem textGo_ok (L : List Ru) : ∀ (acc t : L8), textGo acc L = (t, 0) → (∀ r ∈ L, refE r.act r.pat = 0) ∧ t = acc ++ L.flatMap (fun r => lineOf r ++ [10]) := by
  induction L with
  | nil => intro acc t h; rw [textGo] at h; injection h with h _; subst h; simp
  | cons r L ih =>
    intro acc t h
    rw [textGo] at h
    by_cases hz : refE r.act r.pat = 0
    · rw [if_neg (by simpa using hz)] at h
      obtain ⟨h1, h2⟩ := ih _ _ h
      refine ⟨?_, by rw [h2]; simp⟩
      intro x hx
      rcases List.mem_cons.1 hx with rfl | hx
      · exact hz
      · exact h1 x hx
    · rw [if_pos hz] at h
      injection h with _ h; exact absurd h hz
theorem cut_lines (L : List Ru) (h : ∀ r ∈ L, refE r.act r.pat = 0) : cutc 10 (L.flatMap (fun r => lineOf r ++ [10])) = L.map lineOf ++ [[]] := by
  induction L with
  | nil => rfl
  | cons r L ih =>
    rw [List.flatMap_cons, show (lineOf r ++ [10]) ++ L.flatMap (fun r => lineOf r ++ [10]) = lineOf r ++ 10 :: L.flatMap (fun r => lineOf r ++ [10]) from by simp, cutc_at (lineOf_no10 (h r (by simp))).1, ih (fun x hx => h x (by simp [hx]))]
    rfl
theorem linesGo_back (L : List Ru) (h : ∀ r ∈ L, refE r.act r.pat = 0) : ∀ (acc : List Ru) (n : Nat), acc.length + L.length ≤ 64 → linesGo acc n (L.map lineOf ++ [[]]) = (acc ++ L, 0, 0) := by
  induction L with
  | nil =>
    intro acc n hl
    show linesGo acc n [[]] = _
    rw [linesGo, if_pos (by decide), linesGo]; simp
  | cons r L ih =>
    intro acc n hl
    have hr := h r (by simp)
    show linesGo acc n (lineOf r :: (L.map lineOf ++ [[]])) = _
    rw [List.length_cons] at hl
    rw [linesGo, if_neg (by rw [(lineOf_no10 hr).2]; simp), parse_print hr, if_neg (by simp), if_neg (by omega), ih (fun x hx => h x (by simp [hx])) _ _ (by rw [List.length_append]; simp; omega)]
    simp
theorem lines_text {L : List Ru} {t : L8} (h : textR L = (t, 0)) : linesR t = (L, 0, 0) := by
  unfold textR at h
  by_cases h64 : 64 < L.length
  · rw [if_pos h64] at h; simp at h
  · rw [if_neg h64] at h
    obtain ⟨h1, h2⟩ := textGo_ok L [] t h
    unfold linesR
    rw [h2, List.nil_append, cut_lines L h1, linesGo_back L h1 [] 0 (by simp; omega)]
    simp
end Go.Proofs.YtalbmkkplphahabDoor.Pa
