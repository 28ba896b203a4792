/- glob: Check and Match. (A template.) -/
import Derived.Test.YtokocfoeohddfaaGreatDoorGlMatch
namespace Go.Proofs.YtokocfoeohddfaaGreatDoor.Pa
open Go.RowKit
set_option linter.unusedVariables false
set_option linter.unusedSimpArgs false
set_option maxRecDepth 100000

def matchP (p s : L8) : Bool := match readP p with | some L => matchB L s | none => false
/-- read in three cases -/
theorem rd_cases (l : L8) : (readP l = none ∧ (readE l = 5 ∨ readE l = 7) ∧ ∀ base v w, RD l base v w → v = .tuple #[.slice none 0 0, .int .i64 (readE l)]) ∨ (∃ L, readP l = some L ∧ readE l = 0 ∧ l.length ≤ 100 ∧ sgns l (l.length + 1) 0 = some L ∧ ∀ base v w, RD l base v w → ∃ g c, v = .tuple #[.slice (some ⟨g, 0, none⟩) L.length c, .int .i64 0] ∧ GsOwn w base (.slice (some ⟨g, 0, none⟩) L.length c) L) := by
  unfold RD readP readE
  by_cases h : l.length ≤ 100
  · simp only [if_pos h, if_neg (Nat.not_lt.2 h)]
    cases hs : sgns l (l.length + 1) 0 with
    | none => left; exact ⟨rfl, .inl rfl, fun base v w h => h⟩
    | some L => right; exact ⟨L, rfl, rfl, h, rfl, fun base v w h => h⟩
  · simp only [if_neg h, if_pos (Nat.lt_of_not_le h)]
    left; exact ⟨trivial, .inr trivial, fun base v w h => h⟩
theorem sgns_len {l : L8} : ∀ n a L, sgns l n a = some L → a ≤ l.length → L.length + a ≤ l.length := by
  intro n
  induction n with
  | zero => intro a L h; simp [sgns] at h
  | succ n ih =>
    intro a L h ha
    rw [sgns_eq] at h
    split at h
    · next h1 =>
      cases hs : sgn l a with
      | none => rw [hs] at h; simp at h
      | some x =>
        obtain ⟨x, b⟩ := x
        have hb := sgn_bd h1 hs
        rw [hs] at h
        simp only at h
        cases hr : sgns l n b with
        | none => rw [hr] at h; simp at h
        | some M =>
          rw [hr] at h
          simp only [Option.map_some, Option.some.injEq] at h
          subst h
          have := ih b M hr hb.2
          simp; omega
    · simp only [Option.some.injEq] at h
      subst h; simpa using ha
theorem check_any (l : L8) (w : World) (hl : l.length ≤ 9223372036854775807) :
    Calls Tryz.prog 45 #[.string (mk l)] w fun e w' => e = .returned (.int .i64 (readE l)) ∧ Below w.heap.size w w' := by
  have HR := Lib.hid (read_any l w hl)
  rcases rd_cases l with ⟨-, -, h⟩ | ⟨L, -, he, -, -, h⟩
  · have H := Lib.hid h
    generalize readE l = r at *
    clear h hl
    go_enter Tryz.func45, Tryz.ntmps45
    go_wp2_with (go_at_call 48; refine HR.out.mono ?_; rintro e w' ⟨v, rfl, hv, hb⟩; have e := H.out _ _ _ hv; subst e; have HB := Lib.hid hb; clear hb hv)
    go_ret
    exact ⟨rfl, HB.out⟩
  · have H := Lib.hid h
    rw [he]
    clear h hl he
    go_enter Tryz.func45, Tryz.ntmps45
    go_wp2_with (go_at_call 48; refine HR.out.mono ?_; rintro e w' ⟨v, rfl, hv, hb⟩; obtain ⟨g, c, e, -⟩ := H.out _ _ _ hv; subst e; have HB := Lib.hid hb; clear hb hv)
    go_ret
    exact ⟨rfl, HB.out⟩
theorem gmatch_any (p s : L8) (w : World) (hp : p.length ≤ 4611686018427387904) (hs : s.length ≤ 4611686018427387904) :
    Calls Tryz.prog 34 #[.string (mk p), .string (mk s)] w fun e w' => e = .returned (.bool (matchP p s)) ∧ Below w.heap.size w w' := by
  have HR := Lib.hid (read_any p w (by omega))
  rcases rd_cases p with ⟨h1, h2, h⟩ | ⟨L, h1, he, hl, hsg, h⟩
  · have H := Lib.hid h
    have hm : matchP p s = false := by unfold matchP; rw [h1]
    have hne : (readE p == 0) = false := by rcases h2 with h2 | h2 <;> rw [h2] <;> rfl
    rw [hm]
    generalize readE p = r at *
    clear h hp h1 h2 hs hm
    go_enter Tryz.func34, Tryz.ntmps34
    go_wp2_with (go_at_call 48; refine HR.out.mono ?_; rintro e w' ⟨v, rfl, hv, hb⟩; have e := H.out _ _ _ hv; subst e; have HB := Lib.hid hb; clear hb hv)
    go_ret
    exact ⟨rfl, HB.out⟩
  · have H : Hid (∀ base v w, RD p base v w → ∃ g c, v = .tuple #[.slice (some ⟨g, 0, none⟩) L.length c, .int .i64 0] ∧ GsAt w g L) := by
      intro base v w hv
      obtain ⟨g, c, e, ho⟩ := h base v w hv
      exact ⟨g, c, e, ho.at.1⟩
    have hm : matchP p s = matchB L s := by unfold matchP; rw [h1]
    have hL : L.length ≤ 100 := by have := sgns_len _ _ _ hsg (Nat.zero_le _); omega
    have HM : Hid (∀ W g c, GsAt W g L → Calls Tryz.prog 49 #[.slice (some ⟨g, 0, none⟩) L.length c, .string (mk s)] W fun e w' => e = .returned (.bool (matchB L s)) ∧ Below W.heap.size W w') := fun W g c hg => match_any L g c s W hg hL hs
    rw [hm]
    generalize matchB L s = R at *
    generalize L.length = n at *
    clear h hp h1 hs hm hL hl he hsg
    go_enter Tryz.func34, Tryz.ntmps34
    go_wp2_with (first
      | (go_at_call 48; refine HR.out.mono ?_; rintro e w1 ⟨v, rfl, hv, hb⟩; obtain ⟨g, c, e, ho⟩ := H.out _ _ _ hv; subst e; have HB := Lib.hid hb; have HO := Lib.hid ho; clear hb hv ho)
      | (go_at_call 49; refine (HM.out w1 g c HO.out).mono ?_; rintro e w2 ⟨rfl, hb⟩; have HB2 := Lib.hid (HB.out.trans (hb.mono HB.out.size)); clear hb))
    go_ret
    exact ⟨rfl, HB2.out⟩
end Go.Proofs.YtokocfoeohddfaaGreatDoor.Pa
