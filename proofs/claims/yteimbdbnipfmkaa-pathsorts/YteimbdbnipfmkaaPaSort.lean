/- path.Sort. (A template.) -/
import Derived.Test.YteimbdbnipfmkaaPaSort0
import Derived.Test.YteimbdbnipfmkaaPaNil
namespace Go.Proofs.Yteimbdbnipfmkaa.Pa
open Go.RowKit Go.Shelf
set_option linter.unusedVariables false
set_option linter.unusedSimpArgs false
set_option maxRecDepth 1000000

theorem clone_any (v : Value) (ss : List L8) (w : World) (hT : TxC w v ss) (hN : ss.length ≤ 300) :
    Calls Try.prog 50 #[v] w fun e w' => ∃ v', e = .returned v' ∧ SOwn w' w.heap.size v' ss ∧ Below w.heap.size w w' := by
  obtain ⟨a, c, rfl, hc, hnil, hcell⟩ := hT
  rcases a with _ | ⟨g, off, o⟩
  · have hc0 := hnil rfl
    have e2 : ss = [] := List.eq_nil_of_length_eq_zero (by omega)
    subst e2
    refine Calls.mono (show Calls Try.prog 50 _ _ _ from AnyG.slices_Clone_string_nil cloneStr _ _ w) ?_
    rintro e w' ⟨rfl, rfl⟩
    exact ⟨_, rfl, World.ownsRow_nil _ _ _ _, Below.refl _ _⟩
  · by_cases hs : ss = []
    · subst hs
      refine Calls.mono (show Calls Try.prog 50 _ _ _ from AnyG.slices_Clone_string_zero cloneStr _ _ w) ?_
      rintro e w' ⟨v', rfl, h1, -, h2⟩
      exact ⟨v', rfl, h1, h2⟩
    · obtain ⟨g1, off1, ea, hx⟩ := hcell hs
      injection ea with ea
      injection ea with e1 e2 e3
      subst e1 e2 e3
      refine Calls.mono (show Calls Try.prog 50 _ _ _ from AnyG.slices_Clone_string cloneStr g off ss.length c (ss.map mk) w (by simp) (by omega) ?_) ?_
      · intro j hj
        have hj' : j < ss.length := by simpa using hj
        rw [hx j ss[j] (List.getElem?_eq_getElem hj')]
        simp [List.getD, hj']
      · rintro e w' ⟨v', rfl, h1, -, h2⟩
        refine ⟨v', rfl, ?_, h2⟩
        have e4 : ((ss.map mk).take ss.length).map Value.string = strs ss := by
          rw [List.take_of_length_le (by simp)]
          unfold strs
          rw [List.map_map]; rfl
        show w'.ownsRow _ _ _ _ _ _
        rw [← e4]; exact h1
theorem sortOwn (v : Value) (ss : List L8) (w : World) (base : Nat) (hO : SOwn w base v ss) (hP : ∀ s ∈ ss, s.length ≤ 4000) (hN : ss.length ≤ 300) :
    Calls Try.prog 51 #[v, .func (.func 46) #[] #[]] w fun e w' => e = .returned (.tuple #[]) ∧ Txt w' v (msort ss.length ss) ∧ Below base w w' := by
  rcases hO.form with ⟨rfl, rfl⟩ | ⟨g, cap, rfl, -⟩
  · refine (sort_nil _ w).mono ?_
    rintro e w' ⟨rfl, rfl⟩
    exact ⟨rfl, ⟨none, 0, rfl, fun h => absurd rfl h⟩, Below.refl _ _⟩
  · exact sortRow g cap ss w base hO hP hN
theorem sort_any (v : Value) (ss : List L8) (w : World) (hT : TxC w v ss) (hP : ∀ s ∈ ss, s.length ≤ 4000) (hN : ss.length ≤ 300) :
    Calls Try.prog 35 #[v] w fun e w' => ∃ v', e = .returned v' ∧ Txt w' v' (msort ss.length ss) ∧ Below w.heap.size w w' := by
  have HC := Lib.hid (clone_any v ss w hT hN)
  have HS := Lib.hid (fun v1 w1 (hO : SOwn w1 w.heap.size v1 ss) => sortOwn v1 ss w1 w.heap.size hO hP hN)
  obtain ⟨M, hM⟩ : ∃ M, M = msort ss.length ss := ⟨_, rfl⟩
  rw [← hM] at HS ⊢
  clear hT hP hN hM
  go_enter Try.func35, Try.ntmps35
  go_wp2_with (first
    | (go_at_call 50; refine HC.out.mono ?_; rintro e w1 ⟨v1, rfl, hO, hb⟩; have HO := Lib.hid hO; have HB := Lib.hid hb; clear hO hb)
    | (go_at_call 51; refine (HS.out _ _ HO.out).mono ?_; rintro e w2 ⟨rfl, hT, hb⟩; have HT := Lib.hid hT; have HB2 := Lib.hid hb; clear hT hb))
  go_ret
  exact ⟨_, rfl, HT.out, HB.out.trans HB2.out⟩
end Go.Proofs.Yteimbdbnipfmkaa.Pa
