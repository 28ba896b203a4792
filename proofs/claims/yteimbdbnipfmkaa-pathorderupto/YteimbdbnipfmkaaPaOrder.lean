/- The law PathOrder. (A template.) -/
import Derived.Test.YteimbdbnipfmkaaPaOrderM
import Derived.Test.YteimbdbnipfmkaaPaClean
namespace Go.Proofs.Yteimbdbnipfmkaa.Pa
open Go.RowKit
set_option linter.unusedVariables false
set_option linter.unusedSimpArgs false
set_option maxRecDepth 1000000

set_option maxHeartbeats 16000000 in
theorem pathOrder_walk (a b c : L8) (w : World) (ha : a.length ≤ 1048576) (hb : b.length ≤ 1048576) (hc : c.length ≤ 1048576) :
    Calls Try.prog 8 #[.string (mk a), .string (mk b), .string (mk c)] w fun e w' => e = .returned (.bool true) ∧ Below w.heap.size w w' := by
  have HA := Lib.hid (acc (w := w) awake_pa)
  have HB : Hid (Below w.heap.size w w) := Below.refl _ _
  have HL : Hid (∀ (x y : L8) W, (x = a ∨ x = b ∨ x = c) → (y = a ∨ y = b ∨ y = c) → Below w.heap.size w W → Calls Try.prog 29 #[.string (mk x), .string (mk y)] W fun e w' => e = .returned (.bool (lessB x y)) ∧ Below w.heap.size w w') := by
    intro x y W hx hy hW
    refine (less_any x y W ?_ ?_).mono fun e w' ⟨h1, h2⟩ => ⟨h1, hW.trans (h2.below.mono hW.size)⟩
    · rcases hx with rfl | rfl | rfl <;> omega
    · rcases hy with rfl | rfl | rfl <;> omega
  have HU : Hid (∀ (x y : L8) W, Calls Try.prog 31 #[.string (mk x), .string (mk y)] W fun e w' => e = .returned (.bool (underB x y)) ∧ W = w') := fun x y W => (under_any x y W).mono fun e w' ⟨h1, h2⟩ => ⟨h1, h2.symm⟩
  have HD1 := Lib.hid (fun W => depth_any a W (by omega))
  have HD2 := Lib.hid (fun W => depth_any b W (by omega))
  have HS : Hid (∀ W, Below w.heap.size w W → Calls Try.prog 13 #[.string (mk a)] W fun e w' => ∃ v, e = .returned v ∧ (∃ aa cc, v = .slice aa (parts a).length cc) ∧ Txt w' v (parts a) ∧ Below W.heap.size W w' ∧ Below w.heap.size w w') := by
    intro W hW
    refine (split_any a W (by omega)).mono ?_
    rintro e w' ⟨v, h1, h2, h3⟩
    exact ⟨v, h1, h2.slice, h2.txt, h3, hW.trans (h3.mono hW.size)⟩
  have hpl := parts_len a
  have HTX : Hid (∀ W v9 v7, Below w.heap.size w W → Txt W v9 (parts a) → Txt W v7 (parts a) → Calls Try.prog 12 #[v9, v7] W fun e w' => e = .returned (.bool true) ∧ Below w.heap.size w w') := by
    intro W v9 v7 hW h9 h7
    have h := texts_any v9 v7 (parts a) (parts a) W h9 h7 (by omega) (by omega)
    rw [decide_eq_true rfl] at h
    exact h.mono fun e w' ⟨h1, h2⟩ => ⟨h1, hW.trans (h2.below.mono hW.size)⟩
  have d1 : depth a ≤ 1048577 := by unfold depth; omega
  have d2 : depth b ≤ 1048577 := by have := parts_len b; unfold depth; omega
  have o1 := ord1 a b c
  have o2 := ord2 a b
  have o3 := ord3 a
  have o4 := ord4 a b
  have o5 := ord5 a b
  have o6 := ord6 a b c
  have O4 := Lib.hid o4
  obtain ⟨ab, hab⟩ : ∃ x, x = lessB a b := ⟨_, rfl⟩
  obtain ⟨bc, hbc⟩ : ∃ x, x = lessB b c := ⟨_, rfl⟩
  obtain ⟨ac, hac⟩ : ∃ x, x = lessB a c := ⟨_, rfl⟩
  obtain ⟨ba, hba⟩ : ∃ x, x = lessB b a := ⟨_, rfl⟩
  obtain ⟨uba, huba⟩ : ∃ x, x = underB b a := ⟨_, rfl⟩
  obtain ⟨uca, huca⟩ : ∃ x, x = underB c a := ⟨_, rfl⟩
  obtain ⟨dl, hdl⟩ : ∃ x : Bool, x = decide (depth a < depth b) := ⟨_, rfl⟩
  have HL1 := Lib.hid (fun W hW => HL.out a b W (by simp) (by simp) hW)
  have HL2 := Lib.hid (fun W hW => HL.out b c W (by simp) (by simp) hW)
  have HL3 := Lib.hid (fun W hW => HL.out a c W (by simp) (by simp) hW)
  have HL4 := Lib.hid (fun W hW => HL.out b a W (by simp) (by simp) hW)
  have HL5 := Lib.hid (fun W hW => HL.out a a W (by simp) (by simp) hW)
  have HU1 := Lib.hid (HU.out b a)
  have HU2 := Lib.hid (HU.out c a)
  rw [← hab] at HL1 o1 o2 o4 o5 o6
  rw [← hbc] at HL2 o1 o6
  rw [← hac] at HL3 o1
  rw [← hba] at HL4 o2 o4
  rw [o3] at HL5
  rw [← huba] at HU1 o5 o6
  rw [← huca] at HU2 o6
  obtain ⟨da, hda⟩ : ∃ x, x = depth a := ⟨_, rfl⟩
  obtain ⟨db, hdb⟩ : ∃ x, x = depth b := ⟨_, rfl⟩
  rw [← hda] at HD1 o5 d1
  rw [← hdb] at HD2 o5 d2
  cases ab
  · cases ba
    · have hEQ := O4.out hab.symm hba.symm
      subst hEQ
      have hdd : da = db := by rw [hda, hdb]
      subst hdd
      have hu1 : uba = true := by rw [huba]; exact (under_parts _ _).2 (List.prefix_refl _)
      subst hu1
      have hdI : ¬ (da : Int) < (da : Int) := by omega
      clear o1 o2 o3 o4 o5 o6 hab hbc hac hba huba huca hdl dl ha hb hc HL hda hdb HL4 HL5 HD2 O4
      cases uca
      all_goals
        go_enter Try.func8, Try.ntmps8
        go_wp2_with (first
          | (go_at_call 29; with_reducible refine (HL1.out _ HB.out).mono ?_; rintro e w1 ⟨rfl, hb⟩; have HB := Lib.hid hb; clear hb)
          | (go_at_call 29; with_reducible refine (HL2.out _ HB.out).mono ?_; rintro e w1 ⟨rfl, hb⟩; have HB := Lib.hid hb; clear hb)
          | (go_at_call 29; with_reducible refine (HL3.out _ HB.out).mono ?_; rintro e w1 ⟨rfl, hb⟩; have HB := Lib.hid hb; clear hb)
          | (go_at_call 31; with_reducible refine (HU1.out _).mono ?_; rintro e w2 ⟨rfl, rfl⟩)
          | (go_at_call 31; with_reducible refine (HU2.out _).mono ?_; rintro e w2 ⟨rfl, rfl⟩)
          | (go_at_call 19; with_reducible refine (HD1.out _).mono ?_; rintro e w3 ⟨rfl, rfl⟩)
          | (go_at_call 13; refine (HS.out _ HB.out).mono ?_; rintro e w5 ⟨v5, rfl, ⟨aa5, cc5, e5⟩, ht, hb1, hb⟩; (first | (have HT1 := Lib.hid (HT0.out.later hb1); have HT2 := Lib.hid ht) | have HT0 := Lib.hid ht); have HB := Lib.hid hb; clear ht hb1 hb; subst e5)
          | (go_at_call 12; refine (HTX.out _ _ _ HB.out HT1.out HT2.out).mono ?_; rintro e w6 ⟨rfl, hb⟩; have HB := Lib.hid hb; clear hb)
          | (go_at_call 21; refine (HA.out _ HB.out).mono ?_; rintro e w4 ⟨rfl, hb⟩; have HB := Lib.hid hb; clear hb))
        go_ret
        exact ⟨rfl, HB.out⟩
    · have hnd : uba = true → ¬ da < db := fun h h2 => absurd (o5 h h2) (by simp)
      clear o1 o2 o3 o4 o5 o6 hab hbc hac hba huba huca hdl dl ha hb hc HL hda hdb HS HTX hpl O4
      cases uca <;> cases uba
      all_goals
        first
          | (have hI : ¬ (da : Int) < (db : Int) := by have := hnd rfl; omega
             clear hnd)
          | clear hnd
        go_enter Try.func8, Try.ntmps8
        go_wp2_with (first
          | (go_at_call 29; with_reducible refine (HL1.out _ HB.out).mono ?_; rintro e w1 ⟨rfl, hb⟩; have HB := Lib.hid hb; clear hb)
          | (go_at_call 29; with_reducible refine (HL2.out _ HB.out).mono ?_; rintro e w1 ⟨rfl, hb⟩; have HB := Lib.hid hb; clear hb)
          | (go_at_call 29; with_reducible refine (HL3.out _ HB.out).mono ?_; rintro e w1 ⟨rfl, hb⟩; have HB := Lib.hid hb; clear hb)
          | (go_at_call 29; with_reducible refine (HL4.out _ HB.out).mono ?_; rintro e w1 ⟨rfl, hb⟩; have HB := Lib.hid hb; clear hb)
          | (go_at_call 29; with_reducible refine (HL5.out _ HB.out).mono ?_; rintro e w1 ⟨rfl, hb⟩; have HB := Lib.hid hb; clear hb)
          | (go_at_call 31; with_reducible refine (HU1.out _).mono ?_; rintro e w2 ⟨rfl, rfl⟩)
          | (go_at_call 31; with_reducible refine (HU2.out _).mono ?_; rintro e w2 ⟨rfl, rfl⟩)
          | (go_at_call 19; with_reducible refine (HD1.out _).mono ?_; rintro e w3 ⟨rfl, rfl⟩)
          | (go_at_call 19; with_reducible refine (HD2.out _).mono ?_; rintro e w3 ⟨rfl, rfl⟩)
          | (go_at_call 21; refine (HA.out _ HB.out).mono ?_; rintro e w4 ⟨rfl, hb⟩; have HB := Lib.hid hb; clear hb))
        go_ret
        exact ⟨rfl, HB.out⟩
  · have hb0 : ba = false := o2 rfl
    subst hb0
    have hac1 : bc = true → ac = true := fun h => o1 rfl h
    have hub1 : bc = true → uca = true → uba = true := fun h h2 => o6 h2 rfl h
    clear o1 o2 o3 o4 o5 o6 hab hbc hac hba huba huca hdl dl ha hb hc HL hda hdb HS HTX hpl O4
    by_cases hI : (da : Int) < (db : Int)
    all_goals
      cases bc
      · clear hac1 hub1
        cases uca <;> cases uba
        all_goals
          go_enter Try.func8, Try.ntmps8
          go_wp2_with (first
            | (go_at_call 29; with_reducible refine (HL1.out _ HB.out).mono ?_; rintro e w1 ⟨rfl, hb⟩; have HB := Lib.hid hb; clear hb)
            | (go_at_call 29; with_reducible refine (HL2.out _ HB.out).mono ?_; rintro e w1 ⟨rfl, hb⟩; have HB := Lib.hid hb; clear hb)
            | (go_at_call 29; with_reducible refine (HL3.out _ HB.out).mono ?_; rintro e w1 ⟨rfl, hb⟩; have HB := Lib.hid hb; clear hb)
            | (go_at_call 29; with_reducible refine (HL4.out _ HB.out).mono ?_; rintro e w1 ⟨rfl, hb⟩; have HB := Lib.hid hb; clear hb)
            | (go_at_call 29; with_reducible refine (HL5.out _ HB.out).mono ?_; rintro e w1 ⟨rfl, hb⟩; have HB := Lib.hid hb; clear hb)
            | (go_at_call 31; with_reducible refine (HU1.out _).mono ?_; rintro e w2 ⟨rfl, rfl⟩)
            | (go_at_call 31; with_reducible refine (HU2.out _).mono ?_; rintro e w2 ⟨rfl, rfl⟩)
            | (go_at_call 19; with_reducible refine (HD1.out _).mono ?_; rintro e w3 ⟨rfl, rfl⟩)
            | (go_at_call 19; with_reducible refine (HD2.out _).mono ?_; rintro e w3 ⟨rfl, rfl⟩)
            | (go_at_call 21; refine (HA.out _ HB.out).mono ?_; rintro e w4 ⟨rfl, hb⟩; have HB := Lib.hid hb; clear hb))
          go_ret
          exact ⟨rfl, HB.out⟩
      · have h1 := hac1 rfl
        subst h1
        have h2 := hub1 rfl
        clear hac1 hub1
        cases uca
        · clear h2
          cases uba
          all_goals
            go_enter Try.func8, Try.ntmps8
            go_wp2_with (first
              | (go_at_call 29; with_reducible refine (HL1.out _ HB.out).mono ?_; rintro e w1 ⟨rfl, hb⟩; have HB := Lib.hid hb; clear hb)
              | (go_at_call 29; with_reducible refine (HL2.out _ HB.out).mono ?_; rintro e w1 ⟨rfl, hb⟩; have HB := Lib.hid hb; clear hb)
              | (go_at_call 29; with_reducible refine (HL3.out _ HB.out).mono ?_; rintro e w1 ⟨rfl, hb⟩; have HB := Lib.hid hb; clear hb)
              | (go_at_call 29; with_reducible refine (HL4.out _ HB.out).mono ?_; rintro e w1 ⟨rfl, hb⟩; have HB := Lib.hid hb; clear hb)
              | (go_at_call 29; with_reducible refine (HL5.out _ HB.out).mono ?_; rintro e w1 ⟨rfl, hb⟩; have HB := Lib.hid hb; clear hb)
              | (go_at_call 31; with_reducible refine (HU1.out _).mono ?_; rintro e w2 ⟨rfl, rfl⟩)
              | (go_at_call 31; with_reducible refine (HU2.out _).mono ?_; rintro e w2 ⟨rfl, rfl⟩)
              | (go_at_call 19; with_reducible refine (HD1.out _).mono ?_; rintro e w3 ⟨rfl, rfl⟩)
              | (go_at_call 19; with_reducible refine (HD2.out _).mono ?_; rintro e w3 ⟨rfl, rfl⟩)
              | (go_at_call 21; refine (HA.out _ HB.out).mono ?_; rintro e w4 ⟨rfl, hb⟩; have HB := Lib.hid hb; clear hb))
            go_ret
            exact ⟨rfl, HB.out⟩
        · have h3 := h2 rfl
          subst h3
          clear h2
          go_enter Try.func8, Try.ntmps8
          go_wp2_with (first
            | (go_at_call 29; with_reducible refine (HL1.out _ HB.out).mono ?_; rintro e w1 ⟨rfl, hb⟩; have HB := Lib.hid hb; clear hb)
            | (go_at_call 29; with_reducible refine (HL2.out _ HB.out).mono ?_; rintro e w1 ⟨rfl, hb⟩; have HB := Lib.hid hb; clear hb)
            | (go_at_call 29; with_reducible refine (HL3.out _ HB.out).mono ?_; rintro e w1 ⟨rfl, hb⟩; have HB := Lib.hid hb; clear hb)
            | (go_at_call 29; with_reducible refine (HL4.out _ HB.out).mono ?_; rintro e w1 ⟨rfl, hb⟩; have HB := Lib.hid hb; clear hb)
            | (go_at_call 29; with_reducible refine (HL5.out _ HB.out).mono ?_; rintro e w1 ⟨rfl, hb⟩; have HB := Lib.hid hb; clear hb)
            | (go_at_call 31; with_reducible refine (HU1.out _).mono ?_; rintro e w2 ⟨rfl, rfl⟩)
            | (go_at_call 31; with_reducible refine (HU2.out _).mono ?_; rintro e w2 ⟨rfl, rfl⟩)
            | (go_at_call 19; with_reducible refine (HD1.out _).mono ?_; rintro e w3 ⟨rfl, rfl⟩)
            | (go_at_call 19; with_reducible refine (HD2.out _).mono ?_; rintro e w3 ⟨rfl, rfl⟩)
            | (go_at_call 21; refine (HA.out _ HB.out).mono ?_; rintro e w4 ⟨rfl, hb⟩; have HB := Lib.hid hb; clear hb))
          go_ret
          exact ⟨rfl, HB.out⟩
end Go.Proofs.Yteimbdbnipfmkaa.Pa
