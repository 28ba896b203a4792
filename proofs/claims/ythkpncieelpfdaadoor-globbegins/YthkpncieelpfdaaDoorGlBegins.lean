/- The laws GlobBegins and GlobEscapes. (A template.) -/
import Derived.Test.YthkpncieelpfdaaDoorGlAwake
import Derived.Test.YthkpncieelpfdaaDoorGlLawM
namespace Go.Proofs.YthkpncieelpfdaaDoor.Pa
open Go.RowKit
set_option linter.unusedVariables false
set_option linter.unusedSimpArgs false
set_option maxRecDepth 1000000

set_option maxHeartbeats 16000000 in
theorem globBegins_walk (p s : L8) (w : World) (hlp : p.length ≤ 9223372036854775807) (hls : s.length ≤ 9223372036854775807) :
    Calls Tryd.prog 6 #[.string (mk p), .string (mk s)] w fun e w' => e = .returned (.bool true) ∧ Below w.heap.size w w' := by
  have HA := Lib.hid (acc (w := w) awake_gl)
  have HB : Hid (Below w.heap.size w w) := Below.refl _ _
  have hzp : (mk p).size = p.length := mk_size p
  have hzs : (mk s).size = s.length := mk_size s
  by_cases hb1 : 400 < p.length
  · have hI : (400 : Int) < ((mk p).size : Int) := by omega
    have hD : decide ((400 : Int) < ((mk p).size : Int)) = true := decide_eq_true hI
    clear hzp hzs hb1 hlp hls
    go_enter Tryd.func6, Tryd.ntmps6
    go_wp2_with (go_at_call 11; refine (HA.out _ HB.out).mono ?_; rintro e w' ⟨rfl, hb⟩; have HB := Lib.hid hb; clear hb)
    go_ret
    exact ⟨rfl, HB.out⟩
  · have hD : decide ((400 : Int) < ((mk p).size : Int)) = false := decide_eq_false (by omega)
    have hI1 : ¬ (400 : Int) < ((mk p).size : Int) := by omega
    by_cases hb2 : 400 < s.length
    · have hI : (400 : Int) < ((mk s).size : Int) := by omega
      clear hzp hzs hb1 hb2 hlp hls
      go_enter Tryd.func6, Tryd.ntmps6
      go_wp2_with (go_at_call 11; refine (HA.out _ HB.out).mono ?_; rintro e w' ⟨rfl, hb⟩; have HB := Lib.hid hb; clear hb)
      go_ret
      exact ⟨rfl, HB.out⟩
    · have hI2 : ¬ (400 : Int) < ((mk s).size : Int) := by omega
      have HH := Lib.hid (acc (w := w) (fun W => head_of p W (by omega)))
      have HP := Lib.hid (acc (w := w) (fun W => plain_of p W (by omega)))
      have HM := Lib.hid (acc (w := w) (fun W => gmatch_any p s W (by omega) (by omega)))
      have hzh : (mk (headP p)).size = (headP p).length := mk_size _
      -- what is matched begins with the head
      have hmh : matchP p s = true → ¬ ((mk s).size : Int) < ((mk (headP p)).size : Int) ∧ s.take (headP p).length = headP p ∧ (headP p).length ≤ s.length := by
        intro h
        obtain ⟨r, hr⟩ := match_head h
        have hl := congrArg List.length hr
        rw [List.length_append] at hl
        refine ⟨by omega, ?_, by omega⟩
        rw [hr]; simp
      cases hpl : (plainP p).2 with
      | false =>
        rw [hpl] at HP
        generalize (plainP p).1 = x at *
        cases hm : matchP p s with
        | false =>
          rw [hm] at HM
          clear hzp hzs hb1 hb2 hlp hls hzh hmh hpl hm
          generalize mk (headP p) = h at *
          go_enter Tryd.func6, Tryd.ntmps6
          go_wp2_with (first
            | (go_at_call 11; refine (HA.out _ HB.out).mono ?_; rintro e w' ⟨rfl, hb⟩; have HB := Lib.hid hb; clear hb)
            | (go_at_call 18; refine (HH.out _ HB.out).mono ?_; rintro e w' ⟨rfl, hb⟩; have HB := Lib.hid hb; clear hb)
            | (go_at_call 16; refine (HP.out _ HB.out).mono ?_; rintro e w' ⟨rfl, hb⟩; have HB := Lib.hid hb; clear hb)
            | (go_at_call 14; refine (HM.out _ HB.out).mono ?_; rintro e w' ⟨rfl, hb⟩; have HB := Lib.hid hb; clear hb))
          go_ret
          exact ⟨rfl, HB.out⟩
        | true =>
          rw [hm] at HM
          obtain ⟨h1, h2, h3⟩ := hmh hm
          have hhd := fun W => run_hd s (headP p).length h3 W
          rw [h2, ← hzh] at hhd
          have hq : ((mk (headP p)).toList == (mk (headP p)).toList) = true := by simp
          clear hzp hzs hb1 hb2 hlp hls hzh hmh hpl hm h2 h3
          generalize mk (headP p) = h at *
          go_enter Tryd.func6, Tryd.ntmps6
          go_wp2_with (first
            | (go_at_call 11; refine (HA.out _ HB.out).mono ?_; rintro e w' ⟨rfl, hb⟩; have HB := Lib.hid hb; clear hb)
            | (go_at_call 18; refine (HH.out _ HB.out).mono ?_; rintro e w' ⟨rfl, hb⟩; have HB := Lib.hid hb; clear hb)
            | (go_at_call 16; refine (HP.out _ HB.out).mono ?_; rintro e w' ⟨rfl, hb⟩; have HB := Lib.hid hb; clear hb)
            | (go_at_call 14; refine (HM.out _ HB.out).mono ?_; rintro e w' ⟨rfl, hb⟩; have HB := Lib.hid hb; clear hb))
          go_ret
          exact ⟨rfl, HB.out⟩
      | true =>
        obtain ⟨e1, hall⟩ := plain_head hpl
        rw [hpl, e1] at HP
        have hms := hall s
        have hmx := hall (headP p)
        rw [decide_eq_true rfl] at hmx
        have hle : (headP p).length ≤ 4611686018427387904 := by
          obtain ⟨r, hr⟩ := match_head hmx
          have h2 := hmh
          by_cases hq : (headP p).length ≤ p.length
          · omega
          · exfalso
            revert hq
            unfold headP
            cases hr : readP p with
            | none => simp
            | some L =>
              simp only
              have hl1 := headL_le L
              unfold readP at hr
              split at hr
              · have := sgns_len _ _ _ hr (Nat.zero_le _); omega
              · cases hr
        have HX := Lib.hid (acc (w := w) (fun W => gmatch_any p (headP p) W (by omega) hle))
        rw [hmx] at HX
        have hq : ((mk (headP p)).toList == (mk (headP p)).toList) = true := by simp
        by_cases hsx : s = headP p
        · have hms2 : matchP p s = true := by rw [hms]; exact decide_eq_true hsx
          obtain ⟨h1, h2, h3⟩ := hmh hms2
          have hhd := fun W => run_hd s (headP p).length h3 W
          rw [h2, ← hzh] at hhd
          rw [hms2] at HM
          clear hzp hzs hb1 hb2 hlp hls hmh hpl hms hmx hall hle hms2 h2 h3 e1 HX
          subst hsx
          clear hzh
          generalize mk (headP p) = h at *
          go_enter Tryd.func6, Tryd.ntmps6
          go_wp2_with (first
            | (go_at_call 11; refine (HA.out _ HB.out).mono ?_; rintro e w' ⟨rfl, hb⟩; have HB := Lib.hid hb; clear hb)
            | (go_at_call 18; refine (HH.out _ HB.out).mono ?_; rintro e w' ⟨rfl, hb⟩; have HB := Lib.hid hb; clear hb)
            | (go_at_call 16; refine (HP.out _ HB.out).mono ?_; rintro e w' ⟨rfl, hb⟩; have HB := Lib.hid hb; clear hb)
            | (go_at_call 14; refine (HM.out _ HB.out).mono ?_; rintro e w' ⟨rfl, hb⟩; have HB := Lib.hid hb; clear hb))
          go_ret
          exact ⟨rfl, HB.out⟩
        · have hms2 : matchP p s = false := by rw [hms]; exact decide_eq_false hsx
          rw [hms2] at HM
          have hne : ((mk s).toList == (mk (headP p)).toList) = false := by rw [eqs]; exact decide_eq_false hsx
          clear hzp hzs hb1 hb2 hlp hls hzh hmh hpl hms hmx hall hle hms2 e1 hsx
          generalize mk (headP p) = h at *
          generalize mk s = ss at *
          go_enter Tryd.func6, Tryd.ntmps6
          go_wp2_with (first
            | (go_at_call 11; refine (HA.out _ HB.out).mono ?_; rintro e w' ⟨rfl, hb⟩; have HB := Lib.hid hb; clear hb)
            | (go_at_call 18; refine (HH.out _ HB.out).mono ?_; rintro e w' ⟨rfl, hb⟩; have HB := Lib.hid hb; clear hb)
            | (go_at_call 16; refine (HP.out _ HB.out).mono ?_; rintro e w' ⟨rfl, hb⟩; have HB := Lib.hid hb; clear hb)
            | (go_at_call 14; with_reducible refine (HM.out _ HB.out).mono ?_; rintro e w' ⟨rfl, hb⟩; have HB := Lib.hid hb; clear hb)
            | (go_at_call 14; with_reducible refine (HX.out _ HB.out).mono ?_; rintro e w' ⟨rfl, hb⟩; have HB := Lib.hid hb; clear hb))
          go_ret
          exact ⟨rfl, HB.out⟩
end Go.Proofs.YthkpncieelpfdaaDoor.Pa
