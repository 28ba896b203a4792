/- The laws GlobChecks and GlobHeads. (A template.) -/
import Derived.Test.YtokocfoeohddfaaDoorGlAwake
import Derived.Test.YtokocfoeohddfaaDoorGlREsc
namespace Go.Proofs.YtokocfoeohddfaaDoor.Pa
open Go.RowKit
set_option linter.unusedVariables false
set_option linter.unusedSimpArgs false
set_option maxRecDepth 1000000

set_option maxHeartbeats 16000000 in
theorem globChecks_walk (p : L8) (w : World) (hlp : p.length ≤ 9223372036854775807) :
    Calls Tryd.prog 3 #[.string (mk p)] w fun e w' => e = .returned (.bool true) ∧ Below w.heap.size w w' := by
  have HA := Lib.hid (acc (w := w) awake_gl)
  have HB : Hid (Below w.heap.size w w) := Below.refl _ _
  have hzp : (mk p).size = p.length := mk_size p
  by_cases hb1 : 400 < p.length
  · have hI : ((mk p).size : Int) > 400 := by omega
    clear hzp hb1 hlp
    go_enter Tryd.func3, Tryd.ntmps3
    go_wp2_with (go_at_call 10; refine (HA.out _ HB.out).mono ?_; rintro e w' ⟨rfl, hb⟩; have HB := Lib.hid hb; clear hb)
    go_ret
    exact ⟨rfl, HB.out⟩
  · have hI : ¬ ((mk p).size : Int) > 400 := by omega
    have HC := Lib.hid (acc (w := w) (fun W => check_any p W (by omega)))
    have HR := Lib.hid (acc (w := w) (fun W => rcheck_any p W (by omega)))
    generalize readE p = r at *
    clear hzp hb1 hlp
    generalize mk p = x at *
    go_enter Tryd.func3, Tryd.ntmps3
    go_wp2_with (first
      | (go_at_call 10; refine (HA.out _ HB.out).mono ?_; rintro e w' ⟨rfl, hb⟩; have HB := Lib.hid hb; clear hb)
      | (go_at_call 11; refine (HC.out _ HB.out).mono ?_; rintro e w' ⟨rfl, hb⟩; have HB := Lib.hid hb; clear hb)
      | (go_at_call 12; refine (HR.out _ HB.out).mono ?_; rintro e w' ⟨rfl, hb⟩; have HB := Lib.hid hb; clear hb))
    go_ret
    exact ⟨rfl, HB.out⟩
set_option maxHeartbeats 16000000 in
theorem globHeads_walk (p : L8) (w : World) (hlp : p.length ≤ 9223372036854775807) :
    Calls Tryd.prog 5 #[.string (mk p)] w fun e w' => e = .returned (.bool true) ∧ Below w.heap.size w w' := by
  have HA := Lib.hid (acc (w := w) awake_gl)
  have HB : Hid (Below w.heap.size w w) := Below.refl _ _
  have hzp : (mk p).size = p.length := mk_size p
  by_cases hb1 : 400 < p.length
  · have hI : ((mk p).size : Int) > 400 := by omega
    clear hzp hb1 hlp
    go_enter Tryd.func5, Tryd.ntmps5
    go_wp2_with (go_at_call 10; refine (HA.out _ HB.out).mono ?_; rintro e w' ⟨rfl, hb⟩; have HB := Lib.hid hb; clear hb)
    go_ret
    exact ⟨rfl, HB.out⟩
  · have hI : ¬ ((mk p).size : Int) > 400 := by omega
    have HP := Lib.hid (acc (w := w) (fun W => plain_of p W (by omega)))
    have HRP := Lib.hid (acc (w := w) (fun W => rplain_any p W (by omega)))
    have HH := Lib.hid (acc (w := w) (fun W => head_of p W (by omega)))
    have HRH := Lib.hid (acc (w := w) (fun W => rhead_any p W (by omega)))
    have HE := Lib.hid (acc (w := w) (fun W => escape_any p W (by omega)))
    have HRE := Lib.hid (acc (w := w) (fun W => rescape_any p W (by omega)))
    have q1 : ((mk (headP p)).toList == (mk (headP p)).toList) = true := by simp
    have q2 : ((mk (plainP p).1).toList == (mk (plainP p).1).toList) = true := by simp
    have q3 : ((mk (escB p)).toList == (mk (escB p)).toList) = true := by simp
    generalize mk (headP p) = h at *
    generalize mk (plainP p).1 = x1 at *
    generalize (plainP p).2 = b at *
    generalize mk (escB p) = ee at *
    clear hzp hb1 hlp
    generalize mk p = x at *
    go_enter Tryd.func5, Tryd.ntmps5
    cases b
    all_goals
      go_wp2_with (first
        | (go_at_call 10; refine (HA.out _ HB.out).mono ?_; rintro e w' ⟨rfl, hb⟩; have HB := Lib.hid hb; clear hb)
        | (go_at_call 15; refine (HP.out _ HB.out).mono ?_; rintro e w' ⟨rfl, hb⟩; have HB := Lib.hid hb; clear hb)
        | (go_at_call 16; refine (HRP.out _ HB.out).mono ?_; rintro e w' ⟨rfl, hb⟩; have HB := Lib.hid hb; clear hb)
        | (go_at_call 17; refine (HH.out _ HB.out).mono ?_; rintro e w' ⟨rfl, hb⟩; have HB := Lib.hid hb; clear hb)
        | (go_at_call 18; refine (HRH.out _ HB.out).mono ?_; rintro e w' ⟨rfl, hb⟩; have HB := Lib.hid hb; clear hb)
        | (go_at_call 19; refine (HE.out _ HB.out).mono ?_; rintro e w' ⟨rfl, hb⟩; have HB := Lib.hid hb; clear hb)
        | (go_at_call 20; refine (HRE.out _ HB.out).mono ?_; rintro e w' ⟨rfl, hb⟩; have HB := Lib.hid hb; clear hb))
      go_ret
      exact ⟨rfl, HB.out⟩
end Go.Proofs.YtokocfoeohddfaaDoor.Pa
