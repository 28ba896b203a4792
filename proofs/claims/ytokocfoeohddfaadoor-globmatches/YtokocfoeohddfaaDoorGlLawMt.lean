/- The law GlobMatches. (A template.) -/
import Derived.Test.YtokocfoeohddfaaDoorGlAwake
import Derived.Test.YtokocfoeohddfaaDoorGlRMatch
namespace Go.Proofs.YtokocfoeohddfaaDoor.Pa
open Go.RowKit
set_option linter.unusedVariables false
set_option linter.unusedSimpArgs false
set_option maxRecDepth 1000000

set_option maxHeartbeats 16000000 in
theorem globMatches_walk (p s : L8) (w : World) (hlp : p.length ≤ 9223372036854775807) (hls : s.length ≤ 9223372036854775807) :
    Calls Tryd.prog 4 #[.string (mk p), .string (mk s)] w fun e w' => e = .returned (.bool true) ∧ Below w.heap.size w w' := by
  have HA := Lib.hid (acc (w := w) awake_gl)
  have HB : Hid (Below w.heap.size w w) := Below.refl _ _
  have hzp : (mk p).size = p.length := mk_size p
  have hzs : (mk s).size = s.length := mk_size s
  by_cases hb1 : 400 < p.length
  · have hI : (400 : Int) < ((mk p).size : Int) := by omega
    have hD : decide ((400 : Int) < ((mk p).size : Int)) = true := decide_eq_true hI
    clear hzp hzs hb1 hlp hls
    go_enter Tryd.func4, Tryd.ntmps4
    go_wp2_with (go_at_call 10; refine (HA.out _ HB.out).mono ?_; rintro e w' ⟨rfl, hb⟩; have HB := Lib.hid hb; clear hb)
    go_ret
    exact ⟨rfl, HB.out⟩
  · have hI : ¬ (400 : Int) < ((mk p).size : Int) := by omega
    have hD : decide ((400 : Int) < ((mk p).size : Int)) = false := decide_eq_false hI
    by_cases hb2 : 400 < s.length
    · have hI2 : (400 : Int) < ((mk s).size : Int) := by omega
      clear hzp hzs hb1 hb2 hlp hls
      go_enter Tryd.func4, Tryd.ntmps4
      go_wp2_with (go_at_call 10; refine (HA.out _ HB.out).mono ?_; rintro e w' ⟨rfl, hb⟩; have HB := Lib.hid hb; clear hb)
      go_ret
      exact ⟨rfl, HB.out⟩
    · have hI2 : ¬ (400 : Int) < ((mk s).size : Int) := by omega
      have HM := Lib.hid (acc (w := w) (fun W => gmatch_any p s W (by omega) (by omega)))
      have HR := Lib.hid (acc (w := w) (fun W => rmatch_any p s W (by omega) (by omega)))
      generalize matchP p s = r at *
      clear hzp hzs hb1 hb2 hlp hls
      generalize mk p = x at *
      generalize mk s = y at *
      go_enter Tryd.func4, Tryd.ntmps4
      cases r
      all_goals
        go_wp2_with (first
          | (go_at_call 10; refine (HA.out _ HB.out).mono ?_; rintro e w' ⟨rfl, hb⟩; have HB := Lib.hid hb; clear hb)
          | (go_at_call 13; refine (HM.out _ HB.out).mono ?_; rintro e w' ⟨rfl, hb⟩; have HB := Lib.hid hb; clear hb)
          | (go_at_call 14; refine (HR.out _ HB.out).mono ?_; rintro e w' ⟨rfl, hb⟩; have HB := Lib.hid hb; clear hb))
        go_ret
        exact ⟨rfl, HB.out⟩
end Go.Proofs.YtokocfoeohddfaaDoor.Pa
