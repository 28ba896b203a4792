/- glob: strings.HasPrefix. (A template.) -/
import Derived.Test.YtokocfoeohddfaaGreatDoorGlBase
namespace Go.Proofs.YtokocfoeohddfaaGreatDoor.Pa
open Go.RowKit
set_option linter.unusedVariables false
set_option linter.unusedSimpArgs false
set_option maxRecDepth 100000

theorem slp_any (a b : L8) (w : World) : Calls Tryz.prog 53 #[.string (mk a), .string (mk b)] w fun e w' => e = .returned (.bool (b.isPrefixOf a)) ∧ w = w' := by
  have ha := mk_size a
  have hb := mk_size b
  obtain ⟨R, hR⟩ : ∃ R, R = b.isPrefixOf a := ⟨_, rfl⟩
  rw [← hR]
  have HR := Lib.hid hR
  clear hR
  by_cases h : b.length ≤ a.length
  · have hI : ((mk b).size : Int) ≤ ((mk a).size : Int) := by omega
    have hr := run_hd a (mk b).size (by omega)
    have HQ : Hid (((mk (a.take (mk b).size)).toList == (mk b).toList) = R) := by
      show _ = _
      rw [eqs, HR.out, hb]
      rw [Bool.eq_iff_iff, decide_eq_true_iff, List.isPrefixOf_iff_prefix, List.prefix_iff_eq_take]
      exact eq_comm
    generalize a.take (mk b).size = t at *
    clear ha hb h
    go_enter Tryz.func53, Tryz.ntmps53
    go_wp2
    go_ret
    exact ⟨by rw [← HQ.out]; rfl, rfl⟩
  · have hI : ¬ ((mk b).size : Int) ≤ ((mk a).size : Int) := by omega
    have HF : Hid (R = false) := by
      show _ = _
      rw [HR.out, Bool.eq_false_iff]
      intro e
      have := (List.isPrefixOf_iff_prefix.1 e).length_le
      omega
    clear ha hb h
    go_enter Tryz.func53, Tryz.ntmps53
    go_wp2
    go_ret
    exact ⟨by rw [HF.out]; rfl, rfl⟩
theorem hasp_any (a b : L8) (w : World) : Calls Tryz.prog 78 #[.string (mk a), .string (mk b)] w fun e w' => e = .returned (.bool (b.isPrefixOf a)) ∧ w = w' := by
  have H := Lib.hid (slp_any a b w)
  generalize b.isPrefixOf a = R at *
  go_enter Tryz.func78, Tryz.ntmps78
  go_wp2_with (go_at_call 53; refine H.out.mono ?_; rintro e w' ⟨rfl, rfl⟩)
  go_ret
  exact ⟨rfl, rfl⟩
end Go.Proofs.YtokocfoeohddfaaGreatDoor.Pa
