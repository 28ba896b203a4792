/- For every size, block length and place the place lies in just the block that Which tells, and the next block begins where one ends: the law BlocksWhich returns true. Conditions: none. -/
import Derived.Test.YtjkbacbofkcipaaRows
import Derived.Test.YtjkbacbofkcipaaBlk2
import Derived.WalkKit
import Derived.ProofKit
import Derived.OpenShut
import Derived.ShutString
namespace Go.Proofs.Ytjkbacbofkcipaa.blocksWhich
open Go.Proofs.BlkMath
open Go.ChangeShapes Go.WideShapes Go.ChangeAt Go.RowKit
open Go.ChangeMaps (open_string shut_string)
set_option linter.unusedVariables false      -- a walk need not use every 'w<i>' (that an integer argument fits its kind)

theorem own : ownKnob Try.prog.godebug = none := by kernel_rfl

/-! ### STEP 1: THE WALK: the Go text returns true. 'Grown w w'': the world has at most new blocks (Derived/RowKit3.lean). Part the cases AHEAD of 'go_enter' where a test parts the walk; take each callee by a contract of your own. -/
set_option maxHeartbeats 8000000 in
set_option maxRecDepth 1000000 in
theorem walk (a0 : Int) (a1 : Int) (a2 : Int) (w0 : (Lit.int .i64 a0).wf = true) (w1 : (Lit.int .i64 a1).wf = true) (w2 : (Lit.int .i64 a2).wf = true) (w : World) :
    Calls Try.prog 8 #[.int .i64 a0, .int .i64 a1, .int .i64 a2] w fun e w' => e = .returned (.bool true) ∧ Grown w w' := by
  have ha := Lib.hid (fun W => awake5_any W)
  by_cases h : Rt a0 a1 ∧ 0 ≤ a2 ∧ a2 < a0
  · obtain ⟨hR, h0, h1⟩ := h
    have hw := Lib.hid (fun W => which_yes a0 a1 a2 W hR h0 h1)
    have hsp := which_spec hR h0 h1
    have hcn : cntB a0 a1 = cnt a0 a1 := by unfold cntB; rw [if_pos hR]
    have hc := Lib.hid (fun W => count_any a0 a1 W)
    have hcs := cnt_spec hR
    obtain ⟨hn0, hn1, hn2, hn3⟩ := hsp
    have hr := Lib.hid (fun W => range_yes a0 a1 (a2 / a1) W hn0 (by rw [hcn]; exact hn1))
    have hmul : (a2 / a1 + 1) * a1 = a2 / a1 * a1 + a1 := by rw [Int.add_mul, Int.one_mul]
    have hbs := hR
    unfold Rt at hbs
    by_cases hm : a2 / a1 + 1 < cnt a0 a1
    · have hq := Lib.hid (fun W => range_yes a0 a1 (a2 / a1 + 1) W (by omega) (by rw [hcn]; exact hm))
      have hlt := cnt_lt hR hm
      have ht : toB a0 a1 (a2 / a1) = a2 / a1 * a1 + a1 := by unfold toB; rw [if_pos (by omega)]
      rw [ht] at hr
      rw [hmul] at hq
      rw [hcn] at hc
      generalize toB a0 a1 (a2 / a1 + 1) = t at *
      have d1 : decide (0 ≤ a2 / a1) = true := by simpa using hn0
      obtain ⟨x, hx⟩ : ∃ x, x = a2 / a1 * a1 := ⟨_, rfl⟩
      rw [← hx] at hr hq hn2 hn3 hmul ht
      rw [hmul] at hlt
      clear hx hmul ht d1 hcn
      generalize a2 / a1 = i at *
      generalize cnt a0 a1 = c at *
      clear hR
      go_enter Try.func8, Try.ntmps8
      go_wp2_with (first | (go_at_call 17; with_reducible refine (hr.out _).mono ?_; rintro e w' ⟨rfl, rfl⟩) | (go_at_call 17; with_reducible refine (hq.out _).mono ?_; rintro e w' ⟨rfl, rfl⟩) | (go_at_call 19; refine (hw.out _).mono ?_; rintro e w' ⟨rfl, rfl⟩) | (go_at_call 14; refine (hc.out _).mono ?_; rintro e w' ⟨rfl, rfl⟩) | (go_at_call 16; refine (ha.out _).mono ?_; rintro e w' ⟨rfl, rfl⟩))
      all_goals first
        | (exfalso; omega)
        | (go_ret
           refine ⟨?_, Grown.refl _⟩
           show Ending.returned (.bool _) = _
           congr 2
           try simp
           try omega)
    · have hq := Lib.hid (fun W => range_no a0 a1 (a2 / a1 + 1) W (by rw [hcn]; omega))
      have hge := cnt_ge hR (by omega : cnt a0 a1 ≤ a2 / a1 + 1)
      have ht : toB a0 a1 (a2 / a1) = a0 := by unfold toB; split <;> omega
      rw [ht] at hr
      rw [hcn] at hc
      obtain ⟨x, hx⟩ : ∃ x, x = a2 / a1 * a1 := ⟨_, rfl⟩
      rw [← hx] at hr hn2 hn3 hmul
      rw [hmul] at hge
      clear hx hmul ht hcn
      generalize a2 / a1 = i at *
      generalize cnt a0 a1 = c at *
      clear hR
      go_enter Try.func8, Try.ntmps8
      go_wp2_with (first | (go_at_call 17; with_reducible refine (hr.out _).mono ?_; rintro e w' ⟨rfl, rfl⟩) | (go_at_call 17; with_reducible refine (hq.out _).mono ?_; rintro e w' ⟨rfl, rfl⟩) | (go_at_call 19; refine (hw.out _).mono ?_; rintro e w' ⟨rfl, rfl⟩) | (go_at_call 14; refine (hc.out _).mono ?_; rintro e w' ⟨rfl, rfl⟩) | (go_at_call 16; refine (ha.out _).mono ?_; rintro e w' ⟨rfl, rfl⟩))
      all_goals first
        | (exfalso; omega)
        | (go_ret
           refine ⟨?_, Grown.refl _⟩
           show Ending.returned (.bool _) = _
           congr 2
           try simp
           try omega)
  · have hw := Lib.hid (fun W => which_no a0 a1 a2 W h)
    have hr := fun W => right_any a0 a1 W
    by_cases hR : Rt a0 a1
    · rw [decide_eq_true hR] at hr
      have HR := Lib.hid hr
      have ho : ¬ (0 ≤ a2 ∧ a2 < a0) := fun h' => h ⟨hR, h'⟩
      clear hr h hR
      go_enter Try.func8, Try.ntmps8
      go_wp2_with (first | (go_at_call 19; refine (hw.out _).mono ?_; rintro e w' ⟨rfl, rfl⟩) | (go_at_call 12; refine (HR.out _).mono ?_; rintro e w' ⟨rfl, rfl⟩) | (go_at_call 16; refine (ha.out _).mono ?_; rintro e w' ⟨rfl, rfl⟩))
      all_goals first
        | (exfalso; omega)
        | (go_ret; exact ⟨rfl, Grown.refl _⟩)
        | (go_ret
           refine ⟨?_, Grown.refl _⟩
           show Ending.returned (.bool _) = _
           congr 2
           try simp
           try omega)
    · rw [decide_eq_false hR] at hr
      have HR := Lib.hid hr
      clear hr h hR
      go_enter Try.func8, Try.ntmps8
      go_wp2_with (first | (go_at_call 19; refine (hw.out _).mono ?_; rintro e w' ⟨rfl, rfl⟩) | (go_at_call 12; refine (HR.out _).mono ?_; rintro e w' ⟨rfl, rfl⟩) | (go_at_call 16; refine (ha.out _).mono ?_; rintro e w' ⟨rfl, rfl⟩))
      all_goals
        go_ret
        exact ⟨rfl, Grown.refl _⟩

/-! ### THE ROW's STEP: WRITTEN OUT: LEAVE IT -/
set_option maxRecDepth 100000 in
theorem lifted (os : Os) (started : os.Started) (H : Type) (enc : TypeId × Value → H) :
    ReturnsInHanded {} Try.checked os 8 .any (Rows.blocksWhichSpec.pre6 enc Try.prog Try.f8 Rows.blocksWhichRow.domain false) (Rows.blocksWhichSpec.post enc Try.prog Try.f8 false true false false) := by
  refine returnsInHanded_of_change (C := Try.checked) own started (by kernel_rfl) Try.func8
    (ChangeSpec.witness6 (enc := enc) (C := Try.checked) false ⟨#[], #[.int .i64 0, .int .i64 0, .int .i64 0], []⟩ 8 (by kernel_rfl) (by kernel_rfl) (by kernel_rfl) (by kernel_rfl)) ?_
  intro W base args ds gs before hval0 hW hcnd _
  have hval : ∀ (j : Nat) t v, Try.f8.params[j]? = some t → args[j]? = some v → Value.okWide Try.prog W .any base t v := hval0
  have hW' := hW
  obtain ⟨p, q, hA0, hV, rfl, hfz, hnd⟩ := hW
  have hA : DataW.TrodAll enc Try.prog W 0 (fun _ => true) true Try.f8.params.toList args.toList ds p := hA0
  rw [Try.params8] at hA hval
  obtain ⟨v0, vs0, d0, ds0, p0, q0, hargs, rfl, rfl, h0, r0⟩ := trodAll_cons hA
  obtain ⟨v1, vs1, d1, ds1, p1, q1, rfl, rfl, rfl, h1, r1⟩ := trodAll_cons r0
  obtain ⟨v2, vs2, d2, ds2, p2, q2, rfl, rfl, rfl, h2, r2⟩ := trodAll_cons r1
  obtain ⟨rfl, rfl, rfl⟩ := trodAll_nil r2
  obtain rfl : args = #[v0, v1, v2] := by cases args; simp_all
  obtain ⟨rfl, rfl⟩ := trodVars_none hV
  obtain ⟨a0, rfl, rfl, rfl, w0⟩ := open_int Try.underlying3 (hval 0 3 v0 rfl rfl) h0
  obtain ⟨a1, rfl, rfl, rfl, w1⟩ := open_int Try.underlying3 (hval 1 3 v1 rfl rfl) h1
  obtain ⟨a2, rfl, rfl, rfl, w2⟩ := open_int Try.underlying3 (hval 2 3 v2 rfl rfl) h2
  clear hA0 hval0
  simp only [List.append_nil] at hW'
  refine (walk a0 a1 a2 w0 w1 w2 W).mono fun e W' ⟨he, hg⟩ => ?_
  subst he
  exact ⟨_, rfl, post_of_same (pa := []) (pv := []) hW' (fun _ _ _ => (trodAll_cons_mk (shut_bool Try.underlying4 _) trodAll_mk0)) (fun sp _ => (trodAll_cons_mk (shut_int Try.underlying3 w0) (trodAll_cons_mk (shut_int Try.underlying3 w1) (trodAll_cons_mk (shut_int Try.underlying3 w2) trodAll_mk0)))) (fun _ _ => rfl) rfl
    (hg.frame _) hg.2.1 (ok_one (by kernel_rfl) rfl (okWide_bool_mk Try.underlying4 _))⟩

theorem over : Rows.blocksWhichRow.holds Try.pinned (OpenSpec.ofChange Rows.blocksWhichSpec) :=
  OpenClaim.holds_of_wide 8 Try.f8 rfl rfl rfl rfl rfl rfl rfl ⟨rfl, rfl, rfl, rfl, rfl⟩ rfl rfl rfl rfl rfl (by kernel_rfl) Try.func8 (by kernel_rfl)
    (of_decide_eq_true (by kernel_rfl)) (by unfold Func.isWrapper; first | (rw [if_pos (by decide +kernel)]; kernel_rfl) | (rw [if_neg (by decide +kernel)]; exact ⟨rfl, rfl⟩))
    (fun os started H enc _ => lifted os started H enc)

/-- ████ THE STATEMENT ████ -/
theorem proved : Rows.BlocksWhichSaid :=
  over
#print axioms proved
end Go.Proofs.Ytjkbacbofkcipaa.blocksWhich
