/- For every two numbers num.Size is from 1 to 9, a greater number has no fewer bytes, and Put puts as many as Size tells: the law NumGrows returns true. Conditions: none. -/
import Derived.Test.YtkojldjgjmaodaaRows
import Derived.Test.YtkojldjgjmaodaaPut
import Derived.Test.YtkojldjgjmaodaaAwake
import Derived.WalkKit
import Derived.ProofKit
import Derived.OpenShut
import Derived.ShutString
namespace Go.Proofs.Ytkojldjgjmaodaa.numGrows
open Go.Proofs.NumMath
open Go.ChangeShapes Go.WideShapes Go.ChangeAt Go.RowKit
open Go.ChangeMaps (open_string shut_string)
set_option linter.unusedVariables false      -- a walk need not use every 'w<i>' (that an integer argument fits its kind)

theorem own : ownKnob Try.prog.godebug = none := by kernel_rfl

/-! ### STEP 1: THE WALK: the Go text returns true. 'Grown w w'': the world has at most new blocks (Derived/RowKit3.lean). Part the cases AHEAD of 'go_enter' where a test parts the walk; take each callee by a contract of your own. -/
theorem walk (a0 : Int) (a1 : Int) (w0 : (Lit.int .i64 a0).wf = true) (w1 : (Lit.int .i64 a1).wf = true) (w : World) :
    Calls Try.prog 8 #[.int .i64 a0, .int .i64 a1] w fun e w' => e = .returned (.bool true) ∧ Below w.heap.size w w' := by
  have hm : ∀ x y : Int, x ≤ y → sizeN (heldN x) ≤ sizeN (heldN y) := fun x y h => sizeN_mono _ _ (by unfold heldN; omega)
  have h9 : ∀ x, 1 ≤ sizeN (heldN x) ∧ sizeN (heldN x) ≤ 9 := fun x => ⟨sizeN_pos _, sizeN_le 8 _ (by unfold heldN; omega)⟩
  have hs0 := fun W => size_any a0 W
  have hs1 := fun W => size_any a1 W
  have hp := fun W => put_nil a0 W
  have h1 := h9 a0
  have h2 := h9 a1
  have h3 := hm a0 a1
  have h4 := hm a1 a0
  generalize encR (heldN a0) = E at hp
  rcases Int.lt_trichotomy a0 a1 with hab | hab | hab
  · have h5 := h3 (by omega)
    clear h3 h4
    generalize sizeN (heldN a0) = s0 at *
    generalize sizeN (heldN a1) = s1 at *
    have HS0 := Lib.hid hs0
    have HS1 := Lib.hid hs1
    have HP := Lib.hid hp
    clear hm h9 hs0 hs1 hp
    have t1 : decide ((1 : Int) ≤ (s0 : Int)) = true := by simp; omega
    have t2 : decide ((s1 : Int) ≤ (9 : Int)) = true := by simp; omega
    have t3 : decide (s0 ≤ s1) = true := by simp; try omega
    have t4 : ((s0 : Int) == (s0 : Int)) = true := by simp
    go_enter Try.func8, Try.ntmps8
    go_wp2_with fail
    refine (HS0.out _).mono ?_
    rintro e w1 ⟨rfl, hb1⟩
    go_wp2_with fail
    refine (HS1.out _).mono ?_
    rintro e w2 ⟨rfl, hb2⟩
    go_wp2_with fail
    refine (HP.out _).mono ?_
    rintro e w3 ⟨a', cap', rfl, -, hb3⟩
    go_wp2_with fail
    refine (HS0.out _).mono ?_
    rintro e w4 ⟨rfl, hb4⟩
    go_wp2_with fail
    refine (awake_any _).mono ?_
    rintro e w5 ⟨rfl, hb5⟩
    go_wp2
    go_ret
    have z1 := hb1.size
    have z2 := hb2.size
    have z3 := hb3.size
    have z4 := hb4.size
    exact ⟨rfl, hb1.trans ((hb2.mono (by omega)).trans ((hb3.mono (by omega)).trans ((hb4.mono (by omega)).trans (hb5.mono (by omega)))))⟩
  · subst hab
    clear h3 h4 h2 hs1
    generalize sizeN (heldN a0) = s0 at *
    have HS0 := Lib.hid hs0
    have HP := Lib.hid hp
    clear hm h9 hs0 hp
    have t1 : decide ((1 : Int) ≤ (s0 : Int)) = true := by simp; omega
    have t2 : decide ((s0 : Int) ≤ (9 : Int)) = true := by simp; omega
    have t3 : decide (s0 ≤ s0) = true := by simp; try omega
    have t4 : ((s0 : Int) == (s0 : Int)) = true := by simp
    go_enter Try.func8, Try.ntmps8
    go_wp2_with fail
    refine (HS0.out _).mono ?_
    rintro e w1 ⟨rfl, hb1⟩
    go_wp2_with fail
    refine (HS0.out _).mono ?_
    rintro e w2 ⟨rfl, hb2⟩
    go_wp2_with fail
    refine (HP.out _).mono ?_
    rintro e w3 ⟨a', cap', rfl, -, hb3⟩
    go_wp2_with fail
    refine (HS0.out _).mono ?_
    rintro e w4 ⟨rfl, hb4⟩
    go_wp2_with fail
    refine (awake_any _).mono ?_
    rintro e w5 ⟨rfl, hb5⟩
    go_wp2
    go_ret
    have z1 := hb1.size
    have z2 := hb2.size
    have z3 := hb3.size
    have z4 := hb4.size
    exact ⟨rfl, hb1.trans ((hb2.mono (by omega)).trans ((hb3.mono (by omega)).trans ((hb4.mono (by omega)).trans (hb5.mono (by omega)))))⟩
  · have h5 := h4 (by omega)
    clear h3 h4
    generalize sizeN (heldN a0) = s0 at *
    generalize sizeN (heldN a1) = s1 at *
    have HS0 := Lib.hid hs0
    have HS1 := Lib.hid hs1
    have HP := Lib.hid hp
    clear hm h9 hs0 hs1 hp
    have t1 : decide ((1 : Int) ≤ (s1 : Int)) = true := by simp; omega
    have t2 : decide ((s0 : Int) ≤ (9 : Int)) = true := by simp; omega
    have t3 : decide (s1 ≤ s0) = true := by simp; try omega
    have t4 : ((s0 : Int) == (s0 : Int)) = true := by simp
    go_enter Try.func8, Try.ntmps8
    go_wp2_with fail
    refine (HS1.out _).mono ?_
    rintro e w1 ⟨rfl, hb1⟩
    go_wp2_with fail
    refine (HS0.out _).mono ?_
    rintro e w2 ⟨rfl, hb2⟩
    go_wp2_with fail
    refine (HP.out _).mono ?_
    rintro e w3 ⟨a', cap', rfl, -, hb3⟩
    go_wp2_with fail
    refine (HS0.out _).mono ?_
    rintro e w4 ⟨rfl, hb4⟩
    go_wp2_with fail
    refine (awake_any _).mono ?_
    rintro e w5 ⟨rfl, hb5⟩
    go_wp2
    go_ret
    have z1 := hb1.size
    have z2 := hb2.size
    have z3 := hb3.size
    have z4 := hb4.size
    exact ⟨rfl, hb1.trans ((hb2.mono (by omega)).trans ((hb3.mono (by omega)).trans ((hb4.mono (by omega)).trans (hb5.mono (by omega)))))⟩

/-! ### THE ROW's STEP: WRITTEN OUT: LEAVE IT -/
set_option maxRecDepth 100000 in
theorem lifted (os : Os) (started : os.Started) (H : Type) (enc : TypeId × Value → H) :
    ReturnsInHanded {} Try.checked os 8 .any (Rows.numGrowsSpec.pre6 enc Try.prog Try.f8 Rows.numGrowsRow.domain false) (Rows.numGrowsSpec.post enc Try.prog Try.f8 false true false false) := by
  refine returnsInHanded_of_change (C := Try.checked) own started (by kernel_rfl) Try.func8
    (ChangeSpec.witness6 (enc := enc) (C := Try.checked) false ⟨#[], #[.int .i64 0, .int .i64 0], []⟩ 8 (by kernel_rfl) (by kernel_rfl) (by kernel_rfl) (by kernel_rfl)) ?_
  intro W base args ds gs before hval0 hW hcnd _
  have hval : ∀ (j : Nat) t v, Try.f8.params[j]? = some t → args[j]? = some v → Value.okWide Try.prog W .any base t v := hval0
  have hW' := hW
  obtain ⟨p, q, hA0, hV, rfl, hfz, hnd⟩ := hW
  have hA : DataW.TrodAll enc Try.prog W 0 (fun _ => true) true Try.f8.params.toList args.toList ds p := hA0
  rw [Try.params8] at hA hval
  obtain ⟨v0, vs0, d0, ds0, p0, q0, hargs, rfl, rfl, h0, r0⟩ := trodAll_cons hA
  obtain ⟨v1, vs1, d1, ds1, p1, q1, rfl, rfl, rfl, h1, r1⟩ := trodAll_cons r0
  obtain ⟨rfl, rfl, rfl⟩ := trodAll_nil r1
  obtain rfl : args = #[v0, v1] := by cases args; simp_all
  obtain ⟨rfl, rfl⟩ := trodVars_none hV
  obtain ⟨a0, rfl, rfl, rfl, w0⟩ := open_int Try.underlying3 (hval 0 3 v0 rfl rfl) h0
  obtain ⟨a1, rfl, rfl, rfl, w1⟩ := open_int Try.underlying3 (hval 1 3 v1 rfl rfl) h1
  clear hA0 hval0
  refine (walk a0 a1 w0 w1 W).mono fun e W' ⟨he, hg⟩ => ?_
  subst he
  exact ⟨_, rfl, _, _, _, [], _, [], hW', (trodAll_cons_mk (shut_bool Try.underlying4 _) trodAll_mk0), (trodAll_cons_mk (shut_int Try.underlying3 w0) (trodAll_cons_mk (shut_int Try.underlying3 w1) trodAll_mk0)), rfl, hg.frame _, fun h => by cases h⟩

theorem over : Rows.numGrowsRow.holds Try.pinned (OpenSpec.ofChange Rows.numGrowsSpec) :=
  OpenClaim.holds_of_wide 8 Try.f8 rfl rfl rfl rfl rfl rfl rfl ⟨rfl, rfl, rfl, rfl, rfl⟩ rfl rfl rfl rfl rfl (by kernel_rfl) Try.func8 (by kernel_rfl)
    (of_decide_eq_true (by kernel_rfl)) (by unfold Func.isWrapper; first | (rw [if_pos (by decide +kernel)]; kernel_rfl) | (rw [if_neg (by decide +kernel)]; exact ⟨rfl, rfl⟩))
    (fun os started H enc _ => lifted os started H enc)

/-- ████ THE STATEMENT ████ -/
theorem proved : Rows.NumGrowsSaid :=
  over
#print axioms proved
end Go.Proofs.Ytkojldjgjmaodaa.numGrows
