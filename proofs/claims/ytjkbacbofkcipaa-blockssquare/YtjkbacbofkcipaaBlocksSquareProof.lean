/- For every size the length that is taken is a power of two from the least to the greatest, none that is less has a square that is not below the size, and a right size has no more blocks of it than bytes: the law BlocksSquare returns true. Conditions: none. -/
import Derived.Test.YtjkbacbofkcipaaRows
import Derived.Test.YtjkbacbofkcipaaBlk2
import Derived.WalkKit
import Derived.ProofKit
import Derived.OpenShut
import Derived.ShutString
namespace Go.Proofs.Ytjkbacbofkcipaa.blocksSquare
open Go.Proofs.BlkMath
open Go.ChangeShapes Go.WideShapes Go.ChangeAt Go.RowKit
open Go.ChangeMaps (open_string shut_string)
set_option linter.unusedVariables false      -- a walk need not use every 'w<i>' (that an integer argument fits its kind)

theorem own : ownKnob Try.prog.godebug = none := by kernel_rfl

/-! ### STEP 1: THE WALK: the Go text returns true. 'Grown w w'': the world has at most new blocks (Derived/RowKit3.lean). Part the cases AHEAD of 'go_enter' where a test parts the walk; take each callee by a contract of your own. -/
set_option maxHeartbeats 8000000 in
set_option maxRecDepth 1000000 in
theorem walk (a0 : Int) (w0 : (Lit.int .i64 a0).wf = true) (w : World) :
    Calls Try.prog 9 #[.int .i64 a0] w fun e w' => e = .returned (.bool true) ∧ Grown w w' := by
  have ha := Lib.hid (fun W => awake5_any W)
  have hl := Lib.hid (fun W => length_any a0 W)
  have hc := Lib.hid (fun W => count_any a0 (lenOf a0) W)
  have hle : cntB a0 (lenOf a0) ≤ lenOf a0 := by
    unfold cntB
    split
    · exact cnt_sq a0 ‹_›
    · have := lenOf_bd a0; omega
  have hk : (lenOf a0 = 16 ∧ a0 ≤ 256) ∨ (lenOf a0 = 32 ∧ 256 < a0 ∧ a0 ≤ 1024) ∨ (lenOf a0 = 64 ∧ 1024 < a0 ∧ a0 ≤ 4096) ∨ (lenOf a0 = 128 ∧ 4096 < a0 ∧ a0 ≤ 16384) ∨ (lenOf a0 = 256 ∧ 16384 < a0 ∧ a0 ≤ 65536) ∨ (lenOf a0 = 512 ∧ 65536 < a0 ∧ a0 ≤ 262144) ∨ (lenOf a0 = 1024 ∧ 262144 < a0 ∧ a0 ≤ 1048576) ∨ (lenOf a0 = 2048 ∧ 1048576 < a0 ∧ a0 ≤ 4194304) ∨ (lenOf a0 = 4096 ∧ 4194304 < a0) := by
    unfold lenOf
    repeat' split
    all_goals omega
  generalize cntB a0 (lenOf a0) = c at *
  generalize lenOf a0 = n at *
  rcases hk with ⟨rfl, h⟩ | ⟨rfl, h, h'⟩ | ⟨rfl, h, h'⟩ | ⟨rfl, h, h'⟩ | ⟨rfl, h, h'⟩ | ⟨rfl, h, h'⟩ | ⟨rfl, h, h'⟩ | ⟨rfl, h, h'⟩ | ⟨rfl, h⟩
  all_goals
    have d1 : decide (c ≤ _) = true := decide_eq_true hle
    go_enter Try.func9, Try.ntmps9
    go_wp2_with (first | (go_at_call 10; refine (hl.out _).mono ?_; rintro e w' ⟨rfl, rfl⟩) | (go_at_call 14; refine (hc.out _).mono ?_; rintro e w' ⟨rfl, rfl⟩) | (go_at_call 16; refine (ha.out _).mono ?_; rintro e w' ⟨rfl, rfl⟩))
    all_goals first
      | (exfalso; omega)
      | (go_ret; exact ⟨rfl, Grown.refl _⟩)

/-! ### THE ROW's STEP: WRITTEN OUT: LEAVE IT -/
set_option maxRecDepth 100000 in
theorem lifted (os : Os) (started : os.Started) (H : Type) (enc : TypeId × Value → H) :
    ReturnsInHanded {} Try.checked os 9 .any (Rows.blocksSquareSpec.pre6 enc Try.prog Try.f9 Rows.blocksSquareRow.domain false) (Rows.blocksSquareSpec.post enc Try.prog Try.f9 false true false false) := by
  refine returnsInHanded_of_change (C := Try.checked) own started (by kernel_rfl) Try.func9
    (ChangeSpec.witness6 (enc := enc) (C := Try.checked) false ⟨#[], #[.int .i64 0], []⟩ 8 (by kernel_rfl) (by kernel_rfl) (by kernel_rfl) (by kernel_rfl)) ?_
  intro W base args ds gs before hval0 hW hcnd _
  have hval : ∀ (j : Nat) t v, Try.f9.params[j]? = some t → args[j]? = some v → Value.okWide Try.prog W .any base t v := hval0
  have hW' := hW
  obtain ⟨p, q, hA0, hV, rfl, hfz, hnd⟩ := hW
  have hA : DataW.TrodAll enc Try.prog W 0 (fun _ => true) true Try.f9.params.toList args.toList ds p := hA0
  rw [Try.params9] at hA hval
  obtain ⟨v0, vs0, d0, ds0, p0, q0, hargs, rfl, rfl, h0, r0⟩ := trodAll_cons hA
  obtain ⟨rfl, rfl, rfl⟩ := trodAll_nil r0
  obtain rfl : args = #[v0] := by cases args; simp_all
  obtain ⟨rfl, rfl⟩ := trodVars_none hV
  obtain ⟨a0, rfl, rfl, rfl, w0⟩ := open_int Try.underlying3 (hval 0 3 v0 rfl rfl) h0
  clear hA0 hval0
  simp only [List.append_nil] at hW'
  refine (walk a0 w0 W).mono fun e W' ⟨he, hg⟩ => ?_
  subst he
  exact ⟨_, rfl, post_of_same (pa := []) (pv := []) hW' (fun _ _ _ => (trodAll_cons_mk (shut_bool Try.underlying4 _) trodAll_mk0)) (fun sp _ => (trodAll_cons_mk (shut_int Try.underlying3 w0) trodAll_mk0)) (fun _ _ => rfl) rfl
    (hg.frame _) hg.2.1 (ok_one (by kernel_rfl) rfl (okWide_bool_mk Try.underlying4 _))⟩

theorem over : Rows.blocksSquareRow.holds Try.pinned (OpenSpec.ofChange Rows.blocksSquareSpec) :=
  OpenClaim.holds_of_wide 9 Try.f9 rfl rfl rfl rfl rfl rfl rfl ⟨rfl, rfl, rfl, rfl, rfl⟩ rfl rfl rfl rfl rfl (by kernel_rfl) Try.func9 (by kernel_rfl)
    (of_decide_eq_true (by kernel_rfl)) (by unfold Func.isWrapper; first | (rw [if_pos (by decide +kernel)]; kernel_rfl) | (rw [if_neg (by decide +kernel)]; exact ⟨rfl, rfl⟩))
    (fun os started H enc _ => lifted os started H enc)

/-- ████ THE STATEMENT ████ -/
theorem proved : Rows.BlocksSquareSaid :=
  over
#print axioms proved
end Go.Proofs.Ytjkbacbofkcipaa.blocksSquare
