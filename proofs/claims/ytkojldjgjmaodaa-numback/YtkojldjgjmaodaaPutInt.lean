/- num.PutInt; what is put with a sign is got with it. -/
import Derived.Test.YtkojldjgjmaodaaEnc
import Derived.Test.YtkojldjgjmaodaaInt
namespace Go.Proofs.Ytkojldjgjmaodaa
open Go.RowKit Go.Proofs.NumMath
set_option linter.unusedVariables false

/-- a number with a sign within its bounds -/
def clamp (n : Int) : Int := min (max n (-2305843009213693952)) 2305843009213693951
/-- .. as one without -/
def zig (n : Int) : Nat := (if clamp n < 0 then 2 * (-clamp n - 1) + 1 else 2 * clamp n).toNat
theorem zig_le (n : Int) : zig n ≤ 4611686018427387903 := by unfold zig clamp; split <;> omega
theorem GI_zig (n i : Int) : GI ((zig n : Nat), i, 0) = (clamp n, i, 0) := by
  unfold GI zig
  have hc : -2305843009213693952 ≤ clamp n ∧ clamp n ≤ 2305843009213693951 := by unfold clamp; omega
  generalize clamp n = c at *
  simp only [if_true]
  by_cases h : c < 0
  · rw [if_pos h]
    rw [if_pos (by omega)]
    congr 1; omega
  · rw [if_neg h, if_neg (by omega)]
    congr 1; omega

set_option maxHeartbeats 400000 in
theorem putint_of (v : Value) (n : Int) (w : World) (Q : Value → World → Prop)
    (hP : ∀ k : Int, heldN k = zig n → Calls Try.prog 11 #[v, .int .i64 k] w fun e w' => ∃ u, e = .returned u ∧ Q u w') :
    Calls Try.prog 13 #[v, .int .i64 n] w fun e w' => ∃ u, e = .returned u ∧ Q u w' := by
  by_cases h1 : n < -2305843009213693952
  · have HP := Lib.hid (hP 4611686018427387903 (by unfold heldN zig clamp; split <;> omega))
    clear hP
    go_enter Try.func13, Try.ntmps13
    go_wp2_with fail
    refine HP.out.mono ?_
    rintro e w1 ⟨u, rfl, hq⟩
    go_wp2
    go_ret
    exact ⟨_, rfl, hq⟩
  · by_cases h2 : 2305843009213693951 < n
    · have HP := Lib.hid (hP 4611686018427387902 (by unfold heldN zig clamp; split <;> omega))
      clear hP
      go_enter Try.func13, Try.ntmps13
      go_wp2_with fail
      refine HP.out.mono ?_
      rintro e w1 ⟨u, rfl, hq⟩
      go_wp2
      go_ret
      exact ⟨_, rfl, hq⟩
    · by_cases h3 : n < 0
      · have HP := Lib.hid (hP (2 * (-n - 1) + 1) (by unfold heldN zig clamp; split <;> omega))
        clear hP
        go_enter Try.func13, Try.ntmps13
        go_wp2_with fail
        refine HP.out.mono ?_
        rintro e w1 ⟨u, rfl, hq⟩
        go_wp2
        go_ret
        exact ⟨_, rfl, hq⟩
      · have HP := Lib.hid (hP (2 * n) (by unfold heldN zig clamp; split <;> omega))
        clear hP
        go_enter Try.func13, Try.ntmps13
        go_wp2_with fail
        refine HP.out.mono ?_
        rintro e w1 ⟨u, rfl, hq⟩
        go_wp2
        go_ret
        exact ⟨_, rfl, hq⟩

theorem putint_any (a : Option Addr) (cap : Nat) (l : List Int) (n : Int) (w : World) (hB : Bytes w a l) (hl : l.length + 9 ≤ 140737488355328) :
    Calls Try.prog 13 #[.slice a l.length cap, .int .i64 n] w fun e w' => ∃ v, e = .returned v ∧ Own w' w.heap.size v (l ++ encR (zig n)) ∧ Below w.heap.size w w' := by
  refine putint_of _ n w (fun v w' => Own w' w.heap.size v (l ++ encR (zig n)) ∧ Below w.heap.size w w') (fun k hk => ?_)
  rw [← hk]
  exact put_any a cap l k w hB hl
end Go.Proofs.Ytkojldjgjmaodaa
