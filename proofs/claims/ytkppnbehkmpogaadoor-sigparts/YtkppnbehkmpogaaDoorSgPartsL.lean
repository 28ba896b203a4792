/- SigParts, whatever comes in. -/
import Derived.Test.YtkppnbehkmpogaaDoorSgParts
namespace Go.Proofs.YtkppnbehkmpogaaDoor
open Go.RowKit Go.Proofs.BlkMath
set_option linter.unusedVariables false
set_option maxRecDepth 100000

set_option maxHeartbeats 4000000 in
theorem sigParts_walk (a : Option Addr) (len cap : Nat) (l : List Int) (b0 st : Int) (w : World) (hT0 : Crc.Tab w) (hT2 : TabR w Ks) (hl : len = l.length) (hB : Bytes w a l) (hnil : a = none → cap = 0) (hcap : len ≤ cap) :
    Calls Tryd.prog 7 #[.slice a len cap, .int .i64 b0, .int .i64 st] w fun e w' => e = .returned (.bool true) ∧ Below w.heap.size w w' := by
  have haw : ∀ W, Below w.heap.size w W → Calls Tryd.prog 10 #[] W fun e w' => e = .returned (.bool true) ∧ Below W.heap.size W w' := fun W hb => awake_sig Ks W (hT2.later hb) (hT0.later hb)
  by_cases hbig : 1000 < len
  · have HAW := Lib.hid haw
    clear hB hT0 hT2 hl haw
    go_enter Tryd.func7, Tryd.ntmps7
    go_wp2_with (go_at_call 10; refine (HAW.out _ (Below.refl _ _)).mono ?_; rintro e w' ⟨rfl, hb⟩)
    go_ret
    exact ⟨rfl, hb⟩
  · by_cases hok : (1 ≤ st ∧ st ≤ 32) ∧ (b0 = 0 ∨ (16 ≤ b0 ∧ b0 ≤ 4096))
    · exact parts_yes a len cap l b0 st w (by omega) hok hT2 hl hB hnil hcap haw
    · exact parts_no a len cap b0 st w (by omega) hok haw
end Go.Proofs.YtkppnbehkmpogaaDoor
