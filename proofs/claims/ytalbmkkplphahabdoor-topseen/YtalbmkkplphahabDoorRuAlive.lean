/- rules: alive08 of TopSeen. (A template.) -/
import Derived.Test.YtalbmkkplphahabDoorRuAwake
namespace Go.Proofs.YtalbmkkplphahabDoor.Pa
open Go.RowKit
set_option linter.unusedVariables false
set_option linter.unusedSimpArgs false
set_option maxRecDepth 1000000

def RL8 : List Ru := [⟨2, [120], true, false⟩, ⟨1, [42], false, false⟩]
theorem m1 : linesR [45, 32, 120, 47, 10, 43, 32, 42, 10] = (RL8, 0, 0) := by kernel_rfl
theorem m2 : hiddenB RL8 [120, 47, 97] false = true := by kernel_rfl
theorem m3 : hiddenB RL8 [121, 47, 97] false = false := by kernel_rfl
theorem m4 : hiddenB RL8 [120] false = false := by kernel_rfl
theorem lightRL8 : LightR RL8 := lightOf (by decide) (by decide)
set_option maxHeartbeats 8000000 in
theorem alive_any (w : World) : Calls Tryd.prog 28 #[] w fun e w' => e = .returned (.bool true) ∧ Below w.heap.size w w' := by
  have HLN : Hid (∀ W, Calls Tryd.prog 12 #[.string { data := #[45, 32, 120, 47, 10, 43, 32, 42, 10] }] W fun e w' => ∃ a c, e = .returned (.tuple #[.slice a 2 c, .int .i64 0, .int .i64 0]) ∧ RuAt w' (.slice a 2 c) RL8 ∧ Below W.heap.size W w') := fun W => by
    have := lines_any [45, 32, 120, 47, 10, 43, 32, 42, 10] W (by decide)
    rw [m1] at this
    refine Calls.mono this ?_
    rintro e w' ⟨v, h1, h2, h3⟩
    obtain ⟨a, c, rfl⟩ := h2.slice
    exact ⟨a, c, h1, h2.at, h3⟩
  have hid : ∀ (p : L8) (r : Bool), hiddenB RL8 p false = r → p.length ≤ 1000 → ∀ v W, RuAt W v RL8 ∧ Below w.heap.size w W → Calls Tryd.prog 20 #[v, .string (mk p), .bool false] W fun e w' => e = .returned (.bool r) ∧ (RuAt w' v RL8 ∧ Below w.heap.size w w') := by
    intro p r h hp v W hw
    have := hidden_any RL8 v p false W hw.1 lightRL8 (by omega)
    rw [h] at this
    exact this.mono fun e w' ⟨h1, h2⟩ => ⟨h1, hw.1.later h2, hw.2.trans (h2.mono hw.2.size)⟩
  have H1 : Hid (∀ v W, RuAt W v RL8 ∧ Below w.heap.size w W → Calls Tryd.prog 20 #[v, .string { data := #[120, 47, 97] }, .bool false] W fun e w' => e = .returned (.bool true) ∧ (RuAt w' v RL8 ∧ Below w.heap.size w w')) := hid [120, 47, 97] _ m2 (by decide)
  have H2 : Hid (∀ v W, RuAt W v RL8 ∧ Below w.heap.size w W → Calls Tryd.prog 20 #[v, .string { data := #[121, 47, 97] }, .bool false] W fun e w' => e = .returned (.bool false) ∧ (RuAt w' v RL8 ∧ Below w.heap.size w w')) := hid [121, 47, 97] _ m3 (by decide)
  have H3 : Hid (∀ v W, RuAt W v RL8 ∧ Below w.heap.size w W → Calls Tryd.prog 20 #[v, .string { data := #[120] }, .bool false] W fun e w' => e = .returned (.bool false) ∧ (RuAt w' v RL8 ∧ Below w.heap.size w w')) := hid [120] _ m4 (by decide)
  clear hid
  go_enter Tryd.func28, Tryd.ntmps28
  go_wp2_with (first
    | (go_at_call 12; with_reducible refine (HLN.out _).mono ?_; rintro e w3 ⟨a, c, rfl, hl, hb⟩; have HK := Lib.hid (And.intro hl hb); clear hb hl)
    | (go_at_call 20; with_reducible refine (H1.out _ _ HK.out).mono ?_; rintro e w4 ⟨rfl, hk⟩; have HK := Lib.hid hk; clear hk H1)
    | (go_at_call 20; with_reducible refine (H2.out _ _ HK.out).mono ?_; rintro e w5 ⟨rfl, hk⟩; have HK := Lib.hid hk; clear hk H2)
    | (go_at_call 20; with_reducible refine (H3.out _ _ HK.out).mono ?_; rintro e w6 ⟨rfl, hk⟩; have HK := Lib.hid hk; clear hk H3))
  go_ret
  exact ⟨rfl, HK.out.2⟩
end Go.Proofs.YtalbmkkplphahabDoor.Pa
