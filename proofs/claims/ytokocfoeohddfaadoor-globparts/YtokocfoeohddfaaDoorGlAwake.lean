/- glob: the law's awake. (A template.) -/
import Derived.Test.YtokocfoeohddfaaDoorGlEsc
namespace Go.Proofs.YtokocfoeohddfaaDoor.Pa
open Go.RowKit
set_option linter.unusedVariables false
set_option linter.unusedSimpArgs false
set_option maxRecDepth 1000000

theorem acc {f : FuncId} {args : Array Value} {R : Ending → Prop} {w : World} (h : ∀ W, Calls Tryd.prog f args W fun e w' => R e ∧ Below W.heap.size W w') : ∀ W, Below w.heap.size w W → Calls Tryd.prog f args W fun e w' => R e ∧ Below w.heap.size w w' :=
  fun W hW => (h W).mono fun e w' ⟨h1, h2⟩ => ⟨h1, hW.trans (h2.mono hW.size)⟩
theorem gm_const (p s : L8) (r : Bool) (h : matchP p s = r) (hp : p.length ≤ 1000) (hs : s.length ≤ 1000) : ∀ W, Calls Tryd.prog 13 #[.string (mk p), .string (mk s)] W fun e w' => e = .returned (.bool r) ∧ Below W.heap.size W w' := fun W => by
  have := gmatch_any p s W (by omega) (by omega)
  rwa [h] at this
theorem gm_raw (p s : L8) (r : Bool) (h : matchP p s = r) (hp : p.length ≤ 1000) (hs : s.length ≤ 1000) (x y : ByteArray) (hx : mk p = x) (hy : mk s = y) : ∀ W, Calls Tryd.prog 13 #[.string x, .string y] W fun e w' => e = .returned (.bool r) ∧ Below W.heap.size W w' := by subst hx hy; exact gm_const p s r h hp hs
set_option maxHeartbeats 4000000 in
theorem awake_gl (w : World) : Calls Tryd.prog 10 #[] w fun e w' => e = .returned (.bool true) ∧ Below w.heap.size w w' := by
  have H1 := Lib.hid (acc (w := w) (gm_raw [97, 42, 99] [97, 98, 98, 99] true (by kernel_rfl) (by decide) (by decide) { data := #[97, 42, 99] } { data := #[97, 98, 98, 99] } rfl rfl))
  have H2 := Lib.hid (acc (w := w) (gm_raw [97, 42, 99] [97, 47, 99] false (by kernel_rfl) (by decide) (by decide) { data := #[97, 42, 99] } { data := #[97, 47, 99] } rfl rfl))
  have H3 := Lib.hid (acc (w := w) (gm_raw [97, 42, 42, 99] [97, 47, 99] true (by kernel_rfl) (by decide) (by decide) { data := #[97, 42, 42, 99] } { data := #[97, 47, 99] } rfl rfl))
  have H4 := Lib.hid (acc (w := w) (gm_raw [91, 33, 97, 45, 99, 93, 120] [100, 120] true (by kernel_rfl) (by decide) (by decide) { data := #[91, 33, 97, 45, 99, 93, 120] } { data := #[100, 120] } rfl rfl))
  have H5 := Lib.hid (acc (w := w) (gm_raw [91, 33, 97, 45, 99, 93, 120] [47, 120] false (by kernel_rfl) (by decide) (by decide) { data := #[91, 33, 97, 45, 99, 93, 120] } { data := #[47, 120] } rfl rfl))
  have H6 : Hid (∀ W, Below w.heap.size w W → Calls Tryd.prog 11 #[.string { data := #[91, 98, 45, 97, 93] }] W fun e w' => e = .returned (.int .i64 5) ∧ Below w.heap.size w w') := acc (w := w) (fun W => by
    have := check_any [91, 98, 45, 97, 93] W (by decide)
    rwa [show readE [91, 98, 45, 97, 93] = 5 from by kernel_rfl] at this)
  have H7 : Hid (∀ W, Below w.heap.size w W → Calls Tryd.prog 19 #[.string { data := #[97, 42] }] W fun e w' => e = .returned (.string { data := #[97, 92, 42] }) ∧ Below w.heap.size w w') := acc (w := w) (fun W => escape_any [97, 42] W (by decide))
  have HB : Hid (Below w.heap.size w w) := Below.refl _ _
  go_enter Tryd.func10, Tryd.ntmps10
  go_wp2_with (first
    | (go_at_call 13; with_reducible refine (H1.out _ HB.out).mono ?_; rintro e w1 ⟨rfl, hb⟩; have HB := Lib.hid hb; clear hb H1)
    | (go_at_call 13; with_reducible refine (H2.out _ HB.out).mono ?_; rintro e w1 ⟨rfl, hb⟩; have HB := Lib.hid hb; clear hb H2)
    | (go_at_call 13; with_reducible refine (H3.out _ HB.out).mono ?_; rintro e w1 ⟨rfl, hb⟩; have HB := Lib.hid hb; clear hb H3)
    | (go_at_call 13; with_reducible refine (H4.out _ HB.out).mono ?_; rintro e w1 ⟨rfl, hb⟩; have HB := Lib.hid hb; clear hb H4)
    | (go_at_call 13; with_reducible refine (H5.out _ HB.out).mono ?_; rintro e w1 ⟨rfl, hb⟩; have HB := Lib.hid hb; clear hb H5)
    | (go_at_call 11; with_reducible refine (H6.out _ HB.out).mono ?_; rintro e w1 ⟨rfl, hb⟩; have HB := Lib.hid hb; clear hb H6)
    | (go_at_call 19; with_reducible refine (H7.out _ HB.out).mono ?_; rintro e w1 ⟨rfl, hb⟩; have HB := Lib.hid hb; clear hb H7))
  go_ret
  exact ⟨rfl, HB.out⟩
end Go.Proofs.YtokocfoeohddfaaDoor.Pa
