/- The law PathParts. (A template.) -/
import Derived.Test.YteimbdbnipfmkaaPaRParts
import Derived.Test.YteimbdbnipfmkaaPaClean
namespace Go.Proofs.Yteimbdbnipfmkaa.Pa
open Go.RowKit
set_option linter.unusedVariables false
set_option linter.unusedSimpArgs false
set_option maxRecDepth 1000000

set_option maxHeartbeats 16000000 in
theorem pathParts_walk (p : L8) (w : World) (hl : p.length ≤ 1048576) :
    Calls Try.prog 3 #[.string (mk p)] w fun e w' => e = .returned (.bool true) ∧ Below w.heap.size w w' := by
  have HA := Lib.hid (acc (w := w) awake_pa)
  have HB : Hid (Below w.heap.size w w) := Below.refl _ _
  have HR1 := Lib.hid (acc (w := w) (fun W => right_any p W (by omega)))
  have HR2 := Lib.hid (acc (w := w) (fun W => rright_any p W hl))
  have HS1 : Hid (∀ W, Below w.heap.size w W → Calls Try.prog 13 #[.string (mk p)] W fun e w' => ∃ v, e = .returned v ∧ (∃ aa cc, v = .slice aa (parts p).length cc) ∧ Txt w' v (parts p) ∧ Below W.heap.size W w' ∧ Below w.heap.size w w') := by
    intro W hW
    refine (split_any p W (by omega)).mono ?_
    rintro e w' ⟨v, h1, h2, h3⟩
    exact ⟨v, h1, h2.slice, h2.txt, h3, hW.trans (h3.mono hW.size)⟩
  have HS2 : Hid (∀ W, Below w.heap.size w W → Calls Try.prog 14 #[.string (mk p)] W fun e w' => ∃ v, e = .returned v ∧ (∃ aa cc, v = .slice aa (parts p).length cc) ∧ Txt w' v (parts p) ∧ Below W.heap.size W w' ∧ Below w.heap.size w w') := by
    intro W hW
    refine (rsplit_any p W (by omega)).mono ?_
    rintro e w' ⟨v, h1, h2, h3⟩
    exact ⟨v, h1, h2.slice, h2.txt, h3, hW.trans (h3.mono hW.size)⟩
  have hpl := parts_len p
  have HTX : Hid (∀ W v9 v7, Below w.heap.size w W → Txt W v9 (parts p) → Txt W v7 (parts p) → Calls Try.prog 12 #[v9, v7] W fun e w' => e = .returned (.bool true) ∧ Below w.heap.size w w') := by
    intro W v9 v7 hW h9 h7
    have h := texts_any v9 v7 (parts p) (parts p) W h9 h7 (by omega) (by omega)
    rw [decide_eq_true rfl] at h
    exact h.mono fun e w' ⟨h1, h2⟩ => ⟨h1, hW.trans (h2.below.mono hW.size)⟩
  have HB1 := Lib.hid (acc (w := w) (fun W => (base_any p W (by omega)).mono fun e w' ⟨h1, h2⟩ => ⟨h1, h2 ▸ Below.refl _ _⟩))
  have HB2 := Lib.hid (acc (w := w) (fun W => rbase_any p W hl))
  have HP1 := Lib.hid (acc (w := w) (fun W => (parent_any p W (by omega)).mono fun e w' ⟨h1, h2⟩ => ⟨h1, h2 ▸ Below.refl _ _⟩))
  have HP2 := Lib.hid (acc (w := w) (fun W => rparent_any p W hl))
  have HD1 := Lib.hid (acc (w := w) (fun W => (depth_any p W (by omega)).mono fun e w' ⟨h1, h2⟩ => ⟨h1, h2 ▸ Below.refl _ _⟩))
  have HD2 := Lib.hid (acc (w := w) (fun W => rdepth_any p W hl))
  have q1 : ((mk (baseL p)).toList == (mk (baseL p)).toList) = true := eqTT rfl
  have q2 : ((mk (parentL p)).toList == (mk (parentL p)).toList) = true := eqTT rfl
  generalize rightB p = rb at *
  generalize baseL p = bl at *
  generalize parentL p = pl at *
  generalize depth p = dp at *
  have q3 : (rb == rb) = true := by simp
  clear hpl
  go_enter Try.func3, Try.ntmps3
  go_wp2_with (first
    | (go_at_call 10; refine (HR1.out _ HB.out).mono ?_; rintro e w1 ⟨rfl, hb⟩; have HB := Lib.hid hb; clear hb)
    | (go_at_call 11; refine (HR2.out _ HB.out).mono ?_; rintro e w1 ⟨rfl, hb⟩; have HB := Lib.hid hb; clear hb)
    | (go_at_call 13; refine (HS1.out _ HB.out).mono ?_; rintro e w2 ⟨v2, rfl, ⟨a2, c2, e2⟩, ht, hb1, hb⟩; have HT0 := Lib.hid ht; have HB := Lib.hid hb; clear ht hb1 hb; subst e2)
    | (go_at_call 14; refine (HS2.out _ HB.out).mono ?_; rintro e w3 ⟨v3, rfl, ⟨a3, c3, e3⟩, ht, hb1, hb⟩; have HT1 := Lib.hid (HT0.out.later hb1); have HT2 := Lib.hid ht; have HB := Lib.hid hb; clear ht hb1 hb; subst e3)
    | (go_at_call 12; refine (HTX.out _ _ _ HB.out HT1.out HT2.out).mono ?_; rintro e w6 ⟨rfl, hb⟩; have HB := Lib.hid hb; clear hb)
    | (go_at_call 15; refine (HB1.out _ HB.out).mono ?_; rintro e w1 ⟨rfl, hb⟩; have HB := Lib.hid hb; clear hb)
    | (go_at_call 16; refine (HB2.out _ HB.out).mono ?_; rintro e w1 ⟨rfl, hb⟩; have HB := Lib.hid hb; clear hb)
    | (go_at_call 17; refine (HP1.out _ HB.out).mono ?_; rintro e w1 ⟨rfl, hb⟩; have HB := Lib.hid hb; clear hb)
    | (go_at_call 18; refine (HP2.out _ HB.out).mono ?_; rintro e w1 ⟨rfl, hb⟩; have HB := Lib.hid hb; clear hb)
    | (go_at_call 19; refine (HD1.out _ HB.out).mono ?_; rintro e w1 ⟨rfl, hb⟩; have HB := Lib.hid hb; clear hb)
    | (go_at_call 20; refine (HD2.out _ HB.out).mono ?_; rintro e w1 ⟨rfl, hb⟩; have HB := Lib.hid hb; clear hb)
    | (go_at_call 21; refine (HA.out _ HB.out).mono ?_; rintro e w4 ⟨rfl, hb⟩; have HB := Lib.hid hb; clear hb))
  go_ret
  exact ⟨rfl, HB.out⟩
end Go.Proofs.Yteimbdbnipfmkaa.Pa
