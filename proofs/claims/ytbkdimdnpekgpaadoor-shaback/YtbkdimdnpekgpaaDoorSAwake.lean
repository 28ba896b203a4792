/- The chapter's examples. -/
import Derived.Test.YtbkdimdnpekgpaaDoorSText
import Derived.Test.YtbkdimdnpekgpaaDoorKnown
namespace Go.Proofs.YtbkdimdnpekgpaaDoor
open Go.RowKit Go.Proofs.ShaMath Go.Proofs.CopyW
set_option linter.unusedVariables false

theorem abc_text : strOfNums (hexL (strL (strOfNums (sumB Ks [97, 98, 99])))) = { data := #[98, 97, 55, 56, 49, 54, 98, 102, 56, 102, 48, 49, 99, 102, 101, 97, 52, 49, 52, 49, 52, 48, 100, 101, 53, 100, 97, 101, 50, 50, 50, 51, 98, 48, 48, 51, 54, 49, 97, 51, 57, 54, 49, 55, 55, 97, 57, 99, 98, 52, 49, 48, 102, 102, 54, 49, 102, 50, 48, 48, 49, 53, 97, 100] } := by
  rw [strL_strOfNums _ (sumB_oct _ _), abc_sum]; rfl
theorem nil_text : strOfNums (hexL (strL (strOfNums (sumB Ks [])))) = { data := #[101, 51, 98, 48, 99, 52, 52, 50, 57, 56, 102, 99, 49, 99, 49, 52, 57, 97, 102, 98, 102, 52, 99, 56, 57, 57, 54, 102, 98, 57, 50, 52, 50, 55, 97, 101, 52, 49, 101, 52, 54, 52, 57, 98, 57, 51, 52, 99, 97, 52, 57, 53, 57, 57, 49, 98, 55, 56, 53, 50, 98, 56, 53, 53] } := by
  rw [strL_strOfNums _ (sumB_oct _ _), nil_sum]; rfl
theorem sum_size (K l : List Int) : (strOfNums (sumB K l)).size = 32 := by rw [strOfNums_size, sumB_length]

set_option maxHeartbeats 4000000 in
set_option maxRecDepth 1000000 in
theorem awake_any (w : World) (hT : Tab w 1 Ks) :
    Calls Tryd.prog 9 #[] w fun e w' => e = .returned (.bool true) ∧ Below w.heap.size w w' := by
  have kc := fun (w : World) (C : Array Value) (n c : Nat) => Lib.run_convert_bytes_const (P := Tryd.prog) w 22 5 C n c Tryd.underlying22 Tryd.underlying5
  have HT := Lib.hid hT
  have HA : Hid (∀ fr : Nat × Nat, Calls Tryd.prog 12 #[.slice (some ⟨w.heap.size, 0, none⟩) 3 3] (w.alloc (.cells #[.int .u8 97, .int .u8 98, .int .u8 99] 5 fr)) fun e w' => e = .returned (.string (strOfNums (sumB Ks [97, 98, 99]))) ∧ Below w.heap.size w w') := by
    intro fr
    have hb : Below w.heap.size w (w.alloc (.cells #[.int .u8 97, .int .u8 98, .int .u8 99] 5 fr)) := (Below.refl _ _).alloc (Nat.le_refl _) _
    have h := sumof_walk (some ⟨w.heap.size, 0, none⟩) 3 Ks [97, 98, 99] (w.alloc (.cells #[.int .u8 97, .int .u8 98, .int .u8 99] 5 fr)) (lit_bytes w [97, 98, 99] fr (by decide)) (hT.later hb) (by simp) (by simp) (by simp) (by simp)
    refine h.mono ?_
    rintro e w' ⟨rfl, hb'⟩
    exact ⟨rfl, hb.trans (hb'.mono hb.size)⟩
  have HN : Hid (∀ W, Below w.heap.size w W → Calls Tryd.prog 12 #[.slice none 0 0] W fun e w' => e = .returned (.string (strOfNums (sumB Ks []))) ∧ Below W.heap.size W w') := by
    intro W hb
    have h := sumof_walk none 0 Ks [] W ⟨by decide, fun h => absurd rfl h⟩ (HT.out.later hb) (by simp) (by simp) (by simp) (by simp)
    exact h
  have s1 := sum_size Ks [97, 98, 99]
  have s2 := sum_size Ks []
  have e1 := abc_text
  have e2 := nil_text
  generalize strOfNums (sumB Ks [97, 98, 99]) = A at *
  generalize strOfNums (sumB Ks []) = B at *
  have HTA : Hid (∀ W, Calls Tryd.prog 16 #[.string A] W fun e w' => e = .returned (.string { data := #[98, 97, 55, 56, 49, 54, 98, 102, 56, 102, 48, 49, 99, 102, 101, 97, 52, 49, 52, 49, 52, 48, 100, 101, 53, 100, 97, 101, 50, 50, 50, 51, 98, 48, 48, 51, 54, 49, 97, 51, 57, 54, 49, 55, 55, 97, 57, 99, 98, 52, 49, 48, 102, 102, 54, 49, 102, 50, 48, 48, 49, 53, 97, 100] }) ∧ Below W.heap.size W w') := by
    intro W; have h := text_walk A W (by rw [s1]; omega); rw [e1] at h; exact h
  have HTB : Hid (∀ W, Calls Tryd.prog 16 #[.string B] W fun e w' => e = .returned (.string { data := #[101, 51, 98, 48, 99, 52, 52, 50, 57, 56, 102, 99, 49, 99, 49, 52, 57, 97, 102, 98, 102, 52, 99, 56, 57, 57, 54, 102, 98, 57, 50, 52, 50, 55, 97, 101, 52, 49, 101, 52, 54, 52, 57, 98, 57, 51, 52, 99, 97, 52, 57, 53, 57, 57, 49, 98, 55, 56, 53, 50, 98, 56, 53, 53] }) ∧ Below W.heap.size W w') := by
    intro W; have h := text_walk B W (by rw [s2]; omega); rw [e2] at h; exact h
  clear s1 s2 e1 e2 hT
  go_enter Tryd.func9, Tryd.ntmps9
  go_wp2_with fail
  refine (HA.out _).mono ?_
  rintro e w1 ⟨rfl, hb1⟩
  go_wp2_with fail
  refine (HTA.out _).mono ?_
  rintro e w2 ⟨rfl, hb2⟩
  have HB2 := Lib.hid (hb1.trans (hb2.mono hb1.size))
  clear hb1 hb2
  go_wp2_with fail
  refine (HN.out _ HB2.out).mono ?_
  rintro e w3 ⟨rfl, hb3⟩
  have HB3 := Lib.hid (HB2.out.trans (hb3.mono HB2.out.size))
  clear hb3
  go_wp2_with fail
  refine (HTB.out _).mono ?_
  rintro e w4 ⟨rfl, hb4⟩
  have HB4 := Lib.hid (HB3.out.trans (hb4.mono HB3.out.size))
  clear hb4
  go_wp2
  go_ret
  exact ⟨rfl, HB4.out⟩
end Go.Proofs.YtbkdimdnpekgpaaDoor
