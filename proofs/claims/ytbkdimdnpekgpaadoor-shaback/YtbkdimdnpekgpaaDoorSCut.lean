/- sha's Cut, and the document's. -/
import Derived.Test.YtbkdimdnpekgpaaDoorSAwake
namespace Go.Proofs.YtbkdimdnpekgpaaDoor
open Go.RowKit Go.Proofs.ShaMath Go.Proofs.CopyW
set_option linter.unusedVariables false

theorem first_str (A : ByteArray) (n : Int) (W : World) (h0 : 0 ≤ n) (h1 : n ≤ 32) (hA : A.size = 32) : (Instr.slice 9 (.string A) none (some (.int .i64 n)) none).run Tryd.prog W = .ok (.string (A.extract 0 n.toNat)) W := by
  have hu := Tryd.underlying9
  simp [go_sem, hu, hA, h0, h1]

theorem cut_no (a : Option Addr) (len cap : Nat) (n : Int) (w : World) (h : ¬ (0 ≤ n ∧ n ≤ 32)) :
    Calls Tryd.prog 10 #[.slice a len cap, .int .i64 n] w fun e w' => e = .returned (.tuple #[.string { data := #[] }, .int .i64 3]) ∧ Below w.heap.size w w' := by
  go_enter Tryd.func10, Tryd.ntmps10
  go_wp2
  all_goals first
    | (exfalso; omega)
    | (go_ret2; exact ⟨rfl, Below.refl _ _⟩)

set_option maxHeartbeats 1000000 in
theorem cut_yes (a : Option Addr) (len cap : Nat) (A : ByteArray) (n : Int) (w : World) (h0 : 0 ≤ n) (h1 : n ≤ 32) (hA : A.size = 32) (H : Calls Tryd.prog 12 #[.slice a len cap] w fun e w' => e = .returned (.string A) ∧ Below w.heap.size w w') :
    Calls Tryd.prog 10 #[.slice a len cap, .int .i64 n] w fun e w' => e = .returned (.tuple #[.string (A.extract 0 n.toNat), .int .i64 0]) ∧ Below w.heap.size w w' := by
  have hr := fun W => first_str A n W h0 h1 hA
  have HH := Lib.hid H
  generalize A.extract 0 n.toNat = B at hr ⊢
  clear H hA
  go_enter Tryd.func10, Tryd.ntmps10
  go_wp2_with (go_at_call 12; refine HH.out.mono ?_; rintro e w1 ⟨rfl, hb1⟩)
  all_goals first
    | (exfalso; omega)
    | (go_ret2; exact ⟨rfl, hb1⟩)

theorem rcut_no (a : Option Addr) (len cap : Nat) (n : Int) (w : World) (h : ¬ (0 ≤ n ∧ n ≤ 32)) :
    Calls Tryd.prog 11 #[.slice a len cap, .int .i64 n] w fun e w' => e = .returned (.tuple #[.string { data := #[] }, .int .i64 3]) ∧ Below w.heap.size w w' := by
  go_enter Tryd.func11, Tryd.ntmps11
  go_wp2
  all_goals first
    | (exfalso; omega)
    | (go_ret2; exact ⟨rfl, Below.refl _ _⟩)

set_option maxHeartbeats 1000000 in
theorem rcut_yes (a : Option Addr) (len cap : Nat) (A : ByteArray) (n : Int) (w : World) (h0 : 0 ≤ n) (h1 : n ≤ 32) (hA : A.size = 32) (H : Calls Tryd.prog 13 #[.slice a len cap] w fun e w' => e = .returned (.string A) ∧ Below w.heap.size w w') :
    Calls Tryd.prog 11 #[.slice a len cap, .int .i64 n] w fun e w' => e = .returned (.tuple #[.string (A.extract 0 n.toNat), .int .i64 0]) ∧ Below w.heap.size w w' := by
  have hr := fun W => first_str A n W h0 h1 hA
  have HH := Lib.hid H
  generalize A.extract 0 n.toNat = B at hr ⊢
  clear H hA
  go_enter Tryd.func11, Tryd.ntmps11
  go_wp2_with (go_at_call 13; refine HH.out.mono ?_; rintro e w1 ⟨rfl, hb1⟩)
  all_goals first
    | (exfalso; omega)
    | (go_ret2; exact ⟨rfl, hb1⟩)


set_option maxHeartbeats 4000000 in
set_option maxRecDepth 1000000 in
theorem sums_walk (a : Option Addr) (len cap : Nat) (m : List Int) (n : Int) (w : World) (hT0 : Tab w 0 Ks) (hT1 : Tab w 1 Ks) (hl : len = m.length) (hB : Bytes w a m) (hnil : a = none → cap = 0) (hcap : len ≤ cap) (hcb : cap ≤ 9223372036854775807) :
    Calls Tryd.prog 3 #[.slice a len cap, .int .i64 n] w fun e w' => e = .returned (.bool true) ∧ Below w.heap.size w w' := by
  have HAW : Hid (∀ W, Below w.heap.size w W → Calls Tryd.prog 9 #[] W fun e w' => e = .returned (.bool true) ∧ Below W.heap.size W w') := fun W hb => awake_any W (hT1.later hb)
  by_cases hbig : 4000 < len
  · clear hB hT0 hT1 hl
    go_enter Tryd.func3, Tryd.ntmps3
    go_wp2_with (go_at_call 9; refine (HAW.out _ (Below.refl _ _)).mono ?_; rintro e w' ⟨rfl, hb⟩)
    go_ret
    exact ⟨rfl, hb⟩
  · have HS : Hid (∀ W, Below w.heap.size w W → Calls Tryd.prog 12 #[.slice a len cap] W fun e w' => e = .returned (.string (strOfNums (sumB Ks m))) ∧ Below W.heap.size W w') := by
      intro W hb
      have h := sumof_walk a cap Ks m W (hB.later hb) (hT1.later hb) hnil (by omega) hcb (by omega)
      rw [← hl] at h
      exact h
    have HR : Hid (∀ W, Below w.heap.size w W → Calls Tryd.prog 13 #[.slice a len cap] W fun e w' => e = .returned (.string (strOfNums (sumB Ks m))) ∧ Below W.heap.size W w') := by
      intro W hb
      exact rsum_walk (.slice a len cap) m Ks W ⟨a, cap, by rw [hl], hB.later hb, hnil, by omega⟩ hB.1 (by omega) (hT0.later hb)
    have hA := sum_size Ks m
    generalize strOfNums (sumB Ks m) = A at HS HR hA
    have HC : ∃ (B : ByteArray) (x : Int), Hid (∀ W, Below w.heap.size w W → Calls Tryd.prog 10 #[.slice a len cap, .int .i64 n] W fun e w' => e = .returned (.tuple #[.string B, .int .i64 x]) ∧ Below W.heap.size W w') ∧ Hid (∀ W, Below w.heap.size w W → Calls Tryd.prog 11 #[.slice a len cap, .int .i64 n] W fun e w' => e = .returned (.tuple #[.string B, .int .i64 x]) ∧ Below W.heap.size W w') := by
      by_cases h : 0 ≤ n ∧ n ≤ 32
      · exact ⟨_, _, fun W hb => cut_yes a len cap A n W h.1 h.2 hA (HS.out W hb), fun W hb => rcut_yes a len cap A n W h.1 h.2 hA (HR.out W hb)⟩
      · exact ⟨_, _, fun W hb => cut_no a len cap n W h, fun W hb => rcut_no a len cap n W h⟩
    obtain ⟨B, x, HC1, HC2⟩ := HC
    clear hB hT0 hT1 hl hnil hcap hcb hA
    go_enter Tryd.func3, Tryd.ntmps3
    go_wp2_with fail
    refine (HC1.out _ (Below.refl _ _)).mono ?_
    rintro e w1 ⟨rfl, hb1⟩
    have B1 := Lib.hid hb1
    clear hb1
    go_wp2_with fail
    refine (HC2.out _ B1.out).mono ?_
    rintro e w2 ⟨rfl, hb2⟩
    have B2 := Lib.hid (B1.out.trans (hb2.mono B1.out.size))
    clear hb2
    go_wp2_with fail
    refine (HS.out _ B2.out).mono ?_
    rintro e w3 ⟨rfl, hb3⟩
    have B3 := Lib.hid (B2.out.trans (hb3.mono B2.out.size))
    clear hb3
    go_wp2_with fail
    refine (HR.out _ B3.out).mono ?_
    rintro e w4 ⟨rfl, hb4⟩
    have B4 := Lib.hid (B3.out.trans (hb4.mono B3.out.size))
    clear hb4
    go_wp2_with fail
    refine (HAW.out _ B4.out).mono ?_
    rintro e w5 ⟨rfl, hb5⟩
    go_wp2
    go_ret
    exact ⟨rfl, B4.out.trans (hb5.mono B4.out.size)⟩
end Go.Proofs.YtbkdimdnpekgpaaDoor
