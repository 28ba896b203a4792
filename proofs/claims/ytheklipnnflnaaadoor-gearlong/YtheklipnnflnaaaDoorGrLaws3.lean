/- gear: the law GearLong. (A template: seatgen.py fills it.) -/
import Derived.Test.YtheklipnnflnaaaDoorGrPieces
import Derived.Test.YtheklipnnflnaaaDoorGrLaws
namespace Go.Proofs.YtheklipnnflnaaaDoor.Gear
open Go.RowKit Go.Proofs.GearMath
set_option linter.unusedVariables false
set_option maxRecDepth 1000000

theorem make_b (w : World) (n : Nat) (x : Int) (hx : x = (n : Int)) (hn : n ≤ 200000) : ∃ cs, (Instr.makeSlice 33 (.int .i64 x) (.int .i64 x)).run Tryd.prog w = .ok (.slice (some ⟨w.heap.size, 0, none⟩) n n) (w.alloc (.cells cs 5)) := by
  subst hx
  obtain ⟨i0, hi0, hz0, hz1, hzz⟩ := info_parts Tryd.infoB
  have hmk := run_make (P := Tryd.prog) w 33 5 i0 (.int .u8 0) Tryd.underlying33 hi0 hz0 .i64 .i64 n n (by omega) (by omega) (by rw [hzz]; omega) (by omega)
  rw [hz1] at hmk
  simp only [Int.toNat_natCast] at hmk
  exact ⟨_, hmk⟩

set_option maxHeartbeats 4000000 in
theorem gearLong_walk (c L M B : Int) (w : World) (hT : Tab w) (h0 : 0 ≤ c) (h1 : c ≤ 255) :
    Calls Tryd.prog 6 #[.int .u8 c, P3 L M B] w fun e w' => e = .returned (.bool true) ∧ Below w.heap.size w w' := by
  obtain ⟨w1, hw1⟩ : ∃ w1, w1 = w.alloc (Obj.cells #[.int .i64 L, .int .i64 M, .int .i64 B] 23) := ⟨_, rfl⟩
  obtain ⟨f0, f1, f2⟩ := three_at hw1
  have hb1 : Below w.heap.size w w1 := by rw [hw1]; exact (Below.refl _ _).alloc (Nat.le_refl _) _
  obtain ⟨n, hn⟩ : ∃ n : Nat, 65537 + c = (n : Int) := ⟨(65537 + c).toNat, by omega⟩
  obtain ⟨cs, hmk⟩ := make_b w1 n (65537 + c) hn (by omega)
  obtain ⟨w2, hw2⟩ : ∃ w2, w2 = w1.alloc (.cells cs 5) := ⟨_, rfl⟩
  have hb2 : Below w1.heap.size w1 w2 := by rw [hw2]; exact (Below.refl _ _).alloc (Nat.le_refl _) _
  rw [← hw2] at hmk
  have hnz : mc L M B n ≠ 0 := by
    unfold mc
    split
    · rw [if_neg (by omega)]; decide
    · decide
  have HOF := Lib.hid (fun W => of_any L M B W)
  have HCU := Lib.hid (fun W => cuts_no (some ⟨w1.heap.size, 0, none⟩) n n L M B W (by omega) hnz)
  have HPI := Lib.hid (fun W => pieces_no (some ⟨w1.heap.size, 0, none⟩) n n L M B W (by omega) hnz)
  have HRK := Lib.hid (fun W => rcheck_any L M B W)
  have HAW := Lib.hid (fun W (hb : Below w.heap.size w W) => awake_any W (hT.later hb))
  have hcase : (mc L M B n = 7 ∧ chk L M B = 0) ∨ (mc L M B n = 2 ∧ chk L M B = 2) := by
    unfold mc chk
    split
    · rw [if_neg (by omega)]; exact .inl ⟨rfl, rfl⟩
    · exact .inr ⟨rfl, rfl⟩
  have HB2 : Hid (Below w.heap.size w w2) := hb1.trans (hb2.mono hb1.size)
  have g0 := cell_later hb2 f0
  have g1 := cell_later hb2 f1
  have g2 := cell_later hb2 f2
  have hww : IntKind.i64.wrap (65537 + c) = 65537 + c := by rw [IntKind.wrap_i64]; omega
  generalize mc L M B n = r at *
  generalize chk L M B = k at *
  clear hT hb1 hb2 hnz f0 f1 f2 hw2 hn
  unfold P3 at *
  rcases hcase with ⟨rfl, rfl⟩ | ⟨rfl, rfl⟩
  all_goals
    (go_enter Tryd.func6, Tryd.ntmps6
     go_wp2_with fail
     rw [← hw1]
     clear hw1
     rw [hmk]
     clear hmk
     go_wp2_with fail
     refine (HOF.out _).mono ?_
     rintro e w3 ⟨rfl, hb3⟩
     have HB3 : Hid (Below w.heap.size w w3) := HB2.out.trans (hb3.mono HB2.out.size)
     have f0 := cell_later hb3 g0
     have f1 := cell_later hb3 g1
     have f2 := cell_later hb3 g2
     clear hb3 g0 g1 g2
     go_wp2_with fail
     refine (HCU.out _).mono ?_
     rintro e w4 ⟨rfl, hb4⟩
     have HB4 : Hid (Below w.heap.size w w4) := HB3.out.trans (hb4.mono HB3.out.size)
     have g0 := cell_later hb4 f0
     have g1 := cell_later hb4 f1
     have g2 := cell_later hb4 f2
     clear hb4 f0 f1 f2
     go_wp2_with fail
     refine (HOF.out _).mono ?_
     rintro e w5 ⟨rfl, hb5⟩
     have HB5 : Hid (Below w.heap.size w w5) := HB4.out.trans (hb5.mono HB4.out.size)
     have f0 := cell_later hb5 g0
     have f1 := cell_later hb5 g1
     have f2 := cell_later hb5 g2
     clear hb5 g0 g1 g2
     go_wp2_with fail
     refine (HPI.out _).mono ?_
     rintro e w6 ⟨rfl, hb6⟩
     have HB6 : Hid (Below w.heap.size w w6) := HB5.out.trans (hb6.mono HB5.out.size)
     have g0 := cell_later hb6 f0
     have g1 := cell_later hb6 f1
     have g2 := cell_later hb6 f2
     clear hb6 f0 f1 f2
     go_wp2_with fail
     refine (HRK.out _).mono ?_
     rintro e w7 ⟨rfl, hb7⟩
     have HB7 : Hid (Below w.heap.size w w7) := HB6.out.trans (hb7.mono HB6.out.size)
     clear hb7 g0 g1 g2
     go_wp2_with fail
     refine (HAW.out _ HB7.out).mono ?_
     rintro e w9 ⟨rfl, hb9⟩
     go_wp2
     go_ret
     exact ⟨rfl, HB7.out.trans (hb9.mono HB7.out.size)⟩)
end Go.Proofs.YtheklipnnflnaaaDoor.Gear
