/- glob: the byte that stands for itself at a place, in the program and in the document. (A template.) -/
import Derived.Test.YtokocfoeohddfaaGreatDoorPaStr
namespace Go.Proofs.YtokocfoeohddfaaGreatDoor.Pa
open Go.RowKit
set_option linter.unusedVariables false
set_option linter.unusedSimpArgs false
set_option maxRecDepth 100000

/-- where the byte lies that is read at a place -/
def rbAt (l : L8) (a : Nat) : Nat := if a < l.length ∧ bt l a = 92 then a + 1 else a
def rb (l : L8) (a : Nat) : Int × Int × Bool := if rbAt l a < l.length then (bt l (rbAt l a), (rbAt l a : Int) + 1, true) else (0, 0, false)
theorem rb_esc {l : L8} {a : Nat} (h1 : a < l.length) (h2 : bt l a = 92) : rb l a = if a + 1 < l.length then (bt l (a + 1), (a : Int) + 1 + 1, true) else (0, 0, false) := by
  have e : rbAt l a = a + 1 := if_pos ⟨h1, h2⟩
  unfold rb
  rw [e]
  congr 1
theorem rb_own {l : L8} {a : Nat} (h1 : a < l.length) (h2 : ¬ bt l a = 92) : rb l a = (bt l a, (a : Int) + 1, true) := by
  have e : rbAt l a = a := if_neg (fun h => h2 h.2)
  unfold rb
  rw [e, if_pos h1]
theorem rb_end {l : L8} {a : Nat} (h1 : ¬ a < l.length) : rb l a = (0, 0, false) := by
  have e : rbAt l a = a := if_neg (fun h => h1 h.1)
  unfold rb
  rw [e, if_neg h1]
theorem readByte_any (l : L8) (a : Nat) (w : World) (ha : a ≤ l.length) (hl : l.length ≤ 4611686018427387904) :
    Calls Tryz.prog 76 #[.string (mk l), .int .i64 (a : Int)] w fun e w' => e = .returned (.tuple #[.int .u8 (rb l a).1, .int .i64 (rb l a).2.1, .bool (rb l a).2.2]) ∧ w = w' := by
  have hs : (mk l).size = l.length := mk_size l
  have HS := Lib.hid hs
  obtain ⟨R, hR⟩ : ∃ R, R = rb l a := ⟨_, rfl⟩
  rw [← hR]
  have HR := Lib.hid hR
  have hsb : (mk l).size ≤ 4611686018427387904 := by omega
  clear hR
  by_cases h1 : a < l.length
  · have hI1 : (a : Int) < ((mk l).size : Int) := by omega
    have hI1' : ¬ ((mk l).size : Int) ≤ (a : Int) := by omega
    have hx := run_at l a h1
    by_cases h2 : bt l a = 92
    · have HR2 : Hid (R = if a + 1 < l.length then (bt l (a + 1), (a : Int) + 1 + 1, true) else (0, 0, false)) := by
        show _ = _; rw [HR.out, rb_esc h1 h2]
      rw [h2] at hx
      have hw1 : IntKind.i64.wrap ((a : Int) + 1) = (a : Int) + 1 := IntWalk.i64_in _ (by omega)
      by_cases h3 : a + 1 < l.length
      · have hx2 := run_at l (a + 1) h3
        have hb := bt_bounds l (a + 1)
        have HR3 : Hid (R = (bt l (a + 1), (a : Int) + 1 + 1, true)) := by show _ = _; rw [HR2.out, if_pos h3]
        rw [show ((a + 1 : Nat) : Int) = (a : Int) + 1 from by omega] at hx2
        have hI3 : ¬ ((mk l).size : Int) ≤ (a : Int) + 1 := by omega
        have hw2 : IntKind.i64.wrap ((a : Int) + 1 + 1) = (a : Int) + 1 + 1 := IntWalk.i64_in _ (by omega)
        generalize bt l (a + 1) = c at *
        clear h1 h2 h3 hb hs HR HR2
        go_enter Tryz.func76, Tryz.ntmps76
        go_wp2
        go_ret3
        exact ⟨by rw [HR3.out]; rfl, rfl⟩
      · have HR3 : Hid (R = (0, 0, false)) := by show _ = _; rw [HR2.out, if_neg h3]
        have hI3 : ((mk l).size : Int) ≤ (a : Int) + 1 := by omega
        clear h1 h2 h3 hs HR HR2
        go_enter Tryz.func76, Tryz.ntmps76
        go_wp2
        go_ret3
        exact ⟨by rw [HR3.out]; rfl, rfl⟩
    · have HR3 : Hid (R = (bt l a, (a : Int) + 1, true)) := by show _ = _; rw [HR.out, rb_own h1 h2]
      have hq : (bt l a == 92) = false := by simpa using h2
      have hw1 : IntKind.i64.wrap ((a : Int) + 1) = (a : Int) + 1 := IntWalk.i64_in _ (by omega)
      generalize bt l a = c at *
      clear h1 hs HR
      go_enter Tryz.func76, Tryz.ntmps76
      go_wp2
      go_ret3
      exact ⟨by rw [HR3.out]; rfl, rfl⟩
  · have HR3 : Hid (R = (0, 0, false)) := by show _ = _; rw [HR.out, rb_end h1]
    have hI1 : ¬ (a : Int) < ((mk l).size : Int) := by omega
    have hI1' : ((mk l).size : Int) ≤ (a : Int) := by omega
    clear h1 hs HR
    go_enter Tryz.func76, Tryz.ntmps76
    go_wp2
    go_ret3
    exact ⟨by rw [HR3.out]; rfl, rfl⟩
theorem rmember_any (l : L8) (a : Nat) (w : World) (ha : a ≤ l.length) (hl : l.length ≤ 4611686018427387904) :
    Calls Tryz.prog 68 #[.string (mk l), .int .i64 (a : Int)] w fun e w' => e = .returned (.tuple #[.int .u8 (rb l a).1, .int .i64 (rb l a).2.1, .bool (rb l a).2.2]) ∧ w = w' := by
  have hs : (mk l).size = l.length := mk_size l
  have HS := Lib.hid hs
  obtain ⟨R, hR⟩ : ∃ R, R = rb l a := ⟨_, rfl⟩
  rw [← hR]
  have HR := Lib.hid hR
  have hsb : (mk l).size ≤ 4611686018427387904 := by omega
  clear hR
  by_cases h1 : a < l.length
  · have hI1 : (a : Int) < ((mk l).size : Int) := by omega
    have hI1' : ¬ ((mk l).size : Int) ≤ (a : Int) := by omega
    have hx := run_at l a h1
    by_cases h2 : bt l a = 92
    · have HR2 : Hid (R = if a + 1 < l.length then (bt l (a + 1), (a : Int) + 1 + 1, true) else (0, 0, false)) := by
        show _ = _; rw [HR.out, rb_esc h1 h2]
      rw [h2] at hx
      have hw1 : IntKind.i64.wrap ((a : Int) + 1) = (a : Int) + 1 := IntWalk.i64_in _ (by omega)
      by_cases h3 : a + 1 < l.length
      · have hx2 := run_at l (a + 1) h3
        have hb := bt_bounds l (a + 1)
        have HR3 : Hid (R = (bt l (a + 1), (a : Int) + 1 + 1, true)) := by show _ = _; rw [HR2.out, if_pos h3]
        rw [show ((a + 1 : Nat) : Int) = (a : Int) + 1 from by omega] at hx2
        have hI3 : ¬ ((mk l).size : Int) ≤ (a : Int) + 1 := by omega
        have hw2 : IntKind.i64.wrap ((a : Int) + 1 + 1) = (a : Int) + 1 + 1 := IntWalk.i64_in _ (by omega)
        generalize bt l (a + 1) = c at *
        clear h1 h2 h3 hb hs HR HR2
        go_enter Tryz.func68, Tryz.ntmps68
        go_wp2
        go_ret3
        exact ⟨by rw [HR3.out]; rfl, rfl⟩
      · have HR3 : Hid (R = (0, 0, false)) := by show _ = _; rw [HR2.out, if_neg h3]
        have hI3 : ((mk l).size : Int) ≤ (a : Int) + 1 := by omega
        clear h1 h2 h3 hs HR HR2
        go_enter Tryz.func68, Tryz.ntmps68
        go_wp2
        go_ret3
        exact ⟨by rw [HR3.out]; rfl, rfl⟩
    · have HR3 : Hid (R = (bt l a, (a : Int) + 1, true)) := by show _ = _; rw [HR.out, rb_own h1 h2]
      have hq : (bt l a == 92) = false := by simpa using h2
      have hw1 : IntKind.i64.wrap ((a : Int) + 1) = (a : Int) + 1 := IntWalk.i64_in _ (by omega)
      generalize bt l a = c at *
      clear h1 hs HR
      go_enter Tryz.func68, Tryz.ntmps68
      go_wp2
      go_ret3
      exact ⟨by rw [HR3.out]; rfl, rfl⟩
  · have HR3 : Hid (R = (0, 0, false)) := by show _ = _; rw [HR.out, rb_end h1]
    have hI1 : ¬ (a : Int) < ((mk l).size : Int) := by omega
    have hI1' : ((mk l).size : Int) ≤ (a : Int) := by omega
    clear h1 hs HR
    go_enter Tryz.func68, Tryz.ntmps68
    go_wp2
    go_ret3
    exact ⟨by rw [HR3.out]; rfl, rfl⟩
end Go.Proofs.YtokocfoeohddfaaGreatDoor.Pa
