/- The document's Same, of two that are the same; the document's Of refused. -/
import Derived.Test.YtkppnbehkmpogaaDoorSgCheck
import Derived.BigQuiet
import Derived.Laws.StructEq
namespace Go.Proofs.YtkppnbehkmpogaaDoor
open Go.RowKit Go.Shelf Go.Proofs.BlkMath Go.Proofs.RangeLaw
set_option linter.unusedVariables false
set_option maxRecDepth 100000

set_option maxHeartbeats 4000000 in
theorem rsame_yes (sz blk st : Int) (a a' : Option Addr) (cap cap' n : Nat) (ms : List Mk) (w : World) (hn : n = ms.length) (hM : Marks w a ms) (hM' : Marks w a' ms) (hl : n ≤ 9223372036854775807) :
    Calls Tryd.prog 13 #[sigV sz blk st (.slice a n cap), sigV sz blk st (.slice a' n cap')] w fun e w' => e = .returned (.bool true) ∧ Below w.heap.size w w' := by
  obtain ⟨W0, hW0⟩ : ∃ W0, W0 = (w.alloc (Obj.cells #[Value.int IntKind.i64 sz, Value.int IntKind.i64 blk, Value.int IntKind.i64 st, .slice a n cap] 26)).alloc (Obj.cells #[Value.int IntKind.i64 sz, Value.int IntKind.i64 blk, Value.int IntKind.i64 st, .slice a' n cap'] 26) := ⟨_, rfl⟩
  have hb0 : Below w.heap.size w W0 := by rw [hW0]; exact ((Below.refl _ _).alloc (Nat.le_refl _) _).alloc (by simp) _
  have d3 : W0.cell? ⟨w.heap.size + 1, 3, none⟩ = some (.slice a' n cap') := by
    have := (box4 (w.alloc (Obj.cells #[Value.int IntKind.i64 sz, Value.int IntKind.i64 blk, Value.int IntKind.i64 st, .slice a n cap] 26)) (.int .i64 sz) (.int .i64 blk) (.int .i64 st) (.slice a' n cap') 26).2.2.2
    rw [show (w.alloc (Obj.cells #[Value.int IntKind.i64 sz, Value.int IntKind.i64 blk, Value.int IntKind.i64 st, .slice a n cap] 26)).heap.size = w.heap.size + 1 from by simp] at this
    rw [hW0]; exact this
  have HM := Lib.hid (hM.later hb0)
  have HM' := Lib.hid (hM'.later hb0)
  have HB0 := Lib.hid hb0
  have HN := Lib.hid hn
  have HW0 := Lib.hid hW0
  have HD3 := Lib.hid d3
  unfold sigV
  clear hM hM' hb0 hn hW0 d3
  go_enter Tryd.func13, Tryd.ntmps13
  go_wp2
  rw [← HW0.out]
  go_loopw [38] (fun i wr => ∃ k : Nat, i = .int .i64 k ∧ k ≤ n ∧ Below W0.heap.size W0 wr) (fun i _ => n - (intOf i).toNat)
  case atStart => exact ⟨0, rfl, by omega, Below.refl _ _⟩
  case round =>
    obtain ⟨k, rfl, hk, hbel⟩ := hrel
    by_cases hlt : k < n
    · have hlt2 : (k : Int) < (n : Int) := by omega
      have hkl : k < ms.length := by rw [← HN.out]; exact hlt
      have hne : ms ≠ [] := by intro e; rw [e] at hkl; simp at hkl
      obtain ⟨b, off, ea, hcell⟩ := (HM.out.later hbel).2 hne
      obtain ⟨b', off', ea', hcell'⟩ := (HM'.out.later hbel).2 hne
      subst ea
      subst ea'
      obtain ⟨x0, x1⟩ := hcell k hkl
      obtain ⟨y0, y1⟩ := hcell' k hkl
      generalize (ms.getD k mkD).1 = xk at x0 y0
      generalize (ms.getD k mkD).2 = sk at x1 y1
      have d3 := cell_later hbel HD3.out
      have HBL := Lib.hid hbel
      have hba : ∀ o, Below wr.heap.size wr (wr.alloc o) := fun o => (Below.refl _ _).alloc (Nat.le_refl _) _
      have z0 : ∀ o, (wr.alloc o).cell? ⟨b', off' + k * 2, none⟩ = some (.int .u32 xk) := fun o => cell_later (hba o) y0
      have z1 : ∀ o, (wr.alloc o).cell? ⟨b', off' + k * 2 + 1, none⟩ = some (.string sk) := fun o => cell_later (hba o) y1
      have z3 : ∀ o, (wr.alloc o).cell? ⟨w.heap.size + 1, 3, none⟩ = some (.slice (some ⟨b', off', none⟩) n cap') := fun o => cell_later (hba o) d3
      have p0 : (0 : Int) ≤ (k : Int) := by omega
      clear hcell hcell' hbel hne y0 y1 d3 HM HM' hba
      go_wp2
      go_quiet (fail)
      have hfin : Below W0.heap.size W0 ((wr.alloc (Obj.cells #[Value.int .u32 xk, Value.string sk] 47)).drewN nq) := by
        have h1 := HBL.out.alloc HBL.out.size (Obj.cells #[Value.int .u32 xk, Value.string sk] 47)
        exact ⟨h1.os, h1.tape, h1.output, h1.size, h1.block⟩
      have HF := Lib.hid hfin
      generalize (wr.alloc (Obj.cells #[Value.int .u32 xk, Value.string sk] 47)).drewN nq = wz at HF ⊢
      clear hfin x0 x1 z0 z1 z3
      go_wp2
      go_roundw
      case rel => exact ⟨k + 1, by go_num, by omega, HF.out⟩
      case measure => simp [intOf]; omega
    · have hkk : ¬ (k : Int) < (n : Int) := by omega
      have HBL := Lib.hid hbel
      clear hbel
      go_wp2
      go_ret
      exact ⟨rfl, HB0.out.trans (HBL.out.mono HB0.out.size)⟩

set_option maxHeartbeats 4000000 in
theorem rof_no (a : Option Addr) (len cap : Nat) (b0 st : Int) (w : World) (h : ¬ ((1 ≤ st ∧ st ≤ 32) ∧ (b0 = 0 ∨ (16 ≤ b0 ∧ b0 ≤ 4096)))) :
    Calls Tryd.prog 12 #[.slice a len cap, .int .i64 b0, .int .i64 st] w fun e w' => e = .returned (.tuple #[sigV 0 0 0 (.slice none 0 0), .int .i64 2]) ∧ Below w.heap.size w w' := by
  have hbel : Below w.heap.size w (w.alloc (.cells #[.int .i64 0, .int .i64 0, .int .i64 0, .slice none 0 0] 26)) := (Below.refl _ _).alloc (Nat.le_refl _) _
  have HB := Lib.hid hbel
  clear hbel
  unfold sigV
  by_cases c1 : st < 1
  · have g1 : decide (st < 1) = true := decide_eq_true c1
    clear h
    go_enter Tryd.func12, Tryd.ntmps12
    go_wp2
    exact bodyPost_ret (v := .tuple #[.agg #[.int .i64 0, .int .i64 0, .int .i64 0, .slice none 0 0], .int .i64 2]) (by simp [results, go_sem]) rfl ⟨rfl, HB.out⟩
  · have g1 : decide (st < 1) = false := decide_eq_false c1
    by_cases c2 : 32 < st
    · have g2 : decide (32 < st) = true := decide_eq_true c2
      clear h
      go_enter Tryd.func12, Tryd.ntmps12
      go_wp2
      exact bodyPost_ret (v := .tuple #[.agg #[.int .i64 0, .int .i64 0, .int .i64 0, .slice none 0 0], .int .i64 2]) (by simp [results, go_sem]) rfl ⟨rfl, HB.out⟩
    · have g2 : decide (32 < st) = false := decide_eq_false c2
      have h3 : b0 ≠ 0 := fun e => h ⟨⟨by omega, by omega⟩, .inl e⟩
      have g3 : (b0 != 0) = true := by simp; exact h3
      by_cases c4 : b0 < 16
      · have g4 : decide (b0 < 16) = true := decide_eq_true c4
        clear h
        go_enter Tryd.func12, Tryd.ntmps12
        go_wp2
        exact bodyPost_ret (v := .tuple #[.agg #[.int .i64 0, .int .i64 0, .int .i64 0, .slice none 0 0], .int .i64 2]) (by simp [results, go_sem]) rfl ⟨rfl, HB.out⟩
      · have g4 : decide (b0 < 16) = false := decide_eq_false c4
        have c5 : 4096 < b0 := by
          rcases Int.lt_or_le 4096 b0 with h' | h'
          · exact h'
          · exact absurd ⟨⟨by omega, by omega⟩, .inr ⟨by omega, h'⟩⟩ h
        have g5 : decide (4096 < b0) = true := decide_eq_true c5
        clear h
        go_enter Tryd.func12, Tryd.ntmps12
        go_wp2
        exact bodyPost_ret (v := .tuple #[.agg #[.int .i64 0, .int .i64 0, .int .i64 0, .slice none 0 0], .int .i64 2]) (by simp [results, go_sem]) rfl ⟨rfl, HB.out⟩
end Go.Proofs.YtkppnbehkmpogaaDoor
