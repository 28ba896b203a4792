/- glob: sets of bytes, turned. (A template.) -/
import Derived.Test.YtokocfoeohddfaaGreatDoorGlSet
import Derived.BigQuiet
import Derived.Deep.RegionWith
import Derived.RegionTactic
import Derived.Deep.RegionHeld3
import Derived.Deep.DeepCutAuto
namespace Go.Proofs.YtokocfoeohddfaaGreatDoor.Pa
open Go.RowKit
set_option linter.unusedVariables false
set_option linter.unusedSimpArgs false
set_option maxRecDepth 100000

theorem pow_wrap (r : Nat) (h : r < 64) : IntKind.u64.wrap ((2 : Int) ^ r) = ((2 ^ r : Nat) : Int) ∧ 2 ^ r < 18446744073709551616 := by
  have hp : 2 ^ r < 18446744073709551616 := by
    have := Nat.pow_lt_pow_right (a := 2) (by omega) h
    exact this
  refine ⟨?_, hp⟩
  rw [show ((2 : Int) ^ r) = ((2 ^ r : Nat) : Int) from by simp, IntKind.wrap_u64]
  generalize (2 : Nat) ^ r = y at *
  omega
theorem wd_drop (S : Nat → Bool) (c : Nat) : (wd S (c / 64) &&& (18446744073709551615 - 2 ^ (c % 64))) = wd (dropS S c) (c / 64) := by
  have hr : c % 64 < 64 := Nat.mod_lt _ (by omega)
  refine wd_of _ _ _ ?_ fun k hk => ?_
  · exact Nat.and_lt_two_pow (n := 64) _ (Nat.lt_of_le_of_lt (Nat.sub_le _ _) (by decide))
  · rw [Nat.testBit_and, wd_bit S _ k hk]
    unfold dropS
    congr 1
    rw [show 18446744073709551615 - 2 ^ (c % 64) = 2 ^ 64 - (2 ^ (c % 64) + 1) from by omega, Nat.testBit_two_pow_sub_succ (by exact (pow_wrap _ hr).2), Nat.testBit_two_pow]
    rw [Bool.eq_iff_iff]
    simp
    omega
theorem add_any (S : Nat → Bool) (g off c : Nat) (w : World) (hc : c < 256) (hcell : w.cell? ⟨g, off + c / 64, none⟩ = some (.int .u64 (wd S (c / 64) : Int))) (hf : w.frozen? ⟨g, off + c / 64, none⟩ = false) :
    Calls Tryz.prog 77 #[.pointer (some ⟨g, off, none⟩), .int .u8 (c : Int)] w fun e w' => e = .returned (.tuple #[]) ∧ w' = (w.setCell ⟨g, off + c / 64, none⟩ (.int .u64 (wd (addS S c) (c / 64) : Int))).drew := by
  have hA := wd_add S c
  have hx := wd_lt S (c / 64)
  obtain ⟨q, hq⟩ : ∃ q, q = c / 64 := ⟨_, rfl⟩
  obtain ⟨r, hr⟩ : ∃ r, r = c % 64 := ⟨_, rfl⟩
  rw [← hq] at hcell hA hf hx ⊢
  rw [← hr] at hA
  have h1 : (c : Int).tdiv 64 = (q : Int) := by rw [Int.tdiv_eq_ediv_of_nonneg (by omega)]; omega
  have h1b : (c : Int) / 64 = (q : Int) := by omega
  have h2 : (c : Int).tmod 64 = (r : Int) := by rw [Int.tmod_eq_emod_of_nonneg (by omega)]; omega
  have h2b : (c : Int) % 64 = (r : Int) := by omega
  have hq4 : q < 4 := by omega
  have hr64 : r < 64 := by omega
  have hq0 : (0 : Int) ≤ (q : Int) := by omega
  have hq4' : (q : Int) < 4 := by omega
  obtain ⟨hp1, hp⟩ := pow_wrap r hr64
  have hB := u64_or_nat (wd S q) (2 ^ r) hx hp
  rw [hA, ← hp1] at hB
  generalize wd (addS S c) q = y at *
  generalize wd S q = x at *
  have HB := Lib.hid hB
  clear hq hr hA hB hp1 hp
  go_enter Tryz.func77, Tryz.ntmps77
  go_wp2
  go_region
  all_goals go_wp2
  all_goals go_end0
  all_goals exact ⟨rfl, by rw [HB.out]⟩
theorem drop_any (S : Nat → Bool) (g off c : Nat) (w : World) (hc : c < 256) (hcell : w.cell? ⟨g, off + c / 64, none⟩ = some (.int .u64 (wd S (c / 64) : Int))) (hf : w.frozen? ⟨g, off + c / 64, none⟩ = false) :
    Calls Tryz.prog 80 #[.pointer (some ⟨g, off, none⟩), .int .u8 (c : Int)] w fun e w' => e = .returned (.tuple #[]) ∧ w' = (w.setCell ⟨g, off + c / 64, none⟩ (.int .u64 (wd (dropS S c) (c / 64) : Int))).drew := by
  have hA := wd_drop S c
  have hx := wd_lt S (c / 64)
  obtain ⟨q, hq⟩ : ∃ q, q = c / 64 := ⟨_, rfl⟩
  obtain ⟨r, hr⟩ : ∃ r, r = c % 64 := ⟨_, rfl⟩
  rw [← hq] at hcell hA hf hx ⊢
  rw [← hr] at hA
  have h1 : (c : Int).tdiv 64 = (q : Int) := by rw [Int.tdiv_eq_ediv_of_nonneg (by omega)]; omega
  have h1b : (c : Int) / 64 = (q : Int) := by omega
  have h2 : (c : Int).tmod 64 = (r : Int) := by rw [Int.tmod_eq_emod_of_nonneg (by omega)]; omega
  have h2b : (c : Int) % 64 = (r : Int) := by omega
  have hq4 : q < 4 := by omega
  have hr64 : r < 64 := by omega
  have hq0 : (0 : Int) ≤ (q : Int) := by omega
  have hq4' : (q : Int) < 4 := by omega
  obtain ⟨hp1, hp⟩ := pow_wrap r hr64
  have hB := u64_andNot_nat (wd S q) (2 ^ r) hx hp
  rw [hA, ← hp1] at hB
  generalize wd (dropS S c) q = y at *
  generalize wd S q = x at *
  have HB := Lib.hid hB
  clear hq hr hA hB hp1 hp
  go_enter Tryz.func80, Tryz.ntmps80
  go_wp2
  go_region
  all_goals go_wp2
  all_goals go_end0
  all_goals exact ⟨rfl, by rw [HB.out]⟩
/-- a set in memory, at a block's place -/
structure SetAt (w : World) (g off : Nat) (S : Nat → Bool) : Prop where
  cell : ∀ j, j < 4 → w.cell? ⟨g, off + j, none⟩ = some (.int .u64 (wd S j : Int))
  soft : ∀ j, j < 4 → w.frozen? ⟨g, off + j, none⟩ = false
/-- nothing but the four words of a set at a block's place has turned -/
structure But4 (g off : Nat) (w w' : World) : Prop where
  os : w'.os = w.os
  tape : w'.tape = w.tape
  output : w'.output = w.output
  size : w'.heap.size = w.heap.size
  block : ∀ k, k ≠ g → w'.heap[k]? = w.heap[k]?
  cell : ∀ i, (i < off ∨ off + 4 ≤ i) → w'.cell? ⟨g, i, none⟩ = w.cell? ⟨g, i, none⟩
  soft : ∀ i, w'.frozen? ⟨g, i, none⟩ = w.frozen? ⟨g, i, none⟩
theorem But4.refl (g off : Nat) (w : World) : But4 g off w w := ⟨rfl, rfl, rfl, rfl, fun _ _ => rfl, fun _ _ => rfl, fun _ => rfl⟩
theorem But4.trans {g off : Nat} {a b c : World} (h : But4 g off a b) (k : But4 g off b c) : But4 g off a c :=
  ⟨k.os.trans h.os, k.tape.trans h.tape, k.output.trans h.output, k.size.trans h.size, fun i hi => (k.block i hi).trans (h.block i hi), fun i hi => (k.cell i hi).trans (h.cell i hi), fun i => (k.soft i).trans (h.soft i)⟩
theorem But4.drew {g off : Nat} {a b : World} (h : But4 g off a b) : But4 g off a b.drew := ⟨h.os, h.tape, h.output, h.size, h.block, h.cell, h.soft⟩
theorem But4.below {g off base : Nat} {a b : World} (h : But4 g off a b) (hb : base ≤ g) : Below base a b :=
  ⟨h.os, h.tape, h.output, by rw [h.size]; exact Nat.le_refl _, fun k hk => h.block k (by omega)⟩
theorem But4.set (w : World) (g off j : Nat) (v : Value) (hj : j < 4) : But4 g off w (w.setCell ⟨g, off + j, none⟩ v) := by
  have hb := (Below.refl 0 w).setCell (p := ⟨g, off + j, none⟩) (Nat.zero_le _) v
  refine ⟨hb.os, hb.tape, hb.output, by simp, fun k hk => Below.heap_setCell w _ v k hk, fun i hi => ?_, fun i => World.frozen?_setCell ..⟩
  apply World.cell?_setCell_other
  intro e
  injection e with _ e2 _
  omega
theorem SetAt.later {w w' : World} {g off base : Nat} {S : Nat → Bool} (h : SetAt w g off S) (hb : Below base w w') (hg : g < base) : SetAt w' g off S :=
  ⟨fun j hj => by rw [hb.cell (p := ⟨g, off + j, none⟩) hg]; exact h.cell j hj, fun j hj => by rw [hb.frozen (p := ⟨g, off + j, none⟩) hg]; exact h.soft j hj⟩
theorem SetAt.drew {w : World} {g off : Nat} {S : Nat → Bool} (h : SetAt w g off S) : SetAt w.drew g off S := ⟨h.cell, h.soft⟩
theorem SetAt.put {w : World} {g off : Nat} {S T : Nat → Bool} (h : SetAt w g off S) (q : Nat) (hq : q < 4) (hT : ∀ j, j ≠ q → wd T j = wd S j) : SetAt (w.setCell ⟨g, off + q, none⟩ (.int .u64 (wd T q : Int))) g off T := by
  refine ⟨fun j hj => ?_, fun j hj => by rw [World.frozen?_setCell]; exact h.soft j hj⟩
  by_cases e : j = q
  · subst e
    exact World.cell?_setCell_same (h := h.cell j hj) ..
  · rw [hT j e, ← h.cell j hj]
    apply World.cell?_setCell_other
    intro x
    injection x with _ e2 _
    omega
theorem add_set (S : Nat → Bool) (g off c : Nat) (w : World) (hc : c < 256) (h : SetAt w g off S) :
    Calls Tryz.prog 77 #[.pointer (some ⟨g, off, none⟩), .int .u8 (c : Int)] w fun e w' => e = .returned (.tuple #[]) ∧ SetAt w' g off (addS S c) ∧ But4 g off w w' := by
  have hq : c / 64 < 4 := by omega
  refine (add_any S g off c w hc (h.cell _ hq) (h.soft _ hq)).mono ?_
  rintro e w' ⟨rfl, rfl⟩
  exact ⟨rfl, (h.put _ hq (fun j hj => wd_add_other S c j hj)).drew, (But4.set w g off _ _ hq).drew⟩
theorem drop_set (S : Nat → Bool) (g off c : Nat) (w : World) (hc : c < 256) (h : SetAt w g off S) :
    Calls Tryz.prog 80 #[.pointer (some ⟨g, off, none⟩), .int .u8 (c : Int)] w fun e w' => e = .returned (.tuple #[]) ∧ SetAt w' g off (dropS S c) ∧ But4 g off w w' := by
  have hq : c / 64 < 4 := by omega
  refine (drop_any S g off c w hc (h.cell _ hq) (h.soft _ hq)).mono ?_
  rintro e w' ⟨rfl, rfl⟩
  exact ⟨rfl, (h.put _ hq (fun j hj => wd_drop_other S c j hj)).drew, (But4.set w g off _ _ hq).drew⟩
theorem has_set (S : Nat → Bool) (g off c : Nat) (w : World) (hc : c < 256) (h : SetAt w g off S) :
    Calls Tryz.prog 67 #[.pointer (some ⟨g, off, none⟩), .int .u8 (c : Int)] w fun e w' => e = .returned (.bool (S c)) ∧ w = w' := by
  have hq : c / 64 < 4 := by omega
  have h1 := has_any g off c (wd S (c / 64)) w hc (wd_lt S _) (h.cell _ hq)
  rwa [wd_bit S _ _ (Nat.mod_lt _ (by omega)), show 64 * (c / 64) + c % 64 = c from by omega] at h1
end Go.Proofs.YtokocfoeohddfaaGreatDoor.Pa
