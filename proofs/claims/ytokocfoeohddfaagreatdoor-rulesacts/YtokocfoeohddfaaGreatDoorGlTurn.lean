/- glob: a set turned. (A template.) -/
import Derived.Test.YtokocfoeohddfaaGreatDoorGlSet2
namespace Go.Proofs.YtokocfoeohddfaaGreatDoor.Pa
open Go.RowKit
set_option linter.unusedVariables false
set_option linter.unusedSimpArgs false
set_option maxRecDepth 100000

theorem wd_turn (S : Nat → Bool) (j : Nat) : (18446744073709551615 ^^^ wd S j) = wd (turnS S) j := by
  refine wd_of _ _ _ (Nat.xor_lt_two_pow (n := 64) (by decide) (wd_lt S j)) fun k hk => ?_
  rw [Nat.testBit_xor, show (18446744073709551615 : Nat) = 2 ^ 64 - 1 from rfl, Nat.testBit_two_pow_sub_one, wd_bit S j k hk]
  unfold turnS
  simp [hk]
/-- a set whose words below k are turned -/
def partS (S : Nat → Bool) (k : Nat) : Nat → Bool := fun x => if x < 64 * k then !S x else S x
theorem wd_part_lo (S : Nat → Bool) (k j : Nat) (h : j < k) : wd (partS S k) j = wd (turnS S) j := by
  refine wd_of _ _ _ (wd_lt _ _) fun i hi => ?_
  rw [wd_bit _ _ i hi]
  unfold partS turnS
  rw [if_pos (by omega)]
theorem wd_part_hi (S : Nat → Bool) (k j : Nat) (h : k ≤ j) : wd (partS S k) j = wd S j := by
  refine wd_of _ _ _ (wd_lt _ _) fun i hi => ?_
  rw [wd_bit _ _ i hi]
  unfold partS
  rw [if_neg (by omega)]
theorem SetAt.same {w : World} {g off : Nat} {S T : Nat → Bool} (h : SetAt w g off S) (e : ∀ x, x < 256 → S x = T x) : SetAt w g off T := by
  refine ⟨fun j hj => ?_, h.soft⟩
  have : wd S j = wd T j := wd_of _ _ _ (wd_lt _ _) fun k hk => by rw [wd_bit _ _ k hk]; exact e _ (by omega)
  rw [← this]; exact h.cell j hj
theorem turn_set (S : Nat → Bool) (g off : Nat) (w : World) (h : SetAt w g off S) :
    Calls Tryz.prog 79 #[.pointer (some ⟨g, off, none⟩)] w fun e w' => e = .returned (.tuple #[]) ∧ SetAt w' g off (turnS S) ∧ But4 g off w w' := by
  have H0 : Hid (SetAt w g off (partS S 0)) := h.same fun x hx => by unfold partS; rw [if_neg (by omega)]
  clear h
  go_enter Tryz.func79, Tryz.ntmps79
  go_wp2
  go_loopw [3] (fun c wr => ∃ k : Nat, c = .int .i64 k ∧ k ≤ 4 ∧ Hid (SetAt wr g off (partS S k)) ∧ Hid (But4 g off w wr)) (fun c _ => 4 - (intOf c).toNat)
  case atStart => exact ⟨0, rfl, by omega, H0, But4.refl _ _ _⟩
  case round =>
    obtain ⟨k, rfl, hk, HS, HB⟩ := hrel
    by_cases hlt : k < 4
    · have hI : (k : Int) < 4 := by omega
      have hI0 : (0 : Int) ≤ (k : Int) := by omega
      have hcell := HS.out.cell k hlt
      have hf := HS.out.soft k hlt
      have hx := wd_lt (partS S k) k
      have hB : bits BinOp.xor IntKind.u64 (if IntKind.u64.signed = true then -1 else IntKind.u64.max) (wd (partS S k) k : Int) = (wd (partS S (k + 1)) k : Int) := by
        rw [show (if IntKind.u64.signed = true then (-1 : Int) else IntKind.u64.max) = ((18446744073709551615 : Nat) : Int) from rfl, u64_xor_nat _ _ (by decide) hx, wd_part_hi S k k (Nat.le_refl _), wd_turn, wd_part_lo S (k + 1) k (by omega)]
      have hT : ∀ j, j ≠ k → wd (partS S (k + 1)) j = wd (partS S k) j := fun j hj => by
        rcases Nat.lt_or_ge j k with h | h
        · rw [wd_part_lo _ _ _ (by omega), wd_part_lo _ _ _ h]
        · rw [wd_part_hi _ _ _ (by omega), wd_part_hi _ _ _ h]
      have HSN := Lib.hid (HS.out.put k hlt hT).drew
      have HBN := Lib.hid (HB.out.trans (But4.set wr g off k (.int .u64 (wd (partS S (k + 1)) k : Int)) hlt).drew)
      rw [← hB] at HSN HBN
      clear hB hT
      generalize wd (partS S k) k = x at *
      clear H0
      go_wp2
      go_region
      go_wp2
      go_roundw
      case rel => exact ⟨k + 1, by go_num, by omega, HSN, HBN⟩
      case measure => simp [intOf]; omega
    · have hI : ¬ (k : Int) < 4 := by omega
      have HF : Hid (SetAt wr g off (turnS S)) := HS.out.same fun x hx => by unfold partS turnS; rw [if_pos (by omega)]
      go_wp2
      go_end0
      exact ⟨rfl, HF.out, HB.out⟩
end Go.Proofs.YtokocfoeohddfaaGreatDoor.Pa
