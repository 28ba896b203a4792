/- glob: sets of bytes. (A template.) -/
import Derived.Test.YtokocfoeohddfaaGreatDoorPaStr
import Derived.Laws.Bits64b
import Derived.Laws.BitsAllLaws
namespace Go.Proofs.YtokocfoeohddfaaGreatDoor.Pa
open Go.RowKit
set_option linter.unusedVariables false
set_option linter.unusedSimpArgs false
set_option maxRecDepth 100000

/-- the number whose bits are these -/
def bitsN (f : Nat → Bool) : Nat → Nat
  | 0 => 0
  | n + 1 => (if f n then 2 ^ n else 0) + bitsN f n
theorem bitsN_lt (f : Nat → Bool) (n : Nat) : bitsN f n < 2 ^ n := by
  induction n with
  | zero => simp [bitsN]
  | succ n ih => rw [bitsN, Nat.pow_succ]; split <;> omega
theorem bitsN_bit (f : Nat → Bool) (n k : Nat) (h : k < n) : (bitsN f n).testBit k = f k := by
  induction n with
  | zero => omega
  | succ n ih =>
    have hl := bitsN_lt f n
    rw [bitsN]
    by_cases hk : k = n
    · subst hk
      cases hf : f k with
      | true => simp only [if_true]; rw [Nat.testBit_two_pow_add_eq, Nat.testBit_lt_two_pow hl]; rfl
      | false => simp only [Bool.false_eq_true, if_false, Nat.zero_add]; exact Nat.testBit_lt_two_pow hl
    · split
      · rw [Nat.testBit_two_pow_add_gt (by omega)]; exact ih (by omega)
      · rw [Nat.zero_add]; exact ih (by omega)
/-- a word of a set -/
def wd (S : Nat → Bool) (j : Nat) : Nat := bitsN (fun k => S (64 * j + k)) 64
theorem wd_lt (S : Nat → Bool) (j : Nat) : wd S j < 18446744073709551616 := bitsN_lt _ 64
theorem wd_bit (S : Nat → Bool) (j k : Nat) (h : k < 64) : (wd S j).testBit k = S (64 * j + k) := bitsN_bit _ 64 k h
theorem wd_of (S : Nat → Bool) (j x : Nat) (hx : x < 18446744073709551616) (h : ∀ k, k < 64 → x.testBit k = S (64 * j + k)) : x = wd S j := by
  refine Nat.eq_of_testBit_eq fun k => ?_
  rcases Nat.lt_or_ge k 64 with hk | hk
  · rw [h k hk, wd_bit S j k hk]
  · have p : (18446744073709551616 : Nat) ≤ 2 ^ k := by
      have := Nat.pow_le_pow_right (n := 2) (by omega) hk
      exact this
    rw [Nat.testBit_lt_two_pow (by omega), Nat.testBit_lt_two_pow (by have := wd_lt S j; omega)]
def addS (S : Nat → Bool) (c : Nat) : Nat → Bool := fun x => S x || x == c
def dropS (S : Nat → Bool) (c : Nat) : Nat → Bool := fun x => S x && x != c
def turnS (S : Nat → Bool) : Nat → Bool := fun x => !S x
theorem wd_add (S : Nat → Bool) (c : Nat) : (wd S (c / 64) ||| 2 ^ (c % 64)) = wd (addS S c) (c / 64) := by
  refine wd_of _ _ _ ?_ fun k hk => ?_
  · exact Nat.or_lt_two_pow (n := 64) (wd_lt S _) (Nat.pow_lt_pow_right (by omega) (Nat.mod_lt _ (by omega)))
  · rw [Nat.testBit_or, wd_bit S _ k hk, Nat.testBit_two_pow]
    unfold addS
    congr 1
    rw [Bool.eq_iff_iff]
    simp
    omega
theorem wd_add_other (S : Nat → Bool) (c j : Nat) (h : j ≠ c / 64) : wd (addS S c) j = wd S j := by
  refine wd_of _ _ _ (wd_lt _ _) fun k hk => ?_
  rw [wd_bit _ _ k hk]
  unfold addS
  have : (64 * j + k == c) = false := by simp; omega
  rw [this, Bool.or_false]
theorem wd_drop_other (S : Nat → Bool) (c j : Nat) (h : j ≠ c / 64) : wd (dropS S c) j = wd S j := by
  refine wd_of _ _ _ (wd_lt _ _) fun k hk => ?_
  rw [wd_bit _ _ k hk]
  unfold dropS
  have : (64 * j + k != c) = true := by simp; omega
  rw [this, Bool.and_true]
theorem has_bit (x r : Nat) (hx : x < 18446744073709551616) (hr : r < 64) : (bits BinOp.and IntKind.u64 ((x : Int) / 2 ^ r) 1 == 1) = x.testBit r := by
  have e : (x : Int) / 2 ^ r = ((x / 2 ^ r : Nat) : Int) := by simp
  have hd : x / 2 ^ r ≤ x := Nat.div_le_self _ _
  rw [e]
  have := bits_and_u64_nat (x / 2 ^ r) 1 (by omega) (by omega)
  rw [show ((1 : Nat) : Int) = 1 from rfl] at this
  rw [this, Nat.and_one_is_mod, Nat.testBit_eq_decide_div_mod_eq]
  rw [Bool.eq_iff_iff]
  simp
  omega

theorem has_any (g off c x : Nat) (w : World) (hc : c < 256) (hx : x < 18446744073709551616) (hcell : w.cell? ⟨g, off + c / 64, none⟩ = some (.int .u64 (x : Int))) :
    Calls Tryz.prog 67 #[.pointer (some ⟨g, off, none⟩), .int .u8 (c : Int)] w fun e w' => e = .returned (.bool (x.testBit (c % 64))) ∧ w = w' := by
  obtain ⟨q, hq⟩ : ∃ q, q = c / 64 := ⟨_, rfl⟩
  obtain ⟨r, hr⟩ : ∃ r, r = c % 64 := ⟨_, rfl⟩
  rw [← hq] at hcell
  rw [← hr]
  have h1 : (c : Int).tdiv 64 = (q : Int) := by rw [Int.tdiv_eq_ediv_of_nonneg (by omega)]; omega
  have h1b : (c : Int) / 64 = (q : Int) := by omega
  have h2 : (c : Int).tmod 64 = (r : Int) := by rw [Int.tmod_eq_emod_of_nonneg (by omega)]; omega
  have h2b : (c : Int) % 64 = (r : Int) := by omega
  have hq4 : q < 4 := by omega
  have hr64 : r < 64 := by omega
  have hq0 : (0 : Int) ≤ (q : Int) := by omega
  have hq4' : (q : Int) < 4 := by omega
  have HB := Lib.hid (has_bit x r hx hr64)
  clear hq hr
  go_enter Tryz.func67, Tryz.ntmps67
  go_wp2
  go_ret
  exact ⟨by rw [HB.out]; rfl, rfl⟩
end Go.Proofs.YtokocfoeohddfaaGreatDoor.Pa
