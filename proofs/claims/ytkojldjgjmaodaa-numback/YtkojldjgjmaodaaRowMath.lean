/- Plain mathematics for num.groups: the row of groups, bit by bit. -/
import Derived.Test.YtkojldjgjmaodaaMath
namespace Go.Proofs.NumMath
open Go.RowKit
set_option linter.unusedVariables false

def rowF (m k j : Nat) : Nat := (m % 2 ^ k) / 2 ^ (7 * j) % 128

def sizeN (x : Nat) : Nat := if h : x < 128 then 1 else sizeN (x / 128) + 1
termination_by x
decreasing_by omega

theorem rowF_zero (m j : Nat) : rowF m 0 j = 0 := by simp [rowF, Nat.mod_one]

theorem mod_bit0 (m k : Nat) (h : m / 2 ^ k % 2 = 0) : m % 2 ^ (k + 1) = m % 2 ^ k := by
  rw [Nat.mod_pow_succ, h]; simp
theorem mod_bit1 (m k : Nat) (h : m / 2 ^ k % 2 = 1) : m % 2 ^ (k + 1) = m % 2 ^ k + 2 ^ k := by
  rw [Nat.mod_pow_succ, h]; simp

theorem rowF_same (m k j : Nat) (h : m / 2 ^ k % 2 = 0) : rowF m (k + 1) j = rowF m k j := by
  unfold rowF; rw [mod_bit0 m k h]

theorem rowF_lt (m k : Nat) : rowF m k (k / 7) < 2 ^ (k % 7) := by
  unfold rowF
  have hx : m % 2 ^ k < 2 ^ k := Nat.mod_lt _ (Nat.two_pow_pos k)
  have e : 2 ^ k = 2 ^ (7 * (k / 7)) * 2 ^ (k % 7) := by rw [← Nat.pow_add]; congr 1; omega
  have h1 : m % 2 ^ k / 2 ^ (7 * (k / 7)) < 2 ^ (k % 7) := by
    rw [Nat.div_lt_iff_lt_mul (Nat.two_pow_pos _), Nat.mul_comm, ← e]; exact hx
  exact Nat.lt_of_le_of_lt (Nat.mod_le _ _) h1

theorem rowF_bit (m k j : Nat) (h : m / 2 ^ k % 2 = 1) : rowF m (k + 1) j = if j = k / 7 then rowF m k j + 2 ^ (k % 7) else rowF m k j := by
  have hx : m % 2 ^ k < 2 ^ k := Nat.mod_lt _ (Nat.two_pow_pos k)
  have hl := rowF_lt m k
  unfold rowF at *
  rw [mod_bit1 m k h]
  split
  · next hj =>
    subst hj
    have e : 2 ^ k = 2 ^ (7 * (k / 7)) * 2 ^ (k % 7) := by rw [← Nat.pow_add]; congr 1; omega
    have hr : 2 ^ (k % 7) ≤ 2 ^ 6 := Nat.pow_le_pow_right (by omega) (by omega)
    have h1 : m % 2 ^ k / 2 ^ (7 * (k / 7)) < 2 ^ (k % 7) := by
      rw [Nat.div_lt_iff_lt_mul (Nat.two_pow_pos _), Nat.mul_comm, ← e]; exact hx
    have h2 : (m % 2 ^ k + 2 ^ k) / 2 ^ (7 * (k / 7)) = m % 2 ^ k / 2 ^ (7 * (k / 7)) + 2 ^ (k % 7) := by
      have := Nat.add_mul_div_left (m % 2 ^ k) (2 ^ (k % 7)) (Nat.two_pow_pos (7 * (k / 7)))
      rw [← e] at this
      exact this
    rw [h2]
    omega
  · next hj =>
    by_cases hlt : j < k / 7
    · have e : 2 ^ k = 2 ^ (7 * j) * (128 * 2 ^ (k - 7 * j - 7)) := by
        rw [show 128 = 2 ^ 7 from rfl, ← Nat.pow_add, ← Nat.pow_add]; congr 1; omega
      have h2 := Nat.add_mul_div_left (m % 2 ^ k) (128 * 2 ^ (k - 7 * j - 7)) (Nat.two_pow_pos (7 * j))
      rw [← e] at h2
      rw [h2]
      omega
    · have hk : 2 ^ (k + 1) ≤ 2 ^ (7 * j) := Nat.pow_le_pow_right (by omega) (by omega)
      rw [Nat.pow_succ] at hk
      rw [Nat.div_eq_of_lt (by omega), Nat.div_eq_of_lt (by omega)]

theorem rowF_u8 (m k j : Nat) : rowF m k j < 128 := Nat.mod_lt _ (by omega)

theorem sizeN_pow (j : Nat) : ∀ x, (j = 0 ∨ 2 ^ (7 * j) ≤ x) → x < 2 ^ (7 * (j + 1)) → sizeN x = j + 1 := by
  induction j with
  | zero => intro x _ h; rw [sizeN, dif_pos (by simpa using h)]
  | succ j ih =>
    intro x h1 h2
    have h1 : 2 ^ (7 * (j + 1)) ≤ x := by rcases h1 with h | h; omega; exact h
    have e1 : 2 ^ (7 * (j + 1)) = 2 ^ (7 * j) * 128 := by rw [Nat.mul_succ, Nat.pow_add]
    have e2 : 2 ^ (7 * (j + 1 + 1)) = 2 ^ (7 * (j + 1)) * 128 := by rw [Nat.mul_succ, Nat.pow_add]
    have hp := Nat.two_pow_pos (7 * j)
    rw [sizeN, dif_neg (by omega), ih (x / 128) (.inr (by omega)) (by omega)]

theorem size_bit (m k : Nat) (h : m / 2 ^ k % 2 = 1) : sizeN (m % 2 ^ (k + 1)) = k / 7 + 1 := by
  have hx : m % 2 ^ k < 2 ^ k := Nat.mod_lt _ (Nat.two_pow_pos k)
  rw [mod_bit1 m k h]
  refine sizeN_pow (k / 7) _ (.inr ?_) ?_
  · have : 2 ^ (7 * (k / 7)) ≤ 2 ^ k := Nat.pow_le_pow_right (by omega) (by omega)
    omega
  · have : 2 ^ (k + 1) ≤ 2 ^ (7 * (k / 7 + 1)) := Nat.pow_le_pow_right (by omega) (by omega)
    rw [Nat.pow_succ] at this
    omega
theorem size_same (m k : Nat) (h : m / 2 ^ k % 2 = 0) : sizeN (m % 2 ^ (k + 1)) = sizeN (m % 2 ^ k) := by
  rw [mod_bit0 m k h]
theorem size_zero (m : Nat) : sizeN (m % 2 ^ 0) = 1 := by rw [Nat.pow_zero, Nat.mod_one, sizeN]; simp

theorem sizeN_le : ∀ (j x : Nat), x < 2 ^ (7 * (j + 1)) → sizeN x ≤ j + 1 := by
  intro j
  induction j with
  | zero => intro x h; rw [sizeN, dif_pos (by simpa using h)]; omega
  | succ j ih =>
    intro x h
    rw [sizeN]
    split
    · omega
    · have e2 : 2 ^ (7 * (j + 1 + 1)) = 2 ^ (7 * (j + 1)) * 128 := by rw [Nat.mul_succ, Nat.pow_add]
      have := ih (x / 128) (by omega)
      omega
theorem sizeN_pos (x : Nat) : 1 ≤ sizeN x := by rw [sizeN]; split <;> omega
theorem sizeN_mono (x : Nat) : ∀ y, x ≤ y → sizeN x ≤ sizeN y := by
  induction x using Nat.strongRecOn with
  | _ x ih =>
    intro y h
    rw [sizeN]
    split
    · exact sizeN_pos y
    · rw [sizeN.eq_def y, dif_neg (by omega)]
      have := ih (x / 128) (by omega) (y / 128) (by omega)
      omega

theorem i64_and1 (x : Nat) (hx : x < 9223372036854775808) : bits .and .i64 (x : Int) 1 = ((x % 2 : Nat) : Int) := by
  have h1 : (BitVec.ofInt 64 1).toNat = 2 ^ 1 - 1 := by decide
  show IntKind.i64.wrap ((BitVec.ofInt 64 (x : Int) &&& BitVec.ofInt 64 1).toNat : Int) = _
  rw [BitVec.toNat_and, ofInt_u64 x (by omega), h1, Nat.and_two_pow_sub_one_eq_mod, IntKind.wrap_i64]
  omega

theorem bit_test (m k : Nat) (hm : m ≤ 4611686018427387903) : bits .and .i64 ((m : Int) / 2 ^ k) 1 = ((m / 2 ^ k % 2 : Nat) : Int) := by
  have e : ((m : Int) / 2 ^ k) = ((m / 2 ^ k : Nat) : Int) := by push_cast; rfl
  have := Nat.div_le_self m (2 ^ k)
  rw [e, i64_and1 _ (by omega)]

theorem u8_put (r k : Nat) (hr : r < 2 ^ (k % 7)) : bits .or .u8 (r : Int) (2 ^ (k % 7)) = ((r + 2 ^ (k % 7) : Nat) : Int) := by
  have h6 : 2 ^ (k % 7) ≤ 2 ^ 6 := Nat.pow_le_pow_right (by omega) (by omega)
  have e : ((2 : Int) ^ (k % 7)) = ((2 ^ (k % 7) : Nat) : Int) := by push_cast; rfl
  rw [e, u8_or_nat r (2 ^ (k % 7)) (by omega) (by omega), Nat.or_comm, nat_join (k % 7) (2 ^ (k % 7)) r (Nat.mod_self _) hr, Nat.add_comm]
end Go.Proofs.NumMath
