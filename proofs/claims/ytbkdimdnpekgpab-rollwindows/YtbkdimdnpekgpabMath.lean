/- Plain mathematics for roll: both halves of a rolling sum, modulo 65536. -/
import Derived.Laws.BitsAllLaws
import Derived.Laws.Bits128
import Derived.RowKit
namespace Go.Proofs.RollMath
open Go.RowKit
set_option linter.unusedVariables false

/-- a sum of two halves, of any numbers -/
def S (x y : Int) : Int := x % 65536 + 65536 * (y % 65536)
theorem S_lo (x y : Int) : S x y % 65536 = x % 65536 := by unfold S; omega
theorem S_hi (x y : Int) : S x y / 65536 = y % 65536 := by unfold S; omega
theorem S_bd (x y : Int) : 0 ≤ S x y ∧ S x y ≤ 4294967295 := by unfold S; omega
theorem S_same (s : Int) (h : 0 ≤ s) (h1 : s ≤ 4294967295) : S (s % 65536) (s / 65536) = s := by unfold S; omega
theorem S_congr {x y x' y' : Int} (hx : x % 65536 = x' % 65536) (hy : y % 65536 = y' % 65536) : S x y = S x' y' := by unfold S; rw [hx, hy]

theorem mul_mod (n k m : Int) : ∃ q, n * k = (n % 65536) * k + 65536 * q := by
  refine ⟨n / 65536 * k, ?_⟩
  have h : n = n % 65536 + 65536 * (n / 65536) := by omega
  have h2 : n * k = (n % 65536 + 65536 * (n / 65536)) * k := by rw [← h]
  rw [h2, Int.add_mul, Int.mul_assoc]
theorem mulmod (n k : Int) : (n * k) % 65536 = ((n % 65536) * k) % 65536 := by
  obtain ⟨q, hq⟩ := mul_mod n k 0
  omega
theorem mulmod' (n k : Int) : (n % 4294967296 * k % 4294967296) % 65536 = (n * k) % 65536 := by
  rw [Int.emod_emod_of_dvd _ (by decide : (65536 : Int) ∣ 4294967296), mulmod, Int.emod_emod_of_dvd _ (by decide : (65536 : Int) ∣ 4294967296), ← mulmod]
theorem tmod_emod (n : Int) : n.tmod 65536 % 65536 = n % 65536 := by
  have h := Int.tmod_def n 65536
  generalize n.tmod 65536 = t at h ⊢
  generalize n.tdiv 65536 = q at h
  omega
theorem tmod_bd (n : Int) : -65535 ≤ n.tmod 65536 ∧ n.tmod 65536 ≤ 65535 := by
  have h1 := Int.tmod_lt_of_pos n (by decide : (0 : Int) < 65536)
  have h2 := Int.lt_tmod_of_pos n (by decide : (0 : Int) < 65536)
  omega
theorem tmulmod (n k : Int) : (n.tmod 65536 * k) % 65536 = (n * k) % 65536 := by
  rw [mulmod, mulmod n, tmod_emod]

def A : List Int → Int
  | [] => 0
  | c :: l => (c + 31) + A l
def B : List Int → Int
  | [] => 0
  | c :: l => ((l.length : Int) + 1) * (c + 31) + B l
theorem A_append (l m : List Int) : A (l ++ m) = A l + A m := by
  induction l with
  | nil => simp [A]
  | cons c l ih => simp only [List.cons_append, A, ih]; omega
theorem B_append (l m : List Int) : B (l ++ m) = B l + B m + m.length * A l := by
  induction l with
  | nil => simp [A, B]
  | cons c l ih =>
    simp only [List.cons_append, A, B, ih, List.length_append]
    rw [Int.mul_add (m.length : Int) (c + 31) (A l), show (((l.length + m.length : Nat) : Int) + 1) = ((l.length : Int) + 1) + (m.length : Int) from by omega, Int.add_mul ((l.length : Int) + 1)]
    omega
theorem A_snoc (l : List Int) (c : Int) : A (l ++ [c]) = A l + (c + 31) := by rw [A_append]; simp [A]
theorem B_snoc (l : List Int) (c : Int) : B (l ++ [c]) = B l + A l + (c + 31) := by rw [B_append]; simp [B]; omega

/-- the rolling sum -/
def sumOf (l : List Int) : Int := S (A l) (B l)
def inS (s c : Int) : Int := S (s % 65536 + (c + 31)) (s / 65536 + (s % 65536 + (c + 31)))
def outS (s n c : Int) : Int := S (s % 65536 - (c + 31)) (s / 65536 - n * (c + 31))
def joinS (a b n : Int) : Int := S (a % 65536 + b % 65536) (a / 65536 + b / 65536 + n * (a % 65536))
theorem sumOf_bd (l : List Int) : 0 ≤ sumOf l ∧ sumOf l ≤ 4294967295 := S_bd _ _
theorem sumOf_nil : sumOf [] = 0 := by decide

theorem in_sum (l : List Int) (c : Int) : inS (sumOf l) c = sumOf (l ++ [c]) := by
  unfold inS sumOf
  rw [S_lo, S_hi, A_snoc, B_snoc]
  apply S_congr <;> omega
theorem out_sum (l : List Int) (c : Int) : outS (sumOf (c :: l)) ((l.length : Int) + 1) c = sumOf l := by
  unfold outS sumOf
  rw [S_lo, S_hi]
  simp only [A, B]
  generalize ((l.length : Int) + 1) * (c + 31) = t
  apply S_congr <;> omega
theorem join_sum (l m : List Int) : joinS (sumOf l) (sumOf m) m.length = sumOf (l ++ m) := by
  unfold joinS sumOf
  rw [S_lo, S_lo, S_hi, S_hi, A_append, B_append]
  have h : ((m.length : Int) * (A l % 65536)) % 65536 = ((m.length : Int) * A l) % 65536 := by
    rw [Int.mul_comm, ← mulmod, Int.mul_comm]
  generalize (m.length : Int) * (A l % 65536) = t at h
  generalize (m.length : Int) * A l = u at h ⊢
  apply S_congr <;> omega
theorem roll_sum (l : List Int) (c d : Int) : inS (outS (sumOf (c :: l)) ((l.length : Int) + 1) c) d = sumOf (l ++ [d]) := by rw [out_sum, in_sum]

theorem join_zero (s n : Int) (h0 : 0 ≤ s) (h1 : s ≤ 4294967295) : joinS 0 s n = s := by
  unfold joinS
  simp only [show (0 : Int) % 65536 = 0 from rfl, show (0 : Int) / 65536 = 0 from rfl, Int.mul_zero, Int.zero_add, Int.add_zero]
  exact S_same s h0 h1
theorem join_none (s : Int) (h0 : 0 ≤ s) (h1 : s ≤ 4294967295) : joinS s 0 0 = s := by
  unfold joinS
  simp only [show (0 : Int) % 65536 = 0 from rfl, show (0 : Int) / 65536 = 0 from rfl, Int.zero_mul, Int.add_zero]
  exact S_same s h0 h1

theorem u32_or_nat (a b : Nat) (ha : a < 4294967296) (hb : b < 4294967296) : bits .or .u32 (a : Int) (b : Int) = ((a ||| b : Nat) : Int) := by
  have h : a ||| b < 4294967296 := Nat.or_lt_two_pow (n := 32) ha hb
  show IntKind.u32.wrap ((BitVec.ofInt 32 (a : Int) ||| BitVec.ofInt 32 (b : Int)).toNat : Int) = _
  rw [BitVec.toNat_or]
  have e : ∀ c : Nat, c < 4294967296 → (BitVec.ofInt 32 (c : Int)).toNat = c := by
    intro c hc
    rw [BitVec.toNat_ofInt]; omega
  rw [e a ha, e b hb, IntKind.wrap_u32]
  omega
theorem u32_and_nat (a b : Nat) (ha : a < 4294967296) (hb : b < 4294967296) : bits .and .u32 (a : Int) (b : Int) = ((a &&& b : Nat) : Int) := by
  have h : a &&& b < 4294967296 := Nat.lt_of_le_of_lt Nat.and_le_left ha
  show IntKind.u32.wrap ((BitVec.ofInt 32 (a : Int) &&& BitVec.ofInt 32 (b : Int)).toNat : Int) = _
  rw [BitVec.toNat_and]
  have e : ∀ c : Nat, c < 4294967296 → (BitVec.ofInt 32 (c : Int)).toNat = c := by
    intro c hc
    rw [BitVec.toNat_ofInt]; omega
  rw [e a ha, e b hb, IntKind.wrap_u32]
  omega
theorem u32_and65535 (x : Int) (h : 0 ≤ x) (h1 : x ≤ 4294967295) : bits .and .u32 x 65535 = x % 65536 := by
  obtain ⟨a, rfl⟩ : ∃ a : Nat, x = (a : Int) := ⟨x.toNat, by omega⟩
  have h2 := u32_and_nat a 65535 (by omega) (by omega)
  rw [show (65535 : Nat) = 2 ^ 16 - 1 from rfl, Nat.and_two_pow_sub_one_eq_mod] at h2
  rw [show (65535 : Int) = ((2 ^ 16 - 1 : Nat) : Int) from rfl, h2]
  omega
theorem u32_join (x y : Int) : bits .or .u32 (x % 65536) (y * 65536 % 4294967296) = S x y := by
  obtain ⟨a, ha⟩ : ∃ a : Nat, x % 65536 = (a : Int) := ⟨(x % 65536).toNat, by omega⟩
  obtain ⟨b, hb⟩ : ∃ b : Nat, y % 65536 = (b : Int) := ⟨(y % 65536).toNat, by omega⟩
  have hy : y * 65536 % 4294967296 = ((2 ^ 16 * b : Nat) : Int) := by omega
  unfold S
  rw [ha, hy, u32_or_nat a (2 ^ 16 * b) (by omega) (by omega), hb, Nat.or_comm, ← Nat.two_pow_add_eq_or_of_lt (by omega : a < 2 ^ 16)]
  omega
end Go.Proofs.RollMath
