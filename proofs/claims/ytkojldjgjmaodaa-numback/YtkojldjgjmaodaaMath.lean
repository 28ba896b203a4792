/- Plain mathematics for num: seven-bit groups, no walk. -/
import Derived.Laws.BitsAllLaws
import Derived.Laws.Bits128
import Derived.RowKit
namespace Go.Proofs.NumMath
open Go.RowKit
set_option linter.unusedVariables false

/-- the number that n groups from place j on make, the lowest first -/
def Hn (f : Nat → Int) (j : Nat) : Nat → Int
  | 0 => 0
  | n + 1 => f j % 128 + 128 * Hn f (j + 1) n

theorem Hn_succ' (f : Nat → Int) (n : Nat) : ∀ j, Hn f j (n + 1) = Hn f j n + (f (j + n) % 128) * 128 ^ n := by
  induction n with
  | zero => intro j; simp [Hn]
  | succ n ih =>
    intro j
    have h := ih (j + 1)
    rw [show Hn f j (n + 1 + 1) = f j % 128 + 128 * Hn f (j + 1) (n + 1) from rfl, h, show Hn f j (n + 1) = f j % 128 + 128 * Hn f (j + 1) n from rfl]
    rw [show j + 1 + n = j + (n + 1) from by omega, Int.pow_succ]
    generalize f (j + (n + 1)) % 128 = x
    generalize (128 : Int) ^ n = y
    rw [Int.mul_add, ← Int.mul_assoc 128 x y, Int.mul_comm 128 x, Int.mul_assoc x 128 y, Int.mul_comm 128 y]
    omega

theorem Hn_bd (f : Nat → Int) (n : Nat) : ∀ j, 0 ≤ Hn f j n ∧ Hn f j n < 128 ^ n := by
  induction n with
  | zero => intro j; simp [Hn]
  | succ n ih =>
    intro j
    have h := ih (j + 1)
    rw [show Hn f j (n + 1) = f j % 128 + 128 * Hn f (j + 1) n from rfl, Int.pow_succ]
    omega

theorem Hn_ge (f : Nat → Int) (n : Nat) : ∀ (j s : Nat), Hn f (s + j) n ≤ Hn f s (j + n) := by
  intro j
  induction j with
  | zero => intro s; simp
  | succ j ih =>
    intro s
    have h := ih (s + 1)
    have hb := (Hn_bd f n (s + 1 + j)).1
    rw [show j + 1 + n = (j + n) + 1 from by omega, show Hn f s ((j + n) + 1) = f s % 128 + 128 * Hn f (s + 1) (j + n) from rfl, show s + (j + 1) = s + 1 + j from by omega]
    omega

theorem Hn_big (f : Nat → Int) (k j : Nat) (hj : j ≤ k) (h : 36028797018963967 < Hn f (j + 1) (k - j)) : 4611686018427387903 < Hn f 0 (k + 1) := by
  have h1 := Hn_ge f (k - j + 1) j 0
  rw [show j + (k - j + 1) = k + 1 from by omega, show Hn f (0 + j) (k - j + 1) = f (0 + j) % 128 + 128 * Hn f (0 + j + 1) (k - j) from rfl, Nat.zero_add] at h1
  omega

theorem pow128 (i : Nat) : (128 : Int) ^ i = ((2 ^ (7 * i) : Nat) : Int) := by
  rw [Nat.pow_mul]; push_cast; rfl

theorem i64_or_nat (a b : Nat) (ha : a < 9223372036854775808) (hb : b < 9223372036854775808) : bits .or .i64 (a : Int) (b : Int) = ((a ||| b : Nat) : Int) := by
  have h : a ||| b < 9223372036854775808 := Nat.or_lt_two_pow (n := 63) ha hb
  show IntKind.i64.wrap ((BitVec.ofInt 64 (a : Int) ||| BitVec.ofInt 64 (b : Int)).toNat : Int) = _
  rw [BitVec.toNat_or, ofInt_u64 a (by omega), ofInt_u64 b (by omega), IntKind.wrap_i64]
  omega

/-- one step of Get: the next group is or'ed in -/
theorem gstep (v c : Int) (i : Nat) (hi : i < 9) (hv : 0 ≤ v) (hv' : v < 128 ^ i) (hc : 0 ≤ c) (hc' : c ≤ 255) :
    bits .or .i64 v (wrap64 (bits .and .i64 c 127 * 2 ^ (7 * i))) = v + (c % 128) * 128 ^ i := by
  rw [i64_and127, pow128] at *
  have e2 : ((2 : Int) ^ (7 * i)) = ((2 ^ (7 * i) : Nat) : Int) := by push_cast; rfl
  rw [e2]
  have hp : (2 : Nat) ^ (7 * i) ≤ 2 ^ 56 := Nat.pow_le_pow_right (by omega) (by omega)
  obtain ⟨d, hd⟩ : ∃ d : Nat, c % 128 = (d : Int) := ⟨(c % 128).toNat, by omega⟩
  have hd1 : d < 128 := by omega
  rw [hd]
  obtain ⟨u, rfl⟩ : ∃ u : Nat, v = (u : Int) := ⟨v.toNat, by omega⟩
  have hm : d * 2 ^ (7 * i) ≤ 127 * 2 ^ 56 := Nat.mul_le_mul (by omega) hp
  have hu : u < 2 ^ (7 * i) := by exact_mod_cast hv'
  have ew : wrap64 ((d : Int) * ((2 ^ (7 * i) : Nat) : Int)) = ((d * 2 ^ (7 * i) : Nat) : Int) := by
    rw [show (d : Int) * ((2 ^ (7 * i) : Nat) : Int) = ((d * 2 ^ (7 * i) : Nat) : Int) from by push_cast; rfl]
    unfold wrap64
    generalize d * 2 ^ (7 * i) = x at hm
    omega
  rw [ew, i64_or_nat u (d * 2 ^ (7 * i)) (by omega) (by omega), Nat.or_comm, nat_join (7 * i) (d * 2 ^ (7 * i)) u (Nat.mul_mod_left _ _) hu]
  push_cast
  omega

/-- how many groups ahead of one below 128 -/
def cnt : List Int → Nat
  | [] => 0
  | c :: r => if 127 < c then cnt r + 1 else 0

theorem cnt_le (l : List Int) : cnt l ≤ l.length := by
  induction l with
  | nil => simp [cnt]
  | cons c r ih => simp only [cnt]; split <;> simp <;> omega

theorem cnt_lt (l : List Int) : ∀ j, j < cnt l → 127 < l.getD j 0 := by
  induction l with
  | nil => simp [cnt]
  | cons c r ih =>
    intro j hj
    simp only [cnt] at hj
    split at hj
    · cases j with
      | zero => simpa
      | succ j => simpa using ih j (by omega)
    · omega

theorem cnt_at (l : List Int) : cnt l < l.length → l.getD (cnt l) 0 ≤ 127 := by
  induction l with
  | nil => simp [cnt]
  | cons c r ih =>
    intro h
    simp only [cnt] at *
    split
    · next hc => rw [if_pos hc] at h; simpa using ih (by simpa using h)
    · simpa using (by omega)

def maxNum : Int := 4611686018427387903

/-- what Get tells: p the place, m how many bytes from there, k how many groups ahead of the last, c that one, v the number -/
def getR (p m k : Nat) (c v : Int) : Int × Int × Int :=
  if 9 ≤ k then (0, 0, 5) else if k = m then (0, 0, 4) else if c = 0 ∧ 0 < k then (0, 0, 5) else if maxNum < v then (0, 0, 7) else (v, (p : Int) + k + 1, 0)

/-- what Get tells of bytes, at a place -/
def G (l : List Int) (at' : Int) : Int × Int × Int :=
  if at' < 0 ∨ (l.length : Int) < at' then (0, 0, 3)
  else getR at'.toNat (l.length - at'.toNat) (cnt (l.drop at'.toNat)) (l.getD (at'.toNat + cnt (l.drop at'.toNat)) 0)
    (Hn (fun j => l.getD (at'.toNat + j) 0) 0 (cnt (l.drop at'.toNat) + 1))

theorem G_bd (l : List Int) (a : Int) (hl : (l.length : Int) ≤ 9223372036854775807) : 0 ≤ (G l a).1 ∧ (G l a).1 ≤ maxNum ∧ 0 ≤ (G l a).2.1 ∧ (G l a).2.1 ≤ l.length ∧ 0 ≤ (G l a).2.2 ∧ (G l a).2.2 ≤ 7 := by
  unfold G
  split
  · simp [maxNum]
  · next h =>
    have hb := (Hn_bd (fun j => l.getD (a.toNat + j) 0) (cnt (l.drop a.toNat) + 1) 0).1
    have hk := cnt_le (l.drop a.toNat)
    rw [List.length_drop] at hk
    generalize hv : Hn (fun j => l.getD (a.toNat + j) 0) 0 (cnt (l.drop a.toNat) + 1) = v at *
    generalize cnt (l.drop a.toNat) = k at *
    generalize l.getD (a.toNat + k) 0 = c
    unfold getR maxNum
    repeat' split
    all_goals simp
    omega
end Go.Proofs.NumMath
