/- Plain mathematics for roll: both halves of a rolling sum, modulo 65536. -/
import Derived.Laws.BitsAllLaws
import Derived.Laws.Bits128
import Derived.RowKit
import Derived.Test.YtkppnbehkmpogaaDoorRows
import Derived.WalkKit
import Derived.WalkSpells
import Derived.WalkLawsBesides
import Derived.Lib.Hide
import Derived.Laws.BytesArg
import Derived.Lib.SlBytesConst
namespace Go.Proofs.RollMath
open Go.RowKit
set_option linter.unusedVariables false
set_option maxRecDepth 100000

/-- a sum of two halves, of any numbers -/
def S (x y : Int) : Int := x % 65536 + 65536 * (y % 65536)
theorem S_lo (x y : Int) : S x y % 65536 = x % 65536 := by unfold S; omega
theorem S_hi (x y : Int) : S x y / 65536 = y % 65536 := by unfold S; omega
theorem S_bd (x y : Int) : 0 ≤ S x y ∧ S x y ≤ 4294967295 := by unfold S; omega
theorem S_same (s : Int) (h : 0 ≤ s) (h1 : s ≤ 4294967295) : S (s % 65536) (s / 65536) = s := by unfold S; omega
theorem S_congr {x y x' y' : Int} (hx : x % 65536 = x' % 65536) (hy : y % 65536 = y' % 65536) : S x y = S x' y' := by unfold S; rw [hx, hy]

theorem mul_mod (n k m : Int) : ∃ q, n * k = (n % 65536) * k + 65536 * q := by
  refine ⟨n / 65536 * k, ?_⟩
  have h : n = n % 65536 + 65536 * (n / 65536) := by omega
  have h2 : n * k = (n % 65536 + 65536 * (n / 65536)) * k := by rw [← h]
  rw [h2, Int.add_mul, Int.mul_assoc]
theorem mulmod (n k : Int) : (n * k) % 65536 = ((n % 65536) * k) % 65536 := by
  obtain ⟨q, hq⟩ := mul_mod n k 0
  omega
theorem mulmod' (n k : Int) : (n % 4294967296 * k % 4294967296) % 65536 = (n * k) % 65536 := by
  rw [Int.emod_emod_of_dvd _ (by decide : (65536 : Int) ∣ 4294967296), mulmod, Int.emod_emod_of_dvd _ (by decide : (65536 : Int) ∣ 4294967296), ← mulmod]
theorem tmod_emod (n : Int) : n.tmod 65536 % 65536 = n % 65536 := by
  have h := Int.tmod_def n 65536
  generalize n.tmod 65536 = t at h ⊢
  generalize n.tdiv 65536 = q at h
  omega
theorem tmod_bd (n : Int) : -65535 ≤ n.tmod 65536 ∧ n.tmod 65536 ≤ 65535 := by
  have h1 := Int.tmod_lt_of_pos n (by decide : (0 : Int) < 65536)
  have h2 := Int.lt_tmod_of_pos n (by decide : (0 : Int) < 65536)
  omega
theorem tmulmod (n k : Int) : (n.tmod 65536 * k) % 65536 = (n * k) % 65536 := by
  rw [mulmod, mulmod n, tmod_emod]

def A : List Int → Int
  | [] => 0
  | c :: l => (c + 31) + A l
def B : List Int → Int
  | [] => 0
  | c :: l => ((l.length : Int) + 1) * (c + 31) + B l
theorem A_append (l m : List Int) : A (l ++ m) = A l + A m := by
  induction l with
  | nil => simp [A]
  | cons c l ih => simp only [List.cons_append, A, ih]; omega
theorem B_append (l m : List Int) : B (l ++ m) = B l + B m + m.length * A l := by
  induction l with
  | nil => simp [A, B]
  | cons c l ih =>
    simp only [List.cons_append, A, B, ih, List.length_append]
    rw [Int.mul_add (m.length : Int) (c + 31) (A l), show (((l.length + m.length : Nat) : Int) + 1) = ((l.length : Int) + 1) + (m.length : Int) from by omega, Int.add_mul ((l.length : Int) + 1)]
    omega
theorem A_snoc (l : List Int) (c : Int) : A (l ++ [c]) = A l + (c + 31) := by rw [A_append]; simp [A]
theorem B_snoc (l : List Int) (c : Int) : B (l ++ [c]) = B l + A l + (c + 31) := by rw [B_append]; simp [B]; omega

/-- the rolling sum -/
def sumOf (l : List Int) : Int := S (A l) (B l)
def inS (s c : Int) : Int := S (s % 65536 + (c + 31)) (s / 65536 + (s % 65536 + (c + 31)))
def outS (s n c : Int) : Int := S (s % 65536 - (c + 31)) (s / 65536 - n * (c + 31))
def joinS (a b n : Int) : Int := S (a % 65536 + b % 65536) (a / 65536 + b / 65536 + n * (a % 65536))
theorem sumOf_bd (l : List Int) : 0 ≤ sumOf l ∧ sumOf l ≤ 4294967295 := S_bd _ _
theorem sumOf_nil : sumOf [] = 0 := by decide

theorem in_sum (l : List Int) (c : Int) : inS (sumOf l) c = sumOf (l ++ [c]) := by
  unfold inS sumOf
  rw [S_lo, S_hi, A_snoc, B_snoc]
  apply S_congr <;> omega
theorem out_sum (l : List Int) (c : Int) : outS (sumOf (c :: l)) ((l.length : Int) + 1) c = sumOf l := by
  unfold outS sumOf
  rw [S_lo, S_hi]
  simp only [A, B]
  generalize ((l.length : Int) + 1) * (c + 31) = t
  apply S_congr <;> omega
theorem join_sum (l m : List Int) : joinS (sumOf l) (sumOf m) m.length = sumOf (l ++ m) := by
  unfold joinS sumOf
  rw [S_lo, S_lo, S_hi, S_hi, A_append, B_append]
  have h : ((m.length : Int) * (A l % 65536)) % 65536 = ((m.length : Int) * A l) % 65536 := by
    rw [Int.mul_comm, ← mulmod, Int.mul_comm]
  generalize (m.length : Int) * (A l % 65536) = t at h
  generalize (m.length : Int) * A l = u at h ⊢
  apply S_congr <;> omega
theorem roll_sum (l : List Int) (c d : Int) : inS (outS (sumOf (c :: l)) ((l.length : Int) + 1) c) d = sumOf (l ++ [d]) := by rw [out_sum, in_sum]

theorem join_zero (s n : Int) (h0 : 0 ≤ s) (h1 : s ≤ 4294967295) : joinS 0 s n = s := by
  unfold joinS
  simp only [show (0 : Int) % 65536 = 0 from rfl, show (0 : Int) / 65536 = 0 from rfl, Int.mul_zero, Int.zero_add, Int.add_zero]
  exact S_same s h0 h1
theorem join_none (s : Int) (h0 : 0 ≤ s) (h1 : s ≤ 4294967295) : joinS s 0 0 = s := by
  unfold joinS
  simp only [show (0 : Int) % 65536 = 0 from rfl, show (0 : Int) / 65536 = 0 from rfl, Int.zero_mul, Int.add_zero]
  exact S_same s h0 h1

theorem u32_or_nat (a b : Nat) (ha : a < 4294967296) (hb : b < 4294967296) : bits .or .u32 (a : Int) (b : Int) = ((a ||| b : Nat) : Int) := by
  have h : a ||| b < 4294967296 := Nat.or_lt_two_pow (n := 32) ha hb
  show IntKind.u32.wrap ((BitVec.ofInt 32 (a : Int) ||| BitVec.ofInt 32 (b : Int)).toNat : Int) = _
  rw [BitVec.toNat_or]
  have e : ∀ c : Nat, c < 4294967296 → (BitVec.ofInt 32 (c : Int)).toNat = c := by
    intro c hc
    rw [BitVec.toNat_ofInt]; omega
  rw [e a ha, e b hb, IntKind.wrap_u32]
  omega
theorem u32_and_nat (a b : Nat) (ha : a < 4294967296) (hb : b < 4294967296) : bits .and .u32 (a : Int) (b : Int) = ((a &&& b : Nat) : Int) := by
  have h : a &&& b < 4294967296 := Nat.lt_of_le_of_lt Nat.and_le_left ha
  show IntKind.u32.wrap ((BitVec.ofInt 32 (a : Int) &&& BitVec.ofInt 32 (b : Int)).toNat : Int) = _
  rw [BitVec.toNat_and]
  have e : ∀ c : Nat, c < 4294967296 → (BitVec.ofInt 32 (c : Int)).toNat = c := by
    intro c hc
    rw [BitVec.toNat_ofInt]; omega
  rw [e a ha, e b hb, IntKind.wrap_u32]
  omega
theorem u32_and65535 (x : Int) (h : 0 ≤ x) (h1 : x ≤ 4294967295) : bits .and .u32 x 65535 = x % 65536 := by
  obtain ⟨a, rfl⟩ : ∃ a : Nat, x = (a : Int) := ⟨x.toNat, by omega⟩
  have h2 := u32_and_nat a 65535 (by omega) (by omega)
  rw [show (65535 : Nat) = 2 ^ 16 - 1 from rfl, Nat.and_two_pow_sub_one_eq_mod] at h2
  rw [show (65535 : Int) = ((2 ^ 16 - 1 : Nat) : Int) from rfl, h2]
  omega
theorem u32_join (x y : Int) : bits .or .u32 (x % 65536) (y * 65536 % 4294967296) = S x y := by
  obtain ⟨a, ha⟩ : ∃ a : Nat, x % 65536 = (a : Int) := ⟨(x % 65536).toNat, by omega⟩
  obtain ⟨b, hb⟩ : ∃ b : Nat, y % 65536 = (b : Int) := ⟨(y % 65536).toNat, by omega⟩
  have hy : y * 65536 % 4294967296 = ((2 ^ 16 * b : Nat) : Int) := by omega
  unfold S
  rw [ha, hy, u32_or_nat a (2 ^ 16 * b) (by omega) (by omega), hb, Nat.or_comm, ← Nat.two_pow_add_eq_or_of_lt (by omega : a < 2 ^ 16)]
  omega
end Go.Proofs.RollMath

/- roll's small functions, and the document's. -/
namespace Go.Proofs.YtkppnbehkmpogaaDoor.Roll
open Go.RowKit Go.Proofs.RollMath
set_option linter.unusedVariables false
set_option maxRecDepth 100000

theorem weight_any (c : Int) (w : World) (h0 : 0 ≤ c) (h1 : c ≤ 255) :
    Calls Tryd.prog 58 #[.int .u8 c] w fun e w' => e = .returned (.int .u32 (c + 31)) ∧ w = w' := by
  go_enter Tryd.func58, Tryd.ntmps58
  go_wp2
  go_ret
  exact ⟨rfl, rfl⟩

theorem joined_any (x y : Int) (w : World) (h0 : 0 ≤ x) (h1 : x ≤ 4294967295) (h2 : 0 ≤ y) (h3 : y ≤ 4294967295) :
    Calls Tryd.prog 59 #[.int .u32 x, .int .u32 y] w fun e w' => e = .returned (.int .u32 (S x y)) ∧ w = w' := by
  go_enter Tryd.func59, Tryd.ntmps59
  go_wp2
  go_ret
  refine ⟨?_, rfl⟩
  show Ending.returned (.int .u32 (bits BinOp.or IntKind.u32 (bits BinOp.and IntKind.u32 x 65535) (y * 65536 % 4294967296))) = _
  rw [u32_and65535 x h0 h1, u32_join]

theorem whole_math (x y x' y' : Int) (hx : x' = if x.tmod 65536 < 0 then wrap64 (x.tmod 65536 + 65536) else x.tmod 65536) (hy : y' = if y.tmod 65536 < 0 then wrap64 (y.tmod 65536 + 65536) else y.tmod 65536) :
    (x' % 4294967296 + 65536 * (y' % 4294967296) % 4294967296) % 4294967296 = S x y := by
  have h1 := tmod_bd x
  have h2 := tmod_bd y
  have h3 := tmod_emod x
  have h4 := tmod_emod y
  unfold S
  unfold wrap64 at hx hy
  generalize x.tmod 65536 = a at *
  generalize y.tmod 65536 = b at *
  split at hx <;> split at hy <;> omega

set_option maxHeartbeats 400000 in
theorem whole_any (x y : Int) (w : World) :
    Calls Tryd.prog 65 #[.int .i64 x, .int .i64 y] w fun e w' => e = .returned (.int .u32 (S x y)) ∧ w = w' := by
  by_cases hx : x.tmod 65536 < 0 <;> by_cases hy : y.tmod 65536 < 0
  all_goals
    have HM := Lib.hid (whole_math x y _ _ rfl rfl)
    rw [Hid] at HM
    simp only [hx, hy, if_true, if_false] at HM
    have HM' := Lib.hid HM
    clear HM
    go_enter Tryd.func65, Tryd.ntmps65
    go_wp2
    go_ret
    refine ⟨?_, rfl⟩
    show Ending.returned (.int .u32 _) = _
    rw [← HM'.out] <;> first | rfl | (congr 2 <;> omega)

theorem out_math (s n c t : Int) (h0 : 0 ≤ s) (h1 : s ≤ 4294967295) (h2 : 0 ≤ c) (h3 : c ≤ 255) (ht : t % 65536 = (n * (c + 31)) % 65536) :
    S (s % 65536 - c - 31) (s / 65536 - t) = outS s n c := by
  unfold outS
  generalize n * (c + 31) = u at ht ⊢
  apply S_congr <;> omega

theorem outS_bd (s n c : Int) : 0 ≤ outS s n c ∧ outS s n c ≤ 4294967295 := S_bd _ _

def Oct (l : List Int) : Prop := ∀ c ∈ l, 0 ≤ c ∧ c ≤ 255
theorem Oct.getD {l : List Int} (h : Oct l) (i : Nat) : 0 ≤ l.getD i 0 ∧ l.getD i 0 ≤ 255 := by
  by_cases hi : i < l.length
  · rw [List.getD_eq_getElem?_getD, List.getElem?_eq_getElem hi]; exact h _ (List.getElem_mem hi)
  · rw [List.getD_eq_getElem?_getD, List.getElem?_eq_none (by omega)]; simp
theorem Oct.append {l m : List Int} (h : Oct l) (k : Oct m) : Oct (l ++ m) := by
  intro c hc; rcases List.mem_append.1 hc with h' | h'
  · exact h c h'
  · exact k c h'
theorem Oct.take {l : List Int} (h : Oct l) (n : Nat) : Oct (l.take n) := fun c hc => h c (List.mem_of_mem_take hc)
theorem Oct.drop {l : List Int} (h : Oct l) (n : Nat) : Oct (l.drop n) := fun c hc => h c (List.mem_of_mem_drop hc)

/-- a slice's address and elements, as the walk reads them -/
def Bytes (w : World) (a : Option Addr) (l : List Int) : Prop :=
  Oct l ∧ (l ≠ [] → ∃ b off, a = some ⟨b, off, none⟩ ∧ ∀ i, i < l.length → w.cell? ⟨b, off + i, none⟩ = some (.int .u8 (l.getD i 0)))
theorem Bytes.later {w w' : World} {a : Option Addr} {l : List Int} (h : Bytes w a l) (hb : Below w.heap.size w w') : Bytes w' a l :=
  ⟨h.1, fun hne => by
    obtain ⟨b, off, e, hc⟩ := h.2 hne
    exact ⟨b, off, e, fun i hi => cell_later hb (hc i hi)⟩⟩

theorem take_snoc (l : List Int) (i : Nat) (h : i < l.length) : l.take (i + 1) = l.take i ++ [l.getD i 0] := by
  rw [List.take_succ_eq_append_getElem h, List.getD_eq_getElem?_getD, List.getElem?_eq_getElem h]; rfl

set_option maxHeartbeats 400000 in
theorem of_empty (a : Option Addr) (cap : Nat) (w : World) :
    Calls Tryd.prog 27 #[.slice a 0 cap] w fun e w' => e = .returned (.int .u32 0) ∧ w = w' := by
  go_enter Tryd.func27, Tryd.ntmps27
  go_wp2
  refine wp_loop_rounds 1 ?_
  rw [rounds_succ]
  go_wp2_with (go_at_call 59; refine (joined_any 0 0 _ (by omega) (by omega) (by omega) (by omega)).mono ?_; rintro e w' ⟨rfl, rfl⟩)
  go_ret
  exact ⟨rfl, rfl⟩
set_option maxHeartbeats 400000 in
theorem rof_empty (a : Option Addr) (cap : Nat) (w : World) :
    Calls Tryd.prog 37 #[.slice a 0 cap] w fun e w' => e = .returned (.int .u32 0) ∧ w = w' := by
  go_enter Tryd.func37, Tryd.ntmps37
  go_wp2
  refine wp_loop_rounds 1 ?_
  rw [rounds_succ]
  go_wp2_with (go_at_call 65; refine (whole_any 0 0 _).mono ?_; rintro e w' ⟨rfl, rfl⟩)
  go_ret
  exact ⟨rfl, rfl⟩

set_option maxHeartbeats 1000000 in
theorem of_any (a : Option Addr) (n cap : Nat) (l : List Int) (w : World) (hn : n = l.length) (hn63 : n ≤ 9223372036854775807) (hB : Bytes w a l) :
    Calls Tryd.prog 27 #[.slice a n cap] w fun e w' => e = .returned (.int .u32 (sumOf l)) ∧ w = w' := by
  by_cases hl : l = []
  · subst hl; subst hn; rw [sumOf_nil]; exact of_empty a cap w
  obtain ⟨b, off, rfl, hc⟩ := hB.2 hl
  have HC := Lib.hid hc
  have HN := Lib.hid hn
  have HO := Lib.hid hB.1
  clear hc hn hB hl
  go_enter Tryd.func27, Tryd.ntmps27
  go_wp2
  go_loop [3, 4, 9] (fun r s i => ∃ (k : Nat) (x y : Int), k ≤ n ∧ i = .int .i64 k ∧ r = .int .u32 x ∧ s = .int .u32 y ∧ (0 ≤ x ∧ x ≤ 4294967295) ∧ (0 ≤ y ∧ y ≤ 4294967295) ∧ Hid (x = A (l.take k) % 4294967296 ∧ y = B (l.take k) % 4294967296)) (fun _ _ i => n - (intOf i).toNat)
  case atStart => exact ⟨0, 0, 0, by omega, rfl, rfl, rfl, by omega, by omega, by simp [A], by simp [B]⟩
  case round =>
    obtain ⟨k, x, y, hk, rfl, rfl, rfl, hx, hy, HX⟩ := hrel
    by_cases hlt : k < n
    · have hcell := HC.out k (by have := HN.out; omega)
      have h8 := HO.out.getD k
      obtain ⟨c, hcd⟩ : ∃ c, c = l.getD k 0 := ⟨_, rfl⟩
      rw [← hcd] at hcell h8
      have HCD := Lib.hid hcd
      clear hcd
      go_wp2_with (go_at_call 58; refine (weight_any _ _ h8.1 h8.2).mono ?_; rintro e w' ⟨rfl, rfl⟩)
      go_round
      case rel =>
        refine ⟨k + 1, _, _, by omega, by go_num, rfl, rfl, by omega, by omega, ?_⟩
        have hxy := HX.out
        rw [Hid, take_snoc l k (by have := HN.out; omega), ← HCD.out, A_snoc, B_snoc]
        omega
      case measure => simp [intOf]; omega
    · have hkn : k = n := by omega
      subst hkn
      go_wp2_with (go_at_call 59; refine (joined_any _ _ _ (by omega) (by omega) (by omega) (by omega)).mono ?_; rintro e w' ⟨rfl, rfl⟩)
      go_ret
      refine ⟨?_, rfl⟩
      show Ending.returned (.int .u32 (S x y)) = _
      have hxy := HX.out
      rw [List.take_of_length_le (by have := HN.out; omega)] at hxy
      unfold sumOf
      congr 2
      apply S_congr <;> omega

theorem B_part (l : List Int) (k : Nat) (h : k < l.length) :
    B (l.take k) + ((l.length : Int) - k) * A (l.take k) + ((l.length : Int) - k) * (l.getD k 0 + 31) = B (l.take (k + 1)) + ((l.length : Int) - (k + 1)) * A (l.take (k + 1)) := by
  rw [take_snoc l k h, A_snoc, B_snoc]
  generalize A (l.take k) = x
  generalize l.getD k 0 + 31 = c
  obtain ⟨m, hm⟩ : ∃ m : Int, (l.length : Int) - k = m + 1 := ⟨(l.length : Int) - k - 1, by omega⟩
  rw [show (l.length : Int) - (k + 1) = m from by omega, hm, Int.add_mul, Int.add_mul, Int.mul_add]
  omega

set_option maxHeartbeats 1000000 in
theorem rof_any (a : Option Addr) (n cap : Nat) (l : List Int) (w : World) (hn : n = l.length) (hn63 : n ≤ 9223372036854775807) (hB : Bytes w a l) :
    Calls Tryd.prog 37 #[.slice a n cap] w fun e w' => e = .returned (.int .u32 (sumOf l)) ∧ w = w' := by
  by_cases hl : l = []
  · subst hl; subst hn; rw [sumOf_nil]; exact rof_empty a cap w
  obtain ⟨b, off, rfl, hc⟩ := hB.2 hl
  have HC := Lib.hid hc
  have HN := Lib.hid hn
  have HO := Lib.hid hB.1
  clear hc hn hB hl
  go_enter Tryd.func37, Tryd.ntmps37
  go_wp2
  go_loop [3, 4, 5] (fun r s i => ∃ (k : Nat) (x y : Int), k ≤ n ∧ i = .int .i64 k ∧ r = .int .i64 x ∧ s = .int .i64 y ∧ (0 ≤ x ∧ x ≤ 65535) ∧ (0 ≤ y ∧ y ≤ 65535) ∧ Hid (x = A (l.take k) % 65536 ∧ y = (B (l.take k) + ((l.length : Int) - k) * A (l.take k)) % 65536)) (fun _ _ i => n - (intOf i).toNat)
  case atStart => exact ⟨0, 0, 0, by omega, rfl, rfl, rfl, by omega, by omega, by simp [A], by simp [A, B]⟩
  case round =>
    obtain ⟨k, x, y, hk, rfl, rfl, rfl, hx, hy, HX⟩ := hrel
    by_cases hlt : k < n
    · have hcell := HC.out k (by have := HN.out; omega)
      have h8 := HO.out.getD k
      obtain ⟨c, hcd⟩ : ∃ c, c = l.getD k 0 := ⟨_, rfl⟩
      rw [← hcd] at hcell h8
      have HCD := Lib.hid hcd
      clear hcd
      obtain ⟨t, ht⟩ : ∃ t, t = (((n : Int) - (k : Int)) % 65536) * (c + 31) := ⟨_, rfl⟩
      have htb : 0 ≤ t ∧ t ≤ 18743010 := by
        rw [ht]
        constructor
        · exact Int.mul_nonneg (by omega) (by omega)
        · have h1 := Int.mul_le_mul_of_nonneg_right (by omega : ((n : Int) - (k : Int)) % 65536 ≤ 65535) (by omega : 0 ≤ c + 31); omega
      have hsub : 0 ≤ (n : Int) - k := by omega
      have htm : Int.tmod ((n : Int) - (k : Int)) 65536 = ((n : Int) - (k : Int)) % 65536 := by rw [Int.tmod_eq_emod_of_nonneg hsub]
      have HTM := Lib.hid htm
      clear htm
      go_wp2
      go_round
      case rel =>
        refine ⟨k + 1, (x + c + 31) % 65536, (y + t) % 65536, by omega, by go_num, ?_, ?_, by omega, by omega, ?_⟩
        · rfl
        · rw [ht]
        · have hxy := HX.out
          have hbp := B_part l k (by have := HN.out; omega)
          have hmm := mulmod ((l.length : Int) - k) (c + 31)
          rw [← HN.out, ← ht] at hmm
          rw [← HCD.out, ← HN.out] at hbp
          rw [← HN.out] at hxy
          rw [Hid, ← HN.out, show ((k + 1 : Nat) : Int) = (k : Int) + 1 from by omega, ← hbp, take_snoc l k (by have := HN.out; omega), ← HCD.out, A_snoc]
          generalize ((n : Int) - k) * A (l.take k) = u at *
          generalize ((n : Int) - k) * (c + 31) = v at *
          omega
      case measure => simp [intOf]; omega
    · have hkn : k = n := by omega
      subst hkn
      go_wp2_with (go_at_call 65; refine (whole_any _ _ _).mono ?_; rintro e w' ⟨rfl, rfl⟩)
      go_ret
      refine ⟨?_, rfl⟩
      show Ending.returned (.int .u32 (S x y)) = _
      have hxy := HX.out
      rw [List.take_of_length_le (by have := HN.out; omega)] at hxy
      have hz : (l.length : Int) - k = 0 := by have := HN.out; omega
      rw [hz, Int.zero_mul] at hxy
      unfold sumOf
      congr 2
      apply S_congr <;> omega

instance (l : List Int) : Decidable (Oct l) := by unfold Oct; infer_instance

theorem lit_bytes (w : World) (l : List Int) (fr : Nat × Nat) (ho : Oct l) : Bytes (w.alloc (.cells (l.map (Value.int .u8)).toArray 5 fr)) (some ⟨w.heap.size, 0, none⟩) l := by
  refine ⟨ho, fun _ => ⟨w.heap.size, 0, rfl, fun i hi => ?_⟩⟩
  have hh : (w.alloc (.cells (l.map (Value.int .u8)).toArray 5 fr)).heap[w.heap.size]? = some (.cells (l.map (Value.int .u8)).toArray 5 fr) := by
    show (w.heap.push _)[w.heap.size]? = _
    simp
  simp only [World.cell?, hh, Nat.zero_add]
  rw [List.getElem?_toArray, List.getElem?_map, List.getElem?_eq_getElem hi, List.getD_eq_getElem?_getD, List.getElem?_eq_getElem hi]; rfl

theorem of_lit (w : World) (l : List Int) (n : Nat) (C : Array Value) (fr : Nat × Nat) (x : Int) (hC : C = (l.map (Value.int .u8)).toArray) (hn : n = l.length) (hx : sumOf l = x) (ho : Oct l) (hl : n ≤ 9223372036854775807) :
    Calls Tryd.prog 27 #[.slice (some ⟨w.heap.size, 0, none⟩) n n] (w.alloc (.cells C 5 fr)) fun e w' => e = .returned (.int .u32 x) ∧ Below w.heap.size w w' := by
  subst hC hx
  refine (of_any _ n n l _ hn hl (lit_bytes w l fr ho)).mono ?_
  rintro e w' ⟨rfl, rfl⟩
  exact ⟨rfl, (Below.refl _ _).alloc (Nat.le_refl _) _⟩

end Go.Proofs.YtkppnbehkmpogaaDoor.Roll
