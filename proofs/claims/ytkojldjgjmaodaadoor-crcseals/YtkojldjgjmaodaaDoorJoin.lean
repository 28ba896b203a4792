/- Products of registers; Join, the program's and the document's. -/
import Derived.Test.YtkojldjgjmaodaaDoorBase
namespace Go.Proofs.YtkojldjgjmaodaaDoor
open Go.RowKit Go.Proofs.CrcMath
set_option linter.unusedVariables false

theorem sh1_odd (w : Nat) (h : w < 2 ^ 32) (h1 : w % 2 = 1) : bits .xor .u32 ((w : Int) / 2) 3988292384 = ((sh1 w : Nat) : Int) := by
  have := u32_xorN (w / 2) poly (by omega) (by decide)
  unfold sh1
  rw [if_pos h1, ← this, show ((w : Int) / 2) = ((w / 2 : Nat) : Int) from by omega]; rfl
theorem sh1_ev (w : Nat) (h1 : ¬ w % 2 = 1) : (w : Int) / 2 = ((sh1 w : Nat) : Int) := by
  unfold sh1; rw [if_neg h1]; omega
theorem u32_and1 (w : Nat) (h : w < 2 ^ 32) : bits .and .u32 (w : Int) 1 = ((w % 2 : Nat) : Int) := by
  have := u32_and_nat w 1 (by omega) (by omega)
  rw [nat_mask1] at this
  exact this

set_option maxHeartbeats 400000 in
theorem shifted_any (v : Nat) (w : World) (hv : v < 2 ^ 32) :
    Calls Tryd.prog 20 #[.int .u32 (v : Int)] w fun e w' => e = .returned (.int .u32 ((sh1 v : Nat) : Int)) ∧ w = w' := by
  have q1 := u32_and1 v hv
  by_cases h1 : v % 2 = 1
  · have q2 := sh1_odd v hv h1
    rw [h1] at q1
    have HV := Lib.hid hv
    clear h1 hv
    go_enter Tryd.func20, Tryd.ntmps20
    go_wp2
    go_ret
    exact ⟨rfl, rfl⟩
  · have q2 := sh1_ev v h1
    rw [show v % 2 = 0 from by omega] at q1
    have HQ := Lib.hid q2
    clear h1 hv q2
    go_enter Tryd.func20, Tryd.ntmps20
    go_wp2
    go_ret
    exact ⟨by show Ending.returned (.int .u32 ((v : Int) / 2)) = _; rw [HQ.out], rfl⟩

set_option maxHeartbeats 400000 in
theorem rshift_any (v n : Nat) (w : World) (hv : v < 2 ^ 32) (hn : n ≤ 1000000) :
    Calls Tryd.prog 17 #[.int .u32 (v : Int), .int .i64 (n : Int)] w fun e w' => e = .returned (.int .u32 ((shN n v : Nat) : Int)) ∧ w = w' := by
  have HV := Lib.hid hv
  clear hv
  go_enter Tryd.func17, Tryd.ntmps17
  go_wp2
  go_loop [0, 5] (fun r i => ∃ k x : Nat, k ≤ n ∧ i = .int .i64 k ∧ r = .int .u32 x ∧ Hid (x = shN k v)) (fun _ i => n - (intOf i).toNat)
  case atStart => exact ⟨0, v, by omega, rfl, rfl, rfl⟩
  case round =>
    obtain ⟨k, x, hk, rfl, rfl, HX⟩ := hrel
    have hx32 : x < 2 ^ 32 := by rw [HX.out]; exact shN_lt k v HV.out
    by_cases hlt : k < n
    · have HS : Hid (sh1 x = shN (k + 1) v) := by show _ = _; rw [shN_succ, ← HX.out]
      by_cases h1 : x % 2 = 1
      · have HQ := Lib.hid (sh1_odd x hx32 h1)
        have h1' : ((x : Int) % 2 == 1) = true := by simp; omega
        clear h1
        go_wp2
        go_round
        case rel => exact ⟨k + 1, sh1 x, by omega, by go_num, by rw [← HQ.out], HS⟩
        case measure => simp [intOf]; omega
      · have HQ := Lib.hid (sh1_ev x h1)
        have h1' : ((x : Int) % 2 == 1) = false := by simp; omega
        clear h1
        go_wp2
        go_round
        case rel => exact ⟨k + 1, sh1 x, by omega, by go_num, by rw [← HQ.out], HS⟩
        case measure => simp [intOf]; omega
    · have hkn : k = n := by omega
      subst hkn
      go_wp2
      go_ret
      exact ⟨by rw [← HX.out]; rfl, rfl⟩

theorem bit_of (a k : Nat) (ha : a < 2 ^ 32) (hk : k ≤ 31) : (bits .and .u32 (a : Int) ((2 ^ k : Nat) : Int) != 0) = decide (a / 2 ^ k % 2 = 1) := by
  have hp : 2 ^ k ≤ 2 ^ 31 := Nat.pow_le_pow_right (by omega) hk
  have hpos := Nat.two_pow_pos k
  rw [u32_and_nat a (2 ^ k) (by omega) (by omega), nat_bit]
  by_cases h : a / 2 ^ k % 2 = 1
  · rw [h, Nat.one_mul]
    have hne : (((2 ^ k : Nat) : Int) != 0) = true := by rw [bne_iff_ne]; omega
    rw [hne]; simp
  · have h0 : a / 2 ^ k % 2 = 0 := by omega
    rw [h0]; simp

set_option maxHeartbeats 1000000 in
theorem times_any (a b : Nat) (w : World) (ha : a < 2 ^ 32) (hb : b < 2 ^ 32) :
    Calls Tryd.prog 18 #[.int .u32 (a : Int), .int .u32 (b : Int)] w fun e w' => e = .returned (.int .u32 ((mul a b : Nat) : Int)) ∧ w = w' := by
  have HA := Lib.hid ha
  have HB := Lib.hid hb
  clear ha hb
  go_enter Tryd.func18, Tryd.ntmps18
  go_wp2
  go_loop [1, 5, 6] (fun s o t => ∃ k x y z : Nat, k ≤ 32 ∧ s = .int .u32 x ∧ o = .int .u32 y ∧ t = .int .u32 z ∧ Hid (x = shN k b) ∧ Hid (y = comb a (fun i => shN i b) k) ∧ Hid (z = 2 ^ 32 / 2 ^ (k + 1)) ∧ z < 4294967296) (fun _ _ t => (intOf t).toNat)
  case atStart => exact ⟨0, b, 0, 2147483648, by omega, rfl, rfl, rfl, rfl, rfl, rfl, by omega⟩
  case round =>
    obtain ⟨k, x, y, z, hk, rfl, rfl, rfl, HX, HY, HZ, hz⟩ := hrel
    have hx32 : x < 2 ^ 32 := by rw [HX.out]; exact shN_lt k b HB.out
    have hy32 : y < 2 ^ 32 := by rw [HY.out]; exact comb_lt a _ k (fun i _ => shN_lt i b HB.out)
    by_cases hlt : k < 32
    · have hzv : z = 2 ^ (31 - k) := by
        rw [HZ.out, show (2 : Nat) ^ 32 = 2 ^ (31 - k) * 2 ^ (k + 1) from by rw [← Nat.pow_add]; congr 1; omega, Nat.mul_div_cancel _ (Nat.two_pow_pos _)]
      have hzpos : 0 < z := by rw [hzv]; exact Nat.two_pow_pos _
      have hbit : (bits .and .u32 (a : Int) (z : Int) != 0) = decide (a / 2 ^ (31 - k) % 2 = 1) := by rw [hzv]; exact bit_of a (31 - k) HA.out (by omega)
      have hzn : ((z : Int) != 0) = true := by simp; omega
      have HX1 : Hid (sh1 x = shN (k + 1) b) := by show _ = _; rw [shN_succ, ← HX.out]
      have HZ1 : Hid (z / 2 = 2 ^ 32 / 2 ^ (k + 1 + 1)) := by show _ = _; rw [HZ.out, Nat.div_div_eq_div_mul, ← Nat.pow_succ]
      by_cases h1 : a / 2 ^ (31 - k) % 2 = 1
      · rw [decide_eq_true h1] at hbit
        have q := u32_xorN y x hy32 hx32
        obtain ⟨y', hy'⟩ : ∃ y', y' = y ^^^ x := ⟨_, rfl⟩
        rw [← hy'] at q
        have HY1 : Hid (y' = comb a (fun i => shN i b) (k + 1)) := by show _ = _; simp only [comb]; rw [if_pos h1, ← HY.out, ← HX.out, hy']
        have HX32 := Lib.hid hx32
        clear hzv h1 hx32 hy32 hy'
        go_wp2_with (go_at_call 20; refine (shifted_any x _ HX32.out).mono ?_; rintro e w' ⟨rfl, rfl⟩)
        go_round
        case rel => exact ⟨k + 1, sh1 x, y', z / 2, by omega, rfl, rfl, by go_num, HX1, HY1, HZ1, by omega⟩
        case measure => simp [intOf]; omega
      · rw [decide_eq_false h1] at hbit
        have HY1 : Hid (y = comb a (fun i => shN i b) (k + 1)) := by show _ = _; simp only [comb]; rw [if_neg h1, ← HY.out]
        have HX32 := Lib.hid hx32
        clear hzv h1 hx32 hy32
        go_wp2_with (go_at_call 20; refine (shifted_any x _ HX32.out).mono ?_; rintro e w' ⟨rfl, rfl⟩)
        go_round
        case rel => exact ⟨k + 1, sh1 x, y, z / 2, by omega, rfl, rfl, by go_num, HX1, HY1, HZ1, by omega⟩
        case measure => simp [intOf]; omega
    · have hk32 : k = 32 := by omega
      subst hk32
      have hz0 : z = 0 := by have := HZ.out; omega
      subst hz0
      clear hx32 hy32
      go_wp2
      go_ret
      exact ⟨by show Ending.returned (.int .u32 (y : Int)) = _; rw [HY.out]; rfl, rfl⟩

set_option maxHeartbeats 1000000 in
theorem rtimes_any (a b : Nat) (w : World) (ha : a < 2 ^ 32) (hb : b < 2 ^ 32) :
    Calls Tryd.prog 19 #[.int .u32 (a : Int), .int .u32 (b : Int)] w fun e w' => e = .returned (.int .u32 ((mul a b : Nat) : Int)) ∧ w = w' := by
  have HA := Lib.hid ha
  have HB := Lib.hid hb
  clear ha hb
  go_enter Tryd.func19, Tryd.ntmps19
  go_wp2
  go_loop [1, 5, 6, 7] (fun s o t i => ∃ k x y z : Nat, k ≤ 32 ∧ i = .int .i64 k ∧ s = .int .u32 x ∧ o = .int .u32 y ∧ t = .int .u32 z ∧ Hid (x = shN k b) ∧ Hid (y = comb a (fun i => shN i b) k) ∧ Hid (z = 2 ^ 32 / 2 ^ (k + 1)) ∧ z < 4294967296) (fun _ _ _ i => 32 - (intOf i).toNat)
  case atStart => exact ⟨0, b, 0, 2147483648, by omega, rfl, rfl, rfl, rfl, rfl, rfl, rfl, by omega⟩
  case round =>
    obtain ⟨k, x, y, z, hk, rfl, rfl, rfl, rfl, HX, HY, HZ, hz⟩ := hrel
    have hx32 : x < 2 ^ 32 := by rw [HX.out]; exact shN_lt k b HB.out
    have hy32 : y < 2 ^ 32 := by rw [HY.out]; exact comb_lt a _ k (fun i _ => shN_lt i b HB.out)
    by_cases hlt : k < 32
    · have hzv : z = 2 ^ (31 - k) := by
        rw [HZ.out, show (2 : Nat) ^ 32 = 2 ^ (31 - k) * 2 ^ (k + 1) from by rw [← Nat.pow_add]; congr 1; omega, Nat.mul_div_cancel _ (Nat.two_pow_pos _)]
      have hbit : (bits .and .u32 (a : Int) (z : Int) != 0) = decide (a / 2 ^ (31 - k) % 2 = 1) := by rw [hzv]; exact bit_of a (31 - k) HA.out (by omega)
      have HX1 : Hid (shN 1 x = shN (k + 1) b) := by show _ = _; rw [shN_succ k b, ← HX.out]; rfl
      have HZ1 : Hid (z / 2 = 2 ^ 32 / 2 ^ (k + 1 + 1)) := by show _ = _; rw [HZ.out, Nat.div_div_eq_div_mul, ← Nat.pow_succ]
      have HX32 := Lib.hid hx32
      by_cases h1 : a / 2 ^ (31 - k) % 2 = 1
      · rw [decide_eq_true h1] at hbit
        have q := u32_xorN y x hy32 hx32
        obtain ⟨y', hy'⟩ : ∃ y', y' = y ^^^ x := ⟨_, rfl⟩
        rw [← hy'] at q
        have HY1 : Hid (y' = comb a (fun i => shN i b) (k + 1)) := by show _ = _; simp only [comb]; rw [if_pos h1, ← HY.out, ← HX.out, hy']
        clear hzv h1 hx32 hy32 hy'
        go_wp2_with (go_at_call 17; refine (rshift_any x 1 _ HX32.out (by omega)).mono ?_; rintro e w' ⟨rfl, rfl⟩)
        go_round
        case rel => exact ⟨k + 1, shN 1 x, y', z / 2, by omega, by go_num, rfl, rfl, by go_num, HX1, HY1, HZ1, by omega⟩
        case measure => simp [intOf]; omega
      · rw [decide_eq_false h1] at hbit
        have HY1 : Hid (y = comb a (fun i => shN i b) (k + 1)) := by show _ = _; simp only [comb]; rw [if_neg h1, ← HY.out]
        clear hzv h1 hx32 hy32
        go_wp2_with (go_at_call 17; refine (rshift_any x 1 _ HX32.out (by omega)).mono ?_; rintro e w' ⟨rfl, rfl⟩)
        go_round
        case rel => exact ⟨k + 1, shN 1 x, y, z / 2, by omega, by go_num, rfl, rfl, by go_num, HX1, HY1, HZ1, by omega⟩
        case measure => simp [intOf]; omega
    · have hk32 : k = 32 := by omega
      subst hk32
      clear hx32 hy32
      go_wp2
      go_ret
      exact ⟨by show Ending.returned (.int .u32 (y : Int)) = _; rw [HY.out]; rfl, rfl⟩

/-- what Join tells -/
def joinN (a b : Nat) (n : Int) : Nat := shN (8 * n.toNat) a ^^^ b

theorem and1_i64 (x : Nat) (hx : x < 9223372036854775808) : bits .and .i64 (x : Int) 1 = ((x % 2 : Nat) : Int) := by
  have h1 : (BitVec.ofInt 64 1).toNat = 2 ^ 1 - 1 := by decide
  show IntKind.i64.wrap ((BitVec.ofInt 64 (x : Int) &&& BitVec.ofInt 64 1).toNat : Int) = _
  rw [BitVec.toNat_and, ofInt_u64 x (by omega), h1, Nat.and_two_pow_sub_one_eq_mod, IntKind.wrap_i64]
  omega

set_option maxHeartbeats 1000000 in
theorem join_any (a b : Nat) (n : Int) (w : World) (ha : a < 2 ^ 32) (hb : b < 2 ^ 32) (hn : n ≤ 9223372036854775807) :
    Calls Tryd.prog 11 #[.int .u32 (a : Int), .int .u32 (b : Int), .int .i64 n] w fun e w' => e = .returned (.int .u32 ((joinN a b n : Nat) : Int)) ∧ w = w' := by
  by_cases hneg : n < 0
  · have q := u32_xorN a b ha hb
    have HQ : Hid (joinN a b n = a ^^^ b) := by show _ = _; unfold joinN; rw [show n.toNat = 0 from by omega]; rfl
    have HJ := Lib.hid q
    clear ha hb q
    go_enter Tryd.func11, Tryd.ntmps11
    go_wp2
    refine wp_loop_rounds 1 ?_
    rw [rounds_succ]
    go_wp2
    go_ret
    exact ⟨by rw [HQ.out, ← HJ.out]; rfl, rfl⟩
  · obtain ⟨m, rfl⟩ : ∃ m : Nat, n = (m : Int) := ⟨n.toNat, by omega⟩
    have HA := Lib.hid ha
    have HB := Lib.hid hb
    clear ha hb hneg
    go_enter Tryd.func11, Tryd.ntmps11
    go_wp2
    go_loop [0, 2, 7] (fun s i t => ∃ k x r e : Nat, i = .int .i64 r ∧ s = .int .u32 x ∧ t = .int .u32 e ∧ Hid (e = shN (8 * k) e0) ∧ Hid (shN (8 * (k * r)) x = shN (8 * m) a) ∧ Hid (x < 2 ^ 32) ∧ r ≤ 9223372036854775807) (fun _ i _ => (intOf i).toNat)
    case atStart => exact ⟨1, a, m, 8388608, rfl, rfl, rfl, (by show _ = _; decide), (by show _ = _; rw [Nat.one_mul]), HA.out, by omega⟩
    case round =>
      obtain ⟨k, x, r, e, rfl, rfl, rfl, HE, HS, HX, hr⟩ := hrel
      have HE32 : Hid (e < 2 ^ 32) := by show _ < _; rw [HE.out]; exact e0_lt _
      by_cases hpos : 0 < r
      · have q1 := and1_i64 r (by omega)
        have HE1 : Hid (mul e e = shN (8 * (2 * k)) e0) := by show _ = _; rw [HE.out, mul_sq]; congr 1; omega
        by_cases hodd : r % 2 = 1
        · rw [hodd] at q1
          have HM : Hid (mul x e = shN (8 * k) x) := by show _ = _; rw [HE.out]; exact mul_right x (8 * k) HX.out
          have HX1 : Hid (mul x e < 2 ^ 32) := by show _ < _; rw [HM.out]; exact shN_lt _ _ HX.out
          have HS1 : Hid (shN (8 * (2 * k * (r / 2))) (mul x e) = shN (8 * m) a) := by
            show _ = _
            rw [HM.out, ← shN_add, ← HS.out]
            congr 1
            have : r = 2 * (r / 2) + 1 := by omega
            generalize r / 2 = t at *
            subst this
            rw [Nat.mul_add k (2 * t) 1, Nat.mul_one, Nat.mul_comm 2 k, Nat.mul_assoc]; omega
          go_wp2_with fail
          refine (times_any x e _ HX.out HE32.out).mono ?_
          rintro e' w' ⟨rfl, rfl⟩
          go_wp2_with fail
          refine (times_any e e _ HE32.out HE32.out).mono ?_
          rintro e' w' ⟨rfl, rfl⟩
          go_wp2
          go_round
          case rel => exact ⟨2 * k, mul x e, r / 2, mul e e, by go_num, rfl, rfl, HE1, HS1, HX1, by omega⟩
          case measure => simp [intOf]; omega
        · rw [show r % 2 = 0 from by omega] at q1
          have HS1 : Hid (shN (8 * (2 * k * (r / 2))) x = shN (8 * m) a) := by
            show _ = _
            rw [← HS.out]
            congr 2
            have : r = 2 * (r / 2) := by omega
            generalize r / 2 = t at *
            subst this
            rw [Nat.mul_comm 2 k, Nat.mul_assoc]
          go_wp2_with fail
          refine (times_any e e _ HE32.out HE32.out).mono ?_
          rintro e' w' ⟨rfl, rfl⟩
          go_wp2
          go_round
          case rel => exact ⟨2 * k, x, r / 2, mul e e, by go_num, rfl, rfl, HE1, HS1, HX, by omega⟩
          case measure => simp [intOf]; omega
      · have hr0 : r = 0 := by omega
        subst hr0
        have HQ := Lib.hid (u32_xorN x b HX.out HB.out)
        have HF : Hid (joinN a b m = x ^^^ b) := by
          show _ = _
          unfold joinN
          rw [Int.toNat_natCast, ← HS.out]; rfl
        go_wp2
        go_ret
        exact ⟨by rw [HF.out, ← HQ.out]; rfl, rfl⟩

set_option maxHeartbeats 1000000 in
theorem rjoin_any (a b : Nat) (n : Int) (w : World) (ha : a < 2 ^ 32) (hb : b < 2 ^ 32) (hn : n ≤ 9223372036854775807) :
    Calls Tryd.prog 12 #[.int .u32 (a : Int), .int .u32 (b : Int), .int .i64 n] w fun e w' => e = .returned (.int .u32 ((joinN a b n : Nat) : Int)) ∧ w = w' := by
  have HR := fun W => rshift_any 2147483648 8 W (by decide) (by omega)
  have HR8 := Lib.hid HR
  clear HR
  by_cases hneg : n < 0
  · have q := u32_xorN a b ha hb
    have HQ : Hid (joinN a b n = a ^^^ b) := by show _ = _; unfold joinN; rw [show n.toNat = 0 from by omega]; rfl
    have HJ := Lib.hid q
    clear ha hb q
    go_enter Tryd.func12, Tryd.ntmps12
    go_wp2_with (go_at_call 17; refine (HR8.out _).mono ?_; rintro e w' ⟨rfl, rfl⟩)
    refine wp_loop_rounds 1 ?_
    rw [rounds_succ]
    go_wp2
    go_ret
    exact ⟨by rw [HQ.out, ← HJ.out]; rfl, rfl⟩
  · obtain ⟨m, rfl⟩ : ∃ m : Nat, n = (m : Int) := ⟨n.toNat, by omega⟩
    have HA := Lib.hid ha
    have HB := Lib.hid hb
    clear ha hb hneg
    go_enter Tryd.func12, Tryd.ntmps12
    go_wp2_with (go_at_call 17; refine (HR8.out _).mono ?_; rintro e w' ⟨rfl, rfl⟩)
    go_loop [2, 7, 8] (fun i t s => ∃ k x r e : Nat, i = .int .i64 r ∧ s = .int .u32 x ∧ t = .int .u32 e ∧ Hid (e = shN (8 * k) e0) ∧ Hid (shN (8 * (k * r)) x = shN (8 * m) a) ∧ Hid (x < 2 ^ 32) ∧ r ≤ 9223372036854775807) (fun i _ _ => (intOf i).toNat)
    case atStart => exact ⟨1, a, m, shN 8 2147483648, rfl, rfl, rfl, rfl, (by show _ = _; rw [Nat.one_mul]), HA.out, by omega⟩
    case round =>
      obtain ⟨k, x, r, e, rfl, rfl, rfl, HE, HS, HX, hr⟩ := hrel
      have HE32 : Hid (e < 2 ^ 32) := by show _ < _; rw [HE.out]; exact e0_lt _
      by_cases hpos : 0 < r
      · have HE1 : Hid (mul e e = shN (8 * (2 * k)) e0) := by show _ = _; rw [HE.out, mul_sq]; congr 1; omega
        by_cases hodd : r % 2 = 1
        · have q1 : ((r : Int) % 2 == 1) = true := by simp; omega
          have HM : Hid (mul e x = shN (8 * k) x) := by show _ = _; rw [HE.out]; exact mul_left x (8 * k) HX.out
          have HX1 : Hid (mul e x < 2 ^ 32) := by show _ < _; rw [HM.out]; exact shN_lt _ _ HX.out
          have HS1 : Hid (shN (8 * (2 * k * (r / 2))) (mul e x) = shN (8 * m) a) := by
            show _ = _
            rw [HM.out, ← shN_add, ← HS.out]
            congr 1
            have : r = 2 * (r / 2) + 1 := by omega
            generalize r / 2 = t at *
            subst this
            rw [Nat.mul_add k (2 * t) 1, Nat.mul_one, Nat.mul_comm 2 k, Nat.mul_assoc]; omega
          clear hodd
          go_wp2_with fail
          refine (rtimes_any e x _ HE32.out HX.out).mono ?_
          rintro e' w' ⟨rfl, rfl⟩
          go_wp2_with fail
          refine (rtimes_any e e _ HE32.out HE32.out).mono ?_
          rintro e' w' ⟨rfl, rfl⟩
          go_wp2
          go_round
          case rel => exact ⟨2 * k, mul e x, r / 2, mul e e, by go_num, rfl, rfl, HE1, HS1, HX1, by omega⟩
          case measure => simp [intOf]; omega
        · have q1 : ((r : Int) % 2 == 1) = false := by simp; omega
          have HS1 : Hid (shN (8 * (2 * k * (r / 2))) x = shN (8 * m) a) := by
            show _ = _
            rw [← HS.out]
            congr 2
            have : r = 2 * (r / 2) := by omega
            generalize r / 2 = t at *
            subst this
            rw [Nat.mul_comm 2 k, Nat.mul_assoc]
          clear hodd
          go_wp2_with fail
          refine (rtimes_any e e _ HE32.out HE32.out).mono ?_
          rintro e' w' ⟨rfl, rfl⟩
          go_wp2
          go_round
          case rel => exact ⟨2 * k, x, r / 2, mul e e, by go_num, rfl, rfl, HE1, HS1, HX, by omega⟩
          case measure => simp [intOf]; omega
      · have hr0 : r = 0 := by omega
        subst hr0
        have HQ := Lib.hid (u32_xorN x b HX.out HB.out)
        have HF : Hid (joinN a b m = x ^^^ b) := by
          show _ = _
          unfold joinN
          rw [Int.toNat_natCast, ← HS.out]; rfl
        go_wp2
        go_ret
        exact ⟨by rw [HF.out, ← HQ.out]; rfl, rfl⟩
end Go.Proofs.YtkojldjgjmaodaaDoor
