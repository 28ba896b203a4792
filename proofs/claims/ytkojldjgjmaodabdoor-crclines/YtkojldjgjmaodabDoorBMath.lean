/- Plain mathematics: sums of bytes xored; bursts of turned bits. -/
import Derived.Test.YtkojldjgjmaodabDoorOpen
namespace Go.Proofs.YtkojldjgjmaodabDoor
open Go.RowKit Go.Proofs.CrcMath
set_option linter.unusedVariables false

/-! ### lines -/
theorem xor_swap (a b c d : Nat) : (a ^^^ b) ^^^ (c ^^^ d) = (a ^^^ c) ^^^ (b ^^^ d) := by
  rw [Nat.xor_assoc, Nat.xor_assoc, ← Nat.xor_assoc b c d, Nat.xor_comm b c, Nat.xor_assoc c b d]

/-- three lists of bytes, xored, the first n -/
def xor3 (a b c : List Int) (n : Nat) : List Int := (List.range n).map fun i => (((a.getD i 0).toNat ^^^ (b.getD i 0).toNat ^^^ (c.getD i 0).toNat : Nat) : Int)
theorem xor3_succ (a b c : List Int) (n : Nat) : xor3 a b c (n + 1) = xor3 a b c n ++ [(((a.getD n 0).toNat ^^^ (b.getD n 0).toNat ^^^ (c.getD n 0).toNat : Nat) : Int)] := by simp [xor3, List.range_succ]
theorem xor3_length (a b c : List Int) (n : Nat) : (xor3 a b c n).length = n := by simp [xor3]
theorem xor3_oct (a b c : List Int) (n : Nat) (ha : Oct a) (hb : Oct b) (hc : Oct c) : Oct (xor3 a b c n) := by
  intro x hx
  obtain ⟨i, _, rfl⟩ := List.mem_map.1 hx
  have h1 := ha.getD i
  have h2 := hb.getD i
  have h3 := hc.getD i
  have : (a.getD i 0).toNat ^^^ (b.getD i 0).toNat ^^^ (c.getD i 0).toNat < 2 ^ 8 := Nat.xor_lt_two_pow (Nat.xor_lt_two_pow (by omega) (by omega)) (by omega)
  show 0 ≤ (((a.getD i 0).toNat ^^^ (b.getD i 0).toNat ^^^ (c.getD i 0).toNat : Nat) : Int) ∧ (((a.getD i 0).toNat ^^^ (b.getD i 0).toNat ^^^ (c.getD i 0).toNat : Nat) : Int) ≤ 255
  omega
theorem reg_xor3 (a b c : List Int) (u v t : Nat) : ∀ n, n ≤ a.length → n ≤ b.length → n ≤ c.length → reg (u ^^^ v ^^^ t) (xor3 a b c n) = reg u (a.take n) ^^^ reg v (b.take n) ^^^ reg t (c.take n) := by
  intro n
  induction n with
  | zero => intro _ _ _; simp [xor3, reg]
  | succ n ih =>
    intro h1 h2 h3
    rw [xor3_succ, reg_append, ih (by omega) (by omega) (by omega), reg_snoc _ a n (by omega), reg_snoc _ b n (by omega), reg_snoc _ c n (by omega)]
    show shN 8 (_ ^^^ (((a.getD n 0).toNat ^^^ (b.getD n 0).toNat ^^^ (c.getD n 0).toNat : Nat) : Int).toNat) = _
    rw [Int.toNat_natCast, ← shN_xor, ← shN_xor]
    congr 1
    generalize reg u (a.take n) = A
    generalize reg v (b.take n) = B
    generalize reg t (c.take n) = C
    generalize (a.getD n 0).toNat = x
    generalize (b.getD n 0).toNat = y
    generalize (c.getD n 0).toNat = z
    rw [xor_swap (A ^^^ B) C (x ^^^ y) z, xor_swap A B x y]
theorem crc_xor3 (a b c : List Int) (n : Nat) (h1 : n ≤ a.length) (h2 : n ≤ b.length) (h3 : n ≤ c.length) : crcN (xor3 a b c n) = crcN (a.take n) ^^^ crcN (b.take n) ^^^ crcN (c.take n) := by
  unfold crcN
  have h := reg_xor3 a b c 4294967295 4294967295 4294967295 n h1 h2 h3
  rw [Nat.xor_self, Nat.zero_xor] at h
  rw [h, xor_swap 4294967295 _ 4294967295 _, Nat.xor_self, Nat.zero_xor, ← Nat.xor_assoc]
  generalize reg 4294967295 (a.take n) ^^^ reg 4294967295 (b.take n) = D
  rw [Nat.xor_comm 4294967295 D, Nat.xor_assoc]

/-! ### bursts -/
theorem reg_set (l : List Int) (w j e : Nat) (x : Int) (hj : j < l.length) (hx : x.toNat = (l.getD j 0).toNat ^^^ e) : reg w (l.set j x) = reg w l ^^^ shN (8 * (l.length - j)) e := by
  have hs : l.set j x = l.take j ++ (x :: l.drop (j + 1)) := List.set_eq_take_append_cons_drop.trans (if_pos hj)
  have hl : l = l.take j ++ (l.getD j 0 :: l.drop (j + 1)) := by
    rw [List.getD_eq_getElem?_getD, List.getElem?_eq_getElem hj]
    simp
  have hd : (l.drop (j + 1)).length = l.length - j - 1 := by rw [List.length_drop]; omega
  have h2 : reg w l = reg (shN 8 (reg w (l.take j) ^^^ (l.getD j 0).toNat)) (l.drop (j + 1)) := by
    have : reg w l = reg w (l.take j ++ (l.getD j 0 :: l.drop (j + 1))) := by rw [← hl]
    rw [this, reg_append]; rfl
  rw [hs, reg_append, h2]
  show reg (shN 8 (reg w (l.take j) ^^^ x.toNat)) (l.drop (j + 1)) = _
  rw [hx, ← Nat.xor_assoc, shN_xor 8 _ e, reg_shift, ← shN_add, hd]
  congr 2; omega

/-- the register behind a text and four bytes -/
theorem reg4 (w : Nat) (l : List Int) (k : Nat) (hk : k ≤ l.length) (ho : Oct l) : reg w (l.take k) = shN (8 * k) (w ^^^ leV l k) := by
  induction k with
  | zero => simp [reg, leV, shN]
  | succ k ih =>
    rw [reg_snoc w l k (by omega), ih (by omega)]
    simp only [leV]
    have hb := ho.getD k
    have h1 := leV_lt l ho k
    have hx : leV l k + (l.getD k 0).toNat * 2 ^ (8 * k) = leV l k ^^^ (2 ^ (8 * k) * (l.getD k 0).toNat) := by
      rw [Nat.xor_comm, xor_low (8 * k) _ _ h1, Nat.mul_comm]; omega
    rw [hx, ← Nat.xor_assoc, show 8 * (k + 1) = 8 * k + 8 from by omega, shN_add, shN_xor (8 * k) (w ^^^ leV l k) (2 ^ (8 * k) * (l.getD k 0).toNat), shN_pow]

theorem valid_iff (M : List Int) (h4 : 4 ≤ M.length) (ho : Oct M) : leV (M.drop (M.length - 4)) 4 = crcN (M.take (M.length - 4)) ↔ reg 4294967295 M = shN 32 4294967295 := by
  obtain ⟨m, hm⟩ : ∃ m, M.length = m + 4 := ⟨M.length - 4, by omega⟩
  rw [show M.length - 4 = m from by omega]
  have hd : (M.drop m).length = 4 := by rw [List.length_drop]; omega
  have hr : reg 4294967295 M = shN 32 (reg 4294967295 (M.take m) ^^^ leV (M.drop m) 4) := by
    have h := reg4 (reg 4294967295 (M.take m)) (M.drop m) 4 (by omega) (ho.drop m)
    rw [List.take_of_length_le (i := 4) (l := M.drop m) (by omega), ← reg_append, List.take_append_drop] at h
    exact h
  have h32 : reg 4294967295 (M.take m) < 2 ^ 32 := reg_lt _ (ho.take m) _ (by decide)
  have hv32 : leV (M.drop m) 4 < 2 ^ 32 := leV_lt _ (ho.drop m) 4
  rw [hr]
  unfold crcN
  generalize reg 4294967295 (M.take m) = r at *
  generalize leV (M.drop m) 4 = v at *
  constructor
  · intro h; rw [h, ← Nat.xor_assoc, Nat.xor_comm r, Nat.xor_assoc, Nat.xor_self, Nat.xor_zero]
  · intro h
    have h0 : shN 32 ((r ^^^ v) ^^^ 4294967295) = 0 := by rw [shN_xor, h, Nat.xor_self]
    have h1 := shN_inj 32 _ (Nat.xor_lt_two_pow (Nat.xor_lt_two_pow h32 hv32) (by decide)) h0
    have h2 := eq_of_xor _ _ h1
    rw [← h2, Nat.xor_comm (r ^^^ v) r, ← Nat.xor_assoc, Nat.xor_self, Nat.zero_xor]

theorem seal_valid (l : List Int) (h : Oct l) : reg 4294967295 (l ++ leB (crcN l) 4) = shN 32 4294967295 := by
  have hlen : (l ++ leB (crcN l) 4).length = l.length + 4 := by rw [List.length_append, leB_length]
  have hi := valid_iff (l ++ leB (crcN l) 4) (by omega) (h.append (leB_oct _ _))
  refine hi.1 ?_
  rw [hlen, show l.length + 4 - 4 = l.length from by omega]
  simp only [List.drop_left, List.take_left]
  rw [leV_leB _ 4 4 (Nat.le_refl _), Nat.mod_eq_of_lt (crcN_lt l h)]

/-- one bit that is turned -/
theorem bit_shift (N from' k : Nat) (h : from' + k < 8 * N) : shN (8 * (N - (from' + k) / 8)) (2 ^ ((from' + k) % 8)) = shN (8 * N - from') (2 ^ k) := by
  have e1 : 8 * (N - (from' + k) / 8) = (from' + k) % 8 + (8 * N - (from' + k)) := by omega
  have e2 : 8 * N - from' = k + (8 * N - (from' + k)) := by omega
  have p1 := shN_pow ((from' + k) % 8) 1
  have p2 := shN_pow k 1
  rw [Nat.mul_one] at p1 p2
  rw [e1, e2, shN_add, shN_add, p1, p2]
theorem turn_bit (t k : Nat) (h : t / 2 ^ k % 2 = 1) : t % 2 ^ (k + 1) = t % 2 ^ k ^^^ 2 ^ k := by
  have hlt : t % 2 ^ k < 2 ^ k := Nat.mod_lt _ (Nat.two_pow_pos k)
  have hx := xor_low k 1 (t % 2 ^ k) hlt
  rw [Nat.mul_one] at hx
  rw [Nat.xor_comm, hx, Nat.mod_pow_succ, h]; omega
theorem turn_same (t k : Nat) (h : ¬ t / 2 ^ k % 2 = 1) : t % 2 ^ (k + 1) = t % 2 ^ k := by
  rw [Nat.mod_pow_succ, show t / 2 ^ k % 2 = 0 from by omega]; simp
theorem turned_sum (M : List Int) (r t K : Nat) (h4 : 4 ≤ M.length) (ho : Oct M) (hK : K ≤ 32) (ht : t % 2 ^ K ≠ 0) (h : reg 4294967295 M = shN 32 4294967295 ^^^ shN r (t % 2 ^ K)) : openE M = 6 ∧ openL M = [] := by
  have hE : openE M = 6 := by
    unfold openE
    rw [if_neg (by omega), if_neg]
    intro hv
    have hr := (valid_iff M h4 ho).1 hv
    rw [h] at hr
    have h0 : shN r (t % 2 ^ K) = 0 := by
      have := congrArg (fun x => shN 32 4294967295 ^^^ x) hr
      simp only [← Nat.xor_assoc, Nat.xor_self, Nat.zero_xor] at this
      exact this
    have hlt : t % 2 ^ K < 2 ^ 32 := Nat.lt_of_lt_of_le (Nat.mod_lt _ (Nat.two_pow_pos K)) (Nat.pow_le_pow_right (by omega) hK)
    exact ht (shN_inj r _ hlt h0)
  exact ⟨hE, by unfold openL; rw [hE]; rfl⟩
end Go.Proofs.YtkojldjgjmaodabDoor
