/- Plain mathematics for crc: a register that is shifted, linear over xor. -/
import Derived.Laws.BitsAllLaws
import Derived.RowKit
namespace Go.Proofs.CrcMath
open Go.RowKit
set_option linter.unusedVariables false

def poly : Nat := 3988292384
def sh1 (w : Nat) : Nat := if w % 2 = 1 then w / 2 ^^^ poly else w / 2
def shN : Nat → Nat → Nat
  | 0, w => w
  | n + 1, w => shN n (sh1 w)

theorem shN_add (m n w : Nat) : shN (m + n) w = shN n (shN m w) := by
  induction m generalizing w with
  | zero => simp [shN]
  | succ m ih => rw [show m + 1 + n = (m + n) + 1 from by omega]; simp only [shN]; exact ih _
theorem shN_succ (n w : Nat) : shN (n + 1) w = sh1 (shN n w) := by rw [shN_add n 1]; rfl

theorem sh1_lt (w : Nat) (h : w < 2 ^ 32) : sh1 w < 2 ^ 32 := by
  unfold sh1
  split
  · exact Nat.xor_lt_two_pow (by omega) (by decide)
  · omega
theorem shN_lt (n w : Nat) (h : w < 2 ^ 32) : shN n w < 2 ^ 32 := by
  induction n generalizing w with
  | zero => exact h
  | succ n ih => exact ih _ (sh1_lt w h)

theorem xor4 (a b p : Nat) : (a ^^^ p) ^^^ (b ^^^ p) = a ^^^ b := by
  rw [Nat.xor_assoc, Nat.xor_comm b p, ← Nat.xor_assoc p p b, Nat.xor_self, Nat.zero_xor]

theorem xor_mod2 (a b : Nat) : (a ^^^ b) % 2 = (a + b) % 2 := by
  have h := Nat.testBit_xor a b 0
  simp only [Nat.testBit_zero] at h
  by_cases hx : (a ^^^ b) % 2 = 1 <;> by_cases ha : a % 2 = 1 <;> by_cases hb : b % 2 = 1 <;> simp only [hx, ha, hb, decide_true, decide_false, Bool.xor_self, Bool.xor_true, Bool.xor_false, Bool.not_false, Bool.true_eq_false, Bool.false_eq_true] at h <;> omega
theorem eq_of_xor (a b : Nat) (h : a ^^^ b = 0) : a = b := by
  have e : a ^^^ b ^^^ b = a := by rw [Nat.xor_assoc, Nat.xor_self, Nat.xor_zero]
  rw [h, Nat.zero_xor] at e
  exact e.symm

theorem sh1_xor (a b : Nat) : sh1 (a ^^^ b) = sh1 a ^^^ sh1 b := by
  have hm : (a ^^^ b) % 2 = (a + b) % 2 := xor_mod2 _ _
  have hd : (a ^^^ b) / 2 = a / 2 ^^^ b / 2 := Nat.xor_div_two
  unfold sh1
  rw [hm, hd]
  by_cases ha : a % 2 = 1 <;> by_cases hb : b % 2 = 1
  · rw [if_neg (by omega), if_pos ha, if_pos hb, xor4]
  · rw [if_pos (by omega), if_pos ha, if_neg hb, Nat.xor_assoc, Nat.xor_comm (b / 2), ← Nat.xor_assoc]
  · rw [if_pos (by omega), if_neg ha, if_pos hb, Nat.xor_assoc]
  · rw [if_neg (by omega), if_neg ha, if_neg hb]
theorem shN_xor (n a b : Nat) : shN n (a ^^^ b) = shN n a ^^^ shN n b := by
  induction n generalizing a b with
  | zero => rfl
  | succ n ih => simp only [shN]; rw [sh1_xor, ih]
theorem shN_zero (n : Nat) : shN n 0 = 0 := by
  induction n with
  | zero => rfl
  | succ n ih => simp only [shN]; exact ih

theorem sh1_inj (w : Nat) (h : w < 2 ^ 32) (h0 : sh1 w = 0) : w = 0 := by
  unfold sh1 at h0
  split at h0
  · have : w / 2 = poly := eq_of_xor _ _ h0
    unfold poly at this; omega
  · omega
theorem shN_inj (n w : Nat) (h : w < 2 ^ 32) (h0 : shN n w = 0) : w = 0 := by
  induction n generalizing w with
  | zero => exact h0
  | succ n ih => exact sh1_inj w h (ih _ (sh1_lt w h) h0)

theorem sh1_even (q : Nat) : sh1 (2 * q) = q := by unfold sh1; rw [if_neg (by omega)]; omega
theorem shN_pow (k q : Nat) : shN k (2 ^ k * q) = q := by
  induction k generalizing q with
  | zero => simp [shN]
  | succ k ih =>
    simp only [shN]
    rw [show 2 ^ (k + 1) * q = 2 * (2 ^ k * q) from by rw [Nat.pow_succ, Nat.mul_comm (2 ^ k) 2, Nat.mul_assoc], sh1_even, ih]

theorem xor_low (i : Nat) : ∀ q r, r < 2 ^ i → 2 ^ i * q ^^^ r = 2 ^ i * q + r := by
  induction i with
  | zero => intro q r h; have : r = 0 := by omega
            subst this; simp
  | succ i ih =>
    intro q r h
    have e : 2 ^ (i + 1) * q = 2 * (2 ^ i * q) := by rw [Nat.pow_succ, Nat.mul_comm (2 ^ i) 2, Nat.mul_assoc]
    have hm : (2 ^ (i + 1) * q ^^^ r) % 2 = (2 ^ (i + 1) * q + r) % 2 := xor_mod2 _ _
    have hd : (2 ^ (i + 1) * q ^^^ r) / 2 = (2 ^ (i + 1) * q) / 2 ^^^ r / 2 := Nat.xor_div_two
    have hh : (2 ^ (i + 1) * q) / 2 = 2 ^ i * q := by rw [e]; omega
    rw [hh, ih q (r / 2) (by rw [Nat.pow_succ] at h; omega)] at hd
    rw [e] at *
    omega

/-- the table: what four bits leave behind -/
def T (r : Nat) : Nat := [0, 498536548, 997073096, 651767980, 1994146192, 1802195444, 1303535960, 1342533948, 3988292384, 4027552580, 3604390888, 3412177804, 2607071920, 2262029012, 2685067896, 3183342108].getD r 0
theorem T_eq : ∀ r, r < 16 → T r = shN 4 r := by decide
theorem T_lt (r : Nat) : T r < 2 ^ 32 := by
  by_cases h : r < 16
  · rw [T_eq r h]; exact shN_lt 4 r (by omega)
  · unfold T
    rw [List.getD_eq_getElem?_getD, List.getElem?_eq_none (by simp; omega)]; decide
theorem nib (w : Nat) : w / 16 ^^^ T (w % 16) = shN 4 w := by
  have hw : 2 ^ 4 * (w / 16) ^^^ (w % 16) = w := by rw [xor_low 4 _ _ (by omega)]; omega
  have h1 : shN 4 (2 ^ 4 * (w / 16) ^^^ (w % 16)) = shN 4 (2 ^ 4 * (w / 16)) ^^^ shN 4 (w % 16) := shN_xor _ _ _
  rw [hw, shN_pow] at h1
  rw [T_eq _ (by omega)]
  exact h1.symm

/-- the register behind bytes -/
def reg (w : Nat) (l : List Int) : Nat := l.foldl (fun w c => shN 8 (w ^^^ c.toNat)) w
theorem reg_append (w : Nat) (l m : List Int) : reg w (l ++ m) = reg (reg w l) m := List.foldl_append
theorem reg_lt (l : List Int) (hl : ∀ c ∈ l, 0 ≤ c ∧ c ≤ 255) : ∀ w, w < 2 ^ 32 → reg w l < 2 ^ 32 := by
  induction l with
  | nil => intro w h; exact h
  | cons c r ih =>
    intro w h
    have hc := hl c (by simp)
    exact ih (fun d hd => hl d (by simp [hd])) _ (shN_lt 8 _ (Nat.xor_lt_two_pow h (by omega)))
/-- one register more: linear -/
theorem reg_shift (l : List Int) : ∀ w v, reg (w ^^^ v) l = reg w l ^^^ shN (8 * l.length) v := by
  induction l with
  | nil => intro w v; simp [reg, shN]
  | cons c r ih =>
    intro w v
    show reg (shN 8 ((w ^^^ v) ^^^ c.toNat)) r = reg (shN 8 (w ^^^ c.toNat)) r ^^^ _
    rw [Nat.xor_assoc, Nat.xor_comm v, ← Nat.xor_assoc, shN_xor, ih, ← shN_add]
    congr 2
    simp; omega

/-- the sum -/
def crcN (l : List Int) : Nat := 4294967295 ^^^ reg 4294967295 l
theorem ones_xor (w : Nat) (h : w < 2 ^ 32) : 4294967295 ^^^ w = 4294967295 - w := by
  have key : ∀ i w, w < 2 ^ i → (2 ^ i - 1) ^^^ w = 2 ^ i - 1 - w := by
    intro i
    induction i with
    | zero => intro w h; have : w = 0 := by omega
              subst this; rfl
    | succ i ih =>
      intro w h
      rw [Nat.pow_succ] at *
      have hp := Nat.two_pow_pos i
      have hm : ((2 ^ i * 2 - 1) ^^^ w) % 2 = ((2 ^ i * 2 - 1) + w) % 2 := xor_mod2 _ _
      have hd : ((2 ^ i * 2 - 1) ^^^ w) / 2 = (2 ^ i * 2 - 1) / 2 ^^^ w / 2 := Nat.xor_div_two
      rw [show (2 ^ i * 2 - 1) / 2 = 2 ^ i - 1 from by omega, ih (w / 2) (by omega)] at hd
      omega
  exact key 32 w h
theorem crcN_lt (l : List Int) (hl : ∀ c ∈ l, 0 ≤ c ∧ c ≤ 255) : crcN l < 2 ^ 32 := Nat.xor_lt_two_pow (by decide) (reg_lt l hl _ (by decide))

/-- parts: the sum of both, one behind the other -/
theorem crcN_join (l m : List Int) : crcN (l ++ m) = shN (8 * m.length) (crcN l) ^^^ crcN m := by
  unfold crcN
  rw [reg_append, shN_xor]
  have h := reg_shift m (4294967295) (reg 4294967295 l ^^^ 4294967295)
  rw [show 4294967295 ^^^ (reg 4294967295 l ^^^ 4294967295) = reg 4294967295 l from by rw [Nat.xor_comm, Nat.xor_assoc, Nat.xor_self, Nat.xor_zero]] at h
  rw [h, shN_xor]
  generalize reg 4294967295 m = x
  generalize shN (8 * m.length) (reg 4294967295 l) = y
  generalize shN (8 * m.length) 4294967295 = z
  rw [Nat.xor_comm z y, Nat.xor_comm 4294967295 x, Nat.xor_comm 4294967295 (x ^^^ (y ^^^ z)), ← Nat.xor_assoc (y ^^^ z) x, Nat.xor_comm x (y ^^^ z)]

theorem shr_byte (s k : Nat) : ((s : Int) / 2 ^ (8 * k)) % 256 = ((s / 2 ^ (8 * k) % 256 : Nat) : Int) := by
  rw [Int.natCast_emod, Int.natCast_ediv, Int.natCast_pow]; rfl

/-! ### products -/

/-- the bits of c, the highest first, choose among f 0 .. -/
def comb (c : Nat) (f : Nat → Nat) : Nat → Nat
  | 0 => 0
  | k + 1 => if c / 2 ^ (31 - k) % 2 = 1 then comb c f k ^^^ f k else comb c f k

theorem comb_L (L : Nat → Nat) (hL : ∀ a b, L (a ^^^ b) = L a ^^^ L b) (h0 : L 0 = 0) (c : Nat) (f : Nat → Nat) (k : Nat) : L (comb c f k) = comb c (fun i => L (f i)) k := by
  induction k with
  | zero => exact h0
  | succ k ih => simp only [comb]; split <;> simp [hL, ih]
theorem comb_xor (c : Nat) (f g : Nat → Nat) (k : Nat) : comb c (fun i => f i ^^^ g i) k = comb c f k ^^^ comb c g k := by
  induction k with
  | zero => simp [comb]
  | succ k ih =>
    simp only [comb]
    split
    · rw [ih]
      generalize comb c f k = A
      generalize comb c g k = B
      rw [Nat.xor_assoc A B, ← Nat.xor_assoc B (f k), Nat.xor_comm B (f k), Nat.xor_assoc (f k) B, ← Nat.xor_assoc A]
    · exact ih
theorem comb_zero (c : Nat) (k : Nat) : comb c (fun _ => 0) k = 0 := by
  induction k with
  | zero => rfl
  | succ k ih => simp only [comb, ih]; simp
theorem comb_swap (a b : Nat) (g : Nat → Nat → Nat) (k m : Nat) : comb a (fun i => comb b (fun j => g i j) m) k = comb b (fun j => comb a (fun i => g i j) k) m := by
  induction m with
  | zero => simp only [comb]; exact comb_zero a k
  | succ m ih =>
    simp only [comb]
    by_cases h : b / 2 ^ (31 - m) % 2 = 1
    · simp only [h, if_true]; rw [comb_xor, ih]
    · simp only [h, if_false]; exact ih
theorem comb_congr (c : Nat) (f g : Nat → Nat) (k : Nat) (h : ∀ i, i < k → f i = g i) : comb c f k = comb c g k := by
  induction k with
  | zero => rfl
  | succ k ih => simp only [comb]; rw [ih (fun i hi => h i (by omega)), h k (by omega)]

def e0 : Nat := 2147483648
theorem e0_sh (j : Nat) (h : j ≤ 31) : shN j e0 = 2 ^ (31 - j) := by
  have : e0 = 2 ^ j * 2 ^ (31 - j) := by rw [← Nat.pow_add, show j + (31 - j) = 31 from by omega]; rfl
  rw [this, shN_pow]

/-- a number is the powers that its bits choose -/
theorem comb_self (b : Nat) (h : b < 2 ^ 32) : comb b (fun j => shN j e0) 32 = b := by
  have key : ∀ k, k ≤ 32 → comb b (fun j => shN j e0) k = b / 2 ^ (32 - k) * 2 ^ (32 - k) := by
    intro k
    induction k with
    | zero => intro _; simp [comb, Nat.div_eq_of_lt h]
    | succ k ih =>
      intro hk
      simp only [comb]
      rw [ih (by omega), e0_sh k (by omega)]
      have e1 : 32 - k = (31 - k) + 1 := by omega
      have e2 : 32 - (k + 1) = 31 - k := by omega
      rw [e1, e2]
      generalize 31 - k = i
      have hdm : b / 2 ^ (i + 1) = b / 2 ^ i / 2 := by rw [Nat.pow_succ, Nat.div_div_eq_div_mul]
      rw [hdm]
      generalize hq : b / 2 ^ i = q
      have hp : 2 ^ (i + 1) = 2 * 2 ^ i := by rw [Nat.pow_succ, Nat.mul_comm]
      split
      · next h1 =>
        have hx := xor_low (i + 1) (q / 2) (2 ^ i) (by rw [hp]; have := Nat.two_pow_pos i; omega)
        rw [Nat.mul_comm (q / 2), hx, hp]
        have : q = 2 * (q / 2) + 1 := by omega
        generalize q / 2 = t at *
        subst this
        rw [Nat.add_mul, Nat.one_mul, Nat.mul_assoc, Nat.mul_assoc, Nat.mul_comm (2 ^ i) t]
      · next h1 =>
        have : q = 2 * (q / 2) := by omega
        generalize q / 2 = t at *
        subst this
        rw [hp, Nat.mul_comm 2 t, Nat.mul_assoc]
  have := key 32 (by omega)
  simpa using this

/-- the product as it is reckoned -/
def mul (a b : Nat) : Nat := comb a (fun i => shN i b) 32
theorem mul_right (b m : Nat) (h : b < 2 ^ 32) : mul b (shN m e0) = shN m b := by
  unfold mul
  have e : (fun i => shN i (shN m e0)) = (fun i => shN m (shN i e0)) := by funext i; rw [← shN_add, ← shN_add, Nat.add_comm]
  rw [e, ← comb_L (shN m) (shN_xor m) (shN_zero m), comb_self b h]
theorem mul_comm (a b : Nat) (ha : a < 2 ^ 32) (hb : b < 2 ^ 32) : mul a b = mul b a := by
  have h1 : mul a b = comb a (fun i => comb b (fun j => shN i (shN j e0)) 32) 32 := by
    unfold mul
    apply comb_congr
    intro i _
    show shN i b = _
    rw [← comb_L (shN i) (shN_xor i) (shN_zero i), comb_self b hb]
  have h2 : mul b a = comb b (fun j => comb a (fun i => shN j (shN i e0)) 32) 32 := by
    unfold mul
    apply comb_congr
    intro i _
    show shN i a = _
    rw [← comb_L (shN i) (shN_xor i) (shN_zero i), comb_self a ha]
  rw [h1, h2, comb_swap]
  apply comb_congr
  intro j _
  apply comb_congr
  intro i _
  rw [← shN_add, ← shN_add, Nat.add_comm]
theorem e0_lt (m : Nat) : shN m e0 < 2 ^ 32 := shN_lt m e0 (by decide)
theorem mul_left (b m : Nat) (h : b < 2 ^ 32) : mul (shN m e0) b = shN m b := by rw [mul_comm _ _ (e0_lt m) h, mul_right b m h]
theorem mul_sq (m : Nat) : mul (shN m e0) (shN m e0) = shN (2 * m) e0 := by rw [mul_right _ _ (e0_lt m), ← shN_add]; congr 1; omega
theorem comb_lt (c : Nat) (f : Nat → Nat) (k : Nat) (h : ∀ i, i < k → f i < 2 ^ 32) : comb c f k < 2 ^ 32 := by
  induction k with
  | zero => simp [comb]
  | succ k ih =>
    simp only [comb]
    have hk := ih (fun i hi => h i (by omega))
    split
    · exact Nat.xor_lt_two_pow hk (h k (by omega))
    · exact hk
end Go.Proofs.CrcMath
