/- Plain mathematics for sha: the words of a block, its rounds, the states behind blocks, the filled text. -/
import Derived.Laws.BitsAllLaws
import Derived.Laws.Bits128
import Derived.OpenShut
import Derived.RowKit
namespace Go.Proofs.ShaMath
open Go.RowKit
set_option linter.unusedVariables false
set_option maxRecDepth 100000

/-- a number of 32 bits -/
def U32 (x : Int) : Prop := 0 ≤ x ∧ x ≤ 4294967295
theorem u32_bits (op : BinOp) (a b : Int) : U32 (bits op .u32 a b) := bounds_u32 (wf_bits op .u32 a b)
theorem u32_mod (a : Int) : U32 (a % 4294967296) := by unfold U32; omega

theorem or_comm32 (a b : Int) : bits .or .u32 a b = bits .or .u32 b a := by
  show IntKind.u32.wrap ((BitVec.ofInt 32 a ||| BitVec.ofInt 32 b).toNat : Int) = IntKind.u32.wrap ((BitVec.ofInt 32 b ||| BitVec.ofInt 32 a).toNat : Int)
  rw [BitVec.or_comm]

/-- x turned to the right by n bits -/
def rot (n : Nat) (x : Int) : Int := bits .or .u32 (x / 2 ^ n) (x * 2 ^ (32 - n) % 4294967296)
theorem rot_u32 (n : Nat) (x : Int) : U32 (rot n x) := u32_bits _ _ _

def x32 (a b : Int) : Int := bits .xor .u32 a b
def n32 (a b : Int) : Int := bits .and .u32 a b
def o32 (a b : Int) : Int := bits .or .u32 a b
def add (a b : Int) : Int := (a + b) % 4294967296
theorem add_u32 (a b : Int) : U32 (add a b) := u32_mod _

def s0 (x : Int) : Int := bits .xor .u32 (bits .xor .u32 (rot 7 x) (rot 18 x)) (x / 8)
def s1 (x : Int) : Int := bits .xor .u32 (bits .xor .u32 (rot 17 x) (rot 19 x)) (x / 1024)
def S0 (a : Int) : Int := bits .xor .u32 (bits .xor .u32 (rot 2 a) (rot 13 a)) (rot 22 a)
def S1 (e : Int) : Int := bits .xor .u32 (bits .xor .u32 (rot 6 e) (rot 11 e)) (rot 25 e)
def ch (e f g : Int) : Int := bits .xor .u32 (bits .and .u32 e f) (bits .and .u32 (bits .xor .u32 IntKind.u32.max e) g)
def mj (a b c : Int) : Int := bits .xor .u32 (bits .xor .u32 (bits .and .u32 a b) (bits .and .u32 a c)) (bits .and .u32 b c)
theorem s0_u32 (x : Int) : U32 (s0 x) := u32_bits _ _ _
theorem s1_u32 (x : Int) : U32 (s1 x) := u32_bits _ _ _
theorem S0_u32 (x : Int) : U32 (S0 x) := u32_bits _ _ _
theorem S1_u32 (x : Int) : U32 (S1 x) := u32_bits _ _ _
theorem ch_u32 (a b c : Int) : U32 (ch a b c) := u32_bits _ _ _
theorem mj_u32 (a b c : Int) : U32 (mj a b c) := u32_bits _ _ _

/-- four bytes as a word -/
def w4 (B : List Int) (t : Nat) : Int := bits .or .u32 (bits .or .u32 (bits .or .u32 (B.getD (4 * t) 0 * 16777216) (B.getD (4 * t + 1) 0 * 65536)) (B.getD (4 * t + 2) 0 * 256)) (B.getD (4 * t + 3) 0)
/-- a later word, of those that are ahead of it -/
def wn (l : List Int) (t : Nat) : Int := (((s1 (l.getD (t - 2) 0) + l.getD (t - 7) 0) % 4294967296 + s0 (l.getD (t - 15) 0)) % 4294967296 + l.getD (t - 16) 0) % 4294967296
/-- the first words of a block -/
def sched (B : List Int) : Nat → List Int
  | 0 => []
  | t + 1 => sched B t ++ [if t < 16 then w4 B t else wn (sched B t) t]
theorem sched_length (B : List Int) (t : Nat) : (sched B t).length = t := by
  induction t with
  | zero => rfl
  | succ t ih => simp [sched, ih]
theorem sched_u32 (B : List Int) (t : Nat) : ∀ x ∈ sched B t, U32 x := by
  induction t with
  | zero => intro x hx; simp [sched] at hx
  | succ t ih =>
    intro x hx
    rcases List.mem_append.1 hx with h | h
    · exact ih x h
    · simp only [List.mem_singleton] at h
      subst h
      split
      · exact u32_bits _ _ _
      · exact u32_mod _
theorem getD_u32 {l : List Int} (h : ∀ x ∈ l, U32 x) (i : Nat) : U32 (l.getD i 0) := by
  by_cases hi : i < l.length
  · rw [List.getD_eq_getElem?_getD, List.getElem?_eq_getElem hi]; exact h _ (List.getElem_mem hi)
  · rw [List.getD_eq_getElem?_getD, List.getElem?_eq_none (by omega)]; simp [U32]

/-- the eight words -/
structure St where
  (a b c d e f g h : Int)
def St.ok (s : St) : Prop := U32 s.a ∧ U32 s.b ∧ U32 s.c ∧ U32 s.d ∧ U32 s.e ∧ U32 s.f ∧ U32 s.g ∧ U32 s.h
def St.list (s : St) : List Int := [s.a, s.b, s.c, s.d, s.e, s.f, s.g, s.h]
def up (s : St) (k w : Int) : Int := ((((s.h + S1 s.e) % 4294967296 + ch s.e s.f s.g) % 4294967296 + k) % 4294967296 + w) % 4294967296
def top (s : St) : Int := (S0 s.a + mj s.a s.b s.c) % 4294967296
def St.step (s : St) (k w : Int) : St := ⟨(up s k w + top s) % 4294967296, s.a, s.b, s.c, (s.d + up s k w) % 4294967296, s.e, s.f, s.g⟩
theorem St.step_ok {s : St} (h : s.ok) (k w : Int) : (s.step k w).ok := ⟨u32_mod _, h.1, h.2.1, h.2.2.1, u32_mod _, h.2.2.2.2.1, h.2.2.2.2.2.1, h.2.2.2.2.2.2.1⟩
/-- the rounds -/
def rnds (K W : List Int) (s : St) : Nat → St
  | 0 => s
  | t + 1 => (rnds K W s t).step (K.getD t 0) (W.getD t 0)
theorem rnds_ok (K W : List Int) {s : St} (h : s.ok) (t : Nat) : (rnds K W s t).ok := by
  induction t with
  | zero => exact h
  | succ t ih => exact St.step_ok ih _ _
def St.plus (s r : St) : St := ⟨(s.a + r.a) % 4294967296, (s.b + r.b) % 4294967296, (s.c + r.c) % 4294967296, (s.d + r.d) % 4294967296, (s.e + r.e) % 4294967296, (s.f + r.f) % 4294967296, (s.g + r.g) % 4294967296, (s.h + r.h) % 4294967296⟩
theorem St.plus_ok (s r : St) : (s.plus r).ok := ⟨u32_mod _, u32_mod _, u32_mod _, u32_mod _, u32_mod _, u32_mod _, u32_mod _, u32_mod _⟩
def mix (K : List Int) (s : St) (B : List Int) : St := s.plus (rnds K (sched B 64) s 64)
theorem mix_ok (K : List Int) (s : St) (B : List Int) : (mix K s B).ok := St.plus_ok _ _

def init : St := ⟨1779033703, 3144134277, 1013904242, 2773480762, 1359893119, 2600822924, 528734635, 1541459225⟩
theorem init_ok : init.ok := by unfold St.ok U32 init; decide
/-- the state behind n blocks -/
def run (K : List Int) (l : List Int) : Nat → St
  | 0 => init
  | n + 1 => mix K (run K l n) ((l.drop (64 * n)).take 64)
theorem run_ok (K l : List Int) (n : Nat) : (run K l n).ok := by
  cases n with
  | zero => exact init_ok
  | succ n => exact mix_ok _ _ _
theorem run_append (K l m : List Int) (n : Nat) (h : 64 * n ≤ l.length) : run K (l ++ m) n = run K l n := by
  induction n with
  | zero => rfl
  | succ n ih =>
    have e : ((l ++ m).drop (64 * n)).take 64 = (l.drop (64 * n)).take 64 := by
      rw [List.drop_append_of_le_length (by omega), List.take_append_of_le_length (by rw [List.length_drop]; omega)]
    simp only [run]
    rw [ih (by omega), e]

/-- the eight bytes of a length -/
def lenB (n : Nat) : List Int := (List.range 8).map fun i => ((n / 2 ^ (56 - 8 * i) % 256 : Nat) : Int)
/-- what fills a text of n bytes up -/
def tail (n : Nat) : List Int := 128 :: (List.replicate ((119 - n % 64) % 64) 0 ++ lenB (8 * n))
theorem tail_length (n : Nat) : (tail n).length = 9 + (119 - n % 64) % 64 := by simp [tail, lenB]; omega
theorem filled_mod (n : Nat) : (n + (tail n).length) % 64 = 0 := by rw [tail_length]; omega
/-- a word's bytes -/
def wb (x : Int) : List Int := [x / 16777216 % 256, x / 65536 % 256, x / 256 % 256, x % 256]
/-- the sum, as bytes -/
def sumB (K l : List Int) : List Int := ((run K (l ++ tail l.length) ((l ++ tail l.length).length / 64)).list.map wb).flatten
end Go.Proofs.ShaMath
