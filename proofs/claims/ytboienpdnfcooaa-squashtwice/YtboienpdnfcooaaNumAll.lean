/- Plain mathematics for num: seven-bit groups, no walk. -/
import Derived.Laws.BitsAllLaws
import Derived.Laws.Bits128
import Derived.RowKit
import Derived.Test.YtboienpdnfcooaaRows
import Derived.WalkKit
import Derived.WalkSpells
import Derived.WalkLawsBesides
import Derived.Lib.Hide
import Derived.Laws.CopyOwn
import Derived.Laws.AppendOwnNone
import Derived.Deep.DeepCutAuto
import Derived.Laws.BytesArg
namespace Go.Proofs.NumMath
open Go.RowKit
set_option linter.unusedVariables false
set_option maxRecDepth 100000

/-- the number that n groups from place j on make, the lowest first -/
def Hn (f : Nat → Int) (j : Nat) : Nat → Int
  | 0 => 0
  | n + 1 => f j % 128 + 128 * Hn f (j + 1) n

theorem Hn_succ' (f : Nat → Int) (n : Nat) : ∀ j, Hn f j (n + 1) = Hn f j n + (f (j + n) % 128) * 128 ^ n := by
  induction n with
  | zero => intro j; simp [Hn]
  | succ n ih =>
    intro j
    have h := ih (j + 1)
    rw [show Hn f j (n + 1 + 1) = f j % 128 + 128 * Hn f (j + 1) (n + 1) from rfl, h, show Hn f j (n + 1) = f j % 128 + 128 * Hn f (j + 1) n from rfl]
    rw [show j + 1 + n = j + (n + 1) from by omega, Int.pow_succ]
    generalize f (j + (n + 1)) % 128 = x
    generalize (128 : Int) ^ n = y
    rw [Int.mul_add, ← Int.mul_assoc 128 x y, Int.mul_comm 128 x, Int.mul_assoc x 128 y, Int.mul_comm 128 y]
    omega

theorem Hn_bd (f : Nat → Int) (n : Nat) : ∀ j, 0 ≤ Hn f j n ∧ Hn f j n < 128 ^ n := by
  induction n with
  | zero => intro j; simp [Hn]
  | succ n ih =>
    intro j
    have h := ih (j + 1)
    rw [show Hn f j (n + 1) = f j % 128 + 128 * Hn f (j + 1) n from rfl, Int.pow_succ]
    omega

theorem Hn_ge (f : Nat → Int) (n : Nat) : ∀ (j s : Nat), Hn f (s + j) n ≤ Hn f s (j + n) := by
  intro j
  induction j with
  | zero => intro s; simp
  | succ j ih =>
    intro s
    have h := ih (s + 1)
    have hb := (Hn_bd f n (s + 1 + j)).1
    rw [show j + 1 + n = (j + n) + 1 from by omega, show Hn f s ((j + n) + 1) = f s % 128 + 128 * Hn f (s + 1) (j + n) from rfl, show s + (j + 1) = s + 1 + j from by omega]
    omega

theorem Hn_big (f : Nat → Int) (k j : Nat) (hj : j ≤ k) (h : 36028797018963967 < Hn f (j + 1) (k - j)) : 4611686018427387903 < Hn f 0 (k + 1) := by
  have h1 := Hn_ge f (k - j + 1) j 0
  rw [show j + (k - j + 1) = k + 1 from by omega, show Hn f (0 + j) (k - j + 1) = f (0 + j) % 128 + 128 * Hn f (0 + j + 1) (k - j) from rfl, Nat.zero_add] at h1
  omega

theorem pow128 (i : Nat) : (128 : Int) ^ i = ((2 ^ (7 * i) : Nat) : Int) := by
  rw [Nat.pow_mul]; push_cast; rfl

theorem i64_or_nat (a b : Nat) (ha : a < 9223372036854775808) (hb : b < 9223372036854775808) : bits .or .i64 (a : Int) (b : Int) = ((a ||| b : Nat) : Int) := by
  have h : a ||| b < 9223372036854775808 := Nat.or_lt_two_pow (n := 63) ha hb
  show IntKind.i64.wrap ((BitVec.ofInt 64 (a : Int) ||| BitVec.ofInt 64 (b : Int)).toNat : Int) = _
  rw [BitVec.toNat_or, ofInt_u64 a (by omega), ofInt_u64 b (by omega), IntKind.wrap_i64]
  omega

/-- one step of Get: the next group is or'ed in -/
theorem gstep (v c : Int) (i : Nat) (hi : i < 9) (hv : 0 ≤ v) (hv' : v < 128 ^ i) (hc : 0 ≤ c) (hc' : c ≤ 255) :
    bits .or .i64 v (wrap64 (bits .and .i64 c 127 * 2 ^ (7 * i))) = v + (c % 128) * 128 ^ i := by
  rw [i64_and127, pow128] at *
  have e2 : ((2 : Int) ^ (7 * i)) = ((2 ^ (7 * i) : Nat) : Int) := by push_cast; rfl
  rw [e2]
  have hp : (2 : Nat) ^ (7 * i) ≤ 2 ^ 56 := Nat.pow_le_pow_right (by omega) (by omega)
  obtain ⟨d, hd⟩ : ∃ d : Nat, c % 128 = (d : Int) := ⟨(c % 128).toNat, by omega⟩
  have hd1 : d < 128 := by omega
  rw [hd]
  obtain ⟨u, rfl⟩ : ∃ u : Nat, v = (u : Int) := ⟨v.toNat, by omega⟩
  have hm : d * 2 ^ (7 * i) ≤ 127 * 2 ^ 56 := Nat.mul_le_mul (by omega) hp
  have hu : u < 2 ^ (7 * i) := by exact_mod_cast hv'
  have ew : wrap64 ((d : Int) * ((2 ^ (7 * i) : Nat) : Int)) = ((d * 2 ^ (7 * i) : Nat) : Int) := by
    rw [show (d : Int) * ((2 ^ (7 * i) : Nat) : Int) = ((d * 2 ^ (7 * i) : Nat) : Int) from by push_cast; rfl]
    unfold wrap64
    generalize d * 2 ^ (7 * i) = x at hm
    omega
  rw [ew, i64_or_nat u (d * 2 ^ (7 * i)) (by omega) (by omega), Nat.or_comm, nat_join (7 * i) (d * 2 ^ (7 * i)) u (Nat.mul_mod_left _ _) hu]
  push_cast
  omega

/-- how many groups ahead of one below 128 -/
def cnt : List Int → Nat
  | [] => 0
  | c :: r => if 127 < c then cnt r + 1 else 0

theorem cnt_le (l : List Int) : cnt l ≤ l.length := by
  induction l with
  | nil => simp [cnt]
  | cons c r ih => simp only [cnt]; split <;> simp <;> omega

theorem cnt_lt (l : List Int) : ∀ j, j < cnt l → 127 < l.getD j 0 := by
  induction l with
  | nil => simp [cnt]
  | cons c r ih =>
    intro j hj
    simp only [cnt] at hj
    split at hj
    · cases j with
      | zero => simpa
      | succ j => simpa using ih j (by omega)
    · omega

theorem cnt_at (l : List Int) : cnt l < l.length → l.getD (cnt l) 0 ≤ 127 := by
  induction l with
  | nil => simp [cnt]
  | cons c r ih =>
    intro h
    simp only [cnt] at *
    split
    · next hc => rw [if_pos hc] at h; simpa using ih (by simpa using h)
    · simpa using (by omega)

def maxNum : Int := 4611686018427387903

/-- what Get tells: p the place, m how many bytes from there, k how many groups ahead of the last, c that one, v the number -/
def getR (p m k : Nat) (c v : Int) : Int × Int × Int :=
  if 9 ≤ k then (0, 0, 5) else if k = m then (0, 0, 4) else if c = 0 ∧ 0 < k then (0, 0, 5) else if maxNum < v then (0, 0, 7) else (v, (p : Int) + k + 1, 0)

/-- what Get tells of bytes, at a place -/
def G (l : List Int) (at' : Int) : Int × Int × Int :=
  if at' < 0 ∨ (l.length : Int) < at' then (0, 0, 3)
  else getR at'.toNat (l.length - at'.toNat) (cnt (l.drop at'.toNat)) (l.getD (at'.toNat + cnt (l.drop at'.toNat)) 0)
    (Hn (fun j => l.getD (at'.toNat + j) 0) 0 (cnt (l.drop at'.toNat) + 1))

theorem G_bd (l : List Int) (a : Int) (hl : (l.length : Int) ≤ 9223372036854775807) : 0 ≤ (G l a).1 ∧ (G l a).1 ≤ maxNum ∧ 0 ≤ (G l a).2.1 ∧ (G l a).2.1 ≤ l.length ∧ 0 ≤ (G l a).2.2 ∧ (G l a).2.2 ≤ 7 := by
  unfold G
  split
  · simp [maxNum]
  · next h =>
    have hb := (Hn_bd (fun j => l.getD (a.toNat + j) 0) (cnt (l.drop a.toNat) + 1) 0).1
    have hk := cnt_le (l.drop a.toNat)
    rw [List.length_drop] at hk
    generalize hv : Hn (fun j => l.getD (a.toNat + j) 0) 0 (cnt (l.drop a.toNat) + 1) = v at *
    generalize cnt (l.drop a.toNat) = k at *
    generalize l.getD (a.toNat + k) 0 = c
    unfold getR maxNum
    repeat' split
    all_goals simp
    omega
end Go.Proofs.NumMath

/- num.Get and the document's Get: both tell G. -/
namespace Go.Proofs.Ytboienpdnfcooaa.Num
open Go.RowKit Go.Proofs.NumMath
set_option linter.unusedVariables false
set_option maxRecDepth 100000

/-- three results -/
def trip (g : Int × Int × Int) : Value := .tuple #[.int .i64 g.1, .int .i64 g.2.1, .int .i64 g.2.2]

theorem getR_nine {p m k : Nat} {c v : Int} (h : 9 ≤ k) : Ending.returned (.tuple #[.int .i64 0, .int .i64 0, .int .i64 5]) = .returned (trip (getR p m k c v)) := by
  simp [trip, getR, h]
theorem getR_end {p m k : Nat} {c v : Int} (h : k < 9) (h2 : k = m) : Ending.returned (.tuple #[.int .i64 0, .int .i64 0, .int .i64 4]) = .returned (trip (getR p m k c v)) := by
  subst h2; simp [trip, getR, show ¬ 9 ≤ k from by omega]
theorem getR_form {p m k : Nat} {c v : Int} (h : k < 9) (h2 : k ≠ m) (h3 : c = 0) (h4 : 0 < k) : Ending.returned (.tuple #[.int .i64 0, .int .i64 0, .int .i64 5]) = .returned (trip (getR p m k c v)) := by
  simp [trip, getR, show ¬ 9 ≤ k from by omega, h2, h3, h4]
theorem getR_big {p m k : Nat} {c v : Int} (h : k < 9) (h2 : k ≠ m) (h3 : ¬ (c = 0 ∧ 0 < k)) (h4 : 4611686018427387903 < v) : Ending.returned (.tuple #[.int .i64 0, .int .i64 0, .int .i64 7]) = .returned (trip (getR p m k c v)) := by
  simp [trip, getR, show ¬ 9 ≤ k from by omega, h2, h3, maxNum, h4]
theorem getR_ok {p m k : Nat} {c v x : Int} (h : k < 9) (h2 : k ≠ m) (h3 : ¬ (c = 0 ∧ 0 < k)) (h4 : v ≤ 4611686018427387903) (hx : x = v) : Ending.returned (.tuple #[.int .i64 x, .int .i64 ((p : Int) + k + 1), .int .i64 0]) = .returned (trip (getR p m k c v)) := by
  subst hx; simp [trip, getR, show ¬ 9 ≤ k from by omega, h2, h3, maxNum, show ¬ 4611686018427387903 < x from by omega]

set_option maxHeartbeats 1000000 in
theorem get_walk (b off : Nat) (len cap p k : Nat) (f : Nat → Int) (w : World) (hl : len ≤ 9223372036854775807) (hp : p ≤ len)
   (hc : ∀ i, p + i < len → w.cell? ⟨b, off + (p + i), none⟩ = some (.int .u8 (f i))) (hf : ∀ i, 0 ≤ f i ∧ f i ≤ 255)
   (hk : p + k ≤ len) (hk1 : ∀ j, j < k → 127 < f j) (hk2 : p + k < len → f k ≤ 127) :
    Calls Try.prog 20 #[.slice (some ⟨b, off, none⟩) len cap, .int .i64 p] w fun e w' => e = .returned (trip (getR p (len - p) k (f k) (Hn f 0 (k + 1)))) ∧ w = w' := by
  go_enter Try.func20, Try.ntmps20
  go_wp2
  go_loop [7, 18] (fun n c => ∃ i : Nat, i ≤ 9 ∧ i ≤ k ∧ c = .int .i64 i ∧ n = .int .i64 (Hn f 0 i)) (fun _ c => 9 - (intOf c).toNat)
  case atStart => exact ⟨0, by omega, by omega, rfl, rfl⟩
  case round =>
    obtain ⟨i, hi, hik, rfl, rfl⟩ := hrel
    have hfi := hf i
    have hVi := Hn_bd f i 0
    by_cases h9 : i < 9
    · have HS := Lib.hid (gstep (Hn f 0 i) (f i) i h9 hVi.1 hVi.2 hfi.1 hfi.2)
      have HT := Lib.hid (Hn_succ' f i 0)
      by_cases he : p + i = len
      · have he' : ((p : Int) + (i : Int) == (len : Int)) = true := by simp; omega
        have hie : i = k := by omega
        have HE := Lib.hid he; clear he
        have HI := Lib.hid hie; clear hie
        go_wp2
        go_ret3
        exact ⟨getR_end (by have := HI.out; omega) (by have := HE.out; have := HI.out; omega), rfl⟩
      · have hci := hc i (by omega)
        by_cases hki : i < k
        · have hgt := hk1 i hki
          go_wp2
          go_round
          case rel => exact ⟨i + 1, by omega, by omega, by go_num, by rw [HS.out, HT.out]; simp⟩
          case measure => simp [intOf]; omega
        · have hie : k = i := by omega
          subst hie
          have hle := hk2 (by omega)
          by_cases hz : f k = 0 ∧ 0 < k
          · obtain ⟨hz1, hz2⟩ := hz
            have hz1' : (f k == 0) = true := by simp [hz1]
            have HZ := Lib.hid hz1; clear hz1
            go_wp2
            go_ret3
            exact ⟨getR_form (by omega) (by omega) HZ.out hz2, rfl⟩
          · have HZ := Lib.hid hz; clear hz
            have HV : Hid (bits .or .i64 (Hn f 0 k) (wrap64 (bits .and .i64 (f k) 127 * 2 ^ (7 * k))) = Hn f 0 (k + 1)) := by
              show _ = _
              rw [HS.out, HT.out]; simp
            by_cases h0 : f k = 0
            · have hb : (f k == 0) = true := by simp [h0]
              have hk0 : ¬ 0 < k := fun h => HZ.out ⟨h0, h⟩
              clear h0
              go_wp2
              · have hbig : 4611686018427387903 < bits .or .i64 (Hn f 0 k) (wrap64 (bits .and .i64 (f k) 127 * 2 ^ (7 * k))) := by assumption
                go_ret3
                exact ⟨getR_big (by omega) (by omega) HZ.out (by rw [HV.out] at hbig; exact hbig), rfl⟩
              · have hbig : bits .or .i64 (Hn f 0 k) (wrap64 (bits .and .i64 (f k) 127 * 2 ^ (7 * k))) ≤ 4611686018427387903 := by assumption
                go_ret3
                exact ⟨getR_ok (by omega) (by omega) HZ.out (by rw [HV.out] at hbig; exact hbig) HV.out, rfl⟩
            · have hb : (f k == 0) = false := by simp [h0]
              clear h0
              go_wp2
              · have hbig : 4611686018427387903 < bits .or .i64 (Hn f 0 k) (wrap64 (bits .and .i64 (f k) 127 * 2 ^ (7 * k))) := by assumption
                go_ret3
                exact ⟨getR_big (by omega) (by omega) HZ.out (by rw [HV.out] at hbig; exact hbig), rfl⟩
              · have hbig : bits .or .i64 (Hn f 0 k) (wrap64 (bits .and .i64 (f k) 127 * 2 ^ (7 * k))) ≤ 4611686018427387903 := by assumption
                go_ret3
                exact ⟨getR_ok (by omega) (by omega) HZ.out (by rw [HV.out] at hbig; exact hbig) HV.out, rfl⟩
    · go_wp2
      go_ret3
      exact ⟨getR_nine (by omega), rfl⟩

/-- a slice's address and elements, as the walk reads them -/
def Bytes (w : World) (a : Option Addr) (l : List Int) : Prop :=
  (∀ i, 0 ≤ l.getD i 0 ∧ l.getD i 0 ≤ 255) ∧ (l ≠ [] → ∃ b off, a = some ⟨b, off, none⟩ ∧ ∀ i, i < l.length → w.cell? ⟨b, off + i, none⟩ = some (.int .u8 (l.getD i 0)))

set_option maxHeartbeats 400000 in
theorem get_empty (a : Option Addr) (cap : Nat) (w : World) :
    Calls Try.prog 20 #[.slice a 0 cap, .int .i64 0] w fun e w' => e = .returned (.tuple #[.int .i64 0, .int .i64 0, .int .i64 4]) ∧ w = w' := by
  go_enter Try.func20, Try.ntmps20
  go_wp2
  refine wp_loop_rounds 1 ?_
  rw [rounds_succ]
  go_wp2
  go_ret3
  exact ⟨rfl, rfl⟩

set_option maxHeartbeats 400000 in
theorem get_out (a : Option Addr) (len cap : Nat) (p : Int) (w : World) (h : p < 0 ∨ (len : Int) < p) :
    Calls Try.prog 20 #[.slice a len cap, .int .i64 p] w fun e w' => e = .returned (.tuple #[.int .i64 0, .int .i64 0, .int .i64 3]) ∧ w = w' := by
  by_cases h0 : p < 0
  · clear h
    go_enter Try.func20, Try.ntmps20
    go_wp2
    go_ret3
    exact ⟨rfl, rfl⟩
  · have h1 : (len : Int) < p := by omega
    clear h
    go_enter Try.func20, Try.ntmps20
    go_wp2
    go_ret3
    exact ⟨rfl, rfl⟩

theorem get_any (a : Option Addr) (cap : Nat) (l : List Int) (p : Int) (w : World) (hl : l.length ≤ 9223372036854775807) (hB : Bytes w a l) :
    Calls Try.prog 20 #[.slice a l.length cap, .int .i64 p] w fun e w' => e = .returned (trip (G l p)) ∧ w = w' := by
  by_cases hp : p < 0 ∨ (l.length : Int) < p
  · refine (get_out a l.length cap p w hp).mono ?_
    rintro e w' ⟨rfl, rfl⟩
    exact ⟨by simp [trip, G, hp], rfl⟩
  · obtain ⟨q, rfl⟩ : ∃ q : Nat, p = (q : Int) := ⟨p.toNat, by omega⟩
    have hG : G l q = getR q (l.length - q) (cnt (l.drop q)) (l.getD (q + cnt (l.drop q)) 0) (Hn (fun j => l.getD (q + j) 0) 0 (cnt (l.drop q) + 1)) := by
      unfold G; rw [if_neg hp]; simp only [Int.toNat_natCast]
    by_cases hn : l = []
    · subst hn
      have hq : q = 0 := by simp at hp; omega
      subst hq
      refine (get_empty a cap w).mono ?_
      rintro e w' ⟨rfl, rfl⟩
      exact ⟨by rw [hG]; simp [trip, getR, cnt], rfl⟩
    · obtain ⟨b, off, rfl, hc⟩ := hB.2 hn
      have hd : ∀ j, (l.drop q).getD j 0 = l.getD (q + j) 0 := fun j => by simp [List.getD_eq_getElem?_getD]
      have hkl := cnt_le (l.drop q)
      rw [List.length_drop] at hkl
      rw [hG]
      refine get_walk b off l.length cap q (cnt (l.drop q)) (fun j => l.getD (q + j) 0) w hl (by omega) (fun i hi => hc _ hi) (fun i => hB.1 _) (by omega) (fun j hj => ?_) (fun hj => ?_)
      · show 127 < l.getD (q + j) 0
        rw [← hd]; exact cnt_lt _ j hj
      · show l.getD (q + cnt (l.drop q)) 0 ≤ 127
        rw [← hd]; exact cnt_at _ (by rw [List.length_drop]; omega)
end Go.Proofs.Ytboienpdnfcooaa.Num

/- Slices of bytes that a call itself made: what is owned, and how it stays so. -/
namespace Go.Proofs.Ytboienpdnfcooaa.Num
open Go.RowKit Go.Proofs.NumMath
set_option linter.unusedVariables false
set_option maxRecDepth 100000

theorem Try.info5 : (Try.prog.info? 5).map (fun i => (i.zero, i.size, i.bytes)) = some (some (.int .u8 0), 1, 1) := by kernel_rfl

/-- bytes, as numbers -/
def Oct (l : List Int) : Prop := ∀ c ∈ l, 0 ≤ c ∧ c ≤ 255
theorem Oct.getD {l : List Int} (h : Oct l) (i : Nat) : 0 ≤ l.getD i 0 ∧ l.getD i 0 ≤ 255 := by
  by_cases hi : i < l.length
  · rw [List.getD_eq_getElem?_getD, List.getElem?_eq_getElem hi]; exact h _ (List.getElem_mem hi)
  · rw [List.getD_eq_getElem?_getD, List.getElem?_eq_none (by omega)]; simp
theorem Oct.append {l m : List Int} (h : Oct l) (k : Oct m) : Oct (l ++ m) := by
  intro c hc; rcases List.mem_append.1 hc with h' | h'
  · exact h c h'
  · exact k c h'
theorem Bytes.oct {w : World} {a : Option Addr} {l : List Int} (h : Bytes w a l) : Oct l := by
  intro c hc
  obtain ⟨i, hi, rfl⟩ := List.mem_iff_getElem.1 hc
  have := h.1 i
  rwa [List.getD_eq_getElem?_getD, List.getElem?_eq_getElem hi] at this

/-- the slice v owns the bytes l, in blocks from base on -/
def Own (w : World) (base : Nat) (v : Value) (l : List Int) : Prop := w.ownsRow base 5 1 v l.length (l.map (Value.int .u8))

theorem Own.below {w w' : World} {base : Nat} {v : Value} {l : List Int} (h : Own w base v l) (hb : Below w.heap.size w w') : Own w' base v l := by
  obtain ⟨h1, h2⟩ := h
  refine ⟨h1, ?_⟩
  rcases h2 with h2 | ⟨g, cap, cur, h3, h4, h5, h6, h7, h8, h9⟩
  · exact .inl h2
  · refine .inr ⟨g, cap, cur, h3, h4, ?_, h6, h7, h8, h9⟩
    have hlt : g < w.heap.size := by
      rcases Nat.lt_or_ge g w.heap.size with h | h
      · exact h
      · rw [Array.getElem?_eq_none h] at h5; cases h5
    rw [hb.block g hlt]; exact h5

theorem Own.lower {w : World} {base base' : Nat} {v : Value} {l : List Int} (h : Own w base v l) (hb : base' ≤ base) : Own w base' v l := by
  obtain ⟨h1, h2⟩ := h
  refine ⟨h1, ?_⟩
  rcases h2 with h2 | ⟨g, cap, cur, h3, h4, h5, h6, h7, h8, h9⟩
  · exact .inl h2
  · exact .inr ⟨g, cap, cur, h3, by omega, h5, h6, h7, h8, h9⟩

theorem Own.nil (w : World) (base : Nat) : Own w base (.slice none 0 0) [] := World.ownsRow_nil _ _ _ _

/-- as a value, and as what is read -/
theorem Own.bytes {w : World} {base : Nat} {v : Value} {l : List Int} (h : Own w base v l) (ho : Oct l) : ∃ a cap, v = .slice a l.length cap ∧ Bytes w a l := by
  obtain ⟨h1, h2⟩ := h
  rcases h2 with ⟨rfl, h0⟩ | ⟨g, cap, cur, rfl, h4, h5, h6, h7, h8, h9⟩
  · have hl : l = [] := List.eq_nil_of_length_eq_zero h0
    subst hl
    exact ⟨none, 0, rfl, fun i => by simp, fun h => absurd rfl h⟩
  · refine ⟨some ⟨g, 0, none⟩, cap, rfl, fun i => ho.getD i, fun _ => ⟨g, 0, rfl, fun i hi => ?_⟩⟩
    have hown : w.ownsRow base 5 1 (.slice (some ⟨g, 0, none⟩) l.length cap) l.length (l.map (Value.int .u8)) := ⟨h1, .inr ⟨g, cap, cur, rfl, h4, h5, h6, h7, h8, h9⟩⟩
    rw [Nat.zero_add, hown.cellAt i (by omega), List.getElem?_map, List.getElem?_eq_getElem hi, List.getD_eq_getElem?_getD, List.getElem?_eq_getElem hi]
    rfl

/-- a block that is no row of bytes is not the one that v owns -/
theorem Own.apart {w : World} {base : Nat} {v : Value} {l : List Int} (h : Own w base v l) {k : Nat} {cs : Array Value} {t : TypeId} {fr : Nat × Nat} (hk : w.heap[k]? = some (.cells cs t fr)) (ht : t ≠ 5) : some k ≠ v.ownBlock := by
  obtain ⟨h1, h2⟩ := h
  rcases h2 with ⟨rfl, h0⟩ | ⟨g, cap, cur, rfl, h4, h5, h6, h7, h8, h9⟩
  · intro e; simp [Value.ownBlock] at e
  · intro e
    simp [Value.ownBlock] at e
    subst e
    rw [hk] at h5
    simp at h5
    exact ht h5.2.1

theorem Own.base_le {w : World} {base : Nat} {v : Value} {l : List Int} (h : Own w base v l) : ∀ k, v.ownBlock = some k → base ≤ k := fun k hk => (World.ownsRow.lt h k hk).1
end Go.Proofs.Ytboienpdnfcooaa.Num

/- the document's Get tells G. -/
namespace Go.Proofs.Ytboienpdnfcooaa.Num
open Go.RowKit Go.Proofs.NumMath
set_option linter.unusedVariables false
set_option maxRecDepth 100000

set_option maxHeartbeats 1000000 in
theorem rget_walk (b off : Nat) (len cap p k : Nat) (f : Nat → Int) (w : World) (hl : len ≤ 9223372036854775807) (hp : p ≤ len)
   (hc : ∀ i, p + i < len → w.cell? ⟨b, off + (p + i), none⟩ = some (.int .u8 (f i))) (hf : ∀ i, 0 ≤ f i ∧ f i ≤ 255)
   (hk : p + k ≤ len) (hk1 : ∀ j, j < k → 127 < f j) (hk2 : p + k < len → f k ≤ 127) :
    Calls Try.prog 40 #[.slice (some ⟨b, off, none⟩) len cap, .int .i64 p] w fun e w' => e = .returned (trip (getR p (len - p) k (f k) (Hn f 0 (k + 1)))) ∧ w = w' := by
  go_enter Try.func40, Try.ntmps40
  go_wp2
  go_loop [7] (fun c => ∃ i : Nat, i ≤ 9 ∧ i ≤ k ∧ c = .int .i64 ((p : Int) + i)) (fun c => p + 9 - (intOf c).toNat)
  case atStart => exact ⟨0, by omega, by omega, by go_num⟩
  case round =>
    obtain ⟨i, hi, hik, rfl⟩ := hrel
    have hfi := hf i
    have hci : p + i < len → w.cell? ⟨b, off + (p + i), none⟩ = some (.int .u8 (f i)) := hc i
    by_cases hgo : i < 9 ∧ i < k
    · obtain ⟨hg1, hg2⟩ := hgo
      have hgt := hk1 i hg2
      have hci := hc i (by omega)
      go_wp2
      go_round
      case rel => exact ⟨i + 1, by omega, by omega, by go_num⟩
      case measure => simp [intOf]; omega
    · by_cases h9 : 9 ≤ k
      · have hi9 : i = 9 := by omega
        subst hi9
        by_cases hlt : p + 9 < len
        · go_wp2
          go_ret3
          exact ⟨getR_nine h9, rfl⟩
        · go_wp2
          go_ret3
          exact ⟨getR_nine h9, rfl⟩
      · have hki : i = k := by omega
        subst hki
        by_cases he : p + i = len
        · have he' : ((p : Int) + (i : Int) == (len : Int)) = true := by simp; omega
          have he2 : ¬ (p : Int) + (i : Int) < (len : Int) := by omega
          have HE := Lib.hid he; clear he
          go_wp2
          go_ret3
          exact ⟨getR_end (by omega) (by have := HE.out; omega), rfl⟩
        · have hci := hc i (by omega)
          have hle := hk2 (by omega)
          have hlt : (p : Int) + (i : Int) < (len : Int) := by omega
          by_cases hz : f i = 0 ∧ 0 < i
          · obtain ⟨hz1, hz2⟩ := hz
            have hz1' : (f i == 0) = true := by simp [hz1]
            have HZ := Lib.hid hz1; clear hz1
            go_wp2
            go_ret3
            exact ⟨getR_form (by omega) (by omega) HZ.out hz2, rfl⟩
          · have HZ := Lib.hid hz; clear hz
            have hor : (f i == 0) = false ∨ ((f i == 0) = true ∧ ¬ 0 < i) := by
              by_cases h0 : f i = 0
              · exact .inr ⟨by simp [h0], fun h => HZ.out ⟨h0, h⟩⟩
              · exact .inl (by simp [h0])
            rcases hor with hb | ⟨hb, hk0⟩
            all_goals
              go_wp2
              go_loop [8, 9] (fun n c => ∃ j : Nat, j ≤ i + 1 ∧ c = .int .i64 ((p : Int) + j - 1) ∧ n = .int .i64 (Hn f j (i + 1 - j)) ∧ Hn f j (i + 1 - j) ≤ 4611686018427387903) (fun _ c => (intOf c + 1 - p).toNat)
              case atStart => exact ⟨i + 1, by omega, by go_num, by rw [Nat.sub_self]; rfl, by rw [Nat.sub_self]; simp [Hn]⟩
              case round =>
                obtain ⟨j, hj, rfl, rfl, hm⟩ := hrel
                have hn0 := (Hn_bd f (i + 1 - j) j).1
                by_cases hj0 : j = 0
                · subst hj0
                  have hm' : Hn f 0 (i + 1) ≤ 4611686018427387903 := hm
                  clear hm hn0
                  go_wp2
                  go_ret3
                  exact ⟨getR_ok (by omega) (by omega) HZ.out hm' rfl, rfl⟩
                · obtain ⟨j', rfl⟩ : ∃ j', j = j' + 1 := ⟨j - 1, by omega⟩
                  have hcj := hc j' (by omega)
                  have hfj := hf j'
                  have HH : Hid (Hn f j' (i + 1 - j') = f j' % 128 + 128 * Hn f (j' + 1) (i - j')) := by
                    show _ = _
                    rw [show i + 1 - j' = (i - j') + 1 from by omega]; rfl
                  have HB := Lib.hid (Hn_big f i j' (by omega))
                  rw [Nat.add_sub_add_right] at hm hn0
                  by_cases hbig : 36028797018963967 < Hn f (j' + 1) (i - j')
                  · go_wp2
                    go_ret3
                    exact ⟨getR_big (by omega) (by omega) HZ.out (HB.out hbig), rfl⟩
                  · go_wp2
                    go_round
                    case rel => exact ⟨j', by omega, by go_num, by rw [HH.out]; go_num, by rw [HH.out]; omega⟩
                    case measure => simp [intOf]; omega

set_option maxHeartbeats 400000 in
theorem rget_empty (a : Option Addr) (cap : Nat) (w : World) :
    Calls Try.prog 40 #[.slice a 0 cap, .int .i64 0] w fun e w' => e = .returned (.tuple #[.int .i64 0, .int .i64 0, .int .i64 4]) ∧ w = w' := by
  go_enter Try.func40, Try.ntmps40
  go_wp2
  refine wp_loop_rounds 1 ?_
  rw [rounds_succ]
  go_wp2
  go_ret3
  exact ⟨rfl, rfl⟩

set_option maxHeartbeats 400000 in
theorem rget_out (a : Option Addr) (len cap : Nat) (p : Int) (w : World) (h : p < 0 ∨ (len : Int) < p) :
    Calls Try.prog 40 #[.slice a len cap, .int .i64 p] w fun e w' => e = .returned (.tuple #[.int .i64 0, .int .i64 0, .int .i64 3]) ∧ w = w' := by
  by_cases h0 : p < 0
  · clear h
    go_enter Try.func40, Try.ntmps40
    go_wp2
    go_ret3
    exact ⟨rfl, rfl⟩
  · have h1 : (len : Int) < p := by omega
    clear h
    go_enter Try.func40, Try.ntmps40
    go_wp2
    go_ret3
    exact ⟨rfl, rfl⟩

theorem rget_any (a : Option Addr) (cap : Nat) (l : List Int) (p : Int) (w : World) (hl : l.length ≤ 9223372036854775807) (hB : Bytes w a l) :
    Calls Try.prog 40 #[.slice a l.length cap, .int .i64 p] w fun e w' => e = .returned (trip (G l p)) ∧ w = w' := by
  by_cases hp : p < 0 ∨ (l.length : Int) < p
  · refine (rget_out a l.length cap p w hp).mono ?_
    rintro e w' ⟨rfl, rfl⟩
    exact ⟨by simp [trip, G, hp], rfl⟩
  · obtain ⟨q, rfl⟩ : ∃ q : Nat, p = (q : Int) := ⟨p.toNat, by omega⟩
    have hG : G l q = getR q (l.length - q) (cnt (l.drop q)) (l.getD (q + cnt (l.drop q)) 0) (Hn (fun j => l.getD (q + j) 0) 0 (cnt (l.drop q) + 1)) := by
      unfold G; rw [if_neg hp]; simp only [Int.toNat_natCast]
    by_cases hn : l = []
    · subst hn
      have hq : q = 0 := by simp at hp; omega
      subst hq
      refine (rget_empty a cap w).mono ?_
      rintro e w' ⟨rfl, rfl⟩
      exact ⟨by rw [hG]; simp [trip, getR, cnt], rfl⟩
    · obtain ⟨b, off, rfl, hc⟩ := hB.2 hn
      have hd : ∀ j, (l.drop q).getD j 0 = l.getD (q + j) 0 := fun j => by simp [List.getD_eq_getElem?_getD]
      have hkl := cnt_le (l.drop q)
      rw [List.length_drop] at hkl
      rw [hG]
      refine rget_walk b off l.length cap q (cnt (l.drop q)) (fun j => l.getD (q + j) 0) w hl (by omega) (fun i hi => hc _ hi) (fun i => hB.1 _) (by omega) (fun j hj => ?_) (fun hj => ?_)
      · show 127 < l.getD (q + j) 0
        rw [← hd]; exact cnt_lt _ j hj
      · show l.getD (q + cnt (l.drop q)) 0 ≤ 127
        rw [← hd]; exact cnt_at _ (by rw [List.length_drop]; omega)

end Go.Proofs.Ytboienpdnfcooaa.Num

/- GetInt, both: what Get tells, with a sign. -/
namespace Go.Proofs.Ytboienpdnfcooaa.Num
open Go.RowKit Go.Proofs.NumMath
set_option linter.unusedVariables false
set_option maxRecDepth 100000

/-- what GetInt tells of what Get tells -/
def GI (g : Int × Int × Int) : Int × Int × Int :=
  if g.2.2 = 0 then (if g.1 % 2 = 1 then (-(g.1 / 2) - 1, g.2.1, 0) else (g.1 / 2, g.2.1, 0)) else (0, 0, g.2.2)

end Go.Proofs.Ytboienpdnfcooaa.Num

/- Plain mathematics for num.groups: the row of groups, bit by bit. -/
namespace Go.Proofs.NumMath
open Go.RowKit
set_option linter.unusedVariables false
set_option maxRecDepth 100000

def rowF (m k j : Nat) : Nat := (m % 2 ^ k) / 2 ^ (7 * j) % 128

def sizeN (x : Nat) : Nat := if h : x < 128 then 1 else sizeN (x / 128) + 1
termination_by x
decreasing_by omega

theorem rowF_zero (m j : Nat) : rowF m 0 j = 0 := by simp [rowF, Nat.mod_one]

theorem mod_bit0 (m k : Nat) (h : m / 2 ^ k % 2 = 0) : m % 2 ^ (k + 1) = m % 2 ^ k := by
  rw [Nat.mod_pow_succ, h]; simp
theorem mod_bit1 (m k : Nat) (h : m / 2 ^ k % 2 = 1) : m % 2 ^ (k + 1) = m % 2 ^ k + 2 ^ k := by
  rw [Nat.mod_pow_succ, h]; simp

theorem rowF_same (m k j : Nat) (h : m / 2 ^ k % 2 = 0) : rowF m (k + 1) j = rowF m k j := by
  unfold rowF; rw [mod_bit0 m k h]

theorem rowF_lt (m k : Nat) : rowF m k (k / 7) < 2 ^ (k % 7) := by
  unfold rowF
  have hx : m % 2 ^ k < 2 ^ k := Nat.mod_lt _ (Nat.two_pow_pos k)
  have e : 2 ^ k = 2 ^ (7 * (k / 7)) * 2 ^ (k % 7) := by rw [← Nat.pow_add]; congr 1; omega
  have h1 : m % 2 ^ k / 2 ^ (7 * (k / 7)) < 2 ^ (k % 7) := by
    rw [Nat.div_lt_iff_lt_mul (Nat.two_pow_pos _), Nat.mul_comm, ← e]; exact hx
  exact Nat.lt_of_le_of_lt (Nat.mod_le _ _) h1

theorem rowF_bit (m k j : Nat) (h : m / 2 ^ k % 2 = 1) : rowF m (k + 1) j = if j = k / 7 then rowF m k j + 2 ^ (k % 7) else rowF m k j := by
  have hx : m % 2 ^ k < 2 ^ k := Nat.mod_lt _ (Nat.two_pow_pos k)
  have hl := rowF_lt m k
  unfold rowF at *
  rw [mod_bit1 m k h]
  split
  · next hj =>
    subst hj
    have e : 2 ^ k = 2 ^ (7 * (k / 7)) * 2 ^ (k % 7) := by rw [← Nat.pow_add]; congr 1; omega
    have hr : 2 ^ (k % 7) ≤ 2 ^ 6 := Nat.pow_le_pow_right (by omega) (by omega)
    have h1 : m % 2 ^ k / 2 ^ (7 * (k / 7)) < 2 ^ (k % 7) := by
      rw [Nat.div_lt_iff_lt_mul (Nat.two_pow_pos _), Nat.mul_comm, ← e]; exact hx
    have h2 : (m % 2 ^ k + 2 ^ k) / 2 ^ (7 * (k / 7)) = m % 2 ^ k / 2 ^ (7 * (k / 7)) + 2 ^ (k % 7) := by
      have := Nat.add_mul_div_left (m % 2 ^ k) (2 ^ (k % 7)) (Nat.two_pow_pos (7 * (k / 7)))
      rw [← e] at this
      exact this
    rw [h2]
    omega
  · next hj =>
    by_cases hlt : j < k / 7
    · have e : 2 ^ k = 2 ^ (7 * j) * (128 * 2 ^ (k - 7 * j - 7)) := by
        rw [show 128 = 2 ^ 7 from rfl, ← Nat.pow_add, ← Nat.pow_add]; congr 1; omega
      have h2 := Nat.add_mul_div_left (m % 2 ^ k) (128 * 2 ^ (k - 7 * j - 7)) (Nat.two_pow_pos (7 * j))
      rw [← e] at h2
      rw [h2]
      omega
    · have hk : 2 ^ (k + 1) ≤ 2 ^ (7 * j) := Nat.pow_le_pow_right (by omega) (by omega)
      rw [Nat.pow_succ] at hk
      rw [Nat.div_eq_of_lt (by omega), Nat.div_eq_of_lt (by omega)]

theorem rowF_u8 (m k j : Nat) : rowF m k j < 128 := Nat.mod_lt _ (by omega)

theorem sizeN_pow (j : Nat) : ∀ x, (j = 0 ∨ 2 ^ (7 * j) ≤ x) → x < 2 ^ (7 * (j + 1)) → sizeN x = j + 1 := by
  induction j with
  | zero => intro x _ h; rw [sizeN, dif_pos (by simpa using h)]
  | succ j ih =>
    intro x h1 h2
    have h1 : 2 ^ (7 * (j + 1)) ≤ x := by rcases h1 with h | h; omega; exact h
    have e1 : 2 ^ (7 * (j + 1)) = 2 ^ (7 * j) * 128 := by rw [Nat.mul_succ, Nat.pow_add]
    have e2 : 2 ^ (7 * (j + 1 + 1)) = 2 ^ (7 * (j + 1)) * 128 := by rw [Nat.mul_succ, Nat.pow_add]
    have hp := Nat.two_pow_pos (7 * j)
    rw [sizeN, dif_neg (by omega), ih (x / 128) (.inr (by omega)) (by omega)]

theorem size_bit (m k : Nat) (h : m / 2 ^ k % 2 = 1) : sizeN (m % 2 ^ (k + 1)) = k / 7 + 1 := by
  have hx : m % 2 ^ k < 2 ^ k := Nat.mod_lt _ (Nat.two_pow_pos k)
  rw [mod_bit1 m k h]
  refine sizeN_pow (k / 7) _ (.inr ?_) ?_
  · have : 2 ^ (7 * (k / 7)) ≤ 2 ^ k := Nat.pow_le_pow_right (by omega) (by omega)
    omega
  · have : 2 ^ (k + 1) ≤ 2 ^ (7 * (k / 7 + 1)) := Nat.pow_le_pow_right (by omega) (by omega)
    rw [Nat.pow_succ] at this
    omega
theorem size_same (m k : Nat) (h : m / 2 ^ k % 2 = 0) : sizeN (m % 2 ^ (k + 1)) = sizeN (m % 2 ^ k) := by
  rw [mod_bit0 m k h]
theorem size_zero (m : Nat) : sizeN (m % 2 ^ 0) = 1 := by rw [Nat.pow_zero, Nat.mod_one, sizeN]; simp

theorem sizeN_le : ∀ (j x : Nat), x < 2 ^ (7 * (j + 1)) → sizeN x ≤ j + 1 := by
  intro j
  induction j with
  | zero => intro x h; rw [sizeN, dif_pos (by simpa using h)]; omega
  | succ j ih =>
    intro x h
    rw [sizeN]
    split
    · omega
    · have e2 : 2 ^ (7 * (j + 1 + 1)) = 2 ^ (7 * (j + 1)) * 128 := by rw [Nat.mul_succ, Nat.pow_add]
      have := ih (x / 128) (by omega)
      omega
theorem sizeN_pos (x : Nat) : 1 ≤ sizeN x := by rw [sizeN]; split <;> omega
theorem sizeN_mono (x : Nat) : ∀ y, x ≤ y → sizeN x ≤ sizeN y := by
  induction x using Nat.strongRecOn with
  | _ x ih =>
    intro y h
    rw [sizeN]
    split
    · exact sizeN_pos y
    · rw [sizeN.eq_def y, dif_neg (by omega)]
      have := ih (x / 128) (by omega) (y / 128) (by omega)
      omega

theorem i64_and1 (x : Nat) (hx : x < 9223372036854775808) : bits .and .i64 (x : Int) 1 = ((x % 2 : Nat) : Int) := by
  have h1 : (BitVec.ofInt 64 1).toNat = 2 ^ 1 - 1 := by decide
  show IntKind.i64.wrap ((BitVec.ofInt 64 (x : Int) &&& BitVec.ofInt 64 1).toNat : Int) = _
  rw [BitVec.toNat_and, ofInt_u64 x (by omega), h1, Nat.and_two_pow_sub_one_eq_mod, IntKind.wrap_i64]
  omega

theorem bit_test (m k : Nat) (hm : m ≤ 4611686018427387903) : bits .and .i64 ((m : Int) / 2 ^ k) 1 = ((m / 2 ^ k % 2 : Nat) : Int) := by
  have e : ((m : Int) / 2 ^ k) = ((m / 2 ^ k : Nat) : Int) := by push_cast; rfl
  have := Nat.div_le_self m (2 ^ k)
  rw [e, i64_and1 _ (by omega)]

theorem u8_put (r k : Nat) (hr : r < 2 ^ (k % 7)) : bits .or .u8 (r : Int) (2 ^ (k % 7)) = ((r + 2 ^ (k % 7) : Nat) : Int) := by
  have h6 : 2 ^ (k % 7) ≤ 2 ^ 6 := Nat.pow_le_pow_right (by omega) (by omega)
  have e : ((2 : Int) ^ (k % 7)) = ((2 ^ (k % 7) : Nat) : Int) := by push_cast; rfl
  rw [e, u8_or_nat r (2 ^ (k % 7)) (by omega) (by omega), Nat.or_comm, nat_join (k % 7) (2 ^ (k % 7)) r (Nat.mod_self _) hr, Nat.add_comm]
end Go.Proofs.NumMath

/- num.groups: the row of groups, and how many count. -/
namespace Go.Proofs.Ytboienpdnfcooaa.Num
open Go.RowKit Go.Proofs.NumMath
set_option linter.unusedVariables false
set_option maxRecDepth 100000

/-- the row as a value -/
abbrev rowV (g : Nat → Int) : Value := .agg #[.int .u8 (g 0), .int .u8 (g 1), .int .u8 (g 2), .int .u8 (g 3), .int .u8 (g 4), .int .u8 (g 5), .int .u8 (g 6), .int .u8 (g 7), .int .u8 (g 8)]

/-- what the loop keeps of the row's block -/
def RowAt (wr : World) (B : Nat) (g : Nat → Int) : Prop :=
  ∀ j, j < 9 → wr.cell? ⟨B, j, none⟩ = some (.int .u8 (g j)) ∧ wr.frozen? ⟨B, j, none⟩ = false

abbrev Z9 : Obj := .cells #[.int .u8 0, .int .u8 0, .int .u8 0, .int .u8 0, .int .u8 0, .int .u8 0, .int .u8 0, .int .u8 0, .int .u8 0] 61

theorem rowAt_start (w : World) (m : Nat) : RowAt ((w.alloc Z9).alloc Z9) (w.heap.size + 1) (fun j => ((rowF m 0 j : Nat) : Int)) := by
  intro j hj
  simp only [rowF_zero]
  match j, hj with
  | 0, _ | 1, _ | 2, _ | 3, _ | 4, _ | 5, _ | 6, _ | 7, _ | 8, _ => constructor <;> go_simp
theorem rowAt_start0 (w : World) : RowAt ((w.alloc Z9).alloc Z9) w.heap.size (fun j => 0) := by
  intro j hj
  match j, hj with
  | 0, _ | 1, _ | 2, _ | 3, _ | 4, _ | 5, _ | 6, _ | 7, _ | 8, _ => constructor <;> go_simp

theorem rowAt_set {wr : World} {B : Nat} {g g' : Nat → Int} (h : RowAt wr B g) (i : Nat) (hi : i < 9) (x : Int) (hx : g' i = x) (ho : ∀ j, j ≠ i → g' j = g j) :
    RowAt (wr.setCell ⟨B, i, none⟩ (.int .u8 x)) B g' := by
  intro j hj
  refine ⟨?_, by rw [World.frozen?_setCell]; exact (h j hj).2⟩
  by_cases e : j = i
  · subst e; rw [World.cell?_setCell_same _ _ _ (h j hj).1, hx]
  · rw [World.cell?_setCell_other _ _ _ _ (by simp <;> omega), (h j hj).1, ho j e]
theorem rowAt_other {wr : World} {B B' : Nat} {g : Nat → Int} (h : RowAt wr B g) (hb : B' ≠ B) (i : Nat) (v : Value) : RowAt (wr.setCell ⟨B', i, none⟩ v) B g := by
  intro j hj
  refine ⟨?_, by rw [World.frozen?_setCell]; exact (h j hj).2⟩
  rw [World.cell?_setCell_other _ _ _ _ (by simp <;> omega), (h j hj).1]
theorem rowAt_set' {wr : World} {B : Nat} {g : Nat → Int} (h : RowAt wr B g) (i : Nat) (hi : i < 9) (x : Int) : RowAt (wr.setCell ⟨B, i, none⟩ (.int .u8 x)) B (fun j => if j = i then x else g j) :=
  rowAt_set h i hi x (by simp) (fun j hj => by simp [hj])

def set9 (wr : World) (B : Nat) (g : Nat → Int) : World :=
  ((((((((wr.setCell ⟨B, 0, none⟩ (.int .u8 (g 0))).setCell ⟨B, 1, none⟩ (.int .u8 (g 1))).setCell ⟨B, 2, none⟩ (.int .u8 (g 2))).setCell ⟨B, 3, none⟩ (.int .u8 (g 3))).setCell ⟨B, 4, none⟩ (.int .u8 (g 4))).setCell ⟨B, 5, none⟩ (.int .u8 (g 5))).setCell ⟨B, 6, none⟩ (.int .u8 (g 6))).setCell ⟨B, 7, none⟩ (.int .u8 (g 7))).setCell ⟨B, 8, none⟩ (.int .u8 (g 8))

theorem rowAt_congr {wr : World} {B : Nat} {g g' : Nat → Int} (h : RowAt wr B g) (e : ∀ j, j < 9 → g j = g' j) : RowAt wr B g' := by
  intro j hj; rw [← e j hj]; exact h j hj

theorem rowAt_set9 {wr : World} {B : Nat} {g0 : Nat → Int} (h : RowAt wr B g0) (g : Nat → Int) : RowAt (set9 wr B g) B g := by
  unfold set9
  refine rowAt_congr (rowAt_set' (rowAt_set' (rowAt_set' (rowAt_set' (rowAt_set' (rowAt_set' (rowAt_set' (rowAt_set' (rowAt_set' h 0 (by omega) (g 0)) 1 (by omega) (g 1)) 2 (by omega) (g 2)) 3 (by omega) (g 3)) 4 (by omega) (g 4)) 5 (by omega) (g 5)) 6 (by omega) (g 6)) 7 (by omega) (g 7)) 8 (by omega) (g 8)) ?_
  intro j hj
  match j, hj with
  | 0, _ | 1, _ | 2, _ | 3, _ | 4, _ | 5, _ | 6, _ | 7, _ | 8, _ => simp

theorem below_set9 {B : Nat} {w wr : World} (h : Below B w wr) (g : Nat → Int) : Below B w (set9 wr B g) := by
  unfold set9
  iterate 9 refine Below.setCell ?_ (by exact Nat.le_refl _) _
  exact h

theorem rowAt_drew {wr : World} {B : Nat} {g : Nat → Int} (h : RowAt wr B g) : RowAt wr.drew B g := fun j hj => h j hj

theorem pow_mod (k : Nat) : ((2 : Int) ^ (k % 7) % 256) = 2 ^ (k % 7) := by
  have h6 : 2 ^ (k % 7) ≤ 2 ^ 6 := Nat.pow_le_pow_right (by omega) (by omega)
  have e : ((2 : Int) ^ (k % 7)) = ((2 ^ (k % 7) : Nat) : Int) := by push_cast; rfl
  rw [e]
  generalize 2 ^ (k % 7) = y at h6
  omega
def rowN (m j : Nat) : Int := ((m / 2 ^ (7 * j) % 128 : Nat) : Int)
theorem rowF_62 (m j : Nat) (h : m ≤ 4611686018427387903) : ((rowF m 62 j : Nat) : Int) = rowN m j := by
  unfold rowF rowN; rw [Nat.mod_eq_of_lt (a := m) (b := 2 ^ 62) (by omega)]
def heldN (n : Int) : Nat := (min (max n 0) 4611686018427387903).toNat

set_option maxHeartbeats 2000000 in
theorem groups_any (n : Int) (w : World) :
    Calls Try.prog 41 #[.int .i64 n] w fun e w' => e = .returned (.tuple #[rowV (rowN (heldN n)), .int .i64 (sizeN (heldN n) : Nat)]) ∧ Below w.heap.size w w' := by
  obtain ⟨m, hm⟩ : ∃ m, m = heldN n := ⟨_, rfl⟩
  rw [← hm]
  have hm1 : m ≤ 4611686018427387903 := by rw [hm]; unfold heldN; omega
  have HM : Hid ((m : Int) = min (max n 0) 4611686018427387903) := by show _ = _; rw [hm]; unfold heldN; omega
  clear hm
  go_enter Try.func41, Try.ntmps41
  go_upto_region 1 with (fail)
  go_cut [0] (fun v wc => v = .int .i64 (m : Int) ∧ wc = w.alloc Z9)
  case first =>
    go_wp2
    all_goals
      go_meet
      case rel => exact ⟨by have := HM.out; first | (congr 1; omega) | (rw [HM.out]; congr 1; omega), rfl⟩
  case rest =>
    obtain ⟨rfl, rfl⟩ := hcut
    go_wp2
    go_loopw [5, 10] (fun s c wr => ∃ k : Nat, k ≤ 62 ∧ c = .int .i64 k ∧ s = .int .i64 (sizeN (m % 2 ^ k) : Nat) ∧ Below w.heap.size w wr ∧ w.heap.size + 2 ≤ wr.heap.size ∧
      RowAt wr (w.heap.size + 1) (fun j => ((rowF m k j : Nat) : Int)) ∧ RowAt wr w.heap.size (fun j => 0)) (fun _ c _ => 62 - (intOf c).toNat)
    case atStart => exact ⟨0, by omega, rfl, by rw [size_zero]; rfl, ((Below.refl _ _).alloc (Nat.le_refl _) _).alloc (by simp) _, by simp, rowAt_start w m, rowAt_start0 w⟩
    case round =>
      obtain ⟨k, hk, rfl, rfl, hb, hz, hrow, hres⟩ := hrel
      have HROW := Lib.hid hrow; clear hrow
      have HRES := Lib.hid hres; clear hres
      by_cases hlt : k < 62
      · have HT := Lib.hid (bit_test m k hm1)
        by_cases hbit : m / 2 ^ k % 2 = 1
        · have hbt : (bits .and .i64 ((m : Int) / 2 ^ k) 1 == 1) = true := by rw [HT.out, hbit]; rfl
          have HB := Lib.hid hbit; clear hbit
          obtain ⟨hcell, hfz⟩ := HROW.out (k / 7) (by omega)
          have hi7 : ((k / 7 : Nat) : Int) < 9 := by omega
          go_wp2
          go_region
          all_goals go_wp2
          go_roundw
          case rel => exact ⟨k + 1, by omega, by go_num, by rw [size_bit m k HB.out]; go_num, (hb.setCell (by simp) _).drew, by simpa using hz, rowAt_drew (rowAt_set HROW.out (k / 7) (by omega) _ (by
              show ((rowF m (k + 1) (k / 7) : Nat) : Int) = _
              rw [rowF_bit m k _ HB.out, if_pos rfl, ← u8_put _ k (rowF_lt m k), pow_mod])  (fun j hj => by
                show ((rowF m (k + 1) j : Nat) : Int) = ((rowF m k j : Nat) : Int)
                rw [rowF_bit m k _ HB.out, if_neg hj])), rowAt_drew (rowAt_other HRES.out (by omega) _ _)⟩
          case measure => simp [intOf]; omega
        · have hbit0 : m / 2 ^ k % 2 = 0 := by omega
          have hbt : (bits .and .i64 ((m : Int) / 2 ^ k) 1 == 1) = false := by rw [HT.out, hbit0]; rfl
          have HB := Lib.hid hbit0; clear hbit0 hbit
          go_wp2
          go_roundw
          case rel => exact ⟨k + 1, by omega, by go_num, by rw [size_same m k HB.out], hb, hz, by
            have e : (fun j => ((rowF m (k + 1) j : Nat) : Int)) = (fun j => ((rowF m k j : Nat) : Int)) := by funext j; rw [rowF_same m k j HB.out]
            rw [e]; exact HROW.out, HRES.out⟩
          case measure => simp [intOf]; omega
      · have hk62 : k = 62 := by omega
        subst hk62
        obtain ⟨c0, f0⟩ := HROW.out 0 (by omega)
        obtain ⟨c1, f1⟩ := HROW.out 1 (by omega)
        obtain ⟨c2, f2⟩ := HROW.out 2 (by omega)
        obtain ⟨c3, f3⟩ := HROW.out 3 (by omega)
        obtain ⟨c4, f4⟩ := HROW.out 4 (by omega)
        obtain ⟨c5, f5⟩ := HROW.out 5 (by omega)
        obtain ⟨c6, f6⟩ := HROW.out 6 (by omega)
        obtain ⟨c7, f7⟩ := HROW.out 7 (by omega)
        obtain ⟨c8, f8⟩ := HROW.out 8 (by omega)
        clear f0 f1 f2 f3 f4 f5 f6 f7 f8
        obtain ⟨d0, g0⟩ := HRES.out 0 (by omega)
        obtain ⟨d1, g1⟩ := HRES.out 1 (by omega)
        obtain ⟨d2, g2⟩ := HRES.out 2 (by omega)
        obtain ⟨d3, g3⟩ := HRES.out 3 (by omega)
        obtain ⟨d4, g4⟩ := HRES.out 4 (by omega)
        obtain ⟨d5, g5⟩ := HRES.out 5 (by omega)
        obtain ⟨d6, g6⟩ := HRES.out 6 (by omega)
        obtain ⟨d7, g7⟩ := HRES.out 7 (by omega)
        obtain ⟨d8, g8⟩ := HRES.out 8 (by omega)
        have HS : Hid (sizeN (m % 2 ^ 62) = sizeN m) := by show _ = _; rw [Nat.mod_eq_of_lt (by omega)]
        rw [HS.out]
        simp only [rowF_62 m _ hm1] at c0 c1 c2 c3 c4 c5 c6 c7 c8
        go_wp2
        change bodyPost _ _ _ _ _ (set9 wr w.heap.size (rowN m))
        have hR := rowAt_set9 HRES.out (rowN m)
        have hB := below_set9 hb (rowN m)
        clear d0 d1 d2 d3 d4 d5 d6 d7 d8 g0 g1 g2 g3 g4 g5 g6 g7 g8 c0 c1 c2 c3 c4 c5 c6 c7 c8 HROW HRES hz hb
        generalize set9 wr w.heap.size (rowN m) = W' at hR hB
        have e0 := (hR 0 (by omega)).1
        have e1 := (hR 1 (by omega)).1
        have e2 := (hR 2 (by omega)).1
        have e3 := (hR 3 (by omega)).1
        have e4 := (hR 4 (by omega)).1
        have e5 := (hR 5 (by omega)).1
        have e6 := (hR 6 (by omega)).1
        have e7 := (hR 7 (by omega)).1
        have e8 := (hR 8 (by omega)).1
        exact bodyPost_ret (v := .tuple #[rowV (rowN m), .int .i64 (sizeN m : Nat)]) (by simp [results, go_sem, e0, e1, e2, e3, e4, e5, e6, e7, e8]) rfl ⟨rfl, hB⟩
end Go.Proofs.Ytboienpdnfcooaa.Num

/- num.copied, num.lengthened, num.Put. -/
namespace Go.Proofs.Ytboienpdnfcooaa.Num
open Go.RowKit Go.Proofs.NumMath
set_option linter.unusedVariables false
set_option maxRecDepth 100000

theorem heap_new (w : World) (o : Obj) : (w.alloc o).heap[w.heap.size]? = some o := by
  show (w.heap.push o)[w.heap.size]? = _
  simp

theorem oneCells (l : List Int) : ∀ v ∈ l.map (Value.int .u8), v.oneCell' = true := by
  intro v hv
  obtain ⟨c, _, rfl⟩ := List.mem_map.1 hv
  rfl

/-- the bytes of a slice lie where append and copy look for them -/
theorem Bytes.at {w : World} {b off : Nat} {l : List Int} (h : ∀ i, i < l.length → w.cell? ⟨b, off + i, none⟩ = some (.int .u8 (l.getD i 0))) :
    ∀ j v, (l.map (Value.int .u8))[j]? = some v → w.cell? ((⟨b, off, none⟩ : Addr).add j) = some v := by
  intro j v hj
  rw [List.getElem?_map] at hj
  by_cases hlt : j < l.length
  · rw [List.getElem?_eq_getElem hlt] at hj
    have hc := h j hlt
    rw [List.getD_eq_getElem?_getD, List.getElem?_eq_getElem hlt] at hc
    simp at hj hc
    rw [← hj, ← hc]
    by_cases h0 : j = 0
    · subst h0; simp [Addr.add]
    · simp [Addr.add, h0]
  · rw [List.getElem?_eq_none (by omega)] at hj; cases hj

set_option maxHeartbeats 400000 in
theorem copied_any (a : Option Addr) (cap r : Nat) (l : List Int) (w : World) (hB : Bytes w a l) (hr : l.length + r ≤ 281474976710656) :
    Calls Try.prog 33 #[.slice a l.length cap, .int .i64 r] w fun e w' => ∃ v, e = .returned v ∧ Own w' w.heap.size v l ∧ Below w.heap.size w w' := by
  obtain ⟨i0, hi, hz0, hz1, hz2⟩ := info_parts Try.info5
  have hmk := run_make (P := Try.prog) w 22 5 i0 (.int .u8 0) Try.underlying22 hi hz0 .i64 .i64 (l.length : Int) ((l.length : Int) + r) (by omega) (by omega) (by rw [hz2]; omega) (by omega)
  rw [hz1] at hmk
  obtain ⟨n, hn⟩ : ∃ n, n = l.length := ⟨_, rfl⟩
  have HK3 : Hid (0 < (l.map (Value.int .u8)).length → (some (⟨w.heap.size, 0, none⟩ : Addr)) = some ⟨w.heap.size, 0, none⟩ ∧ ∃ ad, a = some ad ∧ ∀ j v, (l.map (Value.int .u8))[j]? = some v → (w.alloc (.cells (madeCells #[.int .u8 0] (n + r)) 5)).cell? (ad.add j) = some v) := by
    intro hpos
    refine ⟨rfl, ?_⟩
    have hne : l ≠ [] := by intro e; subst e; simp at hpos
    obtain ⟨b, off, rfl, hc⟩ := hB.2 hne
    refine ⟨_, rfl, Bytes.at fun i hi => ?_⟩
    exact cell_later ((Below.refl _ _).alloc (Nat.le_refl _) _) (hc i hi)
  rw [← hn] at hmk hr ⊢
  have HN := Lib.hid hn; clear hn
  have hs1 : (Try.prog.info? 5).map (·.size) = some 1 := by rw [hi]; simp [hz1]
  have HK1 : Hid ((w.alloc (.cells (madeCells #[.int .u8 0] (n + r)) 5)).heap[w.heap.size]? = some (.cells (madeCells #[.int .u8 0] (n + r)).toList.toArray 5 (0, 0))) := by
    show _ = _
    rw [Array.toArray_toList]; exact heap_new _ _
  have HK2 : Hid ((l.map (Value.int .u8)).length = Nat.min n n) := by show _ = _; rw [List.length_map, ← HN.out]; exact (Nat.min_self n).symm
  have HK4 : Hid (0 + (l.map (Value.int .u8)).length ≤ (madeCells #[.int .u8 0] (n + r)).toList.length) := by
    show _ ≤ _
    rw [List.length_map, ← HN.out, Array.length_toList, size_madeCells]; omega
  have HK5 := Lib.hid (oneCells l)
  have HK6 : Hid (Below w.heap.size w (w.alloc (.cells (madeCells #[.int .u8 0] (n + r)) 5))) := (Below.refl _ _).alloc (Nat.le_refl _) _
  clear hB
  go_enter Try.func33, Try.ntmps33
  go_wp2_with (with_reducible refine wpList_copy_splice rfl (.tmp 13) (.tmp 14) 22 22 rfl 5 Try.underlying22 hs1 (some ⟨w.heap.size, 0, none⟩) a n (n + r) n cap rfl rfl w.heap.size 0 (madeCells #[.int .u8 0] (n + r)).toList 5 HK1.out (l.map (Value.int .u8)) HK2.out HK3.out HK4.out HK5.out w.heap.size w HK6.out (Nat.le_refl _) ?_)
  intro w2 hg2 hb2
  go_wp2
  go_ret
  refine ⟨.slice (some ⟨w.heap.size, 0, none⟩) n (n + r), rfl, ⟨by simp, .inr ⟨w.heap.size, n + r, _, by rw [← HN.out], Nat.le_refl _, hg2.out, by rw [← HN.out]; omega, by unfold maxLen; omega, ?_, ?_⟩⟩, hb2⟩
  · have h4 := HK4.out
    simp only [List.size_toArray, Nat.mul_one]
    rw [length_splice _ _ _ h4, Array.length_toList, size_madeCells]
  · simp only [splice, List.take_zero, List.nil_append, Nat.mul_one]
    rw [List.take_append_of_le_length (by simp)]
    exact List.take_of_length_le (by simp)

theorem rowN_bd (m j : Nat) : 0 ≤ rowN m j ∧ rowN m j < 128 := by unfold rowN; omega

/-- the first k groups, each but for the last with 128 more -/
def heads (m k : Nat) : List Int := (List.range k).map (fun j => rowN m j + 128)
theorem heads_succ (m k : Nat) : heads m (k + 1) = heads m k ++ [rowN m k + 128] := by simp [heads, List.range_succ]
/-- the bytes of a number -/
def encR (m : Nat) : List Int := heads m (sizeN m - 1) ++ [rowN m (sizeN m - 1)]

abbrev rowA (m : Nat) : Array Value := #[.int .u8 (rowN m 0), .int .u8 (rowN m 1), .int .u8 (rowN m 2), .int .u8 (rowN m 3), .int .u8 (rowN m 4), .int .u8 (rowN m 5), .int .u8 (rowN m 6), .int .u8 (rowN m 7), .int .u8 (rowN m 8)]
theorem rowA_cell {w : World} {k m : Nat} (h : w.heap[k]? = some (.cells (rowA m) 61 (0, 0))) : ∀ j, j < 9 → w.cell? ⟨k, j, none⟩ = some (.int .u8 (rowN m j)) := by
  intro j hj
  simp only [World.cell?, h]
  match j, hj with
  | 0, _ | 1, _ | 2, _ | 3, _ | 4, _ | 5, _ | 6, _ | 7, _ | 8, _ => rfl

/-- what an append of one byte does to the relation -/
theorem step_own {base B : Nat} {w wr w' : World} {v v' : Value} {l : List Int} {x y : Int} {k : Nat} {cs : Array Value} {o : Obj}
    (hown : Own wr base v l) (hbel : Below B w wr) (hB : B ≤ base) (hbw : base ≤ wr.heap.size) (hrow : wr.heap[k]? = some (.cells cs 61 (0, 0))) (hxy : x = y)
    (hown' : w'.ownsRow base 5 1 v' (l.length + 1) (l.map (Value.int .u8) ++ [.int .u8 x])) (hg : (wr.alloc o).grownBy w' v.ownBlock) :
    Own w' base v' (l ++ [y]) ∧ Below B w w' ∧ base ≤ w'.heap.size ∧ w'.heap[k]? = some (.cells cs 61 (0, 0)) := by
  have hsz := hg.size
  have h1 : (wr.alloc o).heap.size = wr.heap.size + 1 := by simp
  have hk : k < wr.heap.size := by
    rcases Nat.lt_or_ge k wr.heap.size with h | h
    · exact h
    · rw [Array.getElem?_eq_none h] at hrow; cases hrow
  refine ⟨?_, ?_, by omega, ?_⟩
  · subst hxy
    unfold Own
    simpa using hown'
  · exact (hbel.alloc (by omega) o).grown hg (by omega) (fun j hj => by have := hown.base_le j hj; omega)
  · rw [hg.block k (by omega) (Own.apart hown hrow (by decide)), Below.heap_alloc _ _ _ hk]; exact hrow

set_option maxHeartbeats 1000000 in
theorem lengthened_any (v : Value) (l : List Int) (n : Int) (base : Nat) (w : World) (hown : Own w base v l) (hb : base ≤ w.heap.size) (hl : l.length + 9 ≤ 140737488355328) :
    Calls Try.prog 32 #[v, .int .i64 n] w fun e w' => ∃ v', e = .returned v' ∧ Own w' base v' (l ++ encR (heldN n)) ∧ Below base w w' := by
  obtain ⟨i0, hi, hz0, hz1, hz2⟩ := info_parts Try.info5
  obtain ⟨m, hm⟩ : ∃ m, m = heldN n := ⟨_, rfl⟩
  have hm1 : m ≤ 4611686018427387903 := by rw [hm]; unfold heldN; omega
  have hgr := fun W => groups_any n W
  rw [← hm] at hgr ⊢
  have hs1 := sizeN_pos m
  have hs9 : sizeN m ≤ 9 := sizeN_le 8 m (by omega)
  have HG := Lib.hid hgr
  have HO := Lib.hid hown
  clear hm hgr hown
  go_enter Try.func32, Try.ntmps32
  go_wp2_with (go_at_call 41; refine (HG.out _).mono ?_; rintro e w1 ⟨rfl, hb1⟩)
  have hown1 : Own (w1.alloc (.cells (rowA m) 61)) base v (l ++ heads m 0) := by
    have : l ++ heads m 0 = l := by simp [heads]
    rw [this]; exact (HO.out.below hb1).below ((Below.refl _ _).alloc (Nat.le_refl _) _)
  have hsz1 := hb1.size
  have HSZ := Lib.hid hsz1; clear hsz1
  have HO1 := Lib.hid hown1; clear hown1
  go_loopw [0, 15] (fun u c wr => ∃ k : Nat, k + 1 ≤ sizeN m ∧ c = .int .i64 k ∧ Own wr base u (l ++ heads m k) ∧ Below base w wr ∧ base ≤ wr.heap.size ∧ wr.heap[w1.heap.size]? = some (.cells (rowA m) 61 (0, 0))) (fun _ c _ => sizeN m - (intOf c).toNat)
  case atStart => exact ⟨0, by omega, rfl, HO1.out, (hb1.mono hb).alloc (by have := HSZ.out; omega) _, by have := HSZ.out; simp; omega, heap_new _ _⟩
  case round =>
    obtain ⟨k, hk, rfl, hown, hbel, hbw, hrow⟩ := hrel
    have hcell := rowA_cell hrow k (by omega)
    have hbd := rowN_bd m k
    have HX := Lib.hid (u8_or128_right (rowN m k) hbd.1 hbd.2)
    obtain ⟨L, hL⟩ : ∃ L, L = l ++ heads m k := ⟨_, rfl⟩
    rw [← hL] at hown
    have hlen : L.length = l.length + k := by rw [hL]; simp [heads]
    have HO2 := Lib.hid hown
    have HR := Lib.hid hrow
    have HL := Lib.hid hlen
    have HLL := Lib.hid hL
    by_cases hlt : k + 1 < sizeN m
    · clear hown hrow hlen hL
      go_wp2_with (at_builtin; refine wpList_append_own _ rfl (.tmp 18) (.tmp 23) 22 rfl base 5 i0 (.int .u8 0) 1 1 Try.underlying22 hi hz0 hz1 hz2 rfl (by decide) _ _ _ rfl (World.ownsRow.alloc HO2.out _) ⟨wr.heap.size, 0, none⟩ 1 1 [.int .u8 (bits .or .u8 (rowN m k) 128)] rfl rfl (cell_one_new _ _ _) (by simp [Value.oneCell']) (by rw [HL.out]; unfold maxLen; omega) (by rw [HL.out]; omega) (by simp; omega) ?_)
      intro v' w2 hown' hgrow _
      obtain ⟨r1, r2, r3, r4⟩ := step_own HO2.out hbel (Nat.le_refl _) hbw HR.out HX.out hown' hgrow
      have R1 := Lib.hid r1
      have R4 := Lib.hid r4
      clear hown' hgrow r1 r4
      go_wp2
      go_roundw
      case rel => exact ⟨k + 1, by omega, by go_num, by rw [heads_succ, ← List.append_assoc, ← HLL.out]; exact R1.out, r2, r3, R4.out⟩
      case measure => simp [intOf]; omega
    · have hke : sizeN m = k + 1 := by omega
      have HKE := Lib.hid hke
      have hcell2 := rowA_cell hrow (sizeN m - 1) (by omega)
      have HE : Hid (l ++ encR m = L ++ [rowN m (sizeN m - 1)]) := by show _ = _; unfold encR; rw [hL, hke]; simp
      clear hown hrow hlen hL hke
      go_wp2_with (at_builtin; refine wpList_append_own _ rfl (.tmp 26) (.tmp 31) 22 rfl base 5 i0 (.int .u8 0) 1 1 Try.underlying22 hi hz0 hz1 hz2 rfl (by decide) _ _ _ rfl (World.ownsRow.alloc HO2.out _) ⟨wr.heap.size, 0, none⟩ 1 1 [.int .u8 (rowN m (sizeN m - 1))] rfl rfl (cell_one_new _ _ _) (by simp [Value.oneCell']) (by rw [HL.out]; unfold maxLen; omega) (by rw [HL.out]; omega) (by simp; omega) ?_)
      intro v' w2 hown' hgrow _
      obtain ⟨r1, r2, r3, r4⟩ := step_own HO2.out hbel (Nat.le_refl _) hbw HR.out rfl hown' hgrow
      have R1 := Lib.hid r1
      clear hown' hgrow r1 r4
      go_wp2
      go_ret
      exact ⟨_, rfl, by rw [HE.out]; exact R1.out, r2⟩

theorem encR_oct (m : Nat) : Oct (encR m) := by
  intro c hc
  rcases List.mem_append.1 hc with h | h
  · obtain ⟨j, _, rfl⟩ := List.mem_map.1 h
    have := rowN_bd m j
    show 0 ≤ rowN m j + 128 ∧ rowN m j + 128 ≤ 255
    omega
  · have := rowN_bd m (sizeN m - 1)
    simp at h; subst h; omega
theorem encR_length (m : Nat) : (encR m).length = sizeN m := by
  have := sizeN_pos m
  simp [encR, heads]; omega

set_option maxHeartbeats 400000 in
theorem put_any (a : Option Addr) (cap : Nat) (l : List Int) (n : Int) (w : World) (hB : Bytes w a l) (hl : l.length + 9 ≤ 140737488355328) :
    Calls Try.prog 19 #[.slice a l.length cap, .int .i64 n] w fun e w' => ∃ v, e = .returned v ∧ Own w' w.heap.size v (l ++ encR (heldN n)) ∧ Below w.heap.size w w' := by
  have HC := Lib.hid (copied_any a cap 9 l w hB (by omega))
  go_enter Try.func19, Try.ntmps19
  go_wp2_with fail
  refine HC.out.mono ?_
  rintro e w1 ⟨v, rfl, hown, hb1⟩
  have HO := Lib.hid hown
  have hsz := hb1.size
  clear hown
  go_wp2_with fail
  refine (lengthened_any v l n w.heap.size w1 HO.out hsz hl).mono ?_
  rintro e w2 ⟨v2, rfl, hown2, hb2⟩
  have HO2 := Lib.hid hown2
  clear hown2
  go_wp2
  go_ret
  exact ⟨_, rfl, HO2.out, hb1.trans hb2⟩

/-- behind nothing -/
theorem put_nil (n : Int) (w : World) :
    Calls Try.prog 19 #[.slice none 0 0, .int .i64 n] w fun e w' => ∃ a' cap, e = .returned (.slice a' (sizeN (heldN n)) cap) ∧ Bytes w' a' (encR (heldN n)) ∧ Below w.heap.size w w' := by
  refine (put_any none 0 [] n w ⟨fun i => by simp, fun h => absurd rfl h⟩ (by simp)).mono ?_
  rintro e w' ⟨v, rfl, hown, hb⟩
  obtain ⟨a', cap', rfl, hB⟩ := Own.bytes hown (by simpa using encR_oct _)
  rw [List.nil_append] at hB ⊢
  exact ⟨a', cap', by rw [encR_length], hB, hb⟩
end Go.Proofs.Ytboienpdnfcooaa.Num

/- What is put is got: the bytes of a number, read. -/
namespace Go.Proofs.Ytboienpdnfcooaa.Num
open Go.RowKit Go.Proofs.NumMath
set_option linter.unusedVariables false
set_option maxRecDepth 100000

theorem lt_size (m : Nat) : m < 2 ^ (7 * sizeN m) := by
  induction m using Nat.strongRecOn with
  | _ m ih =>
    rw [sizeN]
    split
    · omega
    · next h =>
      have := ih (m / 128) (by omega)
      rw [show 7 * (sizeN (m / 128) + 1) = 7 * sizeN (m / 128) + 7 from by omega, Nat.pow_add]
      omega
theorem ge_size (m : Nat) : 2 ≤ sizeN m → 2 ^ (7 * (sizeN m - 1)) ≤ m := by
  induction m using Nat.strongRecOn with
  | _ m ih =>
    rw [sizeN]
    split
    · omega
    · next h =>
      intro _
      have hp := sizeN_pos (m / 128)
      by_cases h1 : sizeN (m / 128) = 1
      · rw [h1]; simp; omega
      · have := ih (m / 128) (by omega) (by omega)
        rw [show 7 * (sizeN (m / 128) + 1 - 1) = 7 * (sizeN (m / 128) - 1) + 7 from by omega, Nat.pow_add]
        omega

/-- groups make the number again -/
theorem Hn_row (f : Nat → Int) (m n : Nat) (hf : ∀ j, j < n → f j % 128 = rowN m j) : Hn f 0 n = ((m % 2 ^ (7 * n) : Nat) : Int) := by
  induction n with
  | zero => simp [Hn, Nat.mod_one]
  | succ n ih =>
    rw [Hn_succ', ih (fun j hj => hf j (by omega)), Nat.zero_add, hf n (by omega), pow128]
    unfold rowN
    rw [show 7 * (n + 1) = 7 * n + 7 from by omega, Nat.pow_add, Nat.mod_mul]
    push_cast
    rw [Int.mul_comm]

theorem heads_getD (m k j : Nat) (hj : j < k) : (heads m k).getD j 0 = rowN m j + 128 := by
  rw [List.getD_eq_getElem?_getD]; simp [heads, hj]
theorem encR_getD (m j : Nat) (post : List Int) (hj : j < sizeN m) : (encR m ++ post).getD j 0 = if j + 1 < sizeN m then rowN m j + 128 else rowN m j := by
  have hl : (heads m (sizeN m - 1)).length = sizeN m - 1 := by simp [heads]
  unfold encR
  rw [List.append_assoc, List.getD_eq_getElem?_getD]
  split
  · rw [List.getElem?_append_left (by omega), ← List.getD_eq_getElem?_getD, heads_getD _ _ _ (by omega)]
  · have : j = sizeN m - 1 := by omega
    rw [List.getElem?_append_right (by omega), hl, this]; simp

theorem cnt_of (l : List Int) (k : Nat) (h1 : k < l.length) (h2 : ∀ j, j < k → 127 < l.getD j 0) (h3 : l.getD k 0 ≤ 127) : cnt l = k := by
  have ha := cnt_le l
  have hb := cnt_lt l
  have hc := cnt_at l
  rcases Nat.lt_trichotomy (cnt l) k with h | h | h
  · have := h2 _ h; have := hc (by omega); omega
  · exact h
  · have := hb _ h; omega

theorem G_enc (pre post : List Int) (m : Nat) (hm : m ≤ 4611686018427387903) : G (pre ++ (encR m ++ post)) (pre.length : Nat) = ((m : Int), ((pre.length + sizeN m : Nat) : Int), 0) := by
  have hs1 := sizeN_pos m
  have hs9 : sizeN m ≤ 9 := sizeN_le 8 m (by omega)
  have hdrop : (pre ++ (encR m ++ post)).drop pre.length = encR m ++ post := by simp
  have hlen : (encR m ++ post).length = sizeN m + post.length := by rw [List.length_append, encR_length]
  have hlast : (encR m ++ post).getD (sizeN m - 1) 0 = rowN m (sizeN m - 1) := by rw [encR_getD _ _ _ (by omega), if_neg (by omega)]
  have hb := rowN_bd m (sizeN m - 1)
  have hcnt : cnt (encR m ++ post) = sizeN m - 1 := cnt_of _ _ (by omega) (fun j hj => by
    rw [encR_getD _ _ _ (by omega), if_pos (by omega)]
    have := rowN_bd m j; omega) (by rw [hlast]; omega)
  have hg : ∀ j, (pre ++ (encR m ++ post)).getD (pre.length + j) 0 = (encR m ++ post).getD j 0 := fun j => by
    rw [List.getD_eq_getElem?_getD, List.getD_eq_getElem?_getD, List.getElem?_append_right (by omega)]; congr 2; omega
  have hv : Hn (fun j => (pre ++ (encR m ++ post)).getD (pre.length + j) 0) 0 (sizeN m - 1 + 1) = (m : Int) := by
    rw [show sizeN m - 1 + 1 = sizeN m from by omega, Hn_row _ m (sizeN m) (fun j hj => by
      show (pre ++ (encR m ++ post)).getD (pre.length + j) 0 % 128 = _
      rw [hg, encR_getD _ _ _ hj]
      have := rowN_bd m j
      split <;> omega), Nat.mod_eq_of_lt (lt_size m)]
  unfold G
  rw [if_neg (by rw [List.length_append]; omega)]
  simp only [Int.toNat_natCast, hdrop, hcnt, hg, hlast]
  simp only [hg] at hv
  rw [hv]
  unfold getR
  rw [if_neg (by omega), if_neg (by rw [List.length_append, hlen]; omega), if_neg, if_neg (by unfold maxNum; omega)]
  · congr 2; omega
  · rintro ⟨h1, h2⟩
    have hge := ge_size m (by omega)
    have hlt := lt_size m
    unfold rowN at h1
    have e : 7 * sizeN m = 7 * (sizeN m - 1) + 7 := by omega
    rw [e, Nat.pow_add] at hlt
    have h3 : m / 2 ^ (7 * (sizeN m - 1)) < 128 := by
      rw [Nat.div_lt_iff_lt_mul (Nat.two_pow_pos _)]; rw [Nat.mul_comm]; exact hlt
    have h4 : 1 ≤ m / 2 ^ (7 * (sizeN m - 1)) := by
      rw [Nat.le_div_iff_mul_le (Nat.two_pow_pos _)]; omega
    omega
end Go.Proofs.Ytboienpdnfcooaa.Num

/- Bytes as a text; a stretch of a slice. -/
namespace Go.Proofs.Ytboienpdnfcooaa.Num
open Go.RowKit Go.Proofs.NumMath
set_option linter.unusedVariables false
set_option maxRecDepth 100000

theorem run_str {w : World} {a : Option Addr} {l : List Int} (h : Bytes w a l) (n cap : Nat) (hn : n = l.length) :
    (convert 22 9 (.slice a n cap)).run Try.prog w = .ok (.string (strOfNums l)) w := by
  subst hn
  by_cases hl : l = []
  · subst hl
    rw [run_convert_bytes_string w 22 9 5 _ _ cap Try.underlying22 Try.underlying5 Try.underlying9]
    cases a <;> simp [Conv.bytesToString, loadCells]
    all_goals rfl
  · obtain ⟨b, off, rfl, hc⟩ := h.2 hl
    exact run_convert_bytes_arg w 22 5 Try.underlying22 Try.underlying5 b off l.length cap l rfl hc 9 Try.underlying9

theorem run_cut {w : World} {a : Option Addr} {l : List Int} (h : Bytes w a l) (cap : Nat) (hcap : l.length ≤ cap) (lo hi : Int) (h0 : 0 ≤ lo) (h1 : lo ≤ hi) (h2 : hi ≤ l.length) :
    ∃ a', (Instr.slice 22 (.slice a l.length cap) (some (.int .i64 lo)) (some (.int .i64 hi)) none).run Try.prog w = .ok (.slice a' (hi - lo).toNat (cap - lo.toNat)) w ∧ Bytes w a' ((l.drop lo.toNat).take (hi - lo).toNat) := by
  have hel : Try.prog.elem 22 = 5 := by kernel_rfl
  have hr := run_slice_lh (P := Try.prog) (w := w) 22 a l.length cap (by rw [hel]; exact Try.underlying22) .i64 .i64 lo hi h0 h1 (by omega)
  have hsz : (sizeOf (Try.prog.elem 22)).run Try.prog w = .ok 1 w := by rw [hel]; rfl
  rw [hsz] at hr
  simp only [Result.andThen, sliced, Nat.mul_one] at hr
  obtain ⟨p, rfl⟩ : ∃ p : Nat, lo = (p : Int) := ⟨lo.toNat, by omega⟩
  obtain ⟨m, rfl⟩ : ∃ m : Nat, hi = (p : Int) + (m : Int) := ⟨(hi - p).toNat, by omega⟩
  simp only [Int.toNat_natCast] at *
  have e1 : ((p : Int) + (m : Int) - (p : Int)).toNat = m := by omega
  have e2 : ((p : Int) + (m : Int)).toNat - p = m := by omega
  rw [e1] at *
  rw [e2] at hr
  refine ⟨_, hr, ?_, ?_⟩
  · intro i
    have := h.1 (p + i)
    by_cases hi : i < m
    · rw [List.getD_eq_getElem?_getD, List.getElem?_take, if_pos hi, List.getElem?_drop, ← List.getD_eq_getElem?_getD]; exact this
    · rw [List.getD_eq_getElem?_getD, List.getElem?_take, if_neg hi]; simp
  · intro hne
    have hm : 0 < m := by
      rcases Nat.eq_zero_or_pos m with h | h
      · subst h; simp at hne
      · exact h
    have hl : l ≠ [] := by intro e; subst e; simp at h2; omega
    obtain ⟨b, off, rfl, hc⟩ := h.2 hl
    refine ⟨b, off + p, ?_, ?_⟩
    · rw [if_neg (by omega)]
      by_cases hp : p = 0
      · subst hp; simp [Addr.add]
      · simp [Addr.add, hp]
    · intro i hi
      have hi' : i < m := by rw [List.length_take] at hi; omega
      rw [List.getD_eq_getElem?_getD, List.getElem?_take, if_pos hi', List.getElem?_drop, ← List.getD_eq_getElem?_getD, Nat.add_assoc]
      exact hc (p + i) (by omega)
/-- .. whatever the world -/
theorem run_cut_any {w : World} {a : Option Addr} {l : List Int} (h : Bytes w a l) (cap : Nat) (hcap : l.length ≤ cap) (lo hi : Int) (h0 : 0 ≤ lo) (h1 : lo ≤ hi) (h2 : hi ≤ l.length) :
    ∃ a', (∀ W, (Instr.slice 22 (.slice a l.length cap) (some (.int .i64 lo)) (some (.int .i64 hi)) none).run Try.prog W = .ok (.slice a' (hi - lo).toNat (cap - lo.toNat)) W) ∧ Bytes w a' ((l.drop lo.toNat).take (hi - lo).toNat) ∧ (a' = none → a = none) := by
  obtain ⟨a', hr, hB⟩ := run_cut h cap hcap lo hi h0 h1 h2
  have hel : Try.prog.elem 22 = 5 := by kernel_rfl
  have key : ∀ W, (Instr.slice 22 (.slice a l.length cap) (some (.int .i64 lo)) (some (.int .i64 hi)) none).run Try.prog W = .ok (.slice (if cap = lo.toNat then a else a.map (·.add (lo.toNat * 1))) (hi.toNat - lo.toNat) (cap - lo.toNat)) W := by
    intro W
    have hr := run_slice_lh (P := Try.prog) (w := W) 22 a l.length cap (by rw [hel]; exact Try.underlying22) .i64 .i64 lo hi h0 h1 (by omega)
    have hsz : (sizeOf (Try.prog.elem 22)).run Try.prog W = .ok 1 W := by rw [hel]; rfl
    rw [hsz] at hr
    exact hr
  rw [key w] at hr
  simp only [Result.ok.injEq, Value.slice.injEq] at hr
  obtain ⟨⟨e1, e2, -⟩, -⟩ := hr
  refine ⟨a', fun W => ?_, hB, ?_⟩
  · rw [key W, e1, e2]
  · intro e
    rw [e] at e1
    split at e1
    · exact e1
    · simpa using e1

/-- the first bytes of a slice -/
theorem run_first {w : World} {a : Option Addr} {l : List Int} (h : Bytes w a l) (cap : Nat) (hcap : l.length ≤ cap) (m : Nat) (hm : m ≤ l.length) :
    ∃ a', (Instr.slice 22 (.slice a l.length cap) none (some (.int .i64 (m : Int))) none).run Try.prog w = .ok (.slice a' m cap) w ∧ Bytes w a' (l.take m) ∧ (a' = none → a = none) := by
  have hel : Try.prog.elem 22 = 5 := by kernel_rfl
  have hr := run_slice_h (P := Try.prog) (w := w) 22 a l.length cap (by rw [hel]; exact Try.underlying22) .i64 m (by omega) (by omega)
  have hsz : (sizeOf (Try.prog.elem 22)).run Try.prog w = .ok 1 w := by rw [hel]; rfl
  rw [hsz] at hr
  simp only [Result.andThen, sliced, Nat.mul_one, Int.toNat_natCast, Nat.sub_zero] at hr
  refine ⟨_, hr, ⟨?_, ?_⟩, ?_⟩
  · intro i
    have := h.1 i
    by_cases hi : i < m
    · rw [List.getD_eq_getElem?_getD, List.getElem?_take, if_pos hi, ← List.getD_eq_getElem?_getD]; exact this
    · rw [List.getD_eq_getElem?_getD, List.getElem?_take, if_neg hi]; simp
  · intro hne
    have hm0 : 0 < m := by
      rcases Nat.eq_zero_or_pos m with h | h
      · subst h; simp at hne
      · exact h
    have hl : l ≠ [] := by intro e; subst e; simp at hm; omega
    obtain ⟨b, off, rfl, hc⟩ := h.2 hl
    refine ⟨b, off, ?_, ?_⟩
    · split <;> simp [Addr.add]
    · intro i hi
      have hi' : i < m := by rw [List.length_take] at hi; omega
      rw [List.getD_eq_getElem?_getD, List.getElem?_take, if_pos hi', ← List.getD_eq_getElem?_getD]
      exact hc i (by omega)
  · intro h
    split at h
    · exact h
    · simpa using h
end Go.Proofs.Ytboienpdnfcooaa.Num

/- GetText, both. -/
namespace Go.Proofs.Ytboienpdnfcooaa.Num
open Go.RowKit Go.Proofs.NumMath
set_option linter.unusedVariables false
set_option maxRecDepth 100000

/-- what GetText tells of what Get tells -/
def GT (l : List Int) (g : Int × Int × Int) (most : Int) : ByteArray × Int × Int :=
  if g.2.2 = 0 then (if max most 0 < g.1 then (ByteArray.empty, 0, 7) else if (l.length : Int) - g.2.1 < g.1 then (ByteArray.empty, 0, 4) else (strOfNums ((l.drop g.2.1.toNat).take g.1.toNat), g.2.1 + g.1, 0)) else (ByteArray.empty, 0, g.2.2)

def strip (g : ByteArray × Int × Int) : Value := .tuple #[.string g.1, .int .i64 g.2.1, .int .i64 g.2.2]

set_option maxHeartbeats 400000 in
theorem held_any (n lo hi : Int) (w : World) (hlh : lo ≤ hi) :
    Calls Try.prog 38 #[.int .i64 n, .int .i64 lo, .int .i64 hi] w fun e w' => e = .returned (.int .i64 (min (max n lo) hi)) ∧ w = w' := by
  by_cases h1 : n < lo
  · have e : min (max n lo) hi = lo := by omega
    rw [e]; clear e
    go_enter Try.func38, Try.ntmps38
    go_wp2
    go_ret
    exact ⟨rfl, rfl⟩
  · by_cases h2 : hi < n
    · have e : min (max n lo) hi = hi := by omega
      rw [e]; clear e
      go_enter Try.func38, Try.ntmps38
      go_wp2
      go_ret
      exact ⟨rfl, rfl⟩
    · have e : min (max n lo) hi = n := by omega
      rw [e]; clear e
      go_enter Try.func38, Try.ntmps38
      go_wp2
      go_ret
      exact ⟨rfl, rfl⟩

end Go.Proofs.Ytboienpdnfcooaa.Num

/- num.PutInt; what is put with a sign is got with it. -/
namespace Go.Proofs.Ytboienpdnfcooaa.Num
open Go.RowKit Go.Proofs.NumMath
set_option linter.unusedVariables false
set_option maxRecDepth 100000

/-- a number with a sign within its bounds -/
def clamp (n : Int) : Int := min (max n (-2305843009213693952)) 2305843009213693951
/-- .. as one without -/
def zig (n : Int) : Nat := (if clamp n < 0 then 2 * (-clamp n - 1) + 1 else 2 * clamp n).toNat
theorem zig_le (n : Int) : zig n ≤ 4611686018427387903 := by unfold zig clamp; split <;> omega
theorem GI_zig (n i : Int) : GI ((zig n : Nat), i, 0) = (clamp n, i, 0) := by
  unfold GI zig
  have hc : -2305843009213693952 ≤ clamp n ∧ clamp n ≤ 2305843009213693951 := by unfold clamp; omega
  generalize clamp n = c at *
  simp only [if_true]
  by_cases h : c < 0
  · rw [if_pos h]
    rw [if_pos (by omega)]
    congr 1; omega
  · rw [if_neg h, if_neg (by omega)]
    congr 1; omega

end Go.Proofs.Ytboienpdnfcooaa.Num

/- The document's groups, behind, Put, PutInt, Size; same. -/
namespace Go.Proofs.Ytboienpdnfcooaa.Num
open Go.RowKit Go.Proofs.NumMath
set_option linter.unusedVariables false
set_option maxRecDepth 100000

/-- a slice that reads as these bytes -/
def Sl (w : World) (v : Value) (l : List Int) : Prop := ∃ a cap, v = .slice a l.length cap ∧ Bytes w a l ∧ (a = none → cap = 0) ∧ l.length ≤ cap

theorem Bytes.later {w w' : World} {a : Option Addr} {l : List Int} (h : Bytes w a l) (hb : Below w.heap.size w w') : Bytes w' a l :=
  ⟨h.1, fun hne => by
    obtain ⟨b, off, e, hc⟩ := h.2 hne
    exact ⟨b, off, e, fun i hi => cell_later hb (hc i hi)⟩⟩
theorem Sl.later {w w' : World} {v : Value} {l : List Int} (h : Sl w v l) (hb : Below w.heap.size w w') : Sl w' v l := by
  obtain ⟨a, cap, e, h1, h2, h3⟩ := h
  exact ⟨a, cap, e, h1.later hb, h2, h3⟩
theorem Sl.oct {w : World} {v : Value} {l : List Int} (h : Sl w v l) : Oct l := by
  obtain ⟨a, cap, e, h1, h2, h3⟩ := h
  exact h1.oct

theorem Own.sl {w : World} {base : Nat} {v : Value} {l : List Int} (h : Own w base v l) (ho : Oct l) : Sl w v l := by
  obtain ⟨a, cap, e, hB⟩ := h.bytes ho
  refine ⟨a, cap, e, hB, ?_⟩
  obtain ⟨h1, h2⟩ := h
  rcases h2 with ⟨h3, h0⟩ | ⟨g, c, cur, h3, h4, h5, h6, h7, h8, h9⟩
  · rw [e] at h3; simp at h3; obtain ⟨ha, hb, hc⟩ := h3; exact ⟨fun _ => hc, by omega⟩
  · rw [e] at h3; simp at h3; obtain ⟨ha, hc⟩ := h3; subst ha hc; exact ⟨(fun h => by cases h), h6⟩

theorem Bytes.src {w : World} {ad : Addr} {l : List Int} (h : Bytes w (some ad) l) : ∀ j u, (l.map (Value.int .u8))[j]? = some u → w.cell? (ad.add j) = some u := by
  by_cases hl : l = []
  · subst hl; intro j u hj; simp at hj
  · obtain ⟨b, off, e, hc⟩ := h.2 hl
    simp at e
    subst e
    exact Bytes.at hc

/-- an append to what is owned, of bytes that lie somewhere -/
theorem own_more {base : Nat} {w w' : World} {v v' : Value} {l m : List Int} (hown : Own w base v l) (hbw : base ≤ w.heap.size)
    (hown' : w'.ownsRow base 5 1 v' (l.length + m.length) (l.map (Value.int .u8) ++ m.map (Value.int .u8))) (hg : w.grownBy w' v.ownBlock) :
    Own w' base v' (l ++ m) ∧ Below base w w' := by
  refine ⟨by unfold Own; simpa using hown', ?_⟩
  exact (Below.refl _ _).grown hg (by omega) (fun j hj => hown.base_le j hj)

set_option maxHeartbeats 1000000 in
theorem behind_any (v1 v2 : Value) (l1 l2 : List Int) (w : World) (h1 : Sl w v1 l1) (h2 : Sl w v2 l2) (hl : l1.length + l2.length ≤ 140737488355328) :
    Calls Try.prog 36 #[v1, v2] w fun e w' => ∃ v, e = .returned v ∧ Own w' w.heap.size v (l1 ++ l2) ∧ Below w.heap.size w w' := by
  obtain ⟨i0, hi, hz0, hz1, hz2⟩ := info_parts Try.info5
  obtain ⟨a1, c1, rfl, hB1, hn1, hc1⟩ := h1
  obtain ⟨a2, c2, rfl, hB2, hn2, hc2⟩ := h2
  have H0 := Lib.hid (Own.nil w w.heap.size)
  have HB1 := Lib.hid hB1
  have HB2 := Lib.hid hB2
  have HL : Hid (l1.length + l2.length ≤ 140737488355328) := hl
  clear hB1 hB2
  rcases a1 with _ | ad1
  · have hc := hn1 rfl
    subst hc
    have e1 : l1 = [] := List.eq_nil_of_length_eq_zero (by omega)
    subst e1
    rcases a2 with _ | ad2
    · have hc := hn2 rfl
      subst hc
      have e2 : l2 = [] := List.eq_nil_of_length_eq_zero (by omega)
      subst e2
      go_enter Try.func36, Try.ntmps36
      go_wp2_with (first | (at_builtin; refine wpList_append_own_none rfl (.tmp 6) (.tmp 7) 22 rfl w.heap.size 5 i0 1 Try.underlying22 hi _ _ _ rfl H0.out rfl ?_) | (at_builtin; refine wpList_append_own_none rfl (.tmp 9) (.tmp 10) 22 rfl w.heap.size 5 i0 1 Try.underlying22 hi _ _ _ rfl H0.out rfl ?_))
      go_ret
      exact ⟨_, rfl, H0.out, Below.refl _ _⟩
    · clear hn1 hn2 hc1
      go_enter Try.func36, Try.ntmps36
      go_wp2_with (first | (at_builtin; refine wpList_append_own_none rfl (.tmp 6) (.tmp 7) 22 rfl w.heap.size 5 i0 1 Try.underlying22 hi _ _ _ rfl H0.out rfl ?_) | (at_builtin; refine wpList_append_own _ rfl (.tmp 9) (.tmp 10) 22 rfl w.heap.size 5 i0 (.int .u8 0) 1 1 Try.underlying22 hi hz0 hz1 hz2 rfl (by decide) _ _ _ rfl H0.out ad2 l2.length c2 (l2.map (Value.int .u8)) rfl (by simp) (Bytes.src HB2.out) (oneCells l2) (by have := HL.out; unfold maxLen; simp at *; omega) (by have := HL.out; simp at *; omega) (Nat.le_refl _) ?_))
      intro v' w2 hown' hgrow _
      have r := own_more (m := l2) H0.out (Nat.le_refl _) (by simpa using hown') hgrow
      have R := Lib.hid r
      clear hown' hgrow r
      go_wp2
      go_ret
      exact ⟨_, rfl, R.out.1, R.out.2⟩
  · rcases a2 with _ | ad2
    · have hc := hn2 rfl
      subst hc
      have e2 : l2 = [] := List.eq_nil_of_length_eq_zero (by omega)
      subst e2
      clear hn1 hn2 hc1 hc2
      go_enter Try.func36, Try.ntmps36
      go_wp2_with (at_builtin; refine wpList_append_own _ rfl (.tmp 6) (.tmp 7) 22 rfl w.heap.size 5 i0 (.int .u8 0) 1 1 Try.underlying22 hi hz0 hz1 hz2 rfl (by decide) _ _ _ rfl H0.out ad1 l1.length c1 (l1.map (Value.int .u8)) rfl (by simp) (Bytes.src HB1.out) (oneCells l1) (by have := HL.out; unfold maxLen; simp at *; omega) (by have := HL.out; simp at *; omega) (Nat.le_refl _) ?_)
      intro v' w2 hown' hgrow _
      have r := own_more (m := l1) H0.out (Nat.le_refl _) (by simpa using hown') hgrow
      rw [List.nil_append] at r
      have R := Lib.hid r
      clear hown' hgrow r
      go_wp2_with (at_builtin; refine wpList_append_own_none rfl (.tmp 9) (.tmp 10) 22 rfl w.heap.size 5 i0 1 Try.underlying22 hi _ _ _ rfl R.out.1 rfl ?_)
      go_ret
      exact ⟨_, rfl, by rw [List.append_nil]; exact R.out.1, R.out.2⟩
    · clear hn1 hn2 hc1 hc2
      go_enter Try.func36, Try.ntmps36
      go_wp2_with (at_builtin; refine wpList_append_own _ rfl (.tmp 6) (.tmp 7) 22 rfl w.heap.size 5 i0 (.int .u8 0) 1 1 Try.underlying22 hi hz0 hz1 hz2 rfl (by decide) _ _ _ rfl H0.out ad1 l1.length c1 (l1.map (Value.int .u8)) rfl (by simp) (Bytes.src HB1.out) (oneCells l1) (by have := HL.out; unfold maxLen; simp at *; omega) (by have := HL.out; simp at *; omega) (Nat.le_refl _) ?_)
      intro v' w2 hown' hgrow _
      have r := own_more (m := l1) H0.out (Nat.le_refl _) (by simpa using hown') hgrow
      rw [List.nil_append] at r
      have R := Lib.hid r
      have HB3 := Lib.hid (HB2.out.later r.2)
      have hsz := r.2.size
      clear hown' hgrow r
      go_wp2_with (at_builtin; refine wpList_append_own _ rfl (.tmp 9) (.tmp 10) 22 rfl w.heap.size 5 i0 (.int .u8 0) 1 1 Try.underlying22 hi hz0 hz1 hz2 rfl (by decide) _ _ _ rfl R.out.1 ad2 l2.length c2 (l2.map (Value.int .u8)) rfl (by simp) (Bytes.src HB3.out) (oneCells l2) (by have := HL.out; unfold maxLen; omega) (by have := HL.out; omega) hsz ?_)
      intro v3 w3 hown' hgrow _
      have r := own_more (m := l2) R.out.1 hsz hown' hgrow
      have R2 := Lib.hid r
      clear hown' hgrow r
      go_wp2
      go_ret
      exact ⟨_, rfl, R2.out.1, R.out.2.trans R2.out.2⟩

theorem step1 {base : Nat} {w wr w' : World} {v v' : Value} {l : List Int} {x y : Int} {o : Obj}
    (hown : Own wr base v l) (hbel : Below base w wr) (hbw : base ≤ wr.heap.size) (hxy : x = y)
    (hown' : w'.ownsRow base 5 1 v' (l.length + 1) (l.map (Value.int .u8) ++ [.int .u8 x])) (hg : (wr.alloc o).grownBy w' v.ownBlock) :
    Own w' base v' (l ++ [y]) ∧ Below base w w' ∧ base ≤ w'.heap.size := by
  have hsz := hg.size
  have h1 : (wr.alloc o).heap.size = wr.heap.size + 1 := by simp
  refine ⟨?_, ?_, by omega⟩
  · subst hxy
    unfold Own
    simpa using hown'
  · exact (hbel.alloc (by omega) o).grown hg (by omega) (fun j hj => by have := hown.base_le j hj; omega)

theorem div_step (m k : Nat) : m / 2 ^ (7 * k) / 128 = m / 2 ^ (7 * (k + 1)) := by
  rw [Nat.div_div_eq_div_mul, show 7 * (k + 1) = 7 * k + 7 from by omega, Nat.pow_add]

set_option maxHeartbeats 1000000 in
theorem rgroups_any (m : Nat) (w : World) (hm : m ≤ 4611686018427387903) :
    Calls Try.prog 37 #[.int .i64 m] w fun e w' => ∃ v, e = .returned v ∧ Own w' w.heap.size v (encR m) ∧ Below w.heap.size w w' := by
  obtain ⟨i0, hi, hz0, hz1, hz2⟩ := info_parts Try.info5
  go_enter Try.func37, Try.ntmps37
  go_wp2
  go_loopw [0, 3] (fun n u wr => ∃ k x : Nat, k ≤ 8 ∧ n = .int .i64 x ∧ Hid (x = m / 2 ^ (7 * k)) ∧ x ≤ m ∧ Own wr w.heap.size u (heads m k) ∧ Hid (k = 0 ∨ 2 ^ (7 * k) ≤ m) ∧ Below w.heap.size w wr ∧ w.heap.size ≤ wr.heap.size) (fun n _ _ => (intOf n).toNat)
  case atStart => exact ⟨0, m, by omega, rfl, (by show _ = _; simp), by omega, Own.nil _ _, .inl rfl, Below.refl _ _, Nat.le_refl _⟩
  case round =>
    obtain ⟨k, x, hk, rfl, HX, hxm, hown, HK, hbel, hbw⟩ := hrel
    obtain ⟨L, hL⟩ : ∃ L, L = heads m k := ⟨_, rfl⟩
    rw [← hL] at hown
    have hlen : L.length = k := by rw [hL]; simp [heads]
    have HO := Lib.hid hown
    have HL := Lib.hid hlen
    have HLL := Lib.hid hL
    clear hown hlen hL
    by_cases hlt : 127 < x
    · have hk8 : k < 8 := by
        rcases Nat.lt_or_ge k 8 with h | h
        · exact h
        · have hk8' : k = 8 := by omega
          have := HX.out
          rw [hk8'] at this
          omega
      have HE : Hid (128 + (x : Int) % 128 = rowN m k + 128) := by show _ = _; unfold rowN; rw [← HX.out]; push_cast; omega
      have hxi : (127 : Int) < (x : Int) := by omega
      go_wp2_with (at_builtin; refine wpList_append_own _ rfl (.tmp 6) (.tmp 11) 22 rfl w.heap.size 5 i0 (.int .u8 0) 1 1 Try.underlying22 hi hz0 hz1 hz2 rfl (by decide) _ _ _ rfl (World.ownsRow.alloc HO.out _) ⟨wr.heap.size, 0, none⟩ 1 1 [.int .u8 (128 + (x : Int) % 128)] rfl rfl (cell_one_new _ _ _) (by simp [Value.oneCell']) (by rw [HL.out]; unfold maxLen; omega) (by rw [HL.out]; omega) (by simp; omega) ?_)
      intro v' w2 hown' hgrow _
      have R := Lib.hid (step1 HO.out hbel hbw HE.out hown' hgrow)
      clear hown' hgrow
      go_wp2
      go_roundw
      case rel => exact ⟨k + 1, x / 128, by omega, by go_num, (by show _ = _; rw [← div_step, ← HX.out]), by omega, by rw [heads_succ, ← HLL.out]; exact R.out.1, .inr (by
        have h1 := HX.out
        have h2 : 128 ≤ m / 2 ^ (7 * k) := by omega
        rw [Nat.le_div_iff_mul_le (Nat.two_pow_pos _)] at h2
        rw [show 7 * (k + 1) = 7 * k + 7 from by omega, Nat.pow_add]; omega), R.out.2.1, R.out.2.2⟩
      case measure => simp [intOf]; omega
    · have hke : sizeN m = k + 1 := by
        refine sizeN_pow k m HK.out ?_
        have h1 := HX.out
        have h2 : m / 2 ^ (7 * k) < 128 := by omega
        rw [Nat.div_lt_iff_lt_mul (Nat.two_pow_pos _)] at h2
        rw [show 7 * (k + 1) = 7 * k + 7 from by omega, Nat.pow_add]; omega
      have HE : Hid ((x : Int) = rowN m k) := by show _ = _; unfold rowN; rw [← HX.out]; push_cast; omega
      have HF : Hid (encR m = L ++ [rowN m k]) := by show _ = _; unfold encR; rw [hke, HLL.out]; simp
      have hxi : (x : Int) ≤ (127 : Int) := by omega
      clear hke
      go_wp2_with (at_builtin; refine wpList_append_own _ rfl (.tmp 15) (.tmp 18) 22 rfl w.heap.size 5 i0 (.int .u8 0) 1 1 Try.underlying22 hi hz0 hz1 hz2 rfl (by decide) _ _ _ rfl (World.ownsRow.alloc HO.out _) ⟨wr.heap.size, 0, none⟩ 1 1 [.int .u8 (x : Int)] rfl rfl (cell_one_new _ _ _) (by simp [Value.oneCell']) (by rw [HL.out]; unfold maxLen; omega) (by rw [HL.out]; omega) (by simp; omega) ?_)
      intro v' w2 hown' hgrow _
      have R := Lib.hid (step1 HO.out hbel hbw HE.out hown' hgrow)
      clear hown' hgrow
      go_wp2
      go_ret
      exact ⟨_, rfl, by rw [HF.out]; exact R.out.1, R.out.2.1⟩

theorem heldN_cast (n : Int) : min (max n 0) 4611686018427387903 = ((heldN n : Nat) : Int) := by unfold heldN; omega
theorem heldN_le (n : Int) : heldN n ≤ 4611686018427387903 := by unfold heldN; omega
theorem encR_le (m : Nat) (h : m ≤ 4611686018427387903) : (encR m).length ≤ 9 := by rw [encR_length]; exact sizeN_le 8 m (by omega)

set_option maxHeartbeats 400000 in
theorem rput_any (v : Value) (l : List Int) (n : Int) (w : World) (h : Sl w v l) (hl : l.length + 9 ≤ 140737488355328) :
    Calls Try.prog 26 #[v, .int .i64 n] w fun e w' => ∃ v', e = .returned v' ∧ Own w' w.heap.size v' (l ++ encR (heldN n)) ∧ Below w.heap.size w w' := by
  have hh := held_any n 0 4611686018427387903 w (by omega)
  rw [heldN_cast] at hh
  have hm := heldN_le n
  have he := encR_le _ hm
  have ho := encR_oct (heldN n)
  generalize heldN n = m at *
  have HH := Lib.hid hh
  have HS := Lib.hid h
  have HO := Lib.hid ho
  clear hh h ho
  go_enter Try.func26, Try.ntmps26
  go_wp2_with fail
  refine HH.out.mono ?_
  rintro e w' ⟨rfl, rfl⟩
  go_wp2_with fail
  refine (rgroups_any m w hm).mono ?_
  rintro e w1 ⟨v1, rfl, hown, hb1⟩
  have HS1 := Lib.hid (HS.out.later hb1)
  have HS2 := Lib.hid (hown.sl HO.out)
  have hsz := hb1.size
  clear hown
  go_wp2_with fail
  refine (behind_any v v1 l (encR m) w1 HS1.out HS2.out (by omega)).mono ?_
  rintro e w2 ⟨v2, rfl, hown2, hb2⟩
  have HO2 := Lib.hid (hown2.lower hsz)
  clear hown2
  go_wp2
  go_ret
  exact ⟨_, rfl, HO2.out, hb1.trans (hb2.mono hsz)⟩

end Go.Proofs.Ytboienpdnfcooaa.Num
