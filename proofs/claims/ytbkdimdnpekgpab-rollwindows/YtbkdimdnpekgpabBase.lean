/- roll's small functions, and the document's. -/
import Derived.Test.YtbkdimdnpekgpabRows
import Derived.Test.YtbkdimdnpekgpabMath
import Derived.WalkKit
import Derived.WalkSpells
import Derived.WalkLawsBesides
import Derived.Lib.Hide
import Derived.Laws.BytesArg
import Derived.Lib.SlBytesConst
namespace Go.Proofs.Ytbkdimdnpekgpab
open Go.RowKit Go.Proofs.RollMath
set_option linter.unusedVariables false

theorem weight_any (c : Int) (w : World) (h0 : 0 ≤ c) (h1 : c ≤ 255) :
    Calls Try.prog 35 #[.int .u8 c] w fun e w' => e = .returned (.int .u32 (c + 31)) ∧ w = w' := by
  go_enter Try.func35, Try.ntmps35
  go_wp2
  go_ret
  exact ⟨rfl, rfl⟩

theorem joined_any (x y : Int) (w : World) (h0 : 0 ≤ x) (h1 : x ≤ 4294967295) (h2 : 0 ≤ y) (h3 : y ≤ 4294967295) :
    Calls Try.prog 36 #[.int .u32 x, .int .u32 y] w fun e w' => e = .returned (.int .u32 (S x y)) ∧ w = w' := by
  go_enter Try.func36, Try.ntmps36
  go_wp2
  go_ret
  refine ⟨?_, rfl⟩
  show Ending.returned (.int .u32 (bits BinOp.or IntKind.u32 (bits BinOp.and IntKind.u32 x 65535) (y * 65536 % 4294967296))) = _
  rw [u32_and65535 x h0 h1, u32_join]

theorem whole_math (x y x' y' : Int) (hx : x' = if x.tmod 65536 < 0 then wrap64 (x.tmod 65536 + 65536) else x.tmod 65536) (hy : y' = if y.tmod 65536 < 0 then wrap64 (y.tmod 65536 + 65536) else y.tmod 65536) :
    (x' % 4294967296 + 65536 * (y' % 4294967296) % 4294967296) % 4294967296 = S x y := by
  have h1 := tmod_bd x
  have h2 := tmod_bd y
  have h3 := tmod_emod x
  have h4 := tmod_emod y
  unfold S
  unfold wrap64 at hx hy
  generalize x.tmod 65536 = a at *
  generalize y.tmod 65536 = b at *
  split at hx <;> split at hy <;> omega

set_option maxHeartbeats 400000 in
theorem whole_any (x y : Int) (w : World) :
    Calls Try.prog 37 #[.int .i64 x, .int .i64 y] w fun e w' => e = .returned (.int .u32 (S x y)) ∧ w = w' := by
  by_cases hx : x.tmod 65536 < 0 <;> by_cases hy : y.tmod 65536 < 0
  all_goals
    have HM := Lib.hid (whole_math x y _ _ rfl rfl)
    rw [Hid] at HM
    simp only [hx, hy, if_true, if_false] at HM
    have HM' := Lib.hid HM
    clear HM
    go_enter Try.func37, Try.ntmps37
    go_wp2
    go_ret
    refine ⟨?_, rfl⟩
    show Ending.returned (.int .u32 _) = _
    rw [← HM'.out] <;> first | rfl | (congr 2 <;> omega)

theorem halves_any (x : Int) (w : World) (h0 : 0 ≤ x) (h1 : x ≤ 4294967295) :
    Calls Try.prog 38 #[.int .u32 x] w fun e w' => e = .returned (.tuple #[.int .u32 (x % 65536), .int .u32 (x / 65536)]) ∧ w = w' := by
  have HM := Lib.hid (u32_and65535 x h0 h1)
  go_enter Try.func38, Try.ntmps38
  go_wp2
  go_ret2
  refine ⟨?_, rfl⟩
  show Ending.returned (.tuple #[.int .u32 (bits BinOp.and IntKind.u32 x 65535), .int .u32 _]) = _
  rw [HM.out]
theorem low_any (x : Int) (w : World) (h0 : 0 ≤ x) (h1 : x ≤ 4294967295) :
    Calls Try.prog 39 #[.int .u32 x] w fun e w' => e = .returned (.int .i64 (x % 65536)) ∧ w = w' := by
  go_enter Try.func39, Try.ntmps39
  go_wp2
  go_ret
  refine ⟨?_, rfl⟩
  show Ending.returned (.int .i64 _) = _
  go_num
theorem high_any (x : Int) (w : World) (h0 : 0 ≤ x) (h1 : x ≤ 4294967295) :
    Calls Try.prog 40 #[.int .u32 x] w fun e w' => e = .returned (.int .i64 (x / 65536)) ∧ w = w' := by
  go_enter Try.func40, Try.ntmps40
  go_wp2
  go_ret
  refine ⟨?_, rfl⟩
  show Ending.returned (.int .i64 _) = _
  go_num

set_option maxHeartbeats 400000 in
theorem in_any (s n c : Int) (w : World) (h0 : 0 ≤ s) (h1 : s ≤ 4294967295) (h2 : 0 ≤ c) (h3 : c ≤ 255) :
    Calls Try.prog 12 #[.int .u32 s, .int .i64 n, .int .u8 c] w fun e w' => e = .returned (.int .u32 (inS s c)) ∧ w = w' := by
  go_enter Try.func12, Try.ntmps12
  go_wp2_with (first | (go_at_call 38; refine (halves_any _ _ h0 h1).mono ?_; rintro e w' ⟨rfl, rfl⟩) | (go_at_call 35; refine (weight_any _ _ h2 h3).mono ?_; rintro e w' ⟨rfl, rfl⟩) | (go_at_call 36; refine (joined_any _ _ _ (by omega) (by omega) (by omega) (by omega)).mono ?_; rintro e w' ⟨rfl, rfl⟩))
  go_ret
  refine ⟨?_, rfl⟩
  show Ending.returned (.int .u32 (S _ _)) = _
  rfl

set_option maxHeartbeats 400000 in
theorem rin_any (s n c : Int) (w : World) (h0 : 0 ≤ s) (h1 : s ≤ 4294967295) (h2 : 0 ≤ c) (h3 : c ≤ 255) :
    Calls Try.prog 13 #[.int .u32 s, .int .i64 n, .int .u8 c] w fun e w' => e = .returned (.int .u32 (inS s c)) ∧ w = w' := by
  go_enter Try.func13, Try.ntmps13
  go_wp2_with (first | (go_at_call 39; refine (low_any _ _ h0 h1).mono ?_; rintro e w' ⟨rfl, rfl⟩) | (go_at_call 40; refine (high_any _ _ h0 h1).mono ?_; rintro e w' ⟨rfl, rfl⟩) | (go_at_call 37; refine (whole_any _ _ _).mono ?_; rintro e w' ⟨rfl, rfl⟩))
  go_ret
  refine ⟨?_, rfl⟩
  show Ending.returned (.int .u32 (S _ _)) = _
  congr 2
  unfold inS
  apply S_congr <;> omega

theorem out_math (s n c t : Int) (h0 : 0 ≤ s) (h1 : s ≤ 4294967295) (h2 : 0 ≤ c) (h3 : c ≤ 255) (ht : t % 65536 = (n * (c + 31)) % 65536) :
    S (s % 65536 - c - 31) (s / 65536 - t) = outS s n c := by
  unfold outS
  generalize n * (c + 31) = u at ht ⊢
  apply S_congr <;> omega

set_option maxHeartbeats 400000 in
theorem out_any (s n c : Int) (w : World) (h0 : 0 ≤ s) (h1 : s ≤ 4294967295) (h2 : 0 ≤ c) (h3 : c ≤ 255) :
    Calls Try.prog 14 #[.int .u32 s, .int .i64 n, .int .u8 c] w fun e w' => e = .returned (.int .u32 (outS s n c)) ∧ w = w' := by
  have HM := Lib.hid (mulmod' n (c + 31))
  go_enter Try.func14, Try.ntmps14
  go_wp2_with (first | (go_at_call 38; refine (halves_any _ _ h0 h1).mono ?_; rintro e w' ⟨rfl, rfl⟩) | (go_at_call 35; refine (weight_any _ _ h2 h3).mono ?_; rintro e w' ⟨rfl, rfl⟩) | (go_at_call 36; refine (joined_any _ _ _ (by omega) (by omega) (by omega) (by omega)).mono ?_; rintro e w' ⟨rfl, rfl⟩))
  go_ret
  refine ⟨?_, rfl⟩
  show Ending.returned (.int .u32 (S _ _)) = _
  have hm := HM.out
  congr 2
  unfold outS
  generalize n % 4294967296 * (c + 31) = t at *
  generalize n * (c + 31) = u at *
  apply S_congr <;> omega

set_option maxHeartbeats 400000 in
theorem rout_any (s n c : Int) (w : World) (h0 : 0 ≤ s) (h1 : s ≤ 4294967295) (h2 : 0 ≤ c) (h3 : c ≤ 255) :
    Calls Try.prog 15 #[.int .u32 s, .int .i64 n, .int .u8 c] w fun e w' => e = .returned (.int .u32 (outS s n c)) ∧ w = w' := by
  have HM := Lib.hid (tmulmod n (c + 31))
  have HB := Lib.hid (tmod_bd n)
  obtain ⟨t, ht⟩ : ∃ t, t = n.tmod 65536 * (c + 31) := ⟨_, rfl⟩
  have h4 : -18743010 ≤ t ∧ t ≤ 18743010 := by
    have hb := HB.out
    rw [ht]
    constructor
    · have := Int.mul_le_mul_of_nonneg_right hb.1 (by omega : 0 ≤ c + 31); omega
    · have := Int.mul_le_mul_of_nonneg_right hb.2 (by omega : 0 ≤ c + 31); omega
  have HT := Lib.hid ht
  go_enter Try.func15, Try.ntmps15
  go_wp2_with (first | (go_at_call 39; refine (low_any _ _ h0 h1).mono ?_; rintro e w' ⟨rfl, rfl⟩) | (go_at_call 40; refine (high_any _ _ h0 h1).mono ?_; rintro e w' ⟨rfl, rfl⟩) | (go_at_call 37; refine (whole_any _ _ _).mono ?_; rintro e w' ⟨rfl, rfl⟩))
  go_ret
  refine ⟨?_, rfl⟩
  show Ending.returned (.int .u32 (S _ _)) = _
  have hm := HM.out
  rw [← HT.out] at hm
  congr 2
  unfold outS
  generalize n * (c + 31) = u at *
  apply S_congr <;> omega

theorem outS_bd (s n c : Int) : 0 ≤ outS s n c ∧ outS s n c ≤ 4294967295 := S_bd _ _

set_option maxHeartbeats 400000 in
theorem roll_any (s n c d : Int) (w : World) (h0 : 0 ≤ s) (h1 : s ≤ 4294967295) (h2 : 0 ≤ c) (h3 : c ≤ 255) (h4 : 0 ≤ d) (h5 : d ≤ 255) :
    Calls Try.prog 16 #[.int .u32 s, .int .i64 n, .int .u8 c, .int .u8 d] w fun e w' => e = .returned (.int .u32 (inS (outS s n c) d)) ∧ w = w' := by
  have hb := outS_bd s n c
  go_enter Try.func16, Try.ntmps16
  go_wp2_with (first | (go_at_call 14; refine (out_any _ _ _ _ h0 h1 h2 h3).mono ?_; rintro e w' ⟨rfl, rfl⟩) | (go_at_call 12; refine (in_any _ _ _ _ hb.1 hb.2 h4 h5).mono ?_; rintro e w' ⟨rfl, rfl⟩))
  go_ret
  exact ⟨rfl, rfl⟩
set_option maxHeartbeats 400000 in
theorem rroll_any (s n c d : Int) (w : World) (h0 : 0 ≤ s) (h1 : s ≤ 4294967295) (h2 : 0 ≤ c) (h3 : c ≤ 255) (h4 : 0 ≤ d) (h5 : d ≤ 255) :
    Calls Try.prog 17 #[.int .u32 s, .int .i64 n, .int .u8 c, .int .u8 d] w fun e w' => e = .returned (.int .u32 (inS (outS s n c) d)) ∧ w = w' := by
  have hb := outS_bd s n c
  go_enter Try.func17, Try.ntmps17
  go_wp2_with (first | (go_at_call 15; refine (rout_any _ _ _ _ h0 h1 h2 h3).mono ?_; rintro e w' ⟨rfl, rfl⟩) | (go_at_call 13; refine (rin_any _ _ _ _ hb.1 hb.2 h4 h5).mono ?_; rintro e w' ⟨rfl, rfl⟩))
  go_ret
  exact ⟨rfl, rfl⟩

set_option maxHeartbeats 400000 in
theorem join_any (a b n : Int) (w : World) (h0 : 0 ≤ a) (h1 : a ≤ 4294967295) (h2 : 0 ≤ b) (h3 : b ≤ 4294967295) :
    Calls Try.prog 18 #[.int .u32 a, .int .u32 b, .int .i64 n] w fun e w' => e = .returned (.int .u32 (joinS a b n)) ∧ w = w' := by
  have HM := Lib.hid (mulmod' n (a % 65536))
  go_enter Try.func18, Try.ntmps18
  go_wp2_with (first | (go_at_call 38; refine (halves_any _ _ (by omega) (by omega)).mono ?_; rintro e w' ⟨rfl, rfl⟩) | (go_at_call 36; refine (joined_any _ _ _ (by omega) (by omega) (by omega) (by omega)).mono ?_; rintro e w' ⟨rfl, rfl⟩))
  go_ret
  refine ⟨?_, rfl⟩
  show Ending.returned (.int .u32 (S _ _)) = _
  have hm := HM.out
  congr 2
  unfold joinS
  generalize n % 4294967296 * (a % 65536) = t at *
  generalize n * (a % 65536) = u at *
  apply S_congr <;> omega

set_option maxHeartbeats 400000 in
theorem rjoin_any (a b n : Int) (w : World) (h0 : 0 ≤ a) (h1 : a ≤ 4294967295) (h2 : 0 ≤ b) (h3 : b ≤ 4294967295) :
    Calls Try.prog 19 #[.int .u32 a, .int .u32 b, .int .i64 n] w fun e w' => e = .returned (.int .u32 (joinS a b n)) ∧ w = w' := by
  have HM := Lib.hid (tmulmod n (a % 65536))
  have HB := Lib.hid (tmod_bd n)
  obtain ⟨t, ht⟩ : ∃ t, t = n.tmod 65536 * (a % 65536) := ⟨_, rfl⟩
  have h4 : -4294967295 ≤ t ∧ t ≤ 4294967295 := by
    have hb := HB.out
    rw [ht]
    constructor
    · have := Int.mul_le_mul_of_nonneg_right hb.1 (by omega : 0 ≤ a % 65536); omega
    · have := Int.mul_le_mul_of_nonneg_right hb.2 (by omega : 0 ≤ a % 65536); omega
  have HT := Lib.hid ht
  go_enter Try.func19, Try.ntmps19
  go_wp2_with (first | (go_at_call 39; refine (low_any _ _ (by omega) (by omega)).mono ?_; rintro e w' ⟨rfl, rfl⟩) | (go_at_call 40; refine (high_any _ _ (by omega) (by omega)).mono ?_; rintro e w' ⟨rfl, rfl⟩) | (go_at_call 37; refine (whole_any _ _ _).mono ?_; rintro e w' ⟨rfl, rfl⟩))
  go_ret
  refine ⟨?_, rfl⟩
  show Ending.returned (.int .u32 (S _ _)) = _
  have hm := HM.out
  rw [← HT.out] at hm
  congr 2
  unfold joinS
  generalize n * (a % 65536) = u at *
  apply S_congr <;> omega

def Oct (l : List Int) : Prop := ∀ c ∈ l, 0 ≤ c ∧ c ≤ 255
theorem Oct.getD {l : List Int} (h : Oct l) (i : Nat) : 0 ≤ l.getD i 0 ∧ l.getD i 0 ≤ 255 := by
  by_cases hi : i < l.length
  · rw [List.getD_eq_getElem?_getD, List.getElem?_eq_getElem hi]; exact h _ (List.getElem_mem hi)
  · rw [List.getD_eq_getElem?_getD, List.getElem?_eq_none (by omega)]; simp
theorem Oct.append {l m : List Int} (h : Oct l) (k : Oct m) : Oct (l ++ m) := by
  intro c hc; rcases List.mem_append.1 hc with h' | h'
  · exact h c h'
  · exact k c h'
theorem Oct.take {l : List Int} (h : Oct l) (n : Nat) : Oct (l.take n) := fun c hc => h c (List.mem_of_mem_take hc)
theorem Oct.drop {l : List Int} (h : Oct l) (n : Nat) : Oct (l.drop n) := fun c hc => h c (List.mem_of_mem_drop hc)

/-- a slice's address and elements, as the walk reads them -/
def Bytes (w : World) (a : Option Addr) (l : List Int) : Prop :=
  Oct l ∧ (l ≠ [] → ∃ b off, a = some ⟨b, off, none⟩ ∧ ∀ i, i < l.length → w.cell? ⟨b, off + i, none⟩ = some (.int .u8 (l.getD i 0)))
theorem Bytes.later {w w' : World} {a : Option Addr} {l : List Int} (h : Bytes w a l) (hb : Below w.heap.size w w') : Bytes w' a l :=
  ⟨h.1, fun hne => by
    obtain ⟨b, off, e, hc⟩ := h.2 hne
    exact ⟨b, off, e, fun i hi => cell_later hb (hc i hi)⟩⟩

theorem take_snoc (l : List Int) (i : Nat) (h : i < l.length) : l.take (i + 1) = l.take i ++ [l.getD i 0] := by
  rw [List.take_succ_eq_append_getElem h, List.getD_eq_getElem?_getD, List.getElem?_eq_getElem h]; rfl

set_option maxHeartbeats 400000 in
theorem of_empty (a : Option Addr) (cap : Nat) (w : World) :
    Calls Try.prog 9 #[.slice a 0 cap] w fun e w' => e = .returned (.int .u32 0) ∧ w = w' := by
  go_enter Try.func9, Try.ntmps9
  go_wp2
  refine wp_loop_rounds 1 ?_
  rw [rounds_succ]
  go_wp2_with (go_at_call 36; refine (joined_any 0 0 _ (by omega) (by omega) (by omega) (by omega)).mono ?_; rintro e w' ⟨rfl, rfl⟩)
  go_ret
  exact ⟨rfl, rfl⟩
set_option maxHeartbeats 400000 in
theorem rof_empty (a : Option Addr) (cap : Nat) (w : World) :
    Calls Try.prog 10 #[.slice a 0 cap] w fun e w' => e = .returned (.int .u32 0) ∧ w = w' := by
  go_enter Try.func10, Try.ntmps10
  go_wp2
  refine wp_loop_rounds 1 ?_
  rw [rounds_succ]
  go_wp2_with (go_at_call 37; refine (whole_any 0 0 _).mono ?_; rintro e w' ⟨rfl, rfl⟩)
  go_ret
  exact ⟨rfl, rfl⟩

set_option maxHeartbeats 1000000 in
theorem of_any (a : Option Addr) (n cap : Nat) (l : List Int) (w : World) (hn : n = l.length) (hn63 : n ≤ 9223372036854775807) (hB : Bytes w a l) :
    Calls Try.prog 9 #[.slice a n cap] w fun e w' => e = .returned (.int .u32 (sumOf l)) ∧ w = w' := by
  by_cases hl : l = []
  · subst hl; subst hn; rw [sumOf_nil]; exact of_empty a cap w
  obtain ⟨b, off, rfl, hc⟩ := hB.2 hl
  have HC := Lib.hid hc
  have HN := Lib.hid hn
  have HO := Lib.hid hB.1
  clear hc hn hB hl
  go_enter Try.func9, Try.ntmps9
  go_wp2
  go_loop [3, 4, 9] (fun r s i => ∃ (k : Nat) (x y : Int), k ≤ n ∧ i = .int .i64 k ∧ r = .int .u32 x ∧ s = .int .u32 y ∧ (0 ≤ x ∧ x ≤ 4294967295) ∧ (0 ≤ y ∧ y ≤ 4294967295) ∧ Hid (x = A (l.take k) % 4294967296 ∧ y = B (l.take k) % 4294967296)) (fun _ _ i => n - (intOf i).toNat)
  case atStart => exact ⟨0, 0, 0, by omega, rfl, rfl, rfl, by omega, by omega, by simp [A], by simp [B]⟩
  case round =>
    obtain ⟨k, x, y, hk, rfl, rfl, rfl, hx, hy, HX⟩ := hrel
    by_cases hlt : k < n
    · have hcell := HC.out k (by have := HN.out; omega)
      have h8 := HO.out.getD k
      obtain ⟨c, hcd⟩ : ∃ c, c = l.getD k 0 := ⟨_, rfl⟩
      rw [← hcd] at hcell h8
      have HCD := Lib.hid hcd
      clear hcd
      go_wp2_with (go_at_call 35; refine (weight_any _ _ h8.1 h8.2).mono ?_; rintro e w' ⟨rfl, rfl⟩)
      go_round
      case rel =>
        refine ⟨k + 1, _, _, by omega, by go_num, rfl, rfl, by omega, by omega, ?_⟩
        have hxy := HX.out
        rw [Hid, take_snoc l k (by have := HN.out; omega), ← HCD.out, A_snoc, B_snoc]
        omega
      case measure => simp [intOf]; omega
    · have hkn : k = n := by omega
      subst hkn
      go_wp2_with (go_at_call 36; refine (joined_any _ _ _ (by omega) (by omega) (by omega) (by omega)).mono ?_; rintro e w' ⟨rfl, rfl⟩)
      go_ret
      refine ⟨?_, rfl⟩
      show Ending.returned (.int .u32 (S x y)) = _
      have hxy := HX.out
      rw [List.take_of_length_le (by have := HN.out; omega)] at hxy
      unfold sumOf
      congr 2
      apply S_congr <;> omega

theorem B_part (l : List Int) (k : Nat) (h : k < l.length) :
    B (l.take k) + ((l.length : Int) - k) * A (l.take k) + ((l.length : Int) - k) * (l.getD k 0 + 31) = B (l.take (k + 1)) + ((l.length : Int) - (k + 1)) * A (l.take (k + 1)) := by
  rw [take_snoc l k h, A_snoc, B_snoc]
  generalize A (l.take k) = x
  generalize l.getD k 0 + 31 = c
  obtain ⟨m, hm⟩ : ∃ m : Int, (l.length : Int) - k = m + 1 := ⟨(l.length : Int) - k - 1, by omega⟩
  rw [show (l.length : Int) - (k + 1) = m from by omega, hm, Int.add_mul, Int.add_mul, Int.mul_add]
  omega

set_option maxHeartbeats 1000000 in
theorem rof_any (a : Option Addr) (n cap : Nat) (l : List Int) (w : World) (hn : n = l.length) (hn63 : n ≤ 9223372036854775807) (hB : Bytes w a l) :
    Calls Try.prog 10 #[.slice a n cap] w fun e w' => e = .returned (.int .u32 (sumOf l)) ∧ w = w' := by
  by_cases hl : l = []
  · subst hl; subst hn; rw [sumOf_nil]; exact rof_empty a cap w
  obtain ⟨b, off, rfl, hc⟩ := hB.2 hl
  have HC := Lib.hid hc
  have HN := Lib.hid hn
  have HO := Lib.hid hB.1
  clear hc hn hB hl
  go_enter Try.func10, Try.ntmps10
  go_wp2
  go_loop [3, 4, 5] (fun r s i => ∃ (k : Nat) (x y : Int), k ≤ n ∧ i = .int .i64 k ∧ r = .int .i64 x ∧ s = .int .i64 y ∧ (0 ≤ x ∧ x ≤ 65535) ∧ (0 ≤ y ∧ y ≤ 65535) ∧ Hid (x = A (l.take k) % 65536 ∧ y = (B (l.take k) + ((l.length : Int) - k) * A (l.take k)) % 65536)) (fun _ _ i => n - (intOf i).toNat)
  case atStart => exact ⟨0, 0, 0, by omega, rfl, rfl, rfl, by omega, by omega, by simp [A], by simp [A, B]⟩
  case round =>
    obtain ⟨k, x, y, hk, rfl, rfl, rfl, hx, hy, HX⟩ := hrel
    by_cases hlt : k < n
    · have hcell := HC.out k (by have := HN.out; omega)
      have h8 := HO.out.getD k
      obtain ⟨c, hcd⟩ : ∃ c, c = l.getD k 0 := ⟨_, rfl⟩
      rw [← hcd] at hcell h8
      have HCD := Lib.hid hcd
      clear hcd
      obtain ⟨t, ht⟩ : ∃ t, t = (((n : Int) - (k : Int)) % 65536) * (c + 31) := ⟨_, rfl⟩
      have htb : 0 ≤ t ∧ t ≤ 18743010 := by
        rw [ht]
        constructor
        · exact Int.mul_nonneg (by omega) (by omega)
        · have h1 := Int.mul_le_mul_of_nonneg_right (by omega : ((n : Int) - (k : Int)) % 65536 ≤ 65535) (by omega : 0 ≤ c + 31); omega
      have hsub : 0 ≤ (n : Int) - k := by omega
      have htm : Int.tmod ((n : Int) - (k : Int)) 65536 = ((n : Int) - (k : Int)) % 65536 := by rw [Int.tmod_eq_emod_of_nonneg hsub]
      have HTM := Lib.hid htm
      clear htm
      go_wp2
      go_round
      case rel =>
        refine ⟨k + 1, (x + c + 31) % 65536, (y + t) % 65536, by omega, by go_num, ?_, ?_, by omega, by omega, ?_⟩
        · rfl
        · rw [ht]
        · have hxy := HX.out
          have hbp := B_part l k (by have := HN.out; omega)
          have hmm := mulmod ((l.length : Int) - k) (c + 31)
          rw [← HN.out, ← ht] at hmm
          rw [← HCD.out, ← HN.out] at hbp
          rw [← HN.out] at hxy
          rw [Hid, ← HN.out, show ((k + 1 : Nat) : Int) = (k : Int) + 1 from by omega, ← hbp, take_snoc l k (by have := HN.out; omega), ← HCD.out, A_snoc]
          generalize ((n : Int) - k) * A (l.take k) = u at *
          generalize ((n : Int) - k) * (c + 31) = v at *
          omega
      case measure => simp [intOf]; omega
    · have hkn : k = n := by omega
      subst hkn
      go_wp2_with (go_at_call 37; refine (whole_any _ _ _).mono ?_; rintro e w' ⟨rfl, rfl⟩)
      go_ret
      refine ⟨?_, rfl⟩
      show Ending.returned (.int .u32 (S x y)) = _
      have hxy := HX.out
      rw [List.take_of_length_le (by have := HN.out; omega)] at hxy
      have hz : (l.length : Int) - k = 0 := by have := HN.out; omega
      rw [hz, Int.zero_mul] at hxy
      unfold sumOf
      congr 2
      apply S_congr <;> omega

instance (l : List Int) : Decidable (Oct l) := by unfold Oct; infer_instance

theorem lit_bytes (w : World) (l : List Int) (fr : Nat × Nat) (ho : Oct l) : Bytes (w.alloc (.cells (l.map (Value.int .u8)).toArray 5 fr)) (some ⟨w.heap.size, 0, none⟩) l := by
  refine ⟨ho, fun _ => ⟨w.heap.size, 0, rfl, fun i hi => ?_⟩⟩
  have hh : (w.alloc (.cells (l.map (Value.int .u8)).toArray 5 fr)).heap[w.heap.size]? = some (.cells (l.map (Value.int .u8)).toArray 5 fr) := by
    show (w.heap.push _)[w.heap.size]? = _
    simp
  simp only [World.cell?, hh, Nat.zero_add]
  rw [List.getElem?_toArray, List.getElem?_map, List.getElem?_eq_getElem hi, List.getD_eq_getElem?_getD, List.getElem?_eq_getElem hi]; rfl

theorem of_lit (w : World) (l : List Int) (n : Nat) (C : Array Value) (fr : Nat × Nat) (x : Int) (hC : C = (l.map (Value.int .u8)).toArray) (hn : n = l.length) (hx : sumOf l = x) (ho : Oct l) (hl : n ≤ 9223372036854775807) :
    Calls Try.prog 9 #[.slice (some ⟨w.heap.size, 0, none⟩) n n] (w.alloc (.cells C 5 fr)) fun e w' => e = .returned (.int .u32 x) ∧ Below w.heap.size w w' := by
  subst hC hx
  refine (of_any _ n n l _ hn hl (lit_bytes w l fr ho)).mono ?_
  rintro e w' ⟨rfl, rfl⟩
  exact ⟨rfl, (Below.refl _ _).alloc (Nat.le_refl _) _⟩

set_option maxHeartbeats 1000000 in
theorem awake_any (w : World) :
    Calls Try.prog 11 #[] w fun e w' => e = .returned (.bool true) ∧ Below w.heap.size w w' := by
  have h1 := sumOf_bd [97, 98]
  have e1 : sumOf [98, 99] = inS (outS (sumOf [97, 98]) 2 97) 99 := (roll_sum [98] 97 99).symm
  have E1 := Lib.hid e1
  clear e1
  have kc := fun (w : World) (C : Array Value) (n c : Nat) => Lib.run_convert_bytes_const (P := Try.prog) w 22 5 C n c Try.underlying22 Try.underlying5
  go_enter Try.func11, Try.ntmps11
  go_wp2_with fail
  refine (of_lit w [97] 1 _ (1, 2) 8388736 rfl rfl (by decide) (by decide) (by omega)).mono ?_
  rintro e w1 ⟨rfl, hb1⟩
  go_wp2_with fail
  refine (of_lit w1 [97, 98] 2 _ (2, 3) _ rfl rfl rfl (by decide) (by omega)).mono ?_
  rintro e w2 ⟨rfl, hb2⟩
  go_wp2_with fail
  refine (roll_any _ _ _ _ _ h1.1 h1.2 (by decide) (by decide) (by decide) (by decide)).mono ?_
  rintro e w' ⟨rfl, rfl⟩
  go_wp2_with fail
  refine (of_lit w2 [98, 99] 2 _ (2, 3) _ rfl rfl E1.out (by decide) (by omega)).mono ?_
  rintro e w3 ⟨rfl, hb3⟩
  go_wp2
  go_ret
  refine ⟨rfl, (hb1.trans (hb2.mono hb1.size)).trans (hb3.mono ?_)⟩
  have := hb1.size
  have := hb2.size
  omega
end Go.Proofs.Ytbkdimdnpekgpab
