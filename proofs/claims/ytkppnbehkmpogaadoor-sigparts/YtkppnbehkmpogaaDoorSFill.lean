/- sha's fill. -/
import Derived.Test.YtkppnbehkmpogaaDoorSWrite
import Derived.Test.YtkppnbehkmpogaaDoorRSum
namespace Go.Proofs.YtkppnbehkmpogaaDoor.Sha
open Go.RowKit Go.Proofs.ShaMath Go.Proofs.CopyW
set_option linter.unusedVariables false
set_option maxRecDepth 100000

theorem made128 : (madeCells #[Value.int .u8 0] 128).toList = List.replicate 128 (Value.int .u8 0) := by kernel_rfl
theorem made_own (w : World) (z : Nat) (hz : z < 64) :
    Own (w.alloc (.cells ((madeCells #[.int .u8 0] 128).setIfInBounds 0 (.int .u8 128)) 5)) w.heap.size (.slice (some ⟨w.heap.size, 0, none⟩) (1 + z) 128) (128 :: List.replicate z 0) := by
  refine ⟨by simp, .inr ⟨w.heap.size, 128, _, by simp [Nat.add_comm], Nat.le_refl _, heap_new w _, by simp; omega, by unfold maxLen; omega, by simp [size_madeCells], ?_⟩⟩
  rw [Array.toList_setIfInBounds, made128]
  have e : List.replicate 128 (Value.int .u8 0) = Value.int .u8 0 :: List.replicate 127 (Value.int .u8 0) := rfl
  rw [e, List.set_cons_zero, List.length_cons, List.length_replicate, Nat.mul_one, List.take_succ_cons, List.take_replicate, Nat.min_eq_left (by omega)]
  simp

theorem own_src {w : World} {base g : Nat} {a : Option Addr} {n cap : Nat} {l : List Int} (h : Own w base (.slice a n cap) l) (ho : Oct l) (hg : g < base) : Src w g a l ∧ (a = none → cap = 0) ∧ l.length ≤ cap ∧ cap ≤ 9223372036854775807 := by
  obtain ⟨a', cap', e, hb, h2, h3⟩ := h.sl ho
  simp only [Value.slice.injEq] at e
  obtain ⟨rfl, rfl, rfl⟩ := e
  refine ⟨hb.src_lt ?_, h2, h3, ?_⟩
  · rintro b off rfl
    have := h.base_le b rfl
    omega
  · obtain ⟨h1, h4⟩ := h
    rcases h4 with ⟨h5, _⟩ | ⟨g', cap', cur, h5, _, _, _, h6, _, _⟩
    · simp only [Value.slice.injEq] at h5; omega
    · simp only [Value.slice.injEq] at h5
      unfold maxLen at h6
      omega

set_option maxHeartbeats 4000000 in
set_option maxRecDepth 1000000 in
theorem fill_walk (g : Nat) (K l : List Int) (w : World) (hW : Wrote w g K l) (hT : Tab w 2 K) (hg1 : g ≠ 2) (hl : l.length ≤ 900000000000) :
    Calls Tryd.prog 89 #[.pointer (some ⟨g, 0, none⟩)] w fun e w' => e = .returned (.tuple #[]) ∧ Wrote w' g K (l ++ tail l.length) ∧ But w w' g := by
  have HW := Lib.hid hW
  have HT := Lib.hid hT
  obtain ⟨R, hR, _, _, hC⟩ := hW
  obtain ⟨n, hn⟩ : ∃ n, n = l.length := ⟨_, rfl⟩
  rw [← hn] at hl ⊢
  rw [← hn] at hC
  have hsz := hC.size hR
  have hglt := hC.lt
  obtain ⟨z, hz⟩ : ∃ z, z = (119 - n % 64) % 64 := ⟨_, rfl⟩
  have hz64 : z < 64 := by omega
  have hrm : Int.tmod (n : Int) 64 = ((n % 64 : Nat) : Int) := rem64 n
  have hzr : Int.tmod (119 - ((n % 64 : Nat) : Int)) 64 = (z : Int) := by
    rw [Int.tmod_eq_emod_of_nonneg (by omega)]; omega
  obtain ⟨q, hq⟩ : ∃ q, q = n % 64 := ⟨_, rfl⟩
  rw [← hq] at hrm hzr
  have hq64 : q < 64 := by omega
  obtain ⟨i0, hi, hz0, hz1, hz2⟩ := info_parts Tryd.info5
  have hmk := run_make (P := Tryd.prog) w 22 5 i0 (.int .u8 0) Tryd.underlying22 hi hz0 .i64 .i64 (1 + (z : Int)) 128 (by omega) (by omega) (by rw [hz2]; omega) (by omega)
  rw [hz1] at hmk
  have e1 : (1 + (z : Int)).toNat = 1 + z := by omega
  have e2 : (128 : Int).toNat = 128 := by omega
  simp only [e1, e2] at hmk
  have H0 := Lib.hid (made_own w z hz64)
  have HB0 : Hid (Below w.heap.size w (w.alloc (.cells ((madeCells #[.int .u8 0] 128).setIfInBounds 0 (.int .u8 128)) 5))) := (Below.refl _ _).alloc (Nat.le_refl _) _
  have HN := Lib.hid hn
  have HZ := Lib.hid hz
  have HQ := Lib.hid hq
  have hc0 : (w.alloc (.cells (madeCells #[.int .u8 0] 128) 5)).cell? ⟨w.heap.size, 0, none⟩ = some (.int .u8 0) := by
    rw [cell_of_row _ _ 0 _ 5 (0, 0) (heap_new _ _), ← Array.getElem?_toList, made128]; rfl
  have hf0 : (w.alloc (.cells (madeCells #[.int .u8 0] 128) 5)).frozen? ⟨w.heap.size, 0, none⟩ = false := unfrozen (heap_new _ _)
  clear hn hz hq hC e1 e2
  go_enter Tryd.func89, Tryd.ntmps89
  go_wp2
  generalize w.alloc (.cells ((madeCells #[.int .u8 0] 128).setIfInBounds 0 (.int .u8 128)) 5) = w1 at H0 HB0 ⊢
  have hzw := HB0.out.size
  clear hmk hc0 hf0 hsz hrm hzr hT hR
  obtain ⟨P, hP⟩ : ∃ P, P = 128 :: List.replicate z (0 : Int) := ⟨_, rfl⟩
  have hPl : P.length = 1 + z := by rw [hP]; simp; omega
  rw [← hP] at H0
  have HP := Lib.hid hP
  have HPL := Lib.hid hPl
  clear hP hPl
  go_loopw [4, 5] (fun v c wr => ∃ (i : Nat) (a : Option Addr) (cp : Nat), v = .slice a (1 + z + i) cp ∧ c = .int .i64 (56 - 8 * (i : Int)) ∧ i ≤ 8 ∧ Hid (Own wr w.heap.size (.slice a (1 + z + i) cp) (P ++ (lenB (8 * n)).take i)) ∧ Below w.heap.size w wr) (fun _ c _ => ((intOf c) + 8).toNat)
  case atStart => exact ⟨0, _, _, rfl, rfl, by omega, by simpa using H0, HB0.out⟩
  case round =>
    obtain ⟨i, a5, cap5, rfl, rfl, hi8, HV, hbel⟩ := hrel
    have HBEL := Lib.hid hbel
    have hzb := hbel.size
    clear hbel H0 HB0 hzw
    by_cases hil : i < 8
    · have h8 : i = 0 ∨ i = 1 ∨ i = 2 ∨ i = 3 ∨ i = 4 ∨ i = 5 ∨ i = 6 ∨ i = 7 := by omega
      have hlen : (P ++ (lenB (8 * n)).take i).length = 1 + z + i := by rw [List.length_append, HPL.out, List.length_take]; simp [lenB]; omega
      have HLEN := Lib.hid hlen
      have hsnoc : (lenB (8 * n)).take i ++ [((8 * n / 2 ^ (56 - 8 * i) % 256 : Nat) : Int)] = (lenB (8 * n)).take (i + 1) := by
        rw [List.take_succ_eq_append_getElem (by simp [lenB]; omega)]
        simp [lenB]
      have HSN := Lib.hid hsnoc
      obtain ⟨x, hx⟩ : ∃ x, x = ((8 * n / 2 ^ (56 - 8 * i) % 256 : Nat) : Int) := ⟨_, rfl⟩
      have hxb : 0 ≤ x ∧ x ≤ 255 := by rw [hx]; omega
      have H1 := Lib.hid (one_sl wr x hxb.1 hxb.2)
      have HV' : Hid (Own (wr.alloc (.cells #[.int .u8 x] 5)) w.heap.size (.slice a5 (1 + z + i) cap5) (P ++ (lenB (8 * n)).take i)) := World.ownsRow.alloc HV.out _
      have hsh : (8 * (n : Int)) / 2 ^ (56 - 8 * i) % 256 = x := by
        rw [hx]
        rcases h8 with rfl | rfl | rfl | rfl | rfl | rfl | rfl | rfl <;> omega
      rw [← hx] at HSN
      clear hlen hsnoc hx
      have ti : (56 - 8 * (i : Int)).toNat = 56 - 8 * i := by omega
      have tb : (0 : Int) ≤ 56 - 8 * (i : Int) := by omega
      clear h8
      go_wp2_with (at_builtin; refine append_sl rfl (.tmp 28) (.tmp 33) rfl w.heap.size _ _ (P ++ (lenB (8 * n)).take i) [x] rfl HV'.out rfl H1.out (by rw [HLEN.out]; simp; omega) (by simp; omega) ?_)
      intro v6 w6 HV6 hb6
      obtain ⟨a6, cap6, ev6⟩ := own_form HV6.out
      have hl6 : (P ++ ((lenB (8 * n)).take i ++ [x])).length = 1 + z + (i + 1) := by rw [← List.append_assoc, List.length_append, HLEN.out]; rfl
      try rw [List.append_assoc] at ev6
      rw [hl6] at ev6
      subst ev6
      have HB6 : Hid (Below w.heap.size w w6) := HBEL.out.trans (((Below.refl _ _).alloc (by omega) _).trans hb6)
      have HV7 : Hid (Own w6 w.heap.size (.slice a6 (1 + z + (i + 1)) cap6) (P ++ (lenB (8 * n)).take (i + 1))) := by
        have h := HV6.out
        try rw [List.append_assoc] at h
        rw [HSN.out] at h
        exact h
      clear HV6 HV' H1 hb6 hl6
      go_wp2
      go_roundw
      case rel => exact ⟨i + 1, a6, cap6, rfl, by go_num, by omega, HV7, HB6.out⟩
      case measure => simp [intOf]; omega
    · have hi88 : i = 8 := by omega
      have htl : P ++ (lenB (8 * n)).take i = tail n := by
        rw [hi88, List.take_of_length_le (by simp [lenB]), HP.out, tail, ← HZ.out]; simp
      have hO := HV.out
      rw [htl] at hO
      obtain ⟨hsrc, hn1, hn2, hn3⟩ := own_src hO (tail_oct n) hglt
      have hlen : (tail n).length = 1 + z + i := by rw [tail_length, ← HZ.out, hi88]; omega
      have HWR : Hid (Calls Tryd.prog 79 #[.pointer (some ⟨g, 0, none⟩), .slice a5 (1 + z + i) cap5] wr fun e w' => e = .returned (.tuple #[]) ∧ Wrote w' g K (l ++ tail n) ∧ But wr w' g) := by
        have h := write_walk a5 cap5 g K l (tail n) wr (HW.out.later HBEL.out) (HT.out.later HBEL.out) hg1 hsrc hn1 hn2 hn3 (by rw [← HN.out, hlen]; omega)
        rw [hlen] at h
        exact h
      have hii : (56 - 8 * (i : Int)) < 0 := by omega
      clear hi88 htl hO hsrc hn1 hn2 hn3 hlen
      go_wp2_with (go_at_call 79; refine HWR.out.mono ?_; rintro e w9 ⟨rfl, hw9, hb9⟩)
      go_end0
      exact ⟨rfl, hw9, (But.of_below HBEL.out).trans hb9⟩
end Go.Proofs.YtkppnbehkmpogaaDoor.Sha
