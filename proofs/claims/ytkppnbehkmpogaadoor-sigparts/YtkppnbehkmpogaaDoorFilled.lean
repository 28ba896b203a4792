/- The document's filled text. -/
import Derived.Test.YtkppnbehkmpogaaDoorSOwn
namespace Go.Proofs.YtkppnbehkmpogaaDoor.Sha
open Go.RowKit Go.Proofs.ShaMath
set_option linter.unusedVariables false
set_option maxRecDepth 100000

def lenV : Value → Nat
  | .slice _ n _ => n
  | _ => 0
theorem own_form {w : World} {base : Nat} {v : Value} {l : List Int} (h : Own w base v l) : ∃ a cap, v = .slice a l.length cap := by
  obtain ⟨h1, h2⟩ := h
  rcases h2 with ⟨rfl, h0⟩ | ⟨g, cap, cur, rfl, _⟩
  · exact ⟨none, 0, by rw [h0]⟩
  · exact ⟨_, cap, rfl⟩

set_option maxHeartbeats 2000000 in
set_option maxRecDepth 1000000 in
theorem filled_walk (u : Value) (l : List Int) (w : World) (hS : Sl w u l) (hl : l.length ≤ 5000) :
    Calls Tryd.prog 66 #[u] w fun e w' => ∃ v, e = .returned v ∧ Own w' w.heap.size v (l ++ tail l.length) ∧ Below w.heap.size w w' := by
  obtain ⟨i0, hi, hz0, hz1, hz2⟩ := info_parts Tryd.info5
  obtain ⟨a, cap, rfl, hB, hnil, hcap⟩ := id hS
  obtain ⟨n, hn⟩ : ∃ n, n = l.length := ⟨_, rfl⟩
  rw [← hn] at hS hl ⊢
  have hmk := run_make (P := Tryd.prog) w 22 5 i0 (.int .u8 0) Tryd.underlying22 hi hz0 .i64 .i64 0 ((n : Int) + 72) (by omega) (by omega) (by rw [hz2]; omega) (by omega)
  rw [hz1] at hmk
  have hcp : ((n : Int) + 72).toNat = n + 72 := by omega
  simp only [hcp, Int.toNat_zero] at hmk
  have H0 : Hid (Own (w.alloc (.cells (madeCells (Value.int .u8 0).cells ((n + 72) * 1)) 5)) w.heap.size (.slice (some ⟨w.heap.size, 0, none⟩) 0 (n + 72)) []) := by
    have := World.ownsRow_made (base := w.heap.size) (e := 5) (size := 1) w (madeCells (Value.int .u8 0).cells ((n + 72) * 1)) (n + 72) (Nat.le_refl _) (by unfold maxLen; omega) (by rw [size_madeCells])
    exact this
  have HB0 : Hid (Below w.heap.size w (w.alloc (.cells (madeCells (Value.int .u8 0).cells ((n + 72) * 1)) 5))) := (Below.refl _ _).alloc (Nat.le_refl _) _
  generalize w.alloc (.cells (madeCells (Value.int .u8 0).cells ((n + 72) * 1)) 5) = w1 at hmk H0 HB0
  have HS1 := Lib.hid (hS.later HB0.out)
  have HN := Lib.hid hn
  have hz0' := HB0.out.size
  clear hn hB hS hcp hcap hnil
  go_enter Tryd.func66, Tryd.ntmps66
  go_wp2_with (at_builtin; refine append_sl rfl (.tmp 10) (.tmp 11) rfl w.heap.size _ _ [] l rfl H0.out rfl HS1.out (by have := HN.out; simp; omega) hz0' ?_)
  intro v1 w2 HV1 hb1
  have hzz := hb1.size
  have H1 := Lib.hid (one_sl w2 128 (by omega) (by omega))
  have HV1' : Hid (Own (w2.alloc (.cells #[.int .u8 128] 5)) w.heap.size v1 l) := by
    have h := HV1.out
    try rw [List.nil_append] at h
    exact World.ownsRow.alloc h _
  go_wp2_with (at_builtin; refine append_sl rfl (.tmp 13) (.tmp 14) rfl w.heap.size _ _ l [128] rfl HV1'.out rfl H1.out (by have := HN.out; simp; omega) (by simp; omega) ?_)
  intro v2 w3 HV2 hb2
  have HB3 : Hid (Below w.heap.size w w3) := (HB0.out.trans hb1).trans (((Below.refl _ _).alloc (by omega) _).trans hb2)
  obtain ⟨z, hz⟩ : ∃ z, z = (119 - n % 64) % 64 := ⟨_, rfl⟩
  have HZ := Lib.hid hz
  clear H0 HB0 HS1 HV1 HV1' H1 hb1 hb2 hmk hz0' hzz hz
  obtain ⟨a2, cap2, ev2⟩ := own_form HV2.out
  rw [show (l ++ [(128 : Int)]).length = n + 1 from by rw [HN.out]; simp] at ev2
  subst ev2
  go_wp2
  go_loopw [3] (fun v wr => ∃ (j : Nat) (a : Option Addr) (cp : Nat), v = .slice a (n + 1 + j) cp ∧ j ≤ z ∧ Hid (Own wr w.heap.size (.slice a (n + 1 + j) cp) (l ++ 128 :: List.replicate j 0)) ∧ Below w.heap.size w wr) (fun v _ => n + 1 + z - lenV v)
  case atStart => exact ⟨0, a2, cap2, rfl, by omega, HV2, HB3.out⟩
  case round =>
    obtain ⟨j, a3, cap3, rfl, hj, HV, hbel⟩ := hrel
    have HBEL := Lib.hid hbel
    have hzb := hbel.size
    clear hbel
    have hz := HZ.out
    by_cases hjz : j = z
    · have hq : (((n + 1 + j : Nat) : Int) % 64 != 56) = false := by simp; omega
      have hq2 : ((n : Int) + 1 + (j : Int)) % 64 = 56 := by omega
      have hsmall : (n + 1 + j : Nat) ≤ 9223372036854775807 := by omega
      clear hz
      subst hjz
      have hz64 : j < 64 := by have := HZ.out; omega
      go_wp2
      obtain ⟨m, hm⟩ : ∃ m, m = n + 1 + j := ⟨_, rfl⟩
      obtain ⟨P, hP⟩ : ∃ P, P = l ++ 128 :: List.replicate j (0 : Int) := ⟨_, rfl⟩
      rw [← hm, ← hP] at HV
      have HM := Lib.hid hm
      have HP := Lib.hid hP
      have hm5 : m ≤ 6000 := by omega
      have hPl : P.length = m := by rw [hP, hm]; have := HN.out; simp; omega
      have HPL := Lib.hid hPl
      clear hP hPl
      rw [← hm]
      clear hm hq hq2 hsmall
      go_loopw [3, 5] (fun v c wr => ∃ (i : Nat) (a : Option Addr) (cp : Nat), v = .slice a (m + i) cp ∧ c = .int .i64 i ∧ i ≤ 8 ∧ Hid (Own wr w.heap.size (.slice a (m + i) cp) (P ++ (lenB (8 * n)).take i)) ∧ Below w.heap.size w wr) (fun _ c _ => 8 - (intOf c).toNat)
      case atStart => exact ⟨0, a3, cap3, rfl, rfl, by omega, by simpa using HV, HBEL.out⟩
      case round =>
        clear HV HBEL hzb
        obtain ⟨i, a5, cap5, rfl, rfl, hi8, HV, hbel⟩ := hrel
        have HBEL := Lib.hid hbel
        have hzb := hbel.size
        clear hbel
        by_cases hil : i < 8
        · have h8 : i = 0 ∨ i = 1 ∨ i = 2 ∨ i = 3 ∨ i = 4 ∨ i = 5 ∨ i = 6 ∨ i = 7 := by omega
          have hlen : (P ++ (lenB (8 * n)).take i).length = m + i := by rw [List.length_append, HPL.out, List.length_take]; simp [lenB]; omega
          have HLEN := Lib.hid hlen
          have hsnoc : (lenB (8 * n)).take i ++ [((8 * n / 2 ^ (56 - 8 * i) % 256 : Nat) : Int)] = (lenB (8 * n)).take (i + 1) := by
            rw [List.take_succ_eq_append_getElem (by simp [lenB]; omega)]
            simp [lenB]
          have HSN := Lib.hid hsnoc
          obtain ⟨x, hx⟩ : ∃ x, x = ((8 * n / 2 ^ (56 - 8 * i) % 256 : Nat) : Int) := ⟨_, rfl⟩
          have hxb : 0 ≤ x ∧ x ≤ 255 := by rw [hx]; omega
          have H1 := Lib.hid (one_sl wr x hxb.1 hxb.2)
          have HV' : Hid (Own (wr.alloc (.cells #[.int .u8 x] 5)) w.heap.size (.slice a5 (m + i) cap5) (P ++ (lenB (8 * n)).take i)) := World.ownsRow.alloc HV.out _
          have hsh : (8 * (n : Int)) / 2 ^ (56 - 8 * i) % 256 = x := by
            rw [hx]
            rcases h8 with rfl | rfl | rfl | rfl | rfl | rfl | rfl | rfl <;> omega
          rw [← hx] at HSN
          clear hlen hsnoc hx
          have ti : (56 - 8 * (i : Int)).toNat = 56 - 8 * i := by omega
          have tb : (0 : Int) ≤ 56 - 8 * (i : Int) := by omega
          clear h8
          go_wp2_with (at_builtin; refine append_sl rfl (.tmp 31) (.tmp 39) rfl w.heap.size _ _ (P ++ (lenB (8 * n)).take i) [x] rfl HV'.out rfl H1.out (by rw [HLEN.out]; simp; omega) (by simp; omega) ?_)
          intro v6 w6 HV6 hb6
          obtain ⟨a6, cap6, ev6⟩ := own_form HV6.out
          have hl6 : (P ++ ((lenB (8 * n)).take i ++ [x])).length = m + (i + 1) := by rw [← List.append_assoc, List.length_append, HLEN.out]; rfl
          try rw [List.append_assoc] at ev6
          rw [hl6] at ev6
          subst ev6
          have HB6 : Hid (Below w.heap.size w w6) := HBEL.out.trans (((Below.refl _ _).alloc (by omega) _).trans hb6)
          have HV7 : Hid (Own w6 w.heap.size (.slice a6 (m + (i + 1)) cap6) (P ++ (lenB (8 * n)).take (i + 1))) := by
            have h := HV6.out
            try rw [List.append_assoc] at h
            rw [HSN.out] at h
            exact h
          clear HV6 HV' H1 hb6 hl6
          go_wp2
          go_roundw
          case rel => exact ⟨i + 1, a6, cap6, rfl, by go_num, by omega, HV7, HB6.out⟩
          case measure => simp [intOf]; omega
        · have hi88 : i = 8 := by omega
          have HV' : Hid (Own wr w.heap.size (.slice a5 (m + i) cap5) (l ++ tail n)) := by
            have h := HV.out
            rw [hi88, List.take_of_length_le (by simp [lenB]), HP.out] at h
            rw [hi88, tail, ← HZ.out]
            show Own _ _ _ _
            simpa [List.append_assoc] using h
          have hii : ¬ (i : Int) < 8 := by omega
          clear hi88
          go_wp2
          go_ret
          exact ⟨_, rfl, HV'.out, HBEL.out⟩
    · have hq2 : ¬ ((n : Int) + 1 + (j : Int)) % 64 = 56 := by omega
      have hq : (((n : Int) + 1 + (j : Int)) % 64 != 56) = true := by simp [hq2]
      have H1 := Lib.hid (one_sl wr 0 (by omega) (by omega))
      have HV' : Hid (Own (wr.alloc (.cells #[.int .u8 0] 5)) w.heap.size (.slice a3 (n + 1 + j) cap3) (l ++ 128 :: List.replicate j 0)) := World.ownsRow.alloc HV.out _
      have hjl : j < z := by omega
      have hz64 : z < 64 := by omega
      clear hz hq2
      go_wp2_with (at_builtin; refine append_sl rfl (.tmp 20) (.tmp 21) rfl w.heap.size _ _ (l ++ 128 :: List.replicate j 0) [0] rfl HV'.out rfl H1.out (by have := HN.out; simp; omega) (by simp; omega) ?_)
      intro v4 w4 HV4 hb4
      obtain ⟨a4, cap4, ev4⟩ := own_form HV4.out
      have hl4 : (l ++ (128 : Int) :: (List.replicate j (0 : Int) ++ [(0 : Int)])).length = n + 1 + (j + 1) := by
        have := HN.out
        simp
        omega
      try rw [List.append_assoc, List.cons_append] at ev4
      rw [hl4] at ev4
      clear hl4
      subst ev4
      have HB4 : Hid (Below w.heap.size w w4) := HBEL.out.trans (((Below.refl _ _).alloc (by omega) _).trans hb4)
      have HV5 : Hid (Own w4 w.heap.size (.slice a4 (n + 1 + (j + 1)) cap4) (l ++ 128 :: List.replicate (j + 1) 0)) := by
        have h := HV4.out
        try rw [List.append_assoc, List.cons_append] at h
        rw [← List.replicate_succ'] at h
        exact h
      clear HV4 HV' H1 hb4
      go_wp2
      go_roundw
      case rel => exact ⟨j + 1, a4, cap4, rfl, by omega, HV5, HB4.out⟩
      case measure => simp only [lenV]; omega
end Go.Proofs.YtkppnbehkmpogaaDoor.Sha
