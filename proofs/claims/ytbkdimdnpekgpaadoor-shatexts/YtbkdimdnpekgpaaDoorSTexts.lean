/- Texts in digits, and back. -/
import Derived.Test.YtbkdimdnpekgpaaDoorSRParse
namespace Go.Proofs.YtbkdimdnpekgpaaDoor
open Go.RowKit Go.Proofs.ShaMath Go.Proofs.CopyW
set_option linter.unusedVariables false

theorem parse_both (s : ByteArray) (hs : s.size ≤ 140737488351232) : ∃ (B : ByteArray) (x : Int), (∀ W, Calls Tryd.prog 14 #[.string s] W fun e w' => e = .returned (.tuple #[.string B, .int .i64 x]) ∧ Below W.heap.size W w') ∧ (∀ W, Calls Tryd.prog 15 #[.string s] W fun e w' => e = .returned (.tuple #[.string B, .int .i64 x]) ∧ Below W.heap.size W w') ∧
    ((x = 5) ∨ (x = 0 ∧ s.size = 64 ∧ digits (strL s) ∧ B = strOfNums (valL (strL s)))) := by
  by_cases h : s.size = 64
  · by_cases hd : digits (strL s)
    · have h1 := fun W => parse_walk s W h
      have h2 := fun W => rparse_walk s W h
      simp only [if_pos hd] at h1 h2
      exact ⟨_, _, h1, h2, .inr ⟨rfl, h, hd, rfl⟩⟩
    · have h1 := fun W => parse_walk s W h
      have h2 := fun W => rparse_walk s W h
      simp only [if_neg hd] at h1 h2
      exact ⟨_, _, h1, h2, .inl rfl⟩
  · exact ⟨_, _, fun W => parse_len s W h (by omega), fun W => rparse_len s W h (by omega), .inl rfl⟩

set_option maxHeartbeats 8000000 in
set_option maxRecDepth 1000000 in
theorem texts_walk (s : ByteArray) (w : World) (hT1 : Tab w 1 Ks) (hs : s.size ≤ 140737488351232) :
    Calls Tryd.prog 4 #[.string s] w fun e w' => e = .returned (.bool true) ∧ Below w.heap.size w w' := by
  obtain ⟨B, x, h1, h2, _⟩ := parse_both s hs
  have H1 := Lib.hid h1
  have H2 := Lib.hid h2
  have T1 := Lib.hid (fun W => text_walk s W hs)
  have T2 := Lib.hid (fun W => rtext_walk s W hs)
  generalize strOfNums (hexL (strL s)) = A at T1 T2
  have HT := Lib.hid hT1
  clear h1 h2 hT1 hs
  go_enter Tryd.func4, Tryd.ntmps4
  go_wp2_with fail
  refine (H1.out _).mono ?_
  rintro e w1 ⟨rfl, hb1⟩
  have B1 := Lib.hid hb1
  clear hb1
  go_wp2_with fail
  refine (H2.out _).mono ?_
  rintro e w2 ⟨rfl, hb2⟩
  have B2 := Lib.hid (B1.out.trans (hb2.mono B1.out.size))
  clear hb2
  go_wp2_with fail
  refine (T1.out _).mono ?_
  rintro e w3 ⟨rfl, hb3⟩
  have B3 := Lib.hid (B2.out.trans (hb3.mono B2.out.size))
  clear hb3
  go_wp2_with fail
  refine (T2.out _).mono ?_
  rintro e w4 ⟨rfl, hb4⟩
  have B4 := Lib.hid (B3.out.trans (hb4.mono B3.out.size))
  clear hb4
  go_wp2_with fail
  refine (awake_any _ (HT.out.later B4.out)).mono ?_
  rintro e w5 ⟨rfl, hb5⟩
  go_wp2
  go_ret
  exact ⟨rfl, B4.out.trans (hb5.mono B4.out.size)⟩

set_option maxHeartbeats 8000000 in
set_option maxRecDepth 1000000 in
theorem back_walk (a : Option Addr) (len cap : Nat) (m : List Int) (s : ByteArray) (w : World) (hT1 : Tab w 1 Ks) (hl : len = m.length) (hB : Bytes w a m) (hnil : a = none → cap = 0) (hcap : len ≤ cap) (hcb : cap ≤ 9223372036854775807) (hs : s.size ≤ 140737488351232) :
    Calls Tryd.prog 5 #[.slice a len cap, .string s] w fun e w' => e = .returned (.bool true) ∧ Below w.heap.size w w' := by
  have HAW : Hid (∀ W, Below w.heap.size w W → Calls Tryd.prog 9 #[] W fun e w' => e = .returned (.bool true) ∧ Below W.heap.size W w') := fun W hb => awake_any W (hT1.later hb)
  by_cases hbig : 4000 < len
  · clear hB hT1 hl
    go_enter Tryd.func5, Tryd.ntmps5
    go_wp2_with (go_at_call 9; refine (HAW.out _ (Below.refl _ _)).mono ?_; rintro e w' ⟨rfl, hb⟩)
    go_ret
    exact ⟨rfl, hb⟩
  · have HS : Hid (∀ W, Below w.heap.size w W → Calls Tryd.prog 12 #[.slice a len cap] W fun e w' => e = .returned (.string (strOfNums (sumB Ks m))) ∧ Below W.heap.size W w') := by
      intro W hb
      have h := sumof_walk a cap Ks m W (hB.later hb) (hT1.later hb) hnil (by omega) hcb (by omega)
      rw [← hl] at h
      exact h
    have hA := sum_size Ks m
    have hSo := sumB_oct Ks m
    have hSl := sumB_length Ks m
    have hTX := fun W => text_walk (strOfNums (sumB Ks m)) W (by rw [hA]; omega)
    rw [strL_strOfNums _ hSo] at hTX
    have hTs : (strOfNums (hexL (sumB Ks m))).size = 64 := by rw [strOfNums_size, hexL_length, hSl]
    have hTl : strL (strOfNums (hexL (sumB Ks m))) = hexL (sumB Ks m) := strL_strOfNums _ (hexL_oct hSo)
    have hPT := fun W => parse_walk (strOfNums (hexL (sumB Ks m))) W hTs
    simp only [hTl, if_pos (hexL_digits _ hSo), valL_hexL _ hSo] at hPT
    obtain ⟨B, x, h1, _, hc⟩ := parse_both s hs
    have HTX := Lib.hid hTX
    have HPT := Lib.hid hPT
    have H1 := Lib.hid h1
    generalize strOfNums (hexL (sumB Ks m)) = T at HTX HPT
    generalize strOfNums (sumB Ks m) = A at HS HTX HPT hA
    clear hTX hPT h1 hTs hTl hSo hSl hB hT1 hl hnil hcap hcb
    rcases hc with rfl | ⟨rfl, hs64, hd, hBB⟩
    · clear hs
      go_enter Tryd.func5, Tryd.ntmps5
      go_wp2_with fail
      refine (HS.out _ (Below.refl _ _)).mono ?_
      rintro e w1 ⟨rfl, hb1⟩
      have B1 := Lib.hid hb1
      clear hb1
      go_wp2_with fail
      refine (HTX.out _).mono ?_
      rintro e w2 ⟨rfl, hb2⟩
      have B2 := Lib.hid (B1.out.trans (hb2.mono B1.out.size))
      clear hb2
      go_wp2_with fail
      refine (HPT.out _).mono ?_
      rintro e w3 ⟨rfl, hb3⟩
      have B3 := Lib.hid (B2.out.trans (hb3.mono B2.out.size))
      clear hb3
      go_wp2_with fail
      refine (H1.out _).mono ?_
      rintro e w4 ⟨rfl, hb4⟩
      have B4 := Lib.hid (B3.out.trans (hb4.mono B3.out.size))
      clear hb4
      go_wp2_with fail
      refine (HS.out _ B4.out).mono ?_
      rintro e w5 ⟨rfl, hb5⟩
      have B5 := Lib.hid (B4.out.trans (hb5.mono B4.out.size))
      clear hb5
      go_wp2_with fail
      refine (HAW.out _ B5.out).mono ?_
      rintro e w6 ⟨rfl, hb6⟩
      go_wp2
      go_ret
      exact ⟨rfl, B5.out.trans (hb6.mono B5.out.size)⟩
    · have hBs : B.size = 32 := by rw [hBB, strOfNums_size, valL_length, strL_length, hs64]
      have hTB := fun W => text_walk B W (by rw [hBs]; omega)
      have e1 : strOfNums (hexL (strL B)) = s := by
        rw [hBB, strL_strOfNums _ (valL_oct _), (back_iff (strL s) (by rw [strL_length, hs64])).2 hd, strOfNums_strL]
      rw [e1] at hTB
      have HTB := Lib.hid hTB
      clear hs hTB e1 hd hBB hs64
      go_enter Tryd.func5, Tryd.ntmps5
      go_wp2_with fail
      refine (HS.out _ (Below.refl _ _)).mono ?_
      rintro e w1 ⟨rfl, hb1⟩
      have B1 := Lib.hid hb1
      clear hb1
      go_wp2_with fail
      refine (HTX.out _).mono ?_
      rintro e w2 ⟨rfl, hb2⟩
      have B2 := Lib.hid (B1.out.trans (hb2.mono B1.out.size))
      clear hb2
      go_wp2_with fail
      refine (HPT.out _).mono ?_
      rintro e w3 ⟨rfl, hb3⟩
      have B3 := Lib.hid (B2.out.trans (hb3.mono B2.out.size))
      clear hb3
      go_wp2_with fail
      refine (H1.out _).mono ?_
      rintro e w4 ⟨rfl, hb4⟩
      have B4 := Lib.hid (B3.out.trans (hb4.mono B3.out.size))
      clear hb4
      go_wp2_with fail
      refine (HS.out _ B4.out).mono ?_
      rintro e w5 ⟨rfl, hb5⟩
      have B5 := Lib.hid (B4.out.trans (hb5.mono B4.out.size))
      clear hb5
      go_wp2_with fail
      refine (HTB.out _).mono ?_
      rintro e w6 ⟨rfl, hb6⟩
      have B6 := Lib.hid (B5.out.trans (hb6.mono B5.out.size))
      clear hb6
      go_wp2_with fail
      refine (HAW.out _ B6.out).mono ?_
      rintro e w7 ⟨rfl, hb7⟩
      go_wp2
      go_ret
      exact ⟨rfl, B6.out.trans (hb7.mono B6.out.size)⟩
end Go.Proofs.YtbkdimdnpekgpaaDoor
