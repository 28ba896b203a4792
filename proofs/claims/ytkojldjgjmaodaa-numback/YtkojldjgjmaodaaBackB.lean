/- What is put behind any bytes is got there, whatever their size: the law's own walk. -/
import Derived.Test.YtkojldjgjmaodaaRoom
import Derived.Test.YtkojldjgjmaodaaAwake
import Derived.Deep.DeepCutAuto
namespace Go.Proofs.Ytkojldjgjmaodaa
open Go.RowKit Go.Proofs.NumMath
set_option linter.unusedVariables false

theorem sizeN_9' (m : Nat) (h : m ≤ 4611686018427387903) : 1 ≤ sizeN m ∧ sizeN m ≤ 9 := ⟨sizeN_pos m, sizeN_le 8 m (by omega)⟩

theorem GT_encB (pre : List Int) (s : ByteArray) (hs : s.size ≤ 140737488351232) :
    GT (pre ++ (encR s.size ++ strL s)) (G (pre ++ (encR s.size ++ strL s)) (pre.length : Nat)) (s.size : Nat) = (s, (((pre ++ (encR s.size ++ strL s)).length : Nat) : Int), 0) := by
  rw [G_enc pre (strL s) s.size (by omega)]
  have hlen : (pre ++ (encR s.size ++ strL s)).length = pre.length + sizeN s.size + s.size := by
    rw [List.length_append, List.length_append, encR_length, strL_length]; omega
  unfold GT
  rw [if_pos rfl, if_neg (by simp only; omega), if_neg (by simp only; rw [hlen]; omega)]
  simp only [Int.toNat_natCast]
  have hdrop : (pre ++ (encR s.size ++ strL s)).drop (pre.length + sizeN s.size) = strL s := by
    rw [← List.append_assoc, List.drop_left' (by rw [List.length_append, encR_length])]
  rw [hdrop, List.take_of_length_le (by rw [strL_length]; exact Nat.le_refl _), strOfNums_strL, hlen]
  congr 2

set_option maxRecDepth 100000 in
set_option maxHeartbeats 2000000 in
theorem back_walkB (a0 : Option Addr) (cap0 : Nat) (L : List Int) (a1 : Int) (a2 : ByteArray) (w : World) (hB : Bytes w a0 L) (hS : Sl w (.slice a0 L.length cap0) L) (hl0 : L.length ≤ 140737488351232) (hl2 : a2.size ≤ 140737488351232) :
    Calls Try.prog 6 #[.slice a0 L.length cap0, .int .i64 a1, .string a2] w fun e w' => e = .returned (.bool true) ∧ Below w.heap.size w w' := by
  have h1 := sizeN_9' (heldN a1) (heldN_le a1)
  have h2 := sizeN_9' (zig a1) (zig_le a1)
  have h3 := sizeN_9' a2.size (by omega)
  have HO := Lib.hid hB.oct
  have HB := Lib.hid hB
  have HS := Lib.hid hS
  clear hB hS
  obtain ⟨W, hW⟩ : ∃ W, W = ((heldN a1 : Nat) : Int) := ⟨_, rfl⟩
  obtain ⟨C, hC⟩ : ∃ C, C = clamp a1 := ⟨_, rfl⟩
  have HW : Hid (W = min (max a1 0) 4611686018427387903) := by show _ = _; rw [hW, heldN_cast]
  have HC : Hid (C = min (max a1 (-2305843009213693952)) 2305843009213693951) := hC
  have HW' := Lib.hid hW
  have HC' := Lib.hid hC
  clear hW hC
  go_enter Try.func6, Try.ntmps6
  go_upto_region 1 with (fail)
  go_cut [7] (fun v wc => v = .int .i64 W ∧ w = wc)
  case first =>
    go_wp2
    all_goals
      go_meet
      case rel => exact ⟨by have := HW.out; congr 1; omega, rfl⟩
  case rest =>
  obtain ⟨rfl, rfl⟩ := hcut
  go_upto_region 2 with (fail)
  go_cut [8] (fun v wc => v = .int .i64 C ∧ w = wc)
  case first =>
    go_wp2
    all_goals
      go_meet
      case rel => exact ⟨by have := HC.out; congr 1; omega, rfl⟩
  case rest =>
  obtain ⟨rfl, rfl⟩ := hcut
  go_wp2_with fail
  refine (put_any a0 cap0 L a1 w HB.out (by omega)).mono ?_
  rintro e w1 ⟨v1, rfl, hown, hb1⟩
  obtain ⟨L1, hL1⟩ : ∃ L1, L1 = L ++ encR (heldN a1) := ⟨_, rfl⟩
  have ho1 : Oct L1 := by rw [hL1]; exact HO.out.append (encR_oct _)
  have hn1 : L1.length ≤ L.length + 9 := by rw [hL1, List.length_append, encR_length]; omega
  rw [← hL1] at hown
  obtain ⟨c1, k1, rfl, hB1⟩ := hown.bytes ho1
  have HL1 := Lib.hid hL1
  have HB1 := Lib.hid hB1
  have HO1 := Lib.hid ho1
  clear hown hB1 hL1 ho1
  go_wp2_with fail
  refine (putint_any c1 k1 L1 a1 w1 HB1.out (by omega)).mono ?_
  rintro e w2 ⟨v2, rfl, hown, hb2⟩
  obtain ⟨L2, hL2⟩ : ∃ L2, L2 = L1 ++ encR (zig a1) := ⟨_, rfl⟩
  have ho2 : Oct L2 := by rw [hL2]; exact HO1.out.append (encR_oct _)
  have hn2 : L2.length ≤ L1.length + 9 := by rw [hL2, List.length_append, encR_length]; omega
  rw [← hL2] at hown
  obtain ⟨c2, k2, rfl, hB2⟩ := hown.bytes ho2
  have HL2 := Lib.hid hL2
  have HB2 := Lib.hid hB2
  have HO2 := Lib.hid ho2
  clear hown hB2 hL2 ho2 HB1
  go_wp2_with fail
  refine (puttext_room c2 k2 L2 a2 w2 HB2.out (by omega)).mono ?_
  rintro e w3 ⟨v3, rfl, hown, hb3⟩
  obtain ⟨L3, hL3⟩ : ∃ L3, L3 = L2 ++ encR a2.size ++ strL a2 := ⟨_, rfl⟩
  have ho3 : Oct L3 := by rw [hL3]; exact (HO2.out.append (encR_oct _)).append (strL_oct _)
  have hn3 : L3.length ≤ L2.length + 9 + a2.size := by rw [hL3, List.length_append, List.length_append, encR_length, strL_length]; omega
  have hge : L.length ≤ L3.length := by rw [hL3, HL2.out, HL1.out]; simp only [List.length_append]; omega
  rw [← hL3] at hown
  obtain ⟨c3, k3, e3, hB3, hn, hk3⟩ := hown.sl ho3
  subst e3
  have hb13 : Below w.heap.size w w3 := hb1.trans ((hb2.mono hb1.size).trans (hb3.mono (Nat.le_trans hb1.size hb2.size)))
  obtain ⟨c4, hrun, hB4, hn4⟩ := run_first hB3 k3 hk3 L.length hge
  have htake : L3.take L.length = L := by rw [hL3, HL2.out, HL1.out]; simp
  rw [htake] at hB4
  have hsame := same_any (.slice c4 L.length k3) (.slice a0 L.length cap0) L w3 ⟨c4, k3, rfl, hB4, (fun h => hn (hn4 h)), by omega⟩ (HS.out.later hb13)
  have g1 := get_any c3 k3 L3 (L.length : Nat) w3 (by omega) hB3
  have e1 : L3 = L ++ (encR (heldN a1) ++ (encR (zig a1) ++ (encR a2.size ++ strL a2))) := by rw [hL3, HL2.out, HL1.out]; simp
  have l1 : L1.length = L.length + sizeN (heldN a1) := by rw [HL1.out, List.length_append, encR_length]
  have e2 : L3 = L1 ++ (encR (zig a1) ++ (encR a2.size ++ strL a2)) := by rw [hL3, HL2.out]; simp
  have l2 : L2.length = L1.length + sizeN (zig a1) := by rw [HL2.out, List.length_append, encR_length]
  have e4 : L3 = L2 ++ (encR a2.size ++ strL a2) := by rw [hL3]; simp
  have f1 : G L3 (L.length : Nat) = (W, ((L1.length : Nat) : Int), 0) := by rw [e1, G_enc _ _ _ (heldN_le a1), l1, HW'.out]
  have f2 : GI (G L3 (L1.length : Nat)) = (C, ((L2.length : Nat) : Int), 0) := by rw [e2, G_enc _ _ _ (zig_le a1), l2, GI_zig, HC'.out]
  have f3 : GT L3 (G L3 (L2.length : Nat)) (a2.size : Nat) = (a2, ((L3.length : Nat) : Int), 0) := by rw [e4]; exact GT_encB L2 a2 hl2
  have g2 := getint_any c3 k3 L3 (L1.length : Nat) w3 (by omega) hB3
  have g3 := gettext_any c3 k3 L3 (L2.length : Nat) (a2.size : Nat) w3 hk3 (by omega) hB3
  rw [f1] at g1
  rw [f2] at g2
  rw [f3] at g3
  simp only [trip, strip] at g1 g2 g3
  have G1 := Lib.hid g1
  have G2 := Lib.hid g2
  have G3 := Lib.hid g3
  have HSM := Lib.hid hsame
  have tl : decide (L3.length < L.length) = false := by simp; omega
  have tl' : decide ((L3.length : Int) < (L.length : Int)) = false := by simp; omega
  clear hown hB3 hB4 hn hn4 g1 g2 g3 f1 f2 f3 e1 e2 e4 l1 l2 hL3 ho3 hsame htake HB2
  go_wp2_with (first | (go_at_call 10; refine HSM.out.mono ?_; rintro e w' ⟨rfl, rfl⟩) | (go_at_call 20; refine G1.out.mono ?_; rintro e w' ⟨rfl, rfl⟩) | (go_at_call 22; refine G2.out.mono ?_; rintro e w' ⟨rfl, rfl⟩) | (go_at_call 24; refine G3.out.mono ?_; rintro e w' ⟨rfl, rfl⟩) | (go_at_call 19; refine (awake_any _).mono ?_; rintro e w' ⟨rfl, hb⟩))
  go_ret
  exact ⟨rfl, hb13.trans (hb.mono hb13.size)⟩
end Go.Proofs.Ytkojldjgjmaodaa
