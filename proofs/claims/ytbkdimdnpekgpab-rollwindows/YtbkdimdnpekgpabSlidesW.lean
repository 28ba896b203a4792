/- The law RollSlides's own walk. -/
import Derived.Test.YtbkdimdnpekgpabPush
import Derived.Deep.RegionHeld3
namespace Go.Proofs.Ytbkdimdnpekgpab
open Go.RowKit Go.Proofs.RollMath
set_option linter.unusedVariables false

/-- the last bytes, so many at most -/
def lastN (n : Nat) (l : List Int) : List Int := l.drop (l.length - n)
theorem lastN_length (n : Nat) (l : List Int) : (lastN n l).length = min l.length n := by unfold lastN; rw [List.length_drop]; omega
theorem pushed_last (n : Nat) (hn : 1 ≤ n) (l : List Int) (c : Int) : pushed n (lastN n l) c = lastN n (l ++ [c]) := by
  unfold pushed
  rw [lastN_length]
  by_cases h : n ≤ l.length
  · rw [if_pos (by omega)]
    unfold lastN
    rw [List.drop_drop, List.length_append, List.length_singleton, List.drop_append_of_le_length (by omega)]
    congr 2
    omega
  · rw [if_neg (by omega)]
    unfold lastN
    rw [List.length_append, List.length_singleton, show l.length - n = 0 from by omega, show l.length + 1 - n = 0 from by omega, List.drop_zero, List.drop_zero]
theorem lastN_take (n : Nat) (l : List Int) (i : Nat) (h : i ≤ l.length) : lastN n (l.take i) = (l.drop (i - n)).take (i - (i - n)) := by
  unfold lastN
  rw [List.length_take, show min i l.length = i from by omega, List.drop_take]

theorem new_win (n : Nat) (w : World) (h1 : 1 ≤ n) (h2 : n ≤ 65536) : Win (w.alloc (.cells #[.int .i64 n, .slice none 0 0, .int .i64 0, .int .u32 0] 56)) w.heap.size n (.slice none 0 0) [] 0 := by
  refine ⟨?_, Own.nil _ _, by intro c hc; simp at hc, by simp, by simp, by omega, h2⟩
  rw [heap_new]
  rw [show sumOf (([] : List Int).drop 0) = 0 from by decide]
  rfl

theorem Win.later {W W' : World} {g n : Nat} {v : Value} {R : List Int} {f : Nat} (h : Win W g n v R f) (hb : Below W.heap.size W W') : Win W' g n v R f := by
  obtain ⟨h1, h2, h3⟩ := h
  exact ⟨by rw [hb.block g (heap_lt h1)]; exact h1, Own.below h2 hb, h3⟩

theorem same_sl (u v : Value) (l m : List Int) (W : World) (h1 : Sl W u l) (h2 : Sl W v m) (he : l = m) :
    Calls Try.prog 33 #[u, v] W fun e w' => e = .returned (.bool true) ∧ W = w' := by
  obtain ⟨a, cap, rfl, hB, _, _⟩ := h1
  obtain ⟨a', cap', rfl, hB', _, _⟩ := h2
  have r1 := run_str hB l.length cap rfl
  have r2 := run_str hB' m.length cap' rfl
  have e2 : strOfNums l = strOfNums m := by rw [he]
  rw [e2] at r1
  generalize strOfNums m = S at r1 r2
  clear hB hB' e2 he
  go_enter Try.func33, Try.ntmps33
  go_wp2
  go_ret
  exact ⟨rfl, rfl⟩

set_option maxHeartbeats 4000000 in
set_option maxRecDepth 1000000 in
theorem slides_walk (a1 : Option Addr) (len cap : Nat) (L : List Int) (a0 : Int) (N : Nat) (w : World) (hlen : len = L.length) (hS : Sl w (.slice a1 len cap) L) (h0 : 0 ≤ a0) (h1 : a0 ≤ 255) (hN : (1 : Int) + a0 % 40 = (N : Int)) (hN1 : 1 ≤ N) (hN2 : N ≤ 40) (hbig : len ≤ 2000) :
    Calls Try.prog 8 #[.int .u8 a0, .slice a1 len cap] w fun e w' => e = .returned (.bool true) ∧ Below w.heap.size w w' := by
  have HNEW := Lib.hid (new_good N w (by omega) (by omega))
  have HW1 := Lib.hid (new_win N w hN1 (by omega))
  have HB1 : Hid (Below w.heap.size w (w.alloc (.cells #[.int .i64 N, .slice none 0 0, .int .i64 0, .int .u32 0] 56))) := (Below.refl _ _).alloc (Nat.le_refl _) _
  generalize w.alloc (.cells #[.int .i64 N, .slice none 0 0, .int .i64 0, .int .u32 0] 56) = w1 at HNEW HW1 HB1
  have HS := Lib.hid hS
  have HL := Lib.hid hlen
  clear hS hlen
  go_enter Try.func8, Try.ntmps8
  go_wp2_with (go_at_call 20; (try rw [hN]); refine HNEW.out.mono ?_; rintro e w' ⟨rfl, rfl⟩)
  go_loopw [8] (fun c wr => ∃ i : Nat, i ≤ len ∧ c = .int .i64 i ∧ Below w.heap.size w wr ∧ ∃ v R f, Win wr w.heap.size N v R f ∧ R.drop f = lastN N (L.take i)) (fun c _ => len - (intOf c).toNat)
  case atStart => exact ⟨0, by omega, rfl, HB1.out, _, _, _, HW1.out, by simp [lastN]⟩
  case round =>
    obtain ⟨i, hi, rfl, hbel, v, R, f, hwin, hRf⟩ := hrel
    have HBEL := Lib.hid hbel
    have HWIN := Lib.hid hwin
    have HRF := Lib.hid hRf
    clear hbel hwin hRf
    by_cases hlt : i < len
    · obtain ⟨a', cap', e', hB, hnil, hcap⟩ := HS.out
      simp only [Value.slice.injEq] at e'
      obtain ⟨rfl, -, rfl⟩ := e'
      obtain ⟨b, off, rfl, hc⟩ := hB.2 (by intro e; have := HL.out; rw [e] at this; simp at this; omega)
      have hcell := cell_later HBEL.out (hc i (by have := HL.out; omega))
      have h8 := hB.1.getD i
      have htk := take_snoc L i (by have := HL.out; omega)
      obtain ⟨c, hcd⟩ : ∃ c, c = L.getD i 0 := ⟨_, rfl⟩
      rw [← hcd] at hcell h8 htk
      have hcp : len ≤ cap := by rw [HL.out]; exact hcap
      obtain ⟨p, hp⟩ : ∃ p : Nat, p = i + 1 - N := ⟨_, rfl⟩
      obtain ⟨m, hm⟩ : ∃ m : Nat, p + m = i + 1 := ⟨i + 1 - p, by omega⟩
      obtain ⟨x, hcut, hSx⟩ := run_cut hB cap len HL.out hcp hnil p m (by omega)
      rw [show ((p : Int) + (m : Int)) = (i : Int) + 1 from by omega] at hcut
      have hmax : ∀ W, (Builtin.max_ #[3, 3] 3 #[.int .i64 0, .int .i64 ((i : Int) + 1 - (N : Int))]).run Try.prog W = .ok (.int .i64 (p : Int)) W := by
        intro W
        by_cases hq : (0 : Int) < (i : Int) + 1 - (N : Int)
        · have e : (p : Int) = (i : Int) + 1 - (N : Int) := by omega
          rw [e]
          simp [Builtin.max_, Builtin.max2]
          try omega
        · have e : (p : Int) = 0 := by omega
          rw [e]
          simp [Builtin.max_, Builtin.max2]
          try omega
      have hX : lastN N (L.take (i + 1)) = (L.drop p).take m := by rw [lastN_take N L (i + 1) (by have := HL.out; omega), ← hp, show i + 1 - p = m from by omega]
      have HOF := Lib.hid (fun W (hb : Below w.heap.size w W) => of_sl _ _ W (hSx.later hb) (by rw [← hX, lastN_length]; have := HL.out; omega))
      have hpu : pushed N (R.drop f) c = lastN N (L.take (i + 1)) := by rw [HRF.out, pushed_last N hN1, ← htk]
      have HPU := Lib.hid (fun W (hw : Win W w.heap.size N v R f) => push_win W w.heap.size N v R f c hw h8.1 h8.2)
      rw [hpu, hX] at HPU
      have HX := Lib.hid hX
      clear hpu hX htk hcd hc hB hnil hSx hp
      generalize (L.drop p).take m = Y at HPU HOF HX
      generalize sumOf Y = s at HPU HOF
      generalize cap - p = cx at hcut HOF
      have hw1 : IntKind.i64.wrap ((i : Int) + 1) = (i : Int) + 1 := by rw [IntKind.wrap_i64]; omega
      have hw2 : IntKind.i64.wrap ((i : Int) + 1 - (N : Int)) = (i : Int) + 1 - (N : Int) := by rw [IntKind.wrap_i64]; omega
      have HWD : Hid (Win wr.drew w.heap.size N v R f) := HWIN.out
      have hi0 : (0 : Int) ≤ (i : Int) := by omega
      have hi1 : (i : Int) < (len : Int) := by omega
      go_wp2
      go_region_with (first
        | (go_at_call 28; (refine (HPU.out _ HWD.out).mono ?_); rintro e w2 ⟨rfl, v2, R2, f2, hw2, hd2, hfr2⟩; have hb2 : Below w.heap.size w w2 := (Below.drew HBEL.out).trans hfr2.1; have HW2 := Lib.hid hw2; have HD2 := Lib.hid hd2; clear hw2 hd2 hfr2)
        | (go_at_call 9; (refine (HOF.out _ (by first | assumption | exact Below.drew (by assumption) | exact HBEL.out)).mono ?_); rintro e w' ⟨rfl, rfl⟩))
      all_goals go_wp2
      all_goals (go_roundw <;> first
        | exact ⟨i + 1, by omega, by go_num, by first | assumption | exact Below.drew (by assumption), v2, R2, f2, HW2.out, by rw [HD2.out, HX.out]⟩
        | (simp [intOf]; omega))
    · have hie : i = len := by omega
      subst hie
      have hT : L.take i = L := List.take_of_length_le (by have := HL.out; omega)
      have hRf := HRF.out
      rw [hT] at hRf
      obtain ⟨p, hp⟩ : ∃ p : Nat, p = i - N := ⟨_, rfl⟩
      obtain ⟨m, hm⟩ : ∃ m : Nat, p + m = i := ⟨i - p, by omega⟩
      have hX : lastN N L = L.drop p := by unfold lastN; rw [hp, HL.out]
      obtain ⟨a', cap', e', hB, hnil, hcap⟩ := HS.out
      simp only [Value.slice.injEq] at e'
      obtain ⟨rfl, -, rfl⟩ := e'
      obtain ⟨x, hcut, hSx⟩ := run_from hB cap i HL.out (by rw [HL.out]; exact hcap) hnil p m p rfl hm
      have hmax : ∀ W, (Builtin.max_ #[3, 3] 3 #[.int .i64 0, .int .i64 ((i : Int) - (N : Int))]).run Try.prog W = .ok (.int .i64 (p : Int)) W := by
        intro W
        by_cases hq : (0 : Int) < (i : Int) - (N : Int)
        · have e : (p : Int) = (i : Int) - (N : Int) := by omega
          rw [e]
          simp [Builtin.max_, Builtin.max2]
          try omega
        · have e : (p : Int) = 0 := by omega
          rw [e]
          simp [Builtin.max_, Builtin.max2]
          try omega
      have HWL := Lib.hid (fun W (hb : Below wr.heap.size wr W) => Win.later HWIN.out hb)
      have HBY := Lib.hid (fun W (hb : Below wr.heap.size wr W) => bytes_win W w.heap.size N v R f (HWL.out W hb))
      rw [hRf, hX] at HBY
      have HSX := Lib.hid (fun W (hb : Below wr.heap.size wr W) => hSx.later (HBEL.out.trans (hb.mono HBEL.out.size)))
      have HAK := Lib.hid (fun (W : World) (hb : Below wr.heap.size wr W) => awake_any W)
      have hfl : decide (R.length = f + N) = decide ((N : Int) ≤ (i : Int)) := by
        have h1 : (R.drop f).length = min L.length N := by rw [hRf, lastN_length]
        obtain ⟨_, _, _, h2, h3, h4, h5⟩ := HWIN.out
        rw [List.length_drop] at h1
        have h6 := HL.out
        by_cases hq : (N : Int) ≤ (i : Int)
        · simp [hq]; omega
        · simp [hq]; omega
      have HFU : Hid (∀ W (hb : Below wr.heap.size wr W), Calls Try.prog 27 #[.pointer (some ⟨w.heap.size, 0, none⟩)] W fun e w' => e = .returned (.bool (decide ((N : Int) ≤ (i : Int)))) ∧ Qt W w') := by
        intro W hb
        have hw := HWL.out W hb
        obtain ⟨a, cp, e1, hS1, c0, c1, c2, c3⟩ := hw.cells
        obtain ⟨_, _, _, h2, h3, h4, h5⟩ := hw
        rw [← hfl]
        exact full_win W w.heap.size N a R.length cp f c0 c1 c2 (by omega) h2
      generalize L.drop p = Y at HBY HSX
      generalize cap - p = cx at hcut HSX
      have hw2 : IntKind.i64.wrap ((i : Int) - (N : Int)) = (i : Int) - (N : Int) := by rw [IntKind.wrap_i64]; omega
      have HB0 := Lib.hid HBEL.out
      clear hfl hSx hB hnil hX hp hRf hT hcap
      go_wp2
      go_region_held3 (fun W => Below wr.heap.size wr W) (first | assumption | exact Below.refl _ _ | exact Below.drew (Below.refl _ _)) (first
        | (go_at_call 26; (with_reducible refine (HBY.out _ ?_).mono ?_); (focus (assumption)); rintro e w5 ⟨u5, rfl, hs5, hb5⟩; have hb6 : Below wr.heap.size wr w5 := Below.trans (by assumption) (hb5.mono (Below.size (by assumption))); have HS5 := Lib.hid hs5; clear hs5)
        | (go_at_call 33; (refine (same_sl _ _ Y Y _ HS5.out (HSX.out _ (by assumption)) rfl).mono ?_); rintro e w' ⟨rfl, rfl⟩)
        | (go_at_call 27; (with_reducible refine (HFU.out _ ?_).mono ?_); (focus (assumption)); rintro e w7 ⟨rfl, hq7⟩; have hb7 : Below wr.heap.size wr w7 := Below.trans (by assumption) (hq7.1.mono (Below.size (by assumption))))
        | (go_at_call 11; (with_reducible refine (HAK.out _ ?_).mono ?_); (focus (assumption)); rintro e w9 ⟨rfl, hb9⟩; have hb10 : Below wr.heap.size wr w9 := Below.trans (by assumption) (hb9.mono (Below.size (by assumption)))))
      all_goals go_wp2
      all_goals go_ret
      all_goals exact ⟨rfl, HB0.out.trans (Below.mono (by assumption) HB0.out.size)⟩
end Go.Proofs.Ytbkdimdnpekgpab
