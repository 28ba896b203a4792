/- glob: match, Check, Match. (A template.) -/
import Derived.Test.YtokocfoeohddfaaGreatDoorGlStep
import Derived.Test.YtokocfoeohddfaaGreatDoorGlRead2
namespace Go.Proofs.YtokocfoeohddfaaGreatDoor.Pa
open Go.RowKit
set_option linter.unusedVariables false
set_option linter.unusedSimpArgs false
set_option maxRecDepth 100000

theorem runS_append (L : List Sg) : ∀ (a b : L8) (T : Nat → Bool), runS L T (a ++ b) = runS L (runS L T a) b := by
  intro a
  induction a with
  | nil => intro b T; rfl
  | cons c a ih => intro b T; rw [List.cons_append, runS, runS]; exact ih b _
theorem step_none (L : List Sg) (N : Nat → Bool) (c : Nat) (h : ∀ x, x < L.length → N x = false) : stepS L N c = noneS := by
  have : ∀ k, k ≤ L.length → stepK L N c k = noneS := by
    intro k
    induction k with
    | zero => intro _; rfl
    | succ k ih =>
      intro hk
      rw [stepK_succ L N c k (List.getElem?_eq_getElem (by omega)), h k (by omega), if_neg (by simp), ih (by omega)]
  exact this _ (Nat.le_refl _)
theorem run_none (L : List Sg) : ∀ (s : L8) (N : Nat → Bool), (∀ x, x ≤ L.length → N x = false) → runS L N s L.length = false := by
  intro s
  induction s with
  | nil => intro N h; exact h _ (Nat.le_refl _)
  | cons c s ih => intro N h; rw [runS, step_none L N _ (fun x hx => h x (by omega))]; exact ih _ (fun _ _ => rfl)
set_option maxHeartbeats 8000000 in
theorem match_any (L : List Sg) (g c : Nat) (s : L8) (w : World) (hG : GsAt w g L) (hL : L.length ≤ 100) (hs : s.length ≤ 4611686018427387904) :
    Calls Tryz.prog 49 #[.slice (some ⟨g, 0, none⟩) L.length c, .string (mk s)] w fun e w' => e = .returned (.bool (matchB L s)) ∧ Below w.heap.size w w' := by
  obtain ⟨ga, hga⟩ : ∃ ga, ga = w.heap.size := ⟨_, rfl⟩
  have hglt := hG.lt
  obtain ⟨w1, hw1⟩ : ∃ w1, w1 = w.alloc (.cells #[.int .u64 0, .int .u64 0, .int .u64 0, .int .u64 0] 75) := ⟨_, rfl⟩
  have hb1 : Below ga w w1 := by rw [hw1, hga]; exact (Below.refl _ _).alloc (Nat.le_refl _) _
  have hs1 : SetAt w1 ga 0 noneS := by rw [hw1, hga]; exact set_zero w
  have hz1 : ga < w1.heap.size := by rw [hw1, hga]; simp
  have hne : g ≠ ga := by omega
  have HR0 := Lib.hid (reach_any L g c ga 0 noneS w1 (hG.later hb1 (by omega)) hL (Nat.zero_le _) hs1 hne)
  have HW := Lib.hid hw1
  have HGA := Lib.hid hga
  have HNE := Lib.hid hne
  have HLL := Lib.hid hL
  have HSL := Lib.hid hs
  have HGG := Lib.hid (And.intro (hG.later hb1 (by omega)) (And.intro hb1 hz1))
  obtain ⟨R, hR⟩ : ∃ R, R = matchB L s := ⟨_, rfl⟩
  have HR := Lib.hid hR
  rw [← hR, ← hga]
  have hz : (mk s).size = s.length := mk_size s
  have HZ := Lib.hid hz
  rw [hw1, hga] at HR0
  have HGL : Hid (g < ga) := by show _ < _; omega
  clear hG hL hs hga hglt hw1 hb1 hs1 hz1 hne hR hz
  go_enter Tryz.func49, Tryz.ntmps49
  go_wp2_with (go_at_call 65; refine HR0.out.mono ?_; rintro e w2 ⟨rfl, hS2, hN2⟩; rw [← HGA.out] at hS2 hN2; rw [← HW.out] at hN2; have HS2 := Lib.hid hS2; have HG2 := Lib.hid (HGG.out.1.but hN2 HNE.out); have HB2 := Lib.hid (HGG.out.2.1.trans (hN2.below (Nat.le_refl _))); have HZ2 : Hid (ga < w2.heap.size) := (by show _ < _; rw [hN2.size]; exact HGG.out.2.2); clear hS2 hN2)
  rw [← HGA.out]
  clear HR0
  go_loopw [11] (fun v wr => ∃ k : Nat, v = .int .i64 k ∧ Hid (k ≤ s.length) ∧ Hid (SetAt wr ga 0 (runS L (reachS L noneS 0) (s.take k))) ∧ Hid (GsAt wr g L) ∧ Hid (Below ga w wr) ∧ Hid (ga < wr.heap.size)) (fun v _ => s.length - (intOf v).toNat)
  case atStart => exact ⟨0, rfl, Nat.zero_le _, HS2, HG2, HB2, HZ2⟩
  case round =>
    clear HS2 HG2 HB2 HZ2
    obtain ⟨k, rfl, HK, HS, HG, HB, HZR⟩ := hrel
    by_cases hk : k < s.length
    · have hIk : (k : Int) < ((mk s).size : Int) := by rw [HZ.out]; omega
      have hx := run_at s k hk
      obtain ⟨N, hN⟩ : ∃ N, N = runS L (reachS L noneS 0) (s.take (k + 1)) := ⟨_, rfl⟩
      have hstep : N = stepS L (runS L (reachS L noneS 0) (s.take k)) (nb s k) := by
        rw [hN, List.take_add_one, List.getElem?_eq_getElem hk, runS_append]
        unfold nb
        rw [List.getD_eq_getElem?_getD, List.getElem?_eq_getElem hk]
        rfl
      have hst := step_any L g c ga (nb s k) _ wr HG.out HLL.out HS.out HZR.out (nb_lt s k)
      rw [← hstep] at hst
      have HST := Lib.hid hst
      have HN := Lib.hid hN
      have HKL := Lib.hid hk
      have hbk := bt_nb s k
      rw [hbk] at hx
      have hSL := HSL.out
      have hw1 : IntKind.i64.wrap ((k : Int) + 1) = (k : Int) + 1 := IntWalk.i64_in _ (by omega)
      have HQ : ∀ W, (Op.equalIn 10000 75 (.agg #[.int .u64 (wd N 0 : Int), .int .u64 (wd N 1 : Int), .int .u64 (wd N 2 : Int), .int .u64 (wd N 3 : Int)]) (.agg #[.int .u64 0, .int .u64 0, .int .u64 0, .int .u64 0])).run Tryz.prog W = .ok (emptyS N) W := fun W => eql_set _ _ _ _ W
      generalize nb s k = ch at *
      clear hk hstep hst hN hbk hSL
      cases he : emptyS N with
      | true =>
        rw [he] at HQ
        have HF : Hid (R = false) := by
          show R = false
          rw [HR.out]
          unfold matchB
          rw [← List.take_append_drop (k + 1) s, runS_append, ← HN.out]
          exact run_none L _ _ (fun x hx => (emptyS_iff N).1 he x (by have := HLL.out; omega))
        clear he
        go_wp2_with fail
        refine HST.out.mono ?_
        rintro e w3 ⟨rfl, hb3⟩
        have hS3 := HS.out.later hb3 HZR.out
        have c0 := hS3.cell 0 (by omega)
        have c1 := hS3.cell 1 (by omega)
        have c2 := hS3.cell 2 (by omega)
        have c3 := hS3.cell 3 (by omega)
        have f0 := hS3.soft 0 (by omega)
        have f1 := hS3.soft 1 (by omega)
        have f2 := hS3.soft 2 (by omega)
        have f3 := hS3.soft 3 (by omega)
        simp only [Nat.zero_add] at c0 c1 c2 c3 f0 f1 f2 f3
        obtain ⟨q0, q1, q2, q3⟩ := four c0 c1 c2 c3 (.int .u64 (wd N 0 : Int)) (.int .u64 (wd N 1 : Int)) (.int .u64 (wd N 2 : Int)) (.int .u64 (wd N 3 : Int))
        have HB3 := Lib.hid (HB.out.trans (hb3.mono (Nat.le_of_lt HZR.out)))
        clear hS3 hb3
        go_wp2
        go_ret
        exact ⟨by rw [HF.out]; rfl, put4_below HB3.out (Nat.le_refl _) N⟩
      | false =>
        rw [he] at HQ
        clear he
        go_wp2_with fail
        refine HST.out.mono ?_
        rintro e w3 ⟨rfl, hb3⟩
        have hS3 := HS.out.later hb3 HZR.out
        have HS3 := Lib.hid hS3
        have HG3 := Lib.hid (HG.out.later hb3 HG.out.lt)
        have c0 := hS3.cell 0 (by omega)
        have c1 := hS3.cell 1 (by omega)
        have c2 := hS3.cell 2 (by omega)
        have c3 := hS3.cell 3 (by omega)
        have f0 := hS3.soft 0 (by omega)
        have f1 := hS3.soft 1 (by omega)
        have f2 := hS3.soft 2 (by omega)
        have f3 := hS3.soft 3 (by omega)
        simp only [Nat.zero_add] at c0 c1 c2 c3 f0 f1 f2 f3
        obtain ⟨q0, q1, q2, q3⟩ := four c0 c1 c2 c3 (.int .u64 (wd N 0 : Int)) (.int .u64 (wd N 1 : Int)) (.int .u64 (wd N 2 : Int)) (.int .u64 (wd N 3 : Int))
        have HB3 := Lib.hid (HB.out.trans (hb3.mono (Nat.le_of_lt HZR.out)))
        have HZ3 : Hid (ga < w3.heap.size) := Nat.lt_of_lt_of_le HZR.out hb3.size
        clear hS3 hb3
        go_wp2
        go_roundw
        case rel => exact ⟨k + 1, by go_num, by show _ ≤ _; have := HKL.out; omega, by show SetAt _ _ _ _; rw [← HN.out]; exact put4_set HS3.out N, HG3.out.later (put4_below (Below.refl ga w3) (Nat.le_refl _) N) HGL.out, put4_below HB3.out (Nat.le_refl _) N, by show _ < _; have := HZ3.out; simpa using this⟩
        case measure => have := HKL.out; simp [intOf]; omega
    · have hIk : ¬ (k : Int) < ((mk s).size : Int) := by rw [HZ.out]; omega
      have hke : k = s.length := by have := HK.out; omega
      have HS2 : Hid (SetAt wr ga 0 (runS L (reachS L noneS 0) s)) := by have := HS.out; rw [hke, List.take_length] at this; exact this
      have hLL := HLL.out
      have HH := Lib.hid (has_set _ ga 0 L.length wr (by omega) HS2.out)
      have hw8 : IntKind.u8.wrap (L.length : Int) = (L.length : Int) := by simp [IntKind.wrap, IntKind.bits, IntKind.signed]; omega
      clear hk hke hLL
      go_wp2_with (go_at_call 67; refine HH.out.mono ?_; rintro e w3 ⟨rfl, rfl⟩)
      go_ret
      exact ⟨by rw [HR.out]; rfl, HB.out⟩
end Go.Proofs.YtokocfoeohddfaaGreatDoor.Pa
