/- squash: putRun, putMatch, Pack. (A template: seatgen.py fills it.) -/
import Derived.Test.YtboienpdnfcooaaSqLong
namespace Go.Proofs.Ytboienpdnfcooaa.Sq
open Go.RowKit Go.Proofs.NumMath Go.Maps
open Num (encR heldN encR_length encR_oct)
set_option linter.unusedVariables false
set_option maxRecDepth 1000000

theorem nput_sq (v : Value) (l : List Int) (n : Int) (w : World) (hS : Sl w v l) (hl : l.length + 9 ≤ 140737488355328) :
    Calls Try.prog 19 #[v, .int .i64 n] w fun e w' => ∃ v', e = .returned v' ∧ Own w' w.heap.size v' (l ++ encR (heldN n)) ∧ Below w.heap.size w w' := by
  obtain ⟨a, cap, rfl, hB, _, _⟩ := hS
  exact Num.put_any a cap l n w ⟨fun i => hB.1.getD i, hB.2⟩ hl
theorem sl_oct {w : World} {v : Value} {l : List Int} (h : Sl w v l) : Oct l := by
  obtain ⟨a, cap, _, hB, _⟩ := h
  exact hB.1
theorem oct_app {l m : List Int} (h : Oct l) (h' : Oct m) : Oct (l ++ m) := by
  intro x hx
  rcases List.mem_append.1 hx with g | g
  · exact h x g
  · exact h' x g

set_option maxHeartbeats 2000000 in
theorem putRun_any (v u : Value) (l m : List Int) (w : World) (hv : Sl w v l) (hu : Sl w u m) (hl : l.length + m.length + 9 ≤ 140737488355328) (hm : m.length ≤ 65536) :
    Calls Try.prog 24 #[v, u] w fun e w' => ∃ v', e = .returned v' ∧ Sl w' v' (putR l m) ∧ Below w.heap.size w w' := by
  have HU := Lib.hid hu
  have HO := Lib.hid (sl_oct hv)
  have HM := Lib.hid (sl_oct hu)
  by_cases h0 : m = []
  · subst h0
    obtain ⟨a, cap, rfl, hB, hn, hc⟩ := hu
    have HV := Lib.hid hv
    clear hv hB hn HU
    rw [List.length_nil]
    clear hc
    go_enter Try.func24, Try.ntmps24
    go_wp2
    go_ret
    exact ⟨_, rfl, (by unfold putR; rw [if_pos rfl]; exact HV.out), Below.refl _ _⟩
  · have hpos : 0 < m.length := List.length_pos_iff.2 h0
    have hp := nput_sq v l (2 * (m.length : Int)) w hv (by omega)
    have hh : heldN (2 * (m.length : Int)) = 2 * m.length := by unfold heldN; omega
    have hle := Num.encR_le (2 * m.length) (by omega)
    rw [hh] at hp
    have HP := Lib.hid hp
    obtain ⟨a, cap, rfl, hB, hn, hc⟩ := hu
    have HF : Hid (putR l m = l ++ encR (2 * m.length) ++ m) := by show putR l m = _; unfold putR; rw [if_neg h0]
    obtain ⟨M, hM⟩ : ∃ M, M = m.length := ⟨_, rfl⟩
    rw [← hM] at HP HF hpos hc hm HU hle ⊢
    have HLE : Hid ((l ++ encR (2 * M)).length + m.length ≤ 140737488355328) := by show _ ≤ _; rw [List.length_append]; omega
    have hne : ¬ (M : Int) = 0 := by omega
    have hne2 : ¬ M = 0 := by omega
    clear hp hh hB hn h0 hM hle hv
    go_enter Try.func24, Try.ntmps24
    go_wp2_with (first
      | (go_at_call 19; refine HP.out.mono ?_; rintro e w2 ⟨v2, rfl, hv2, hb2⟩)
      | (at_builtin; refine append_sl rfl (.tmp 13) (.tmp 14) rfl w.heap.size _ _ _ m rfl hv2 rfl (HU.out.later hb2) HLE.out hb2.size ?_; intro v3 w3 HV3 hb3))
    go_ret
    exact ⟨_, rfl, (by rw [HF.out]; exact HV3.out.sl (oct_app (oct_app HO.out (encR_oct _)) HM.out)), hb2.trans hb3⟩

set_option maxHeartbeats 2000000 in
theorem putMatch_any (v : Value) (l : List Int) (n d : Nat) (w : World) (hv : Sl w v l) (h4 : 4 ≤ n) (hn : n ≤ 130) (hd : d ≤ 4096) (hl : l.length + 30 ≤ 140737488355328) :
    Calls Try.prog 23 #[v, .int .i64 n, .int .i64 d] w fun e w' => ∃ v', e = .returned v' ∧ Sl w' v' (l ++ mat n d) ∧ Below w.heap.size w w' := by
  have hp := nput_sq v l (2 * ((n : Int) - 4) + 1) w hv (by omega)
  have hh : heldN (2 * ((n : Int) - 4) + 1) = 2 * (n - 4) + 1 := by unfold heldN; omega
  have hhd : heldN (d : Int) = d := by unfold heldN; omega
  have hle := Num.encR_le (2 * (n - 4) + 1) (by omega)
  rw [hh] at hp
  have HP := Lib.hid hp
  have ho1 := oct_app (sl_oct hv) (encR_oct (2 * (n - 4) + 1))
  have H2 : Hid (∀ v2 w2, Own w2 w.heap.size v2 (l ++ encR (2 * (n - 4) + 1)) → Below w.heap.size w w2 → Calls Try.prog 19 #[v2, .int .i64 (d : Int)] w2 fun e w' => ∃ v', e = .returned v' ∧ Sl w' v' (l ++ mat n d) ∧ Below w.heap.size w w') := by
    show ∀ v2 w2, _ → _ → _
    intro v2 w2 hv2 hb2
    refine (nput_sq v2 _ (d : Int) w2 (hv2.sl ho1) (by rw [List.length_append]; omega)).mono ?_
    rintro e w3 ⟨v3, rfl, hv3, hb3⟩
    rw [hhd] at hv3
    exact ⟨v3, rfl, (by unfold mat; rw [← List.append_assoc]; exact hv3.sl (oct_app ho1 (encR_oct _))), hb2.trans (hb3.mono hb2.size)⟩
  clear hp hh hhd hle ho1 hv
  go_enter Try.func23, Try.ntmps23
  go_wp2_with (go_at_call 19; refine HP.out.mono ?_; rintro e w2 ⟨v2, rfl, hv2, hb2⟩)
  have HP2 := Lib.hid (H2.out v2 w2 hv2 hb2)
  clear hv2 hb2 H2 HP
  go_wp2_with (go_at_call 19; refine HP2.out.mono ?_; rintro e w3 ⟨v3, rfl, hv3, hb3⟩)
  go_ret
  exact ⟨_, rfl, hv3, hb3⟩

theorem putR_length (l m : List Int) (hm : m.length ≤ 65536) : (putR l m).length ≤ l.length + m.length + 9 := by
  unfold putR
  split
  · omega
  · have := Num.encR_le (2 * m.length) (by omega)
    rw [List.length_append, List.length_append]; omega
theorem mat_length (n d : Nat) (hn : n ≤ 130) (hd : d ≤ 4096) : (mat n d).length ≤ 18 := by
  unfold mat
  have h1 := Num.encR_le (2 * (n - 4) + 1) (by omega)
  have h2 := Num.encR_le d (by omega)
  rw [List.length_append]; omega

theorem pack_big (a : Option Addr) (n cap : Nat) (w : World) (h : 65536 < n) (hn : n ≤ 9223372036854775807) :
    Calls Try.prog 11 #[.slice a n cap] w fun e w' => e = .returned (.slice none 0 0) ∧ w' = w := by
  have hI : (65536 : Int) < (n : Int) := by omega
  go_enter Try.func11, Try.ntmps11
  go_wp2
  go_ret
  exact ⟨rfl, rfl⟩

set_option maxHeartbeats 8000000 in
theorem pack_any (v : Value) (l : List Int) (w : World) (h : Sl w v l) (hl : l.length ≤ 65536) :
    Calls Try.prog 11 #[v] w fun e w' => ∃ v', e = .returned v' ∧ Sl w' v' (packL l) ∧ Below w.heap.size w w' := by
  have HLA := Lib.hid (likeAhead_any v l w h hl)
  have HSL := Lib.hid h
  obtain ⟨a, cap, rfl, hB, hnil, hc⟩ := h
  have HB := Lib.hid hB
  have HNIL := Lib.hid hnil
  obtain ⟨N, hN⟩ : ∃ N, N = l.length := ⟨_, rfl⟩
  have HN := Lib.hid hN
  rw [← hN] at hc hl HLA HSL ⊢
  clear hB hnil hN
  go_enter Try.func11, Try.ntmps11
  go_wp2_with (go_at_call 21; refine HLA.out.mono ?_; rintro e w1 ⟨u, rfl, hu, hb1⟩)
  have HU := Lib.hid hu
  have HB1 := Lib.hid hb1
  clear hu hb1
  go_loopw [3, 5, 6] (fun vo vt vp wr => ∃ (told p : Nat) (out : List Int), vt = .int .i64 told ∧ vp = .int .i64 p ∧ told ≤ p ∧ p ≤ N ∧ Hid (Sl wr vo out) ∧ out.length ≤ 20 * told ∧ Hid (pk l told p out = packL l) ∧ Below w1.heap.size w1 wr) (fun _ _ vp _ => N - (intOf vp).toNat)
  case atStart => exact ⟨0, 0, [], rfl, rfl, by omega, by omega, (show Sl _ _ _ from ⟨none, 0, rfl, ⟨(by intro x hx; cases hx), fun h => absurd rfl h⟩, fun _ => rfl, by simp⟩), by simp, (show _ = _ from rfl), Below.refl _ _⟩
  case round =>
    obtain ⟨told, p, out, rfl, rfl, htp, hpN, HV, hout, HPK, hbel⟩ := hrel
    have HBEL := Lib.hid hbel
    have hb0 : Below w.heap.size w wr := HB1.out.trans (hbel.mono HB1.out.size)
    have HB0 := Lib.hid hb0
    by_cases hlt : p < N
    · have hltI : (p : Int) < (N : Int) := by omega
      have hlo := longest_any _ u l p w.heap.size wr (HSL.out.later hb0) (by have h := HU.out; rw [HN.out] at h; exact h.below hbel) (by rw [← HN.out]; exact hlt) (by rw [← HN.out]; exact hl)
      obtain ⟨g1, g2, g3, g4⟩ := best_bd l p (by rw [← HN.out]; omega)
      by_cases h4 : 4 ≤ (best l p).1
      · have hpm := pk_match l told p out (by rw [← HN.out]; exact hlt) h4
        rw [(best_bsp l p).1 h4] at hlo
        rw [← HN.out] at g2
        generalize hbp : best l p = bb at *
        obtain ⟨n, d⟩ := bb
        simp only [two] at hlo
        simp only at g1 g2 g3 g4 h4 hpm
        have HPM : Hid (pk l (p + n) (p + n) (putR out (cut l told p) ++ mat n d) = packL l) := by show _ = _; rw [← hpm]; exact HPK.out
        have HLO := Lib.hid hlo
        obtain ⟨a', hr, hs⟩ := run_cut HB.out cap N HN.out hc HNIL.out told (p - told) (by omega)
        have e1 : (told : Int) + ((p - told : Nat) : Int) = (p : Int) := by omega
        rw [e1] at hr
        have hcl : (cut l told p).length = p - told := cut_length _ _ _ htp (by rw [← HN.out]; omega)
        have hpl := putR_length out (cut l told p) (by omega)
        have hml := mat_length n d g1 g3
        have HLEN : Hid ((putR out (cut l told p) ++ mat n d).length ≤ 20 * (p + n)) := by show _ ≤ _; rw [List.length_append]; omega
        have H2 : Hid (∀ w2, Below wr.heap.size wr w2 → Calls Try.prog 24 #[u3, .slice a' (p - told) (cap - told)] w2 fun e w' => ∃ v', e = .returned v' ∧ Sl w' v' (putR out (cut l told p)) ∧ Below w1.heap.size w1 w') := by
          show ∀ w2, _ → _
          intro w2 hb2
          have hb2w : Below w.heap.size w w2 := hb0.trans (hb2.mono hb0.size)
          have hb21 : Below w1.heap.size w1 w2 := hbel.trans (hb2.mono hbel.size)
          refine (putRun_any _ _ out (cut l told p) w2 (HV.out.later hb2) (hs.later hb2w) (by omega) (by omega)).mono ?_
          rintro e w3 ⟨v3, rfl, hv3, hb3⟩
          exact ⟨v3, rfl, hv3, hb21.trans (hb3.mono hb21.size)⟩
        have H3 : Hid (∀ v3 w3, Sl w3 v3 (putR out (cut l told p)) → Below w1.heap.size w1 w3 → Calls Try.prog 23 #[v3, .int .i64 (n : Int), .int .i64 (d : Int)] w3 fun e w' => ∃ v', e = .returned v' ∧ Sl w' v' (putR out (cut l told p) ++ mat n d) ∧ Below w1.heap.size w1 w') := by
          show ∀ v3 w3, _ → _ → _
          intro v3 w3 hv3 hb3
          refine (putMatch_any v3 _ n d w3 hv3 h4 g1 g3 (by omega)).mono ?_
          rintro e w4 ⟨v4, rfl, hv4, hb4⟩
          exact ⟨v4, rfl, hv4, hb3.trans (hb4.mono hb3.size)⟩
        have h4I : ¬ (n : Int) < 4 := by omega
        have htI : (told : Int) ≤ (p : Int) := by omega
        clear hlo hs e1 hcl hpl hml hpm hbp hb0 hbel
        go_wp2_with (go_at_call 22; refine HLO.out.mono ?_; rintro e w2 ⟨rfl, hb2⟩)
        have HC2 := Lib.hid (H2.out w2 hb2)
        clear H2 hb2
        go_wp2_with (go_at_call 24; refine HC2.out.mono ?_; rintro e w3 ⟨v3, rfl, hv3, hb3⟩)
        have HC3 := Lib.hid (H3.out v3 w3 hv3 hb3)
        clear H3 hv3 hb3 HC2
        go_wp2_with (go_at_call 23; refine HC3.out.mono ?_; rintro e w4 ⟨v4, rfl, hv4, hb4⟩)
        go_roundw
        case rel => exact ⟨p + n, p + n, _, by go_num, by go_num, Nat.le_refl _, by omega, hv4, HLEN.out, HPM, hb4⟩
        case measure => simp [intOf]; omega
      · have hpt := pk_tell l told p out (by rw [← HN.out]; exact hlt) (by omega)
        rw [(best_bsp l p).2 (by omega)] at hlo
        simp only [two] at hlo
        have HPM : Hid (pk l told (p + 1) out = packL l) := by show _ = _; rw [← hpt]; exact HPK.out
        have HLO := Lib.hid hlo
        clear hlo hpt hb0 hbel h4 g1 g2 g3 g4
        go_wp2_with (go_at_call 22; refine HLO.out.mono ?_; rintro e w2 ⟨rfl, hb2⟩)
        go_roundw
        case rel => exact ⟨told, p + 1, out, rfl, by go_num, by omega, by omega, HV.out.later hb2, hout, HPM, HBEL.out.trans (hb2.mono HBEL.out.size)⟩
        case measure => simp [intOf]; omega
    · have hltI : ¬ (p : Int) < (N : Int) := by omega
      have hpe := pk_end l told p out (by rw [← HN.out]; omega)
      rw [HPK.out] at hpe
      obtain ⟨a', hr, hs⟩ := run_from HB.out cap N HN.out hc HNIL.out told (N - told) told rfl (by omega)
      have HF : Hid (Calls Try.prog 24 #[u3, .slice a' (N - told) (cap - told)] wr fun e w' => ∃ v', e = .returned v' ∧ Sl w' v' (packL l) ∧ Below w.heap.size w w') := by
        rw [hpe]
        refine (putRun_any _ _ out (l.drop told) wr HV.out (hs.later hb0) (by rw [List.length_drop, ← HN.out]; omega) (by rw [List.length_drop, ← HN.out]; omega)).mono ?_
        rintro e w3 ⟨v3, rfl, hv3, hb3⟩
        exact ⟨v3, rfl, hv3, hb0.trans (hb3.mono hb0.size)⟩
      clear hpe hs hb0 hbel
      go_wp2_with (go_at_call 24; refine HF.out.mono ?_; rintro e w3 ⟨v3, rfl, hv3, hb3⟩)
      go_ret
      exact ⟨_, rfl, hv3, hb3⟩
end Go.Proofs.Ytboienpdnfcooaa.Sq
