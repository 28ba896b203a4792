/- squash: the document's Pack. (A template: seatgen.py fills it.) -/
import Derived.Test.YtkbpjgkggmbbjaaSqPack
import Derived.Test.YtkbpjgkggmbbjaaSqRef
namespace Go.Proofs.Ytkbpjgkggmbbjaa.Sq
open Go.RowKit Go.Proofs.NumMath Go.Maps
open Num (encR heldN encR_length encR_oct)
set_option linter.unusedVariables false
set_option maxRecDepth 1000000

theorem rput_sq (v : Value) (l : List Int) (n : Int) (w : World) (hS : Sl w v l) (hl : l.length + 9 ≤ 140737488355328) :
    Calls Try.prog 26 #[v, .int .i64 n] w fun e w' => ∃ v', e = .returned v' ∧ Own w' w.heap.size v' (l ++ encR (heldN n)) ∧ Below w.heap.size w w' := by
  obtain ⟨a, cap, rfl, hB, h1, h2⟩ := hS
  exact Num.rput_any _ l n w ⟨a, cap, rfl, ⟨fun i => hB.1.getD i, hB.2⟩, h1, h2⟩ hl
/-- the two numbers of a match, one put behind the other -/
theorem rput_match (v : Value) (l : List Int) (n d : Nat) (w : World) (hv : Sl w v l) (h4 : 4 ≤ n) (hn : n ≤ 130) (hd : d ≤ 4096) (hl : l.length + 30 ≤ 140737488355328) :
    Calls Try.prog 26 #[v, .int .i64 (2 * ((n : Int) - 4) + 1)] w fun e w' => ∃ v', e = .returned v' ∧ Below w.heap.size w w' ∧
      Calls Try.prog 26 #[v', .int .i64 (d : Int)] w' fun e w2 => ∃ v2, e = .returned v2 ∧ Sl w2 v2 (l ++ mat n d) ∧ Below w.heap.size w w2 := by
  have hh : heldN (2 * ((n : Int) - 4) + 1) = 2 * (n - 4) + 1 := by unfold heldN; omega
  have hhd : heldN (d : Int) = d := by unfold heldN; omega
  have hle := Num.encR_le (2 * (n - 4) + 1) (by omega)
  have ho1 := oct_app (sl_oct hv) (encR_oct (2 * (n - 4) + 1))
  refine (rput_sq v l _ w hv (by omega)).mono ?_
  rintro e w2 ⟨v2, rfl, hv2, hb2⟩
  rw [hh] at hv2
  refine ⟨v2, rfl, hb2, ?_⟩
  refine (rput_sq v2 _ (d : Int) w2 (hv2.sl ho1) (by rw [List.length_append]; omega)).mono ?_
  rintro e w3 ⟨v3, rfl, hv3, hb3⟩
  rw [hhd] at hv3
  exact ⟨v3, rfl, (by unfold mat; rw [← List.append_assoc]; exact hv3.sl (oct_app ho1 (encR_oct _))), hb2.trans (hb3.mono hb2.size)⟩

set_option maxHeartbeats 8000000 in
theorem rpack_any (v : Value) (l : List Int) (w : World) (h : Sl w v l) (hl : l.length ≤ 65536) :
    Calls Try.prog 14 #[v] w fun e w' => ∃ v', e = .returned v' ∧ Sl w' v' (packL l) ∧ Below w.heap.size w w' := by
  have HSL := Lib.hid h
  have HOC := Lib.hid (sl_oct h)
  obtain ⟨a, cap, rfl, hB, hnil, hc⟩ := h
  have HB := Lib.hid hB
  obtain ⟨N, hN⟩ : ∃ N, N = l.length := ⟨_, rfl⟩
  have HN := Lib.hid hN
  rw [← hN] at hc hl HSL ⊢
  clear hB hnil hN
  go_enter Try.func14, Try.ntmps14
  go_wp2
  go_loopw [3, 4, 5] (fun vo vr vp wr => ∃ (told p : Nat) (out : List Int) (w0 : World), vp = .int .i64 p ∧ told ≤ p ∧ p ≤ N ∧ Hid (Sl w0 vo out) ∧ Below w0.heap.size w0 wr ∧ Below w.heap.size w w0 ∧ Hid (Own wr w0.heap.size vr (cut l told p)) ∧ Hid (told = p → vr = .slice none 0 0) ∧ out.length ≤ 20 * told ∧ Hid (pk l told p out = packL l)) (fun _ _ vp _ => N - (intOf vp).toNat)
  case atStart => exact ⟨0, 0, [], w, rfl, by omega, by omega, (show Sl _ _ _ from ⟨none, 0, rfl, ⟨(by intro x hx; cases hx), fun h => absurd rfl h⟩, fun _ => rfl, by simp⟩), Below.refl _ _, Below.refl _ _, (show Own _ _ _ _ by rw [cut_self]; exact Own.nil _ _), (show _ → _ from fun _ => rfl), by simp, (show _ = _ from rfl)⟩
  case round =>
    obtain ⟨told, p, out, w0, rfl, htp, hpN, HV, hbel, hbw, HO, HZ, hout, HPK⟩ := hrel
    have hb0 : Below w.heap.size w wr := hbw.trans (hbel.mono hbw.size)
    have hcl : (cut l told p).length = p - told := cut_length _ _ _ htp (by rw [← HN.out]; omega)
    have hco : Oct (cut l told p) := (HOC.out.drop told).take (p - told)
    have HCL := Lib.hid hcl
    have HCO := Lib.hid hco
    have HBEL := Lib.hid hbel
    have HBW := Lib.hid hbw
    have HB0 := Lib.hid hb0
    have hs0 := hbel.size
    have hsw := hbw.size
    by_cases hlt : p < N
    · have hltI : (p : Int) < (N : Int) := by omega
      have hbe := rbest_any _ l p wr (HSL.out.later hb0) (by rw [← HN.out]; exact hlt) (by rw [← HN.out]; exact hl)
      obtain ⟨g1, g2, g3, g4⟩ := best_bd l p (by rw [← HN.out]; omega)
      rw [← HN.out] at g2
      have hpm := pk_match l told p out (by rw [← HN.out]; exact hlt)
      have hpt := pk_tell l told p out (by rw [← HN.out]; exact hlt)
      generalize hbp : best l p = bb at *
      obtain ⟨n, d⟩ := bb
      simp only [two] at hbe
      simp only at g1 g2 g3 g4 hpm hpt
      have HBE := Lib.hid hbe
      by_cases h4 : 4 ≤ n
      · have HPM : Hid (pk l (p + n) (p + n) (putR out (cut l told p) ++ mat n d) = packL l) := by show _ = _; rw [← hpm h4]; exact HPK.out
        have hpl := putR_length out (cut l told p) (by omega)
        have hml := mat_length n d g1 g3
        have HLEN : Hid ((putR out (cut l told p) ++ mat n d).length ≤ 20 * (p + n)) := by show _ ≤ _; rw [List.length_append]; omega
        have H3 : Hid (∀ v3 w3, Sl w3 v3 (putR out (cut l told p)) → Calls Try.prog 26 #[v3, .int .i64 (2 * ((n : Int) - 4) + 1)] w3 fun e w' => ∃ v', e = .returned v' ∧ Below w3.heap.size w3 w' ∧
            Calls Try.prog 26 #[v', .int .i64 (d : Int)] w' fun e w2 => ∃ v2, e = .returned v2 ∧ Sl w2 v2 (putR out (cut l told p) ++ mat n d) ∧ Below w3.heap.size w3 w2) := by
          show ∀ v3 w3, _ → _
          intro v3 w3 hv3
          exact rput_match v3 _ n d w3 hv3 h4 g1 g3 (by omega)
        have h4I : ¬ (n : Int) < 4 := by omega
        obtain ⟨ra, rcap, hrv⟩ := own_form HO.out
        by_cases hR : told = p
        · have hz := HZ.out hR
          have HX : Hid (putR out (cut l told p) = out) := by show _ = _; rw [hR, cut_self]; unfold putR; rw [if_pos rfl]
          clear hbe hpm hpt hbp hb0 hbel hbw hcl hco hpl hml hrv
          subst hz
          go_wp2_with (go_at_call 25; refine HBE.out.mono ?_; rintro e w2 ⟨rfl, hb2⟩)
          have HC3 := Lib.hid (H3.out _ w2 (by rw [HX.out]; exact HV.out.later (HBEL.out.trans (hb2.mono HBEL.out.size))))
          clear H3
          go_wp2_with (go_at_call 26; refine HC3.out.mono ?_; rintro e w3 ⟨v3, rfl, hb3, hc3⟩)
          have HC4 := Lib.hid hc3
          clear hc3 HC3
          go_wp2_with (go_at_call 26; refine HC4.out.mono ?_; rintro e w4 ⟨v4, rfl, hv4, hb4⟩)
          have hall : Below w.heap.size w w4 := (HB0.out.trans (hb2.mono HB0.out.size)).trans (hb4.mono (HB0.out.trans (hb2.mono HB0.out.size)).size)
          go_roundw
          case rel => exact ⟨p + n, p + n, _, w4, by go_num, Nat.le_refl _, by omega, hv4, Below.refl _ _, hall, (show Own _ _ _ _ by rw [cut_self]; exact Own.nil _ _), (show _ → _ from fun _ => rfl), HLEN.out, HPM⟩
          case measure => simp [intOf]; omega
        · have hlo : told < p := by omega
          obtain ⟨R, hRR⟩ : ∃ R, R = p - told := ⟨_, rfl⟩
          rw [hcl, ← hRR] at hrv
          have hRp : 0 < R := by omega
          have hRI : (0 : Int) < (R : Int) := by omega
          have hRb : R ≤ 65536 := by omega
          have hhd : heldN (2 * (R : Int)) = 2 * R := by unfold heldN; omega
          have hle := Num.encR_le (2 * R) (by omega)
          have HX : Hid (out ++ encR (2 * R) ++ cut l told p = putR out (cut l told p)) := by
            show _ = _
            unfold putR
            rw [if_neg (by intro e; rw [e] at hcl; simp at hcl; omega), hcl, hRR]
          have HLE : Hid ((out ++ encR (2 * R)).length + (cut l told p).length ≤ 140737488355328) := by show _ ≤ _; rw [List.length_append, hcl]; omega
          have H1 : Hid (∀ w2, Below wr.heap.size wr w2 → Calls Try.prog 26 #[u3, .int .i64 (2 * (R : Int))] w2 fun e w' => ∃ v', e = .returned v' ∧ Own w' w2.heap.size v' (out ++ encR (2 * R)) ∧ Below w2.heap.size w2 w' ∧ Sl w' u4 (cut l told p)) := by
            show ∀ w2, _ → _
            intro w2 hb2
            refine (rput_sq _ out (2 * (R : Int)) w2 (HV.out.later (HBEL.out.trans (hb2.mono HBEL.out.size))) (by omega)).mono ?_
            rintro e w3 ⟨v3, rfl, hv3, hb3⟩
            rw [hhd] at hv3
            exact ⟨v3, rfl, hv3, hb3, ((HO.out.sl HCO.out).later hb2).later hb3⟩
          clear hbe hpm hpt hbp hb0 hbel hbw hcl hco hpl hml hle hhd hRR
          subst hrv
          go_wp2_with (go_at_call 25; refine HBE.out.mono ?_; rintro e w2 ⟨rfl, hb2⟩)
          have HC1 := Lib.hid (H1.out w2 hb2)
          clear H1
          go_wp2_with (first
            | (go_at_call 26; refine HC1.out.mono ?_; rintro e w3 ⟨v3, rfl, hv3, hb3, hsr⟩)
            | (at_builtin; refine append_sl rfl (.tmp 39) (.tmp 40) rfl w2.heap.size _ _ _ (cut l told p) rfl hv3 rfl hsr HLE.out hb3.size ?_; intro v5 w5 HV5 hb5))
          have hs5 : Sl w5 v5 (putR out (cut l told p)) := by
            have := HV5.out.sl (oct_app (oct_app (sl_oct HV.out) (encR_oct _)) HCO.out)
            rw [HX.out] at this; exact this
          have HC3 := Lib.hid (H3.out _ w5 hs5)
          clear H3 hs5 HC1
          go_wp2_with (go_at_call 26; refine HC3.out.mono ?_; rintro e w6 ⟨v6, rfl, hb6, hc6⟩)
          have HC4 := Lib.hid hc6
          clear hc6 HC3
          go_wp2_with (go_at_call 26; refine HC4.out.mono ?_; rintro e w4 ⟨v4, rfl, hv4, hb4⟩)
          have hall2 : Below w.heap.size w w2 := HB0.out.trans (hb2.mono HB0.out.size)
          have hall5 : Below w.heap.size w w5 := hall2.trans ((hb3.trans hb5).mono hall2.size)
          have hall : Below w.heap.size w w4 := hall5.trans (hb4.mono hall5.size)
          go_roundw
          case rel => exact ⟨p + n, p + n, _, w4, by go_num, Nat.le_refl _, by omega, hv4, Below.refl _ _, hall, (show Own _ _ _ _ by rw [cut_self]; exact Own.nil _ _), (show _ → _ from fun _ => rfl), HLEN.out, HPM⟩
          case measure => simp [intOf]; omega
      · have HPM : Hid (pk l told (p + 1) out = packL l) := by show _ = _; rw [← hpt (by omega)]; exact HPK.out
        have h4I : (n : Int) < 4 := by omega
        obtain ⟨b, off, rfl, hcell⟩ := HB.out.2 (by intro e; have := HN.out; subst e; simp at this; omega)
        have hx1 := HOC.out.getD p
        have HSN : Hid (cut l told (p + 1) = cut l told p ++ [l.getD p 0]) := cut_snoc l told p htp (by rw [← HN.out]; exact hlt)
        have HC : Hid (∀ w2, Below wr.heap.size wr w2 → w2.cell? ⟨b, off + p, none⟩ = some (.int .u8 (l.getD p 0))) := by
          show ∀ w2, _ → _
          intro w2 hb2
          exact cell_later (hb0.trans (hb2.mono hb0.size)) (hcell p (by rw [← HN.out]; exact hlt))
        have HLE : Hid ((cut l told p).length + [l.getD p 0].length ≤ 140737488355328) := by show _ ≤ _; rw [hcl]; simp; omega
        generalize l.getD p 0 = x at HSN HC hx1 HLE
        clear hbe hpm hpt hbp hb0 hbel hbw hcl hco hcell g1 g2 g3 g4
        go_wp2_with (first
          | (go_at_call 25; refine HBE.out.mono ?_; rintro e w2 ⟨rfl, hb2⟩; have c1 := HC.out w2 hb2; have hs2 := hb2.size)
          | (at_builtin; refine append_sl rfl (.tmp 23) (.tmp 28) rfl w0.heap.size _ _ (cut l told p) [x] rfl ((HO.out.below hb2).below ((Below.refl _ _).alloc (Nat.le_refl _) _)) rfl (one_sl w2 x hx1.1 hx1.2) HLE.out (by simp; omega) ?_; intro v5 w5 HV5 hb5))
        have hall : Below w0.heap.size w0 w5 := ((HBEL.out.trans (hb2.mono HBEL.out.size)).alloc (by omega) _).trans hb5
        go_roundw
        case rel => exact ⟨told, p + 1, out, w0, by go_num, by omega, by omega, HV, hall, HBW.out, (show Own _ _ _ _ by rw [HSN.out]; exact HV5.out), (show _ → _ from fun h => by omega), hout, HPM⟩
        case measure => simp [intOf]; omega
    · have hltI : ¬ (p : Int) < (N : Int) := by omega
      have hpe := pk_end l told p out (by rw [← HN.out]; omega)
      rw [HPK.out] at hpe
      have hpN2 : p = l.length := by rw [← HN.out]; omega
      have hdr : cut l told p = l.drop told := by rw [hpN2]; exact cut_end l told
      obtain ⟨ra, rcap, hrv⟩ := own_form HO.out
      by_cases hR : told = p
      · have hz := HZ.out hR
        have HX : Hid (Sl wr u3 (packL l)) := by
          show Sl _ _ _
          rw [hpe, ← hdr, hR, cut_self]; unfold putR; rw [if_pos rfl]; exact HV.out.later hbel
        clear hpe hb0 hbel hbw hcl hco hrv hdr hpN2
        subst hz
        go_wp2
        go_ret
        exact ⟨_, rfl, HX.out, HB0.out⟩
      · obtain ⟨R, hRR⟩ : ∃ R, R = p - told := ⟨_, rfl⟩
        rw [hcl, ← hRR] at hrv
        have hRp : 0 < R := by omega
        have hRI : (0 : Int) < (R : Int) := by omega
        have hRb : R ≤ 65536 := by omega
        have hhd : heldN (2 * (R : Int)) = 2 * R := by unfold heldN; omega
        have hle := Num.encR_le (2 * R) (by omega)
        have HX : Hid (out ++ encR (2 * R) ++ cut l told p = packL l) := by
          show _ = _
          rw [hpe, ← hdr]
          unfold putR
          rw [if_neg (by intro e; rw [e] at hcl; simp at hcl; omega), hcl, hRR]
        have HLE : Hid ((out ++ encR (2 * R)).length + (cut l told p).length ≤ 140737488355328) := by show _ ≤ _; rw [List.length_append, hcl]; omega
        have H1 : Hid (Calls Try.prog 26 #[u3, .int .i64 (2 * (R : Int))] wr fun e w' => ∃ v', e = .returned v' ∧ Own w' wr.heap.size v' (out ++ encR (2 * R)) ∧ Below wr.heap.size wr w' ∧ Sl w' u4 (cut l told p)) := by
          refine (rput_sq _ out (2 * (R : Int)) wr (HV.out.later hbel) (by omega)).mono ?_
          rintro e w3 ⟨v3, rfl, hv3, hb3⟩
          rw [hhd] at hv3
          exact ⟨v3, rfl, hv3, hb3, (HO.out.sl HCO.out).later hb3⟩
        clear hpe hb0 hbel hbw hcl hco hdr hpN2 hle hhd hRR
        subst hrv
        go_wp2_with (first
          | (go_at_call 26; refine H1.out.mono ?_; rintro e w3 ⟨v3, rfl, hv3, hb3, hsr⟩)
          | (at_builtin; refine append_sl rfl (.tmp 60) (.tmp 61) rfl wr.heap.size _ _ _ (cut l told p) rfl hv3 rfl hsr HLE.out hb3.size ?_; intro v5 w5 HV5 hb5))
        go_ret
        refine ⟨_, rfl, ?_, HB0.out.trans ((hb3.trans hb5).mono HB0.out.size)⟩
        have := HV5.out.sl (oct_app (oct_app (sl_oct HV.out) (encR_oct _)) HCO.out)
        rw [HX.out] at this; exact this
end Go.Proofs.Ytkbpjgkggmbbjaa.Sq
