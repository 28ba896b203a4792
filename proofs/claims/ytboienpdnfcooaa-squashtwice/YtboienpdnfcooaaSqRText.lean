/- squash: the document's text. (A template: seatgen.py fills it.) -/
import Derived.Test.YtboienpdnfcooaaSqUnpack
namespace Go.Proofs.Ytboienpdnfcooaa.Sq
open Go.RowKit Go.Proofs.NumMath Go.Maps
open Num (trip)
set_option linter.unusedVariables false
set_option linter.unusedSimpArgs false
set_option maxRecDepth 1000000

/-- what the document's text answers: at an error whatever was made till then -/
def TE (r : Except Int (List Int)) (e : Ending) (w' : World) : Prop :=
  match r with
  | .error er => ∃ v t', e = .returned (.tuple #[v, .int .i64 er]) ∧ Sl w' v t'
  | .ok t => ∃ v, e = .returned (.tuple #[v, .int .i64 0]) ∧ Sl w' v t

set_option maxHeartbeats 16000000 in
theorem rtext_any (u : Value) (l : List Int) (w : World) (hS : Sl w u l) (hl : l.length ≤ 140737488355328) :
    Calls Try.prog 30 #[u] w fun e w' => TE (un l 0 [] false) e w' ∧ Below w.heap.size w w' := by
  have HS := Lib.hid hS
  have HOL := Lib.hid (sl_oct hS)
  have hG : ∀ W (p : Nat), Below w.heap.size w W → Calls Try.prog 40 #[u, .int .i64 (p : Int)] W fun e w' => e = .returned (trip (G l p)) ∧ W = w' := by
    intro W p hb
    obtain ⟨a, cap, e, hB, _⟩ := hS.later hb
    rw [e]
    exact Num.rget_any a cap l p W (by omega) ⟨fun i => hB.1.getD i, hB.2⟩
  have HG := Lib.hid hG
  obtain ⟨a, cap, rfl⟩ := sl_form' hS
  obtain ⟨N, hN⟩ : ∃ N, N = l.length := ⟨_, rfl⟩
  have HN := Lib.hid hN
  obtain ⟨r, hr⟩ : ∃ r, r = un l 0 [] false := ⟨_, rfl⟩
  have HR := Lib.hid hr
  rw [← hr]
  rw [← hN] at hl HG HS ⊢
  clear hS hG hr hN
  go_enter Try.func30, Try.ntmps30
  go_wp2
  go_loopw [4, 5, 6] (fun vo vp va wr => ∃ (p : Nat) (af : Bool) (t : List Int), vp = .int .i64 p ∧ va = .bool af ∧ p ≤ N ∧ t.length ≤ 65536 ∧ Hid (Oct t) ∧ Hid (Own wr w.heap.size vo t) ∧ Hid (r = un l p t af) ∧ Hid (Below w.heap.size w wr)) (fun _ vp _ _ => N - (intOf vp).toNat)
  case atStart => exact ⟨0, false, [], rfl, rfl, by omega, by simp, (fun x hx => by cases hx), Own.nil _ _, HR, Below.refl _ _⟩
  case round =>
    obtain ⟨p, af, t, rfl, rfl, hp, htl, HOT, HV, HRU, HB⟩ := hrel
    obtain ⟨va, vc, ev⟩ := own_form HV.out
    obtain ⟨T, hT⟩ : ∃ T, T = t.length := ⟨_, rfl⟩
    rw [← hT] at ev htl
    subst ev
    have HT := Lib.hid hT
    clear hT
    by_cases hlt : p < N
    · have hltI : (p : Int) < (N : Int) := by omega
      have hpl : p < l.length := by rw [← HN.out]; exact hlt
      have HG1 := Lib.hid (HG.out _ p HB.out)
      have hERR : ∀ er, rp l p T af = .error er → Hid (r = .error er) := fun er h => by show _ = _; rw [HRU.out]; exact un_err l p t af er hpl (by rw [← HT.out]; exact h)
      have HERR := Lib.hid hERR
      have hOK : ∀ k d told beh, rp l p T af = .ok (k, d, told, beh) → Rp l p T k d told beh ∧ r = un l beh (ex t k d told) (decide (d = 0)) := fun k d told beh h => by
        have h1 := rp_ok (by omega) HOL.out (by rw [← HN.out]; exact hl) h
        refine ⟨h1, ?_⟩
        rw [HRU.out]; exact un_ok hpl (by rw [← HT.out]; exact h) h1.1
      have HOK := Lib.hid hOK
      obtain ⟨b1, b2, b3, b4, b5, b6⟩ := G_bd l p (by rw [← HN.out]; omega)
      have HAH := Lib.hid (G_ahead l p)
      have hrp : rp l p T af = rp l p T af := rfl
      conv at hrp => rhs; unfold rp
      unfold maxNum at b2
      generalize G l p = g at *
      obtain ⟨D, I, E⟩ := g
      simp only [trip] at HG1 b1 b2 b3 b4 b5 b6 hrp HAH
      rw [← HN.out] at b4
      have HRPE := Lib.hid hrp
      clear hERR hOK hrp
      have HVL := Lib.hid (HV.out.sl HOT.out)
      by_cases h2 : E = 0
      · subst h2
        obtain ⟨dn, hdn⟩ : ∃ dn : Nat, D = (dn : Int) := ⟨D.toNat, by omega⟩
        obtain ⟨ni, hni⟩ : ∃ ni : Nat, I = (ni : Int) := ⟨I.toNat, by omega⟩
        subst hdn hni
        have hni2 : p < ni := by have := HAH.out rfl; omega
        have hrp := HRPE.out
        rw [if_neg (by simp)] at hrp
        simp only [Int.toNat_natCast] at hrp
        obtain ⟨dq, hdq⟩ : ∃ dq, dq = dn / 2 := ⟨_, rfl⟩
        rw [← hdq] at hrp
        have hq : (dn : Int).tdiv 2 = (dq : Int) := by rw [Int.tdiv_eq_ediv_of_nonneg (by omega)]; omega
        have hq2 : (dn : Int) / 2 = (dq : Int) := by omega
        have hqb : dq ≤ 4611686018427387903 := by omega
        have hnb : ni ≤ N := by omega
        clear HRPE HAH
        by_cases h3 : dn % 2 = 1
        · rw [if_pos h3] at hrp
          have hm : (dn : Int).tmod 2 = 1 := by rw [Int.tmod_eq_emod_of_nonneg (by omega)]; omega
          have hm2 : (dn : Int) % 2 = 1 := by omega
          clear hdq h3
          unfold rm at hrp
          by_cases h4 : 130 < dq + 4
          · rw [if_pos h4] at hrp
            have HX := Lib.hid hrp
            have h4I : (126 : Int) < (dq : Int) := by omega
            clear hrp h4
            go_wp2_with fail
            refine HG1.out.mono ?_
            rintro e w2 ⟨rfl, rfl⟩
            have HRE := HERR.out 5 HX.out
            go_wp2
            refine bodyPost_ret (v := .tuple #[.slice va T vc, .int .i64 5]) (by simp [results, go_sem]) rfl ⟨?_, HB.out⟩
            rw [HRE.out]
            exact ⟨_, _, rfl, HVL.out⟩
          · rw [if_neg h4] at hrp
            have h4I : ¬ (126 : Int) < (dq : Int) := by omega
            have HG2 := Lib.hid (HG.out _ ni HB.out)
            obtain ⟨c1, c2, c3, c4, c5, c6⟩ := G_bd l ni (by rw [← HN.out]; omega)
            unfold maxNum at c2
            generalize G l ni = g2 at *
            obtain ⟨F, J, E2⟩ := g2
            simp only [trip] at HG2 c1 c2 c3 c4 c5 c6 hrp
            rw [← HN.out] at c4
            by_cases h5 : E2 = 0
            · subst h5
              rw [if_neg (by simp)] at hrp
              obtain ⟨fn, hfn⟩ : ∃ fn : Nat, F = (fn : Int) := ⟨F.toNat, by omega⟩
              obtain ⟨jn, hjn⟩ : ∃ jn : Nat, J = (jn : Int) := ⟨J.toNat, by omega⟩
              subst hfn hjn
              simp only [Int.toNat_natCast] at hrp
              by_cases h6 : (fn : Int) = 0 ∨ 4096 < (fn : Int) ∨ (T : Int) < (fn : Int)
              · rw [if_pos h6] at hrp
                have HX := Lib.hid hrp
                clear hrp h4
                by_cases h7 : (fn : Int) = 0
                · have h7b : ((fn : Int) == 0) = true := by simpa using h7
                  clear h6
                  go_wp2_with fail
                  refine HG1.out.mono ?_
                  rintro e w2 ⟨rfl, rfl⟩
                  go_wp2_with fail
                  refine HG2.out.mono ?_
                  rintro e w2 ⟨rfl, rfl⟩
                  have HRE := HERR.out 5 HX.out
                  go_wp2
                  refine bodyPost_ret (v := .tuple #[.slice va T vc, .int .i64 5]) (by simp [results, go_sem]) rfl ⟨?_, HB.out⟩
                  rw [HRE.out]
                  exact ⟨_, _, rfl, HVL.out⟩
                · have h7b : ((fn : Int) == 0) = false := by simpa using h7
                  by_cases h8 : (4096 : Int) < (fn : Int)
                  · clear h6
                    go_wp2_with fail
                    refine HG1.out.mono ?_
                    rintro e w2 ⟨rfl, rfl⟩
                    go_wp2_with fail
                    refine HG2.out.mono ?_
                    rintro e w2 ⟨rfl, rfl⟩
                    have HRE := HERR.out 5 HX.out
                    go_wp2
                    refine bodyPost_ret (v := .tuple #[.slice va T vc, .int .i64 5]) (by simp [results, go_sem]) rfl ⟨?_, HB.out⟩
                    rw [HRE.out]
                    exact ⟨_, _, rfl, HVL.out⟩
                  · have h9 : (T : Int) < (fn : Int) := by omega
                    clear h6
                    go_wp2_with fail
                    refine HG1.out.mono ?_
                    rintro e w2 ⟨rfl, rfl⟩
                    go_wp2_with fail
                    refine HG2.out.mono ?_
                    rintro e w2 ⟨rfl, rfl⟩
                    have HRE := HERR.out 5 HX.out
                    go_wp2
                    refine bodyPost_ret (v := .tuple #[.slice va T vc, .int .i64 5]) (by simp [results, go_sem]) rfl ⟨?_, HB.out⟩
                    rw [HRE.out]
                    exact ⟨_, _, rfl, HVL.out⟩
              · rw [if_neg h6] at hrp
                have h7 : ¬ (fn : Int) = 0 := by omega
                have h7b : ((fn : Int) == 0) = false := by simpa using h7
                have h8 : ¬ (4096 : Int) < (fn : Int) := by omega
                have h9 : ¬ (T : Int) < (fn : Int) := by omega
                have w1' : IntKind.i64.wrap ((dq : Int) + 4) = (dq : Int) + 4 := by rw [IntKind.wrap_i64]; omega
                by_cases h10 : 65536 - T < dq + 4
                · rw [if_pos h10] at hrp
                  have HX := Lib.hid hrp
                  have h10I : (65536 : Int) - (T : Int) < (dq : Int) + 4 := by omega
                  clear hrp h4 h6 h10
                  go_wp2_with fail
                  refine HG1.out.mono ?_
                  rintro e w2 ⟨rfl, rfl⟩
                  go_wp2_with fail
                  refine HG2.out.mono ?_
                  rintro e w2 ⟨rfl, rfl⟩
                  have HRE := HERR.out 7 HX.out
                  go_wp2
                  refine bodyPost_ret (v := .tuple #[.slice va T vc, .int .i64 7]) (by simp [results, go_sem]) rfl ⟨?_, HB.out⟩
                  rw [HRE.out]
                  exact ⟨_, _, rfl, HVL.out⟩
                · rw [if_neg h10] at hrp
                  have h10I : ¬ (65536 : Int) - (T : Int) < (dq : Int) + 4 := by omega
                  obtain ⟨hR, hun⟩ := HOK.out _ _ _ _ hrp
                  have HRR := Lib.hid hR
                  have HUN := Lib.hid hun
                  obtain ⟨K, hK⟩ : ∃ K, K = dq + 4 := ⟨_, rfl⟩
                  have hKI : (dq : Int) + 4 = (K : Int) := by omega
                  rw [← hK] at HRR HUN
                  have hKT : K + T ≤ 65536 := by omega
                  have hjb : jn ≤ N := by omega
                  have hpj : p < jn := hR.1
                  have hf1 : 1 ≤ fn := by omega
                  have hfT : fn ≤ T := by omega
                  have h9n : ¬ T < fn := by omega
                  have d9 : decide (T < fn) = false := decide_eq_false h9n
                  have HSW := Lib.hid HB.out.size
                  clear hrp h4 h6 h10 hR hun hK
                  obtain ⟨wo, ewo⟩ : ∃ wo, wo = wr := ⟨_, rfl⟩
                  subst ewo
                  go_wp2_with fail
                  refine HG1.out.mono ?_
                  rintro e w2 ⟨rfl, rfl⟩
                  go_wp2_with fail
                  refine HG2.out.mono ?_
                  rintro e w2 ⟨rfl, rfl⟩
                  go_wp2
                  go_loopw [4, 13] (fun vt vi wz => ∃ i : Nat, vi = .int .i64 i ∧ i ≤ K ∧ Hid (Own wz w.heap.size vt (cpy t fn i)) ∧ Hid (Below w.heap.size w wz)) (fun _ vi _ => K - (intOf vi).toNat)
                  case atStart => exact ⟨0, rfl, by omega, HV, HB⟩
                  case round =>
                    obtain ⟨i, rfl, hi, HW, HBZ⟩ := hrel
                    by_cases hiK : i < K
                    · have hiKI : (i : Int) < (K : Int) := by omega
                      have hoc := cpy_oct t fn i HOT.out
                      have hlen := cpy_length t fn i
                      rw [← HT.out] at hlen
                      obtain ⟨xa, xc, ex1, hBx, -, -⟩ := HW.out.sl hoc
                      rw [hlen] at ex1
                      have hne : cpy t fn i ≠ [] := by intro e; rw [e] at hlen; simp at hlen; omega
                      obtain ⟨xb, xo, ea, hc⟩ := hBx.2 hne
                      subst ea
                      subst ex1
                      have hcb := hc (T + i - fn) (by omega)
                      have hxb := hoc.getD (T + i - fn)
                      have HCP : Hid (cpy t fn i ++ [(cpy t fn i).getD (T + i - fn) 0] = cpy t fn (i + 1)) := by show _ = _; rw [cpy, hlen]
                      generalize (cpy t fn i).getD (T + i - fn) 0 = x at *
                      have hba : ∀ o, Below wr.heap.size wr (wr.alloc o) := fun o => (Below.refl _ _).alloc (Nat.le_refl _) _
                      have HWA := Lib.hid (HW.out.below (hba (.cells #[.int .u8 x] 5)))
                      have HON := Lib.hid (one_sl wr x hxb.1 hxb.2)
                      have hsr : w.heap.size ≤ wr.heap.size := HBZ.out.size
                      have HBA : Hid (Below w.heap.size w (wr.alloc (.cells #[.int .u8 x] 5))) := HBZ.out.trans ((hba _).mono hsr)
                      have HSA : Hid (w.heap.size ≤ (wr.alloc (.cells #[.int .u8 x] 5)).heap.size) := Nat.le_trans hsr (hba _).size
                      have HLL : Hid ((cpy t fn i).length + ([x] : List Int).length ≤ 140737488355328) := by show _ ≤ _; rw [hlen]; simp; omega
                      have w2' : IntKind.i64.wrap (((T + i : Nat) : Int) - (fn : Int)) = ((T + i : Nat) : Int) - (fn : Int) := by rw [IntKind.wrap_i64]; omega
                      have n1' : (((T + i : Nat) : Int) - (fn : Int)).toNat = T + i - fn := by omega
                      have n2' : (0 : Int) ≤ ((T + i : Nat) : Int) - (fn : Int) := by omega
                      have n3' : ((T + i : Nat) : Int) - (fn : Int) < ((T + i : Nat) : Int) := by omega
                      clear hoc hBx hc hne hba hsr hxb
                      generalize hq0 : T + i = q at *
                      go_wp2_with (at_builtin; go_must (refine append_sl rfl (.tmp 110) (.tmp 118) rfl w.heap.size _ _ (cpy t fn i) [x] rfl HWA.out rfl HON.out HLL.out HSA.out ?_))
                      intro v2 w2 HV2 hb2
                      go_wp2
                      go_roundw
                      case rel => exact ⟨i + 1, by go_num, by omega, by show Own _ _ _ _; rw [← HCP.out]; exact HV2.out, HBA.out.trans hb2⟩
                      case measure => simp [intOf]; omega
                    · have hiKI : ¬ (i : Int) < (K : Int) := by omega
                      have ei : i = K := by omega
                      subst ei
                      have hex : ex t i fn [] = cpy t fn i := by unfold ex; rw [if_neg (by omega)]
                      have HRU3 : Hid (r = un l jn (cpy t fn i) false) := by show _ = _; rw [HUN.out, hex, decide_eq_false (by omega)]
                      have HOC : Hid (Oct (cpy t fn i)) := cpy_oct t fn i HOT.out
                      have HLN : Hid ((cpy t fn i).length ≤ 65536) := by show _ ≤ _; rw [cpy_length, ← HT.out]; omega
                      clear hex
                      go_wp2
                      go_roundw
                      case rel => exact ⟨jn, false, cpy t fn i, rfl, rfl, hjb, HLN.out, HOC, HW, HRU3, HBZ⟩
                      case measure => simp [intOf]; omega
            · have h5b : (E2 == 0) = false := by simpa using h5
              rw [if_pos h5] at hrp
              have HX := Lib.hid hrp
              clear hrp h4
              go_wp2_with fail
              refine HG1.out.mono ?_
              rintro e w2 ⟨rfl, rfl⟩
              go_wp2_with fail
              refine HG2.out.mono ?_
              rintro e w2 ⟨rfl, rfl⟩
              have HRE := HERR.out E2 HX.out
              go_wp2
              refine bodyPost_ret (v := .tuple #[.slice va T vc, .int .i64 E2]) (by simp [results, go_sem]) rfl ⟨?_, HB.out⟩
              rw [HRE.out]
              exact ⟨_, _, rfl, HVL.out⟩
        · rw [if_neg h3] at hrp
          have hm : (dn : Int).tmod 2 = 0 := by rw [Int.tmod_eq_emod_of_nonneg (by omega)]; omega
          have hm2 : (dn : Int) % 2 = 0 := by omega
          by_cases h4 : dn = 0
          · rw [if_pos (.inl (by omega))] at hrp
            have HX := Lib.hid hrp
            have h4I : ((dn : Int) == 0) = true := by simpa using h4
            have h4J : (dn : Int) = 0 := by omega
            clear hrp hdq h3 h4
            go_wp2_with fail
            refine HG1.out.mono ?_
            rintro e w2 ⟨rfl, rfl⟩
            have HRE := HERR.out 5 HX.out
            go_wp2
            refine bodyPost_ret (v := .tuple #[.slice va T vc, .int .i64 5]) (by simp [results, go_sem]) rfl ⟨?_, HB.out⟩
            rw [HRE.out]
            exact ⟨_, _, rfl, HVL.out⟩
          · have h4I : ((dn : Int) == 0) = false := by simpa using h4
            have h4J : ¬ (dn : Int) = 0 := by omega
            rcases Bool.eq_false_or_eq_true af with ha | ha
            · subst ha
              rw [if_pos (.inr rfl)] at hrp
              have HX := Lib.hid hrp
              clear hrp hdq h3 h4
              go_wp2_with fail
              refine HG1.out.mono ?_
              rintro e w2 ⟨rfl, rfl⟩
              have HRE := HERR.out 5 HX.out
              go_wp2
              refine bodyPost_ret (v := .tuple #[.slice va T vc, .int .i64 5]) (by simp [results, go_sem]) rfl ⟨?_, HB.out⟩
              rw [HRE.out]
              exact ⟨_, _, rfl, HVL.out⟩
            · subst ha
              rw [if_neg (by simp; omega)] at hrp
              unfold rr at hrp
              by_cases h5 : 65536 - T < dq
              · rw [if_pos h5] at hrp
                have HX := Lib.hid hrp
                have h5I : (65536 : Int) - (T : Int) < (dq : Int) := by omega
                clear hrp hdq h3 h4
                go_wp2_with fail
                refine HG1.out.mono ?_
                rintro e w2 ⟨rfl, rfl⟩
                have HRE := HERR.out 7 HX.out
                go_wp2
                refine bodyPost_ret (v := .tuple #[.slice va T vc, .int .i64 7]) (by simp [results, go_sem]) rfl ⟨?_, HB.out⟩
                rw [HRE.out]
                exact ⟨_, _, rfl, HVL.out⟩
              · rw [if_neg h5] at hrp
                have h5I : ¬ (65536 : Int) - (T : Int) < (dq : Int) := by omega
                by_cases h6 : l.length - ni < dq
                · rw [if_pos h6] at hrp
                  have HX := Lib.hid hrp
                  have h6I : (N : Int) - (ni : Int) < (dq : Int) := by have := HN.out; omega
                  clear hrp hdq h3 h4 h6
                  go_wp2_with fail
                  refine HG1.out.mono ?_
                  rintro e w2 ⟨rfl, rfl⟩
                  have HRE := HERR.out 4 HX.out
                  go_wp2
                  refine bodyPost_ret (v := .tuple #[.slice va T vc, .int .i64 4]) (by simp [results, go_sem]) rfl ⟨?_, HB.out⟩
                  rw [HRE.out]
                  exact ⟨_, _, rfl, HVL.out⟩
                · rw [if_neg h6] at hrp
                  have h6I : ¬ (N : Int) - (ni : Int) < (dq : Int) := by have := HN.out; omega
                  obtain ⟨hR, hun⟩ := HOK.out _ _ _ _ hrp
                  have HRR := Lib.hid hR
                  have HUN := Lib.hid hun
                  obtain ⟨x1, x2, e1, hBx, hnx, hcx⟩ := HS.out.later HB.out
                  rw [← HN.out] at e1 hcx
                  simp only [Value.slice.injEq] at e1
                  obtain ⟨rfl, -, rfl⟩ := e1
                  obtain ⟨sa, hrs, hsl⟩ := run_cut hBx _ N HN.out hcx hnx ni dq (by omega)
                  have HSL := Lib.hid hsl
                  have HLE : Hid (t.length + ((l.drop ni).take dq).length ≤ 140737488355328) := by show _ ≤ _; rw [← HT.out, List.length_take]; omega
                  have HSZ := Lib.hid HB.out.size
                  have HBT : Hid (T + dq ≤ 65536) := by show _ ≤ _; omega
                  have w1' : IntKind.i64.wrap ((ni : Int) + (dq : Int)) = (ni : Int) + (dq : Int) := by rw [IntKind.wrap_i64]; omega
                  clear hrp hdq h3 h4 h6 hR hun hBx hnx hcx hsl
                  go_wp2_with fail
                  refine HG1.out.mono ?_
                  rintro e w2 ⟨rfl, rfl⟩
                  go_wp2_with (at_builtin; go_must (refine append_sl rfl (.tmp 54) (.tmp 61) rfl w.heap.size _ _ t ((l.drop ni).take dq) rfl HV.out rfl HSL.out HLE.out HSZ.out ?_))
                  intro v3 w3 HV3 hb3
                  have hoc := oct_app HOT.out HRR.out.2.2.2.2
                  have hex : ex t dq 0 ((l.drop ni).take dq) = t ++ (l.drop ni).take dq := by unfold ex; rw [if_pos rfl]
                  have hlen := ex_length (t := t) (by rw [← HT.out]; exact HRR.out)
                  have HRU3 : Hid (r = un l (ni + dq) (t ++ (l.drop ni).take dq) true) := by show _ = _; rw [HUN.out, hex]; rfl
                  rw [hex, ← HT.out] at hlen
                  have HOC := Lib.hid hoc
                  have HLN := Lib.hid hlen
                  have HB3 : Hid (Below w.heap.size w w3) := HB.out.trans hb3
                  have hnq : ni + dq ≤ N := by omega
                  clear hoc hex hlen hb3
                  go_wp2
                  go_roundw
                  case rel => exact ⟨ni + dq, true, t ++ (l.drop ni).take dq, by go_num, rfl, hnq, by rw [HLN.out]; exact HBT.out, HOC, HV3, HRU3, HB3⟩
                  case measure => simp [intOf]; omega
      · have heb : (E == 0) = false := by simpa using h2
        have hrp := HRPE.out
        rw [if_pos h2] at hrp
        have HX := Lib.hid hrp
        clear hrp HRPE
        go_wp2_with fail
        refine HG1.out.mono ?_
        rintro e w2 ⟨rfl, rfl⟩
        have HRE := HERR.out E HX.out
        go_wp2
        refine bodyPost_ret (v := .tuple #[.slice va T vc, .int .i64 E]) (by simp [results, go_sem]) rfl ⟨?_, HB.out⟩
        rw [HRE.out]
        exact ⟨_, _, rfl, HVL.out⟩
    · have hltI : ¬ (p : Int) < (N : Int) := by omega
      have HRE : Hid (r = .ok t) := by show _ = _; rw [HRU.out]; exact un_end l p t af (by rw [← HN.out]; omega)
      have HVL := Lib.hid (HV.out.sl HOT.out)
      go_wp2
      refine bodyPost_ret (v := .tuple #[.slice va T vc, .int .i64 0]) (by simp [results, go_sem]) rfl ⟨?_, HB.out⟩
      rw [HRE.out]
      exact ⟨_, rfl, HVL.out⟩
end Go.Proofs.Ytboienpdnfcooaa.Sq
