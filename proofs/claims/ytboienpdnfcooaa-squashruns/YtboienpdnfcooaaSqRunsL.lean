/- squash: the law SquashRuns. (A template: seatgen.py fills it.) -/
import Derived.Test.YtboienpdnfcooaaSqRuns
import Derived.Test.YtboienpdnfcooaaHeldRound
namespace Go.Proofs.Ytboienpdnfcooaa.Sq
open Go.RowKit Go.Proofs.NumMath Go.Maps Go.Proofs.HeldRound
open Num (encR heldN encR_length encR_oct)
set_option linter.unusedVariables false
set_option maxRecDepth 1000000

theorem wpList_met {P : Program} {w : World} {ops : Array Oper} {rest : List Oper} {o : Oper} {a : Act} {Q : Exit → Act → World → Prop} (hw : Region.wanted o (yielded ops a.tmps) = true)
    (h : wpList P ops Q ({ o with guard := none } :: rest) a w) : wpList P ops Q (o :: rest) a w := by
  unfold wpList at h ⊢
  rw [if_pos hw]
  have e : Region.wanted { o with guard := none } (yielded ops a.tmps) = true := by simp [Region.wanted]
  rw [if_pos e] at h
  exact h
theorem nil_sl (w : World) : Sl w (.slice none 0 0) [] := ⟨none, 0, rfl, ⟨(by intro x hx; cases hx), fun h => absurd rfl h⟩, fun _ => rfl, by simp⟩
theorem fill_sl {w : World} {g m : Nat} {c : Int} (h : w.heap[g]? = some (.cells (fillA c m m) 5)) (h0 : 0 ≤ c) (h1 : c ≤ 255) : Sl w (.slice (some ⟨g, 0, none⟩) m m) (rl c m) := by
  refine ⟨_, m, by rw [rl_len], ⟨rl_oct c m h0 h1, fun _ => ⟨g, 0, rfl, fun i hi => ?_⟩⟩, (fun h => by cases h), by rw [rl_len]; exact Nat.le_refl _⟩
  rw [rl_len] at hi
  rw [Nat.zero_add, cell_of_row w g i _ _ (0, 0) h, fillA_end, List.getElem?_toArray, List.getElem?_map, List.getElem?_eq_getElem (by rw [rl_len]; exact hi)]
  rw [List.getD_eq_getElem?_getD, List.getElem?_eq_getElem (by rw [rl_len]; exact hi)]; rfl

/-- the text is laid -/
theorem sl_form {w : World} {v : Value} {l : List Int} (h : Sl w v l) : ∃ a c, v = .slice a l.length c := by
  obtain ⟨a, c, e, _⟩ := h; exact ⟨a, c, e⟩

set_option maxHeartbeats 16000000 in
theorem squashRuns_walk (c n : Int) (w : World) (h0 : 0 ≤ c) (h1 : c ≤ 255) (hn0 : 0 ≤ n) (hn1 : n ≤ 65535) :
    Calls Try.prog 7 #[.int .u8 c, .int .u16 n] w fun e w' => e = .returned (.bool true) ∧ Below w.heap.size w w' := by
  obtain ⟨m, hm⟩ : ∃ m : Nat, n % 2000 = (m : Int) := ⟨(n % 2000).toNat, by omega⟩
  have hmb : m < 2000 := by omega
  have hrem : n.tmod 2000 = (m : Int) := by rw [Int.tmod_eq_emod_of_nonneg hn0]; exact hm
  obtain ⟨i0, hi, hz0, hz1, hz2⟩ := info_parts Try.infoB
  have hmk := run_make (P := Try.prog) w 22 5 i0 (.int .u8 0) Try.underlying22 hi hz0 .i64 .i64 m m (by omega) (by omega) (by rw [hz2]; omega) (by omega)
  rw [hz1] at hmk
  simp only [Int.toNat_natCast] at hmk
  obtain ⟨w1, hw1⟩ : ∃ w1, w1 = w.alloc (.cells (madeCells (Value.int .u8 0).cells (m * 1)) 5) := ⟨_, rfl⟩
  rw [← hw1] at hmk
  have HH : Hid (w1.heap[w.heap.size]? = some (.cells (fillA c m 0) 5)) := by
    show _ = _
    rw [hw1, heap_new, fillA_zero c m]
  have HB1 : Hid (Below w.heap.size w w1) := by rw [hw1]; exact (Below.refl _ _).alloc (Nat.le_refl _) _
  have hA := Lib.hid (fun W => awake_sq W)
  clear hw1 hi hz0 hz1 hz2
  go_enter Try.func7, Try.ntmps7
  go_wp2
  clear hmk hrem
  go_loopw [7] (fun vi wr => ∃ k : Nat, vi = .int .i64 k ∧ k ≤ m ∧ Hid (wr.heap[w.heap.size]? = some (.cells (fillA c m k) 5)) ∧ Hid (Below w.heap.size w wr)) (fun vi _ => m - (intOf vi).toNat)
  case atStart => exact ⟨0, rfl, by omega, HH, HB1⟩
  case round =>
    obtain ⟨k, rfl, hk, HR, HBR⟩ := hrel
    by_cases hkm : k < m
    · have hkI : (k : Int) < (m : Int) := by omega
      have hk0 : (0 : Int) ≤ (k : Int) := by omega
      have hf : wr.frozen? ⟨w.heap.size, k, none⟩ = false := unfrozen HR.out
      have c0 : wr.cell? ⟨w.heap.size, k, none⟩ = some (.int .u8 0) := by rw [cell_of_row wr _ k _ _ (0, 0) HR.out]; exact fillA_get c m k hkm
      go_wp2
      go_roundw
      case rel =>
        refine ⟨k + 1, by go_num, by omega, ?_, HBR.out.setCell (p := ⟨w.heap.size, k, none⟩) (Nat.le_refl _) _⟩
        show _ = _
        rw [Joins.block_setCell HR.out, ← fillA_set c m k hkm]
      case measure => simp [intOf]; omega
    · have hkI : ¬ (k : Int) < (m : Int) := by omega
      have ekm : k = m := by omega
      subst ekm
      have HT : Hid (Sl wr (.slice (some ⟨w.heap.size, 0, none⟩) k k) (rl c k)) := fill_sl HR.out h0 h1
      have HP := Lib.hid (pack_any _ (rl c k) wr HT.out (by rw [rl_len]; omega))
      clear HR HH HB1
      go_wp2_with fail
      refine HP.out.mono ?_
      rintro e w2 ⟨vp, rfl, hvp, hb2⟩
      have HVP := Lib.hid hvp
      have HT2 := Lib.hid (HT.out.later hb2)
      have HB2 : Hid (Below w.heap.size w w2) := HBR.out.trans (hb2.mono HBR.out.size)
      clear HP HT hvp hb2 hkm hk
      by_cases hz : k = 0
      · subst hz
        have hvp := HVP.out
        rw [rl_none] at hvp
        obtain ⟨ap, cp, ep⟩ := sl_form hvp
        rw [List.length_nil] at ep
        subst ep
        clear hvp HVP
        go_wp2_with fail
        refine (hA.out _).mono ?_
        rintro e w9 ⟨rfl, hb9⟩
        go_wp2
        go_ret
        exact ⟨rfl, HB2.out.trans (hb9.mono HB2.out.size)⟩
      · have hzI : ¬ (k : Int) = 0 := by omega
        have hzb : ((k : Int) == 0) = false := by simpa using hzI
        by_cases h5 : k < 5
        · have h5I : (k : Int) < 5 := by omega
          have hfew := rl_few c k (by omega) h5
          have hvp := HVP.out
          rw [hfew] at hvp
          obtain ⟨ap, cp, ep⟩ := sl_form hvp
          have HV := Lib.hid hvp
          obtain ⟨P, hP⟩ : ∃ P, P = (encR (2 * k) ++ rl c k).length := ⟨_, rfl⟩
          rw [← hP] at ep
          subst ep
          have hPk : (P : Int) = 1 + (k : Int) := by
            rw [hP, encR_small (2 * k) (by omega), List.length_append, rl_len]; simp
          have HPP := Lib.hid hPk
          have hPb : ((P : Int) == 1 + (k : Int)) = true := by simpa using hPk
          have w1' : IntKind.i64.wrap (1 + (k : Int)) = 1 + (k : Int) := by rw [IntKind.wrap_i64]; omega
          have w2' : IntKind.i64.wrap (2 * (k : Int)) = 2 * (k : Int) := by rw [IntKind.wrap_i64]; omega
          have hle := Num.encR_le (2 * k) (by omega)
          have hpu := nput_sq (.slice none 0 0) [] (2 * (k : Int)) w2 (nil_sl w2) (by simp)
          rw [show heldN (2 * (k : Int)) = 2 * k from by unfold heldN; omega, List.nil_append] at hpu
          have HPU := Lib.hid hpu
          have HLE : Hid ((encR (2 * k)).length + (rl c k).length ≤ 140737488355328) := by show _ ≤ _; rw [rl_len]; omega
          have HOC : Hid (Oct (encR (2 * k) ++ rl c k)) := oct_app (encR_oct _) (rl_oct c k h0 h1)
          clear hvp HVP hP hPk hpu hle hfew
          go_wp2_with fail
          refine HPU.out.mono ?_
          rintro e w3 ⟨v3, rfl, hv3, hb3⟩
          have HV3 := Lib.hid hv3
          have HT3 := Lib.hid (HT2.out.later hb3)
          have HVp := Lib.hid (HV.out.later hb3)
          have HS3 := Lib.hid hb3.size
          have HB23 := Lib.hid hb3
          clear hv3 hb3 HPU w1' w2'
          go_wp2_with (at_builtin; go_must (refine wpList_met rfl ?_; refine append_sl rfl (.tmp 47) (.tmp 48) rfl w2.heap.size _ _ (encR (2 * k)) (rl c k) rfl HV3.out rfl HT3.out HLE.out HS3.out ?_))
          intro v4 w4 HV4 hb4
          have h24 : Below w2.heap.size w2 w4 := HB23.out.trans hb4
          have HB4 : Hid (Below w.heap.size w w4) := HB2.out.trans (h24.mono HB2.out.size)
          have HSM := Lib.hid (same10 _ v4 _ w4 (HV.out.later h24) (HV4.out.sl HOC.out))
          clear h24 hb4 HV HVp HV4 HV3 HT3
          go_wp2_with fail
          refine HSM.out.mono ?_
          rintro e w5 ⟨rfl, rfl⟩
          go_wp2_with fail
          refine (hA.out _).mono ?_
          rintro e w9 ⟨rfl, hb9⟩
          go_wp2
          go_ret
          exact ⟨rfl, HB4.out.trans (hb9.mono HB4.out.size)⟩
        · have h5I : ¬ (k : Int) < 5 := by omega
          have HST := Lib.hid (rl_start c k (by omega))
          have hpu := nput_sq (.slice none 0 0) [] 2 w2 (nil_sl w2) (by simp)
          rw [show heldN 2 = 2 from rfl, List.nil_append] at hpu
          have HPU := Lib.hid hpu
          have hle := Num.encR_le 2 (by omega)
          have HLE : Hid ((encR 2).length + ([c] : List Int).length ≤ 140737488355328) := by show _ ≤ _; simp; omega
          have w1' : IntKind.i64.wrap ((k : Int) - 1) = (k : Int) - 1 := by rw [IntKind.wrap_i64]; omega
          clear hpu hle
          go_wp2_with fail
          refine HPU.out.mono ?_
          rintro e w3 ⟨v3, rfl, hv3, hb3⟩
          have hba : Below w3.heap.size w3 (w3.alloc (.cells #[.int .u8 c] 5)) := (Below.refl _ _).alloc (Nat.le_refl _) _
          have HV3 := Lib.hid (hv3.below hba)
          have HON := Lib.hid (one_sl w3 c h0 h1)
          have h23 : Below w2.heap.size w2 (w3.alloc (.cells #[.int .u8 c] 5)) := hb3.trans (hba.mono hb3.size)
          have HB23 := Lib.hid h23
          clear hv3 hb3 hba h23 HPU
          go_wp2_with (at_builtin; go_must (refine append_sl rfl (.tmp 55) (.tmp 57) rfl w2.heap.size _ _ (encR 2) [c] rfl HV3.out rfl HON.out HLE.out HB23.out.size ?_))
          intro v4 w4 HV4 hb4
          have h24 : Below w2.heap.size w2 w4 := HB23.out.trans hb4
          have HB24 := Lib.hid h24
          have hoc : Oct (encR 2 ++ [c]) := oct_app (encR_oct _) (by intro x hx; simp at hx; omega)
          have HS4 := Lib.hid (HV4.out.sl hoc)
          have hlen4 : Hid ((encR 2 ++ [c]).length ≤ 10) := by
            show _ ≤ _
            have := Num.encR_le 2 (by omega)
            simp; omega
          obtain ⟨L0, hL0⟩ : ∃ L0 : Nat, (k : Int) - 1 = (L0 : Int) := ⟨k - 1, by omega⟩
          have hL0k : k - L0 = 1 := by omega
          have hL0m : L0 < k := by omega
          clear h24 hb4 HV3 HON HV4 hoc HB23
          go_wp2
          try rw [hL0]
          clear w1' hL0
          go_loopw [9, 10] (fun vo vl wr => ∃ (L : Nat) (o : List Int), vl = .int .i64 L ∧ L < k ∧ Hid (o.length ≤ 10 + 20 * (k - L)) ∧ Hid (Sl wr vo o) ∧ Hid (pk (rl c k) (k - L) (k - L) o = packL (rl c k)) ∧ Hid (Below w2.heap.size w2 wr)) (fun _ vl _ => (intOf vl).toNat)
          case atStart =>
            refine ⟨L0, encR 2 ++ [c], rfl, hL0m, ?_, HS4, ?_, HB24⟩
            · show _ ≤ _; have := hlen4.out; omega
            · show _ = _; rw [hL0k]; exact HST.out
          case round =>
            obtain ⟨L, o, rfl, hLk, HOL, HO, HPK, HBR2⟩ := hrel
            by_cases h4 : 4 ≤ L
            · have h4I : (4 : Int) ≤ (L : Int) := by omega
              obtain ⟨K, hK⟩ : ∃ K, K = min L 130 := ⟨_, rfl⟩
              have hmin : ∀ W, (Builtin.min_ #[3, 3] 3 #[.int .i64 (L : Int), .int .i64 130]).run Try.prog W = .ok (.int .i64 (K : Int)) W := by
                intro W
                by_cases hq : (L : Int) < 130
                · have e : (K : Int) = (L : Int) := by omega
                  rw [e]
                  simp [Builtin.min_, Builtin.min2]
                  try omega
                · have e : (K : Int) = 130 := by omega
                  rw [e]
                  simp [Builtin.min_, Builtin.min2]
                  try omega
              have hK4 : 4 ≤ K := by omega
              have hK130 : K ≤ 130 := by omega
              have hKL : K ≤ L := by omega
              have hst := rl_step c k L o h4 hLk
              rw [← hK] at hst
              have HPK2 : Hid (pk (rl c k) (k - (L - K)) (k - (L - K)) (o ++ mat K 1) = packL (rl c k)) := by show _ = _; rw [← hst]; exact HPK.out
              have hml := mat_length K 1 hK130 (by omega)
              have HOL2 : Hid ((o ++ mat K 1).length ≤ 10 + 20 * (k - (L - K))) := by
                show _ ≤ _
                have := HOL.out
                rw [List.length_append]; omega
              have hp := nput_sq _ o (2 * ((K : Int) - 4) + 1) _ HO.out (by have := HOL.out; omega)
              rw [show heldN (2 * ((K : Int) - 4) + 1) = 2 * (K - 4) + 1 from by unfold heldN; omega] at hp
              have HP1 := Lib.hid hp
              have hoo : Oct (o ++ encR (2 * (K - 4) + 1)) := oct_app (sl_oct HO.out) (encR_oct _)
              have hle1 := Num.encR_le (2 * (K - 4) + 1) (by omega)
              have hlo : (o ++ encR (2 * (K - 4) + 1)).length + 9 ≤ 140737488355328 := by have := HOL.out; rw [List.length_append]; omega
              have HP2 : Hid (∀ v5 w5, Sl w5 v5 (o ++ encR (2 * (K - 4) + 1)) → Calls Try.prog 19 #[v5, .int .i64 1] w5 fun e w' => ∃ v', e = .returned v' ∧ Sl w' v' (o ++ mat K 1) ∧ Below w5.heap.size w5 w') := by
                intro v5 w5 hs5
                refine (nput_sq v5 _ 1 w5 hs5 hlo).mono ?_
                rintro e w6 ⟨v6, rfl, hv6, hb6⟩
                rw [show heldN 1 = 1 from rfl] at hv6
                refine ⟨v6, rfl, ?_, hb6⟩
                unfold mat
                rw [← List.append_assoc]
                exact hv6.sl (oct_app hoo (encR_oct _))
              have HOO := Lib.hid hoo
              have w1' : IntKind.i64.wrap ((K : Int) - 4) = (K : Int) - 4 := by rw [IntKind.wrap_i64]; omega
              have w2' : IntKind.i64.wrap (2 * ((K : Int) - 4)) = 2 * ((K : Int) - 4) := by rw [IntKind.wrap_i64]; omega
              have w3' : IntKind.i64.wrap (2 * ((K : Int) - 4) + 1) = 2 * ((K : Int) - 4) + 1 := by rw [IntKind.wrap_i64]; omega
              have w4' : IntKind.i64.wrap ((L : Int) - (K : Int)) = (L : Int) - (K : Int) := by rw [IntKind.wrap_i64]; omega
              clear hst hml hp hoo hle1 hlo hK
              go_wp2_with fail
              refine HP1.out.mono ?_
              rintro e w5 ⟨v5, rfl, hv5, hb5⟩
              have HQ := Lib.hid (HP2.out v5 w5 (hv5.sl HOO.out))
              have HB5 : Hid (Below w2.heap.size w2 w5) := HBR2.out.trans (hb5.mono HBR2.out.size)
              clear hv5 hb5 HP1 HP2 hmin
              go_wp2_with fail
              refine HQ.out.mono ?_
              rintro e w6 ⟨v6, rfl, hv6, hb6⟩
              have HV6 := Lib.hid hv6
              have HB6 : Hid (Below w2.heap.size w2 w6) := HB5.out.trans (hb6.mono HB5.out.size)
              clear hv6 hb6 HQ
              go_wp2
              go_roundw
              case rel => exact ⟨L - K, o ++ mat K 1, by first | rfl | (show Value.int _ _ = Value.int _ _; congr 1; omega), by omega, HOL2, HV6, HPK2, HB6⟩
              case measure => simp [intOf]; omega
            · have h4I : ¬ (4 : Int) ≤ (L : Int) := by omega
              have hend := rl_end c k L o (by omega) hLk
              rw [HPK.out] at hend
              by_cases hz0 : L = 0
              · subst hz0
                have e : packL (rl c k) = o := by rw [hend]; unfold putR; rw [if_pos (show rl c 0 = [] from rfl)]
                have HSM := Lib.hid (same10 vp _ _ _ (HVP.out.later HBR2.out) (by rw [e]; exact HO.out))
                clear hend
                go_wp2_with fail
                refine HSM.out.mono ?_
                rintro e w5 ⟨rfl, rfl⟩
                go_wp2_with fail
                refine (hA.out _).mono ?_
                rintro e w9 ⟨rfl, hb9⟩
                go_wp2
                go_ret
                have hbw := HB2.out.trans (HBR2.out.mono HB2.out.size)
                exact ⟨rfl, hbw.trans (hb9.mono hbw.size)⟩
              · have hLI : (0 : Int) < (L : Int) := by omega
                have e : packL (rl c k) = o ++ encR (2 * L) ++ rl c L := by rw [hend]; unfold putR; rw [if_neg (by have := rl_ne c L (by omega); exact this), rl_len]
                obtain ⟨wr2, hwr⟩ : ∃ W, W = wr := ⟨_, rfl⟩
                have hp := nput_sq _ o (2 * (L : Int)) wr.drew (HO.out.later (Below.drew (Below.refl _ _))) (by have := HOL.out; omega)
                rw [show heldN (2 * (L : Int)) = 2 * L from by unfold heldN; omega] at hp
                have HPU := Lib.hid hp
                have hle := Num.encR_le (2 * L) (by omega)
                have HLE : Hid ((o ++ encR (2 * L)).length + (rl c L).length ≤ 140737488355328) := by show _ ≤ _; have := HOL.out; rw [List.length_append, rl_len]; omega
                have HOC : Hid (Oct (o ++ encR (2 * L) ++ rl c L)) := oct_app (oct_app (sl_oct HO.out) (encR_oct _)) (rl_oct c L h0 h1)
                have HTR := Lib.hid ((HT2.out.later HBR2.out).later (Below.drew (Below.refl _ _)))
                obtain ⟨tx, ty, et, hBt, hnt, hct⟩ := HTR.out
                rw [rl_len] at et hct
                simp only [Value.slice.injEq] at et
                obtain ⟨rfl, -, rfl⟩ := et
                obtain ⟨as2, hrs, hss⟩ := run_first hBt k (by rw [rl_len]; exact hct) hnt L (by rw [rl_len]; omega)
                rw [rl_len] at hrs
                have htk : (rl c k).take L = rl c L := by unfold rl; rw [List.take_replicate]; congr 1; omega
                rw [htk] at hss
                have HSS := Lib.hid hss
                have w1' : IntKind.i64.wrap (2 * (L : Int)) = 2 * (L : Int) := by rw [IntKind.wrap_i64]; omega
                have HEE := Lib.hid e
                clear hend hp hle hBt hnt hct hss htk e
                subst hwr
                go_wp2_with fail
                refine region_plain (S := fun W' => Below wr2.drew.heap.size wr2.drew W') (bad := []) (by kernel_rfl) ?_
                have hS0 : Below wr2.drew.heap.size wr2.drew wr2.drew := Below.refl _ _
                refine wpAnyK_take (i := 0) [] (v := u9) rfl (by kernel_rfl) (by kernel_rfl) (by kernel_rfl) (by kernel_rfl) (fun _ _ _ h => h) (Or.inl ⟨by rfl, fun w' hw' => by go_simp⟩) hS0 ?_
                refine wpAnyK_take (i := 1) [] (v := .int .i64 (L : Int)) rfl (by kernel_rfl) (by kernel_rfl) (by kernel_rfl) (by kernel_rfl) (fun _ _ _ h => h) (Or.inl ⟨by rfl, fun w' hw' => by go_simp⟩) hS0 ?_
                refine wpAnyK_take (i := 2) [] (v := .int .i64 (2 * (L : Int))) rfl (by kernel_rfl) (by kernel_rfl) (by kernel_rfl) (by kernel_rfl) (fun _ _ _ h => h) (Or.inl ⟨by rfl, fun w' hw' => by go_simp⟩) hS0 ?_
                refine wpAnyK_take (i := 4) [] (v := .slice (some ⟨w.heap.size, 0, none⟩) k k) rfl (by kernel_rfl) (by kernel_rfl) (by kernel_rfl) (by kernel_rfl) (fun _ _ _ h => h) (Or.inl ⟨by rfl, fun w' hw' => by go_simp⟩) hS0 ?_
                refine wpAnyK_take (i := 5) [] (v := .int .i64 (L : Int)) rfl (by kernel_rfl) (by kernel_rfl) (by kernel_rfl) (by kernel_rfl) (fun _ _ _ h => h) (Or.inl ⟨by rfl, fun w' hw' => by go_simp⟩) hS0 ?_
                refine wpAnyK_take (i := 6) [] (v := .slice as2 L k) rfl (by kernel_rfl) (by kernel_rfl) (by kernel_rfl) (by kernel_rfl) (fun _ _ _ h => h) (Or.inl ⟨by rfl, fun w' hw' => by go_simp⟩) hS0 ?_
                refine wpAnyK_only (i := 3) (by kernel_rfl) rfl (by rfl) (fun K0 hK0 => ?_)
                have HK0 := Lib.hid hK0
                clear hK0
                go_simp
                refine HPU.out.mono ?_
                rintro e w5 ⟨v5, rfl, hv5, hb5⟩
                refine HK0.out _ _ (fun _ => hb5) ?_
                clear HK0
                refine wpAnyK_only (i := 7) (by kernel_rfl) rfl (by rfl) (fun K0 hK0 => ?_)
                have HK0 := Lib.hid hK0
                clear hK0
                obtain ⟨j0, hj, hz0, hz1, hz2⟩ := info_parts Try.infoB
                obtain ⟨ta, tc, et2, hB5, hn5, hc5⟩ := HSS.out.later hb5
                rw [rl_len] at et2
                simp only [Value.slice.injEq] at et2
                obtain ⟨rfl, -, rfl⟩ := et2
                obtain ⟨bb, oo, eas, -⟩ := hB5.2 (rl_ne c L (by omega))
                subst eas
                have hs5 := hb5.size
                have hle2 := HLE.out
                refine wp_append_own w5 (.tmp 80) (.tmp 83) 22 rfl wr2.drew.heap.size 5 j0 (.int .u8 0) 1 1 Try.underlying22 hj hz0 hz1 hz2 rfl (by decide) v5 _ _ rfl hv5 ⟨bb, oo, none⟩ (rl c L).length k ((rl c L).map (Value.int .u8)) (by rw [rl_len]; rfl) (by simp) (Bytes.src hB5) (oneCells _) (by unfold maxLen; omega) (by omega) hs5 fun v6 w6 hown6 hg6 _ => ?_
                have r := own_more (m := rl c L) hv5 hs5 hown6 hg6
                have hbw6 : Below wr2.drew.heap.size wr2.drew w6 := hb5.trans r.2
                refine HK0.out _ _ (fun _ => hbw6) ?_
                clear HK0
                refine wpAnyK_only (i := 8) (by kernel_rfl) rfl (by rfl) (fun K0 hK0 => ?_)
                have HK0 := Lib.hid hK0
                clear hK0
                go_simp
                refine HK0.out _ _ (fun _ => hbw6) ?_
                clear HK0
                refine wpAnyK_done (by kernel_rfl) ?_ _
                have hdr : Below wr2.heap.size wr2 wr2.drew := Below.drew (Below.refl _ _)
                have hw6 : Below w2.heap.size w2 w6 := HBR2.out.trans ((hdr.trans (hbw6.mono hdr.size)).mono HBR2.out.size)
                have HSM := Lib.hid (same10 vp v6 _ w6 (HVP.out.later hw6) (by rw [HEE.out]; exact r.1.sl HOC.out))
                have HBF : Hid (Below w.heap.size w w6) := HB2.out.trans (hw6.mono HB2.out.size)
                clear r hown6 hg6 hbw6 hdr hw6 hv5 hb5 hrs HTR HSS
                go_wp2_with fail
                refine HSM.out.mono ?_
                rintro e w7 ⟨rfl, rfl⟩
                go_wp2_with fail
                refine (hA.out _).mono ?_
                rintro e w9 ⟨rfl, hb9⟩
                go_wp2
                go_ret
                exact ⟨rfl, HBF.out.trans (hb9.mono HBF.out.size)⟩
