/- rules: the law of rules that count for nothing. (A template.) -/
import Derived.Test.YtokocfoeohddfaaDoorRuAwake
import Derived.Test.YtokocfoeohddfaaDoorRuIdleM
import Derived.Great.BuildSlice
namespace Go.Proofs.YtokocfoeohddfaaDoor.Pa
open Go.RowKit
set_option linter.unusedVariables false
set_option linter.unusedSimpArgs false
set_option maxRecDepth 1000000

theorem built_none (W : World) : (Instr.buildSlice 37 0 #[]).run Tryd.prog W = .ok (.slice (some ⟨W.heap.size, 0, none⟩) 0 0) (W.alloc (.cells #[] 42)) := by
  obtain ⟨i0, hi, hz0, hz1, hz2⟩ := info_parts Tryd.infoRu
  simp [Instr.buildSlice, run_underlying Tryd.underlying37, sizeOf, typeInfo, hi, hz1, Instr.fill, newRow]
  congr 2
  apply Array.ext'
  simp
theorem RuOwn.slice3 {w : World} {base : Nat} {v : Value} {L : List Ru} (h : RuOwn w base v L) : ∃ a n c, v = .slice a n c := by
  obtain ⟨a, c, e⟩ := h.slice
  exact ⟨a, _, c, e⟩
set_option maxHeartbeats 32000000 in
theorem rulesIdle_walk (L M : List Ru) (v u : Value) (x : Int) (p : L8) (dir : Bool) (w : World) (hv : RuCap w v L) (hu : RuCap w u M) (hx0 : 0 ≤ x) (hx1 : x < 18446744073709551616) (hlp : p.length ≤ maxLen) :
    Calls Tryd.prog 9 #[v, u, .int .u64 x, .string (mk p), .bool dir] w fun e w' => e = .returned (.bool true) ∧ Below w.heap.size w w' := by
  unfold maxLen at hlp
  have HB : Hid (Below w.heap.size w w) := Below.refl _ _
  have HV : Hid (∀ W, Below w.heap.size w W → RuCap W v L) := fun W h => hv.later h
  have HU : Hid (∀ W, Below w.heap.size w W → RuCap W u M) := fun W h => hu.later h
  have HAK : Hid (∀ W, Below w.heap.size w W → Calls Tryd.prog 23 #[] W fun e w' => e = .returned (.bool true) ∧ Below w.heap.size w w') := fun W hk => (awake_ru W).mono fun e w' ⟨h1, h2⟩ => ⟨h1, hk.trans (h2.mono hk.size)⟩
  have HLI : Hid (∀ W, Below w.heap.size w W → Calls Tryd.prog 22 #[v] W fun e w' => e = .returned (.bool (lightB L)) ∧ Below w.heap.size w w') := fun W hk => (light_any L v W (HV.out W hk).1).mono fun e w' ⟨h1, h2⟩ => ⟨h1, hk.trans (h2.mono hk.size)⟩
  have HLU : Hid (∀ W, Below w.heap.size w W → Calls Tryd.prog 22 #[u] W fun e w' => e = .returned (.bool (lightB M)) ∧ Below w.heap.size w w') := fun W hk => (light_any M u W (HU.out W hk).1).mono fun e w' ⟨h1, h2⟩ => ⟨h1, hk.trans (h2.mono hk.size)⟩
  obtain ⟨va, vc, rfl, hvc, hvm, hvn⟩ := hv.2
  obtain ⟨ua, uc, rfl, huc, hum, hun⟩ := hu.2
  have hsp : (mk p).size = p.length := mk_size p
  clear hv hu
  cases hA : lightB L with
  | false =>
    rw [hA] at HLI
    clear hA hsp hlp HLU
    generalize mk p = s at *
    go_enter Tryd.func9, Tryd.ntmps9
    go_wp2_with (first
      | (go_at_call 22; (with_reducible refine (HLI.out _ HB.out).mono ?_); rintro e w1 ⟨rfl, hb⟩; have HB := Lib.hid hb; clear hb)
      | (go_at_call 23; (with_reducible refine (HAK.out _ HB.out).mono ?_); rintro e w1 ⟨rfl, hb⟩; have HB := Lib.hid hb; clear hb))
    go_ret
    exact ⟨rfl, HB.out⟩
  | true =>
  rw [hA] at HLI
  have hll := lightB_of hA
  cases hA2 : lightB M with
  | false =>
    rw [hA2] at HLU
    clear hA hA2 hsp hlp hll
    generalize mk p = s at *
    go_enter Tryd.func9, Tryd.ntmps9
    go_wp2_with (first
      | (go_at_call 22; (with_reducible refine (HLI.out _ HB.out).mono ?_); rintro e w1 ⟨rfl, hb⟩; have HB := Lib.hid hb; clear hb)
      | (go_at_call 22; (with_reducible refine (HLU.out _ HB.out).mono ?_); rintro e w1 ⟨rfl, hb⟩; have HB := Lib.hid hb; clear hb)
      | (go_at_call 23; (with_reducible refine (HAK.out _ HB.out).mono ?_); rintro e w1 ⟨rfl, hb⟩; have HB := Lib.hid hb; clear hb))
    go_ret
    exact ⟨rfl, HB.out⟩
  | true =>
  rw [hA2] at HLU
  have hlm := lightB_of hA2
  have hsum : IntKind.i64.wrap ((L.length : Int) + (M.length : Int)) = (L.length : Int) + (M.length : Int) := IntWalk.i64_in _ (by omega)
  by_cases hC : 120 < L.length + M.length
  · have hI : (120 : Int) < (L.length : Int) + (M.length : Int) := by omega
    have hD : decide ((120 : Int) < (L.length : Int) + (M.length : Int)) = true := decide_eq_true hI
    clear hA hA2 hsp hlp hll hlm hC
    generalize mk p = s at *
    go_enter Tryd.func9, Tryd.ntmps9
    go_wp2_with (first
      | (go_at_call 22; (with_reducible refine (HLI.out _ HB.out).mono ?_); rintro e w1 ⟨rfl, hb⟩; have HB := Lib.hid hb; clear hb)
      | (go_at_call 22; (with_reducible refine (HLU.out _ HB.out).mono ?_); rintro e w1 ⟨rfl, hb⟩; have HB := Lib.hid hb; clear hb)
      | (go_at_call 23; (with_reducible refine (HAK.out _ HB.out).mono ?_); rintro e w1 ⟨rfl, hb⟩; have HB := Lib.hid hb; clear hb))
    go_ret
    exact ⟨rfl, HB.out⟩
  · have hI : ¬ (120 : Int) < (L.length : Int) + (M.length : Int) := by omega
    have hD : decide ((120 : Int) < (L.length : Int) + (M.length : Int)) = false := decide_eq_false hI
    by_cases hE : 300 < p.length
    · have hI2 : (300 : Int) < ((mk p).size : Int) := by omega
      have hD2 : decide ((300 : Int) < ((mk p).size : Int)) = true := decide_eq_true hI2
      clear hA hA2 hsp hlp hll hlm hC hE
      generalize mk p = s at *
      go_enter Tryd.func9, Tryd.ntmps9
      go_wp2_with (first
        | (go_at_call 22; (with_reducible refine (HLI.out _ HB.out).mono ?_); rintro e w1 ⟨rfl, hb⟩; have HB := Lib.hid hb; clear hb)
        | (go_at_call 22; (with_reducible refine (HLU.out _ HB.out).mono ?_); rintro e w1 ⟨rfl, hb⟩; have HB := Lib.hid hb; clear hb)
        | (go_at_call 23; (with_reducible refine (HAK.out _ HB.out).mono ?_); rintro e w1 ⟨rfl, hb⟩; have HB := Lib.hid hb; clear hb))
      go_ret
      exact ⟨rfl, HB.out⟩
    · have hI2 : ¬ (300 : Int) < ((mk p).size : Int) := by omega
      have hD2 : decide ((300 : Int) < ((mk p).size : Int)) = false := decide_eq_false hI2
      have HRT : Hid (∀ W, Below w.heap.size w W → Calls Tryd.prog 35 #[.string (mk p)] W fun e w' => e = .returned (.bool (rightB p)) ∧ Below w.heap.size w w') := fun W hk => (right_any p W (by omega)).mono fun e w' ⟨h1, h2⟩ => ⟨h1, hk.trans (h2.mono hk.size)⟩
      cases hR : rightB p with
      | false =>
        rw [hR] at HRT
        clear hA hA2 hsp hlp hll hlm hC hE
        generalize mk p = s at *
        go_enter Tryd.func9, Tryd.ntmps9
        go_wp2_with (first
          | (go_at_call 22; (with_reducible refine (HLI.out _ HB.out).mono ?_); rintro e w1 ⟨rfl, hb⟩; have HB := Lib.hid hb; clear hb)
          | (go_at_call 22; (with_reducible refine (HLU.out _ HB.out).mono ?_); rintro e w1 ⟨rfl, hb⟩; have HB := Lib.hid hb; clear hb)
          | (go_at_call 35; (with_reducible refine (HRT.out _ HB.out).mono ?_); rintro e w1 ⟨rfl, hb⟩; have HB := Lib.hid hb; clear hb)
          | (go_at_call 23; (with_reducible refine (HAK.out _ HB.out).mono ?_); rintro e w1 ⟨rfl, hb⟩; have HB := Lib.hid hb; clear hb))
        go_ret
        exact ⟨rfl, HB.out⟩
      | true =>
        rw [hR] at HRT
        by_cases hp0 : p = []
        · have he := emptyT hp0
          clear hA hA2 hsp hlp hll hlm hC hE hp0
          generalize mk p = s at *
          go_enter Tryd.func9, Tryd.ntmps9
          go_wp2_with (first
            | (go_at_call 22; (with_reducible refine (HLI.out _ HB.out).mono ?_); rintro e w1 ⟨rfl, hb⟩; have HB := Lib.hid hb; clear hb)
            | (go_at_call 22; (with_reducible refine (HLU.out _ HB.out).mono ?_); rintro e w1 ⟨rfl, hb⟩; have HB := Lib.hid hb; clear hb)
            | (go_at_call 35; (with_reducible refine (HRT.out _ HB.out).mono ?_); rintro e w1 ⟨rfl, hb⟩; have HB := Lib.hid hb; clear hb)
            | (go_at_call 23; (with_reducible refine (HAK.out _ HB.out).mono ?_); rintro e w1 ⟨rfl, hb⟩; have HB := Lib.hid hb; clear hb))
          go_ret
          exact ⟨rfl, HB.out⟩
        · have he := emptyF hp0
          have hru : ruledB p = true := by unfold ruledB; rw [decide_eq_true hp0, hR]; rfl
          have HRU := Lib.hid hru
          have HLL := Lib.hid hll
          have HLM := Lib.hid hlm
          have HSUM : Hid (L.length + M.length ≤ 120) := by show _ ≤ _; omega
          have HACT : Hid (∀ (W : World) (t : Value) (K : List Ru) (dr : Bool), Below w.heap.size w W → RuAt W t K → LightR K → Calls Tryd.prog 37 #[t, .string (mk p), .bool dir, .bool dr] W fun e w' => e = .returned (.int .i64 (actR K p dir dr)) ∧ Below w.heap.size w w' ∧ Below W.heap.size W w') := fun W t K dr hk hat hl => (act_any K t p dir dr W hat hl (by omega)).mono fun e w' ⟨h1, h2⟩ => ⟨h1, hk.trans (h2.mono hk.size), h2⟩
          have HSAF : Hid (∀ (W : World) (t : Value) (K : List Ru), Below w.heap.size w W → RuAt W t K → LightR K → Calls Tryd.prog 38 #[t, .string (mk p), .bool dir] W fun e w' => e = .returned (.bool (safeB K p dir)) ∧ Below w.heap.size w w' ∧ Below W.heap.size W w') := fun W t K hk hat hl => (safe_any K t p dir W hat hl (by omega)).mono fun e w' ⟨h1, h2⟩ => ⟨h1, hk.trans (h2.mono hk.size), h2⟩
          have HHID : Hid (∀ (W : World) (t : Value) (K : List Ru), Below w.heap.size w W → RuAt W t K → LightR K → Calls Tryd.prog 39 #[t, .string (mk p), .bool dir] W fun e w' => e = .returned (.bool (hiddenB K p dir)) ∧ Below w.heap.size w w' ∧ Below W.heap.size W w') := fun W t K hk hat hl => (hidden_any K t p dir W hat hl (by omega)).mono fun e w' ⟨h1, h2⟩ => ⟨h1, hk.trans (h2.mono hk.size), h2⟩
          have HMAT : Hid (∀ (W : World) (r : Ru), r.pat.length ≤ 200 → Below w.heap.size w W → Calls Tryd.prog 36 #[.agg #[.int .i64 r.act, .string (mk r.pat), .bool r.dir, .bool r.anch], .string (mk p), .bool dir] W fun e w' => e = .returned (.bool (matchR r p dir)) ∧ Below W.heap.size W w') := fun W r hl hk => matches_any r p dir W (by omega) (by omega)
          obtain ⟨n, hn⟩ : ∃ n, n = L.length := ⟨_, rfl⟩
          obtain ⟨m, hm⟩ : ∃ m, m = M.length := ⟨_, rfl⟩
          rw [← hn, ← hm] at hI hsum hD
          rw [← hn] at HV
          rw [← hm] at HU
          rw [← hn, ← hm]
          rw [← hn] at HLI
          rw [← hm] at HLU
          have HNL : Hid (n = L.length ∧ m = M.length) := ⟨hn, hm⟩
          have hn80 : n ≤ 80 := by omega
          have hm80 : m ≤ 80 := by omega
          have hwn : IntKind.i64.wrap ((n : Int) + 1) = (n : Int) + 1 := IntWalk.i64_in _ (by omega)
          have hwu : IntKind.u64.wrap ((n : Int) + 1) = (n : Int) + 1 := by simp [IntKind.wrap, IntKind.bits, IntKind.signed]; omega
          have hne : ((n : Int) + 1 == 0) = false := by simp; omega
          have hne' : ¬ (n : Int) + 1 = 0 := by omega
          obtain ⟨k, hk⟩ : ∃ k : Nat, (k : Int) = x % ((n : Int) + 1) := ⟨(x % ((n : Int) + 1)).toNat, by have := Int.emod_nonneg x (show (n : Int) + 1 ≠ 0 by omega); omega⟩
          have hkn : k ≤ n := by have := Int.emod_lt_of_pos x (show (0 : Int) < (n : Int) + 1 by omega); omega
          have hrem : x.tmod ((n : Int) + 1) = (k : Int) := by rw [hk]; exact Int.tmod_eq_emod_of_nonneg hx0
          have hwk : IntKind.u64.wrap (k : Int) = (k : Int) := by simp [IntKind.wrap, IntKind.bits, IntKind.signed]; omega
          have hwk2 : IntKind.i64.wrap (k : Int) = (k : Int) := IntWalk.i64_in _ (by omega)
          have HKN := Lib.hid hkn
          have hbn := built_none
          clear hA hA2 hsp hlp hll hlm hC hE hp0 hR hru hn hm hk hvc hvm hvn huc hum hun
          have HP : Hid (mk p = mk p) := rfl
          generalize mk p = s at *
          go_enter Tryd.func9, Tryd.ntmps9
          go_upto_region 4 with (first
            | (go_at_call 22; (with_reducible refine (HLI.out _ HB.out).mono ?_); rintro e w1 ⟨rfl, hb⟩; have HB := Lib.hid hb; clear hb)
            | (go_at_call 22; (with_reducible refine (HLU.out _ HB.out).mono ?_); rintro e w1 ⟨rfl, hb⟩; have HB := Lib.hid hb; clear hb)
            | (go_at_call 35; (with_reducible refine (HRT.out _ HB.out).mono ?_); rintro e w1 ⟨rfl, hb⟩; have HB := Lib.hid hb; clear hb))
          have hb0 : Below w1.heap.size w1 (w1.alloc (.cells #[] 42)) := (Below.refl _ _).alloc (Nat.le_refl _) _
          have HO0 : Hid (RuOwn (w1.alloc (.cells #[] 42)) w.heap.size (.slice (some ⟨w1.heap.size, 0, none⟩) 0 0) []) := own_zero w1 _ HB.out.size
          have HB0 : Hid (Below w.heap.size w (w1.alloc (.cells #[] 42))) := HB.out.trans (hb0.mono HB.out.size)
          have HTK : Hid (∀ W, Below w.heap.size w W → RuCap W (.slice va k vc) (L.take k)) := fun W h => (cut_head (HV.out W h) k HKN.out).2
          have hsl := (cut_head (HV.out w (Below.refl _ _)) k HKN.out).1
          obtain ⟨ta, hst, -⟩ := cut_tail (HV.out w (Below.refl _ _)) k HKN.out
          have HTD : Hid (∀ W, Below w.heap.size w W → RuCap W (.slice ta (n - k) (vc - k)) (L.drop k)) := fun W h => by
            obtain ⟨ta', h1, h2⟩ := cut_tail (HV.out W h) k HKN.out
            have e := (h1 w).symm.trans (hst w)
            simp only [Result.ok.injEq, Value.slice.injEq, and_true] at e
            rw [← e]; exact h2
          have HTL : Hid ((L.take k).length ≤ 80 ∧ (L.drop k).length ≤ 80 ∧ L.length ≤ 80 ∧ M.length ≤ 80) := by
            show _ ∧ _
            have := HLL.out.1; have := HLM.out.1
            rw [List.length_take, List.length_drop]; omega
          clear hb0 hkn hwk hwn hwu hrem hsum
          go_wp2_with (at_builtin; go_must (refine append_rus rfl (.tmp 58) (.tmp 61) rfl w.heap.size (.slice (some ⟨w1.heap.size, 0, none⟩) 0 0) (.slice va k vc) [] (L.take k) rfl HO0.out rfl (HTK.out _ HB0.out) (by have := HTL.out.1; rw [List.length_nil]; omega) HB0.out.size ?_); intro v5 w5 hO5 hb5; have HO5 := Lib.hid hO5; have HB5 := Lib.hid (HB0.out.trans hb5); clear hb5 hO5)
          obtain ⟨a5, n5, c5, rfl⟩ := HO5.out.slice3
          go_loopw [12, 65] (fun t c wr => ∃ (i : Nat) (a2 : Option Addr) (n2 c2 : Nat), c = .int .i64 i ∧ t = .slice a2 n2 c2 ∧ Hid (i ≤ m) ∧ Hid (RuOwn wr w.heap.size t (L.take k ++ notM (M.take i) p dir)) ∧ Hid (Below w.heap.size w wr)) (fun _ c _ => m - (intOf c).toNat)
          case atStart => exact ⟨0, _, _, _, rfl, rfl, Nat.zero_le _, (by have := HO5.out; show RuOwn _ _ _ _; simpa [notM] using this), HB5⟩
          case round =>
            clear HO5 HB5 HO0 HB0
            obtain ⟨i, a2, n2, c2, rfl, rfl, HI, HO, HBR⟩ := hrel
            by_cases hi : i < m
            · have hIi : (i : Int) < (m : Int) := by omega
              have hmL := HNL.out.2
              obtain ⟨r, hr⟩ : ∃ r, M[i]? = some r := ⟨_, List.getElem?_eq_getElem (by omega)⟩
              have hw1 : IntKind.i64.wrap ((i : Int) + 1) = (i : Int) + 1 := IntWalk.i64_in _ (by omega)
              obtain ⟨ga, gc, e4, hrow⟩ := (HU.out _ HBR.out).1
              simp only [Value.slice.injEq] at e4
              obtain ⟨rfl, -, rfl⟩ := e4
              obtain ⟨g, off, rfl, hg, hc⟩ := hrow (by intro e; rw [e] at hr; simp at hr)
              obtain ⟨k0, k1, k2, k3⟩ := hc i r hr
              have HRL : Hid (r.pat.length ≤ 200) := HLM.out.2 r (List.mem_of_getElem? hr)
              have HSN := Lib.hid (notM_snoc hr p dir)
              have hbA : Below wr.heap.size wr (wr.alloc (.cells #[.int .i64 r.act, .string (mk r.pat), .bool r.dir, .bool r.anch] 42)) := (Below.refl _ _).alloc (Nat.le_refl _) _
              have HBA : Hid (Below w.heap.size w (wr.alloc (.cells #[.int .i64 r.act, .string (mk r.pat), .bool r.dir, .bool r.anch] 42))) := HBR.out.trans (hbA.mono HBR.out.size)
              have HOA : Hid (RuOwn (wr.alloc (.cells #[.int .i64 r.act, .string (mk r.pat), .bool r.dir, .bool r.anch] 42)) w.heap.size (.slice a2 n2 c2) (L.take k ++ notM (M.take i) p dir)) := HO.out.later hbA
              have HRW : Hid ((wr.alloc (.cells #[.int .i64 r.act, .string (mk r.pat), .bool r.dir, .bool r.anch] 42)).heap[wr.heap.size]? = some (.cells #[.int .i64 r.act, .string (mk r.pat), .bool r.dir, .bool r.anch] 42)) := heap_new _ _
              have HM1 := Lib.hid (HMAT.out _ r HRL.out HBA.out)
              have HSZA : Hid (wr.heap.size < (wr.alloc (.cells #[.int .i64 r.act, .string (mk r.pat), .bool r.dir, .bool r.anch] 42)).heap.size) := by show _ < _; simp
              obtain ⟨act, pat, rd, an⟩ := r
              simp only at k0 k1 k2 k3 HBA HOA HRW HM1 HSZA
              have HIM : Hid (i < m) := hi
              clear hi hmL hr hrow hc hg hbA
              cases hmt : matchR ⟨act, pat, rd, an⟩ p dir with
              | true =>
                rw [hmt] at HM1 HSN
                clear hmt
                go_wp2_with (go_at_call 36; refine HM1.out.mono ?_; rintro e w6 ⟨rfl, hb⟩; have HO6 := Lib.hid (HOA.out.later hb); have HB6 := Lib.hid (HBA.out.trans (hb.mono HBA.out.size)); clear hb)
                go_roundw
                case rel => exact ⟨i + 1, _, _, _, by go_num, rfl, by show _ ≤ _; have := HIM.out; omega, by rw [HSN.out]; simpa using HO6, HB6⟩
                case measure => have := HIM.out; simp [intOf]; omega
              | false =>
                rw [hmt] at HM1 HSN
                clear hmt
                have HLN : Hid ((L.take k ++ notM (M.take i) p dir).length + [(⟨act, pat, rd, an⟩ : Ru)].length ≤ 1000000) := by
                  show _ ≤ _
                  have h1 := HTL.out.1
                  have h2 : (notM (M.take i) p dir).length ≤ (M.take i).length := List.length_filter_le _ _
                  rw [List.length_take] at h2
                  have h3 := HTL.out.2.2.2
                  rw [List.length_append]; simp only [List.length_cons, List.length_nil]; omega
                go_wp2_with (first
                  | (go_at_call 36; refine HM1.out.mono ?_; rintro e w6 ⟨rfl, hb⟩
                     have hrw6 := (hb.block _ HSZA.out).trans HRW.out
                     obtain ⟨⟨y0, y1, y2, y3⟩, -⟩ := cells4 hrw6
                     have hbL : Below w6.heap.size w6 (w6.alloc (.cells #[.int .i64 act, .string (mk pat), .bool rd, .bool an] 42)) := (Below.refl _ _).alloc (Nat.le_refl _) _
                     have HB6 := Lib.hid (HBA.out.trans (hb.mono HBA.out.size))
                     have HO6 := Lib.hid ((HOA.out.later hb).later hbL)
                     have HB7 := Lib.hid (HB6.out.trans (hbL.mono HB6.out.size))
                     have HL7 := Lib.hid (own_one w6 w.heap.size ⟨act, pat, rd, an⟩ HB6.out.size).cap
                     clear hb hrw6 hbL)
                  | (at_builtin; go_must (refine append_rus rfl (.tmp 74) (.tmp 76) rfl w.heap.size (.slice a2 n2 c2) (.slice (some ⟨w6.heap.size, 0, none⟩) 1 1) _ [⟨act, pat, rd, an⟩] rfl HO6.out rfl HL7.out HLN.out HB7.out.size ?_); intro v8 w8 hO8 hb8; have HO8 := Lib.hid hO8; have HB8 := Lib.hid (HB7.out.trans hb8); clear hb8 hO8))
                obtain ⟨a8, n8, c8, rfl⟩ := HO8.out.slice3
                go_roundw
                case rel => exact ⟨i + 1, _, _, _, by go_num, rfl, by show _ ≤ _; have := HIM.out; omega, by rw [HSN.out]; have := HO8.out; show RuOwn _ _ _ _; simpa using this, HB8⟩
                case measure => have := HIM.out; simp [intOf]; omega
            · have hIi : ¬ (i : Int) < (m : Int) := by omega
              have him : i = m := by have := HI.out; omega
              have hO := HO.out
              have hmL := HNL.out.2
              rw [him, hmL, List.take_length] at hO
              have HOM := Lib.hid hO
              have HLN : Hid ((L.take k ++ notM M p dir).length ≤ 160) := by
                show _ ≤ _
                have h1 := HTL.out.1
                have h2 : (notM M p dir).length ≤ M.length := List.length_filter_le _ _
                have h3 := HTL.out.2.2.2
                rw [List.length_append]; omega
              clear hi him hO hmL HO HI
              go_upto_region 12 with (at_builtin; go_must (refine append_rus rfl (.tmp 79) (.tmp 82) rfl w.heap.size (.slice a2 n2 c2) (.slice ta (n - k) (vc - k)) _ (L.drop k) rfl HOM.out rfl (HTD.out _ HBR.out) (by have := HLN.out; have := HTL.out.2.1; omega) HBR.out.size ?_); intro v9 w9 hO9 hb9; have HO9 := Lib.hid hO9; have HB9 := Lib.hid (HBR.out.trans hb9); clear hb9 hO9)
              obtain ⟨a9, n9, c9, rfl⟩ := HO9.out.slice3
              have hlt := HTL.out
              have hLG : LightR (L.take k ++ notM M p dir ++ L.drop k) := ⟨by rw [List.length_append]; have := HLN.out; omega, fun r hr => by
                have : r.pat.length ≤ 200 := by
                  rcases List.mem_append.1 hr with h | h
                  · rcases List.mem_append.1 h with h | h
                    · exact HLL.out.2 r (List.mem_of_mem_take h)
                    · exact HLM.out.2 r (List.mem_filter.1 h).1
                  · exact HLL.out.2 r (List.mem_of_mem_drop h)
                omega⟩
              have HLG0 : Hid (LightR L) := ⟨by omega, fun r hr => by have := HLL.out.2 r hr; omega⟩
              obtain ⟨A1, hA1⟩ : ∃ A, A = actR L p dir true := ⟨_, rfl⟩
              obtain ⟨A2, hA2⟩ : ∃ A, A = actR L p dir false := ⟨_, rfl⟩
              have e1 : actR (L.take k ++ notM M p dir ++ L.drop k) p dir true = A1 := by rw [hA1]; exact idle_act L M k p dir true HRU.out
              have e2 : actR (L.take k ++ notM M p dir ++ L.drop k) p dir false = A2 := by rw [hA2]; exact idle_act L M k p dir false HRU.out
              have e3 : safeB (L.take k ++ notM M p dir ++ L.drop k) p dir = (A1 == 3) := by unfold safeB; rw [e1]
              have e4 : safeB L p dir = (A1 == 3) := by unfold safeB; rw [← hA1]
              have HKX : Hid (Below w9.heap.size w9 w9) := Below.refl _ _
              have CA : ∀ W, Below w9.heap.size w9 W → ∀ dr A, actR (L.take k ++ notM M p dir ++ L.drop k) p dir dr = A → Calls Tryd.prog 37 #[.slice a9 n9 c9, .string s, .bool dir, .bool dr] W fun e w' => e = .returned (.int .i64 A) ∧ Below w9.heap.size w9 w' := fun W hW dr A h => (HACT.out W _ _ dr (HB9.out.trans (hW.mono HB9.out.size)) ((HO9.out.later hW).at) hLG).mono fun e w' ⟨h1, _, h3⟩ => ⟨by rw [h1, h], hW.trans (h3.mono hW.size)⟩
              have CL : ∀ W, Below w9.heap.size w9 W → ∀ dr A, actR L p dir dr = A → Calls Tryd.prog 37 #[.slice va n vc, .string s, .bool dir, .bool dr] W fun e w' => e = .returned (.int .i64 A) ∧ Below w9.heap.size w9 w' := fun W hW dr A h => (HACT.out W _ _ dr (HB9.out.trans (hW.mono HB9.out.size)) (HV.out _ (HB9.out.trans (hW.mono HB9.out.size))).1 HLG0.out).mono fun e w' ⟨h1, _, h3⟩ => ⟨by rw [h1, h], hW.trans (h3.mono hW.size)⟩
              have CA1 := Lib.hid (fun W hW => CA W hW true A1 e1)
              have CA2 := Lib.hid (fun W hW => CA W hW false A2 e2)
              have CL1 := Lib.hid (fun W hW => CL W hW true A1 hA1.symm)
              have CL2 := Lib.hid (fun W hW => CL W hW false A2 hA2.symm)
              have CS1 : Hid (∀ W, Below w9.heap.size w9 W → Calls Tryd.prog 38 #[.slice a9 n9 c9, .string s, .bool dir] W fun e w' => e = .returned (.bool (A1 == 3)) ∧ Below w9.heap.size w9 w') := fun W hW => (HSAF.out W _ _ (HB9.out.trans (hW.mono HB9.out.size)) ((HO9.out.later hW).at) hLG).mono fun e w' ⟨h1, _, h3⟩ => ⟨by rw [h1, e3], hW.trans (h3.mono hW.size)⟩
              have CS2 : Hid (∀ W, Below w9.heap.size w9 W → Calls Tryd.prog 38 #[.slice va n vc, .string s, .bool dir] W fun e w' => e = .returned (.bool (A1 == 3)) ∧ Below w9.heap.size w9 w') := fun W hW => (HSAF.out W _ _ (HB9.out.trans (hW.mono HB9.out.size)) (HV.out _ (HB9.out.trans (hW.mono HB9.out.size))).1 HLG0.out).mono fun e w' ⟨h1, _, h3⟩ => ⟨by rw [h1, e4], hW.trans (h3.mono hW.size)⟩
              have HA1 := Lib.hid hA1
              generalize (A1 == 3) = S3 at CS1 CS2
              clear hlt hLG e1 e2 e3 e4 CA CL hA1 hA2
              go_upto_region 14 with (first
                | (go_at_call 37; (with_reducible refine (CA1.out _ HKX.out).mono ?_); rintro e wx ⟨rfl, hb⟩; have HKX := Lib.hid hb; clear hb)
                | (go_at_call 37; (with_reducible refine (CL1.out _ HKX.out).mono ?_); rintro e wx ⟨rfl, hb⟩; have HKX := Lib.hid hb; clear hb)
                | (go_at_call 37; (with_reducible refine (CA2.out _ HKX.out).mono ?_); rintro e wx ⟨rfl, hb⟩; have HKX := Lib.hid hb; clear hb)
                | (go_at_call 37; (with_reducible refine (CL2.out _ HKX.out).mono ?_); rintro e wx ⟨rfl, hb⟩; have HKX := Lib.hid hb; clear hb)
                | (go_at_call 38; (with_reducible refine (CS1.out _ HKX.out).mono ?_); rintro e wx ⟨rfl, hb⟩; have HKX := Lib.hid hb; clear hb)
                | (go_at_call 38; (with_reducible refine (CS2.out _ HKX.out).mono ?_); rintro e wx ⟨rfl, hb⟩; have HKX := Lib.hid hb; clear hb))
              have HBX : Hid (Below w.heap.size w wx) := HB9.out.trans (HKX.out.mono HB9.out.size)
              have hb0 : Below wx.heap.size wx (wx.alloc (.cells #[] 42)) := (Below.refl _ _).alloc (Nat.le_refl _) _
              have HO0 : Hid (RuOwn (wx.alloc (.cells #[] 42)) w.heap.size (.slice (some ⟨wx.heap.size, 0, none⟩) 0 0) []) := own_zero wx _ HBX.out.size
              have HB0 : Hid (Below w.heap.size w (wx.alloc (.cells #[] 42))) := HBX.out.trans (hb0.mono HBX.out.size)
              clear hb0
              go_upto_region 15 with (first
                | ((with_reducible show wpList _ _ _ (Oper.mk (some 117) _ _ _ _ _ :: _) _ _); go_must (refine append_rus rfl (.tmp 115) (.tmp 116) rfl w.heap.size (.slice (some ⟨wx.heap.size, 0, none⟩) 0 0) (.slice va n vc) [] L rfl HO0.out rfl (HV.out _ HB0.out) (by have := HTL.out; rw [List.length_nil]; omega) HB0.out.size ?_); intro vy wy hOy hby; obtain ⟨ay, ny, cy, rfl⟩ := hOy.slice3; have HOY := Lib.hid hOy; have HBY := Lib.hid (HB0.out.trans hby); clear hby hOy)
                | ((with_reducible show wpList _ _ _ (Oper.mk (some 119) _ _ _ _ _ :: _) _ _); go_must (refine append_rus rfl (.tmp 117) (.tmp 118) rfl w.heap.size (.slice ay ny cy) (.slice _ m uc) _ M rfl HOY.out rfl (HU.out _ HBY.out) (by have := HTL.out; rw [List.nil_append]; omega) HBY.out.size ?_); intro vz wz hOz hbz; obtain ⟨az, nz, cz, rfl⟩ := hOz.slice3; have HOZ := Lib.hid hOz; have HBZ := Lib.hid (HBY.out.trans hbz); clear hbz hOz))
              have HBH : Hid (RuOwn wz w.heap.size (.slice az nz cz) (L ++ M)) := by have := HOZ.out; show RuOwn _ _ _ _; simpa using this
              have hLB : LightR (L ++ M) := light_app HLL.out.2 HLM.out.2 (by have := HSUM.out; omega)
              have CL3 : Hid (Calls Tryd.prog 37 #[.slice va n vc, .string s, .bool dir, .bool true] wz fun e w' => e = .returned (.int .i64 A1) ∧ Below wz.heap.size wz w') := (HACT.out wz _ L true HBZ.out (HV.out _ HBZ.out).1 HLG0.out).mono fun e w' ⟨h1, _, h3⟩ => ⟨by rw [h1, ← HA1.out], h3⟩
              have CB3 : Hid (A1 ≠ 0 → ∀ W, Below wz.heap.size wz W → Calls Tryd.prog 37 #[.slice az nz cz, .string s, .bool dir, .bool true] W fun e w' => e = .returned (.int .i64 A1) ∧ Below wz.heap.size wz w') := by
                intro h0 W hW
                refine (HACT.out W _ (L ++ M) true (HBZ.out.trans (hW.mono HBZ.out.size)) ((HBH.out.later hW).at) hLB).mono fun e w' ⟨h1, _, h3⟩ => ⟨?_, hW.trans (h3.mono hW.size)⟩
                rw [h1, behind_act L M p dir true (by rw [← HA1.out]; exact h0), ← HA1.out]
              clear hLB
              go_upto_region 16 with (go_at_call 37; refine CL3.out.mono ?_; rintro e wa ⟨rfl, hb⟩; have HKA := Lib.hid hb; clear hb)
              go_cut [133] (fun t wx => t = .bool false ∧ Hid (Below w.heap.size w wx))
              case first =>
                by_cases h0 : A1 = 0
                · have hq1 : (A1 != 0) = false := by simp [h0]
                  have hq2 : (A1 == 0) = true := by simp [h0]
                  clear h0
                  go_wp2
                  go_meet
                  exact ⟨rfl, HBZ.out.trans (HKA.out.mono HBZ.out.size)⟩
                · have hq0 : (A1 == 0) = false := by simpa using h0
                  have hq1 : (A1 != 0) = true := by simp [bne, hq0]
                  have CB4 := Lib.hid (CB3.out h0)
                  clear h0
                  go_wp2_with (go_at_call 37; refine (CB4.out _ HKA.out).mono ?_; rintro e wb ⟨rfl, hb⟩; have HKB := Lib.hid hb; clear hb)
                  go_meet
                  exact ⟨by simp, HBZ.out.trans (HKB.out.mono HBZ.out.size)⟩
              case rest =>
              obtain ⟨rfl, HBC⟩ := hcut
              have hb0 : Below wc.heap.size wc (wc.alloc (.cells #[] 42)) := (Below.refl _ _).alloc (Nat.le_refl _) _
              have HO0 : Hid (RuOwn (wc.alloc (.cells #[] 42)) w.heap.size (.slice (some ⟨wc.heap.size, 0, none⟩) 0 0) []) := own_zero wc _ HBC.out.size
              have HB0 : Hid (Below w.heap.size w (wc.alloc (.cells #[] 42))) := HBC.out.trans (hb0.mono HBC.out.size)
              clear hb0
              go_wp2_with (at_builtin; go_must (refine append_rus rfl (.tmp 134) (.tmp 135) rfl w.heap.size (.slice (some ⟨wc.heap.size, 0, none⟩) 0 0) (.slice va n vc) [] L rfl HO0.out rfl (HV.out _ HB0.out) (by have := HTL.out; rw [List.length_nil]; omega) HB0.out.size ?_); intro vq wq hOs hbs; obtain ⟨aq, nq, cq, rfl⟩ := hOs.slice3; have HOS := Lib.hid hOs; have HBS := Lib.hid (HB0.out.trans hbs); clear hbs hOs)
              go_loopw [17, 139] (fun t c wr => ∃ (i : Nat) (a2 : Option Addr) (n2 c2 : Nat), c = .int .i64 i ∧ t = .slice a2 n2 c2 ∧ Hid (i ≤ m) ∧ Hid (RuOwn wr w.heap.size t (guards (M.take i) ++ L)) ∧ Hid (Below w.heap.size w wr)) (fun _ c _ => m - (intOf c).toNat)
              case atStart => exact ⟨0, _, _, _, rfl, rfl, Nat.zero_le _, (by have := HOS.out; show RuOwn _ _ _ _; simpa [guards] using this), HBS⟩
              case round =>
                obtain ⟨i, a2, n2, c2, rfl, rfl, HI, HO, HBR⟩ := hrel
                by_cases hi : i < m
                · have hIi : (i : Int) < (m : Int) := by omega
                  have hmL := HNL.out.2
                  obtain ⟨r, hr⟩ : ∃ r, M[i]? = some r := ⟨_, List.getElem?_eq_getElem (by omega)⟩
                  have hw1 : IntKind.i64.wrap ((i : Int) + 1) = (i : Int) + 1 := IntWalk.i64_in _ (by omega)
                  obtain ⟨ga, gc, e4, hrow⟩ := (HU.out _ HBR.out).1
                  simp only [Value.slice.injEq] at e4
                  obtain ⟨rfl, -, rfl⟩ := e4
                  obtain ⟨g, off, rfl, hg, hc⟩ := hrow (by intro e; rw [e] at hr; simp at hr)
                  obtain ⟨k0, k1, k2, k3⟩ := hc i r hr
                  have HSN := Lib.hid (guards_snoc hr)
                  obtain ⟨act, pat, rd, an⟩ := r
                  simp only at k0 k1 k2 k3
                  have hbA : Below wr.heap.size wr (wr.alloc (.cells #[.int .i64 3, .string (mk pat), .bool rd, .bool an] 42)) := (Below.refl _ _).alloc (Nat.le_refl _) _
                  have hbL : Below wr.heap.size wr ((wr.alloc (.cells #[.int .i64 3, .string (mk pat), .bool rd, .bool an] 42)).alloc (.cells #[.int .i64 3, .string (mk pat), .bool rd, .bool an] 42)) := hbA.alloc (by simp) _
                  have HBL : Hid (Below w.heap.size w ((wr.alloc (.cells #[.int .i64 3, .string (mk pat), .bool rd, .bool an] 42)).alloc (.cells #[.int .i64 3, .string (mk pat), .bool rd, .bool an] 42))) := HBR.out.trans (hbL.mono HBR.out.size)
                  have HOL := Lib.hid (HO.out.later hbL).cap
                  have HONE := Lib.hid (own_one (wr.alloc (.cells #[.int .i64 3, .string (mk pat), .bool rd, .bool an] 42)) w.heap.size ⟨3, pat, rd, an⟩ (HBR.out.trans (hbA.mono HBR.out.size)).size)
                  have hone := HONE.out
                  rw [World.size_alloc] at hone
                  have HONE := Lib.hid hone
                  have HLN : Hid ([(⟨3, pat, rd, an⟩ : Ru)].length + (guards (M.take i) ++ L).length ≤ 1000000) := by
                    show _ ≤ _
                    have h3 := HTL.out.2.2
                    rw [List.length_append]
                    unfold guards
                    rw [List.length_reverse, List.length_map, List.length_take]
                    simp only [List.length_cons, List.length_nil]; omega
                  have HIM : Hid (i < m) := hi
                  clear hi hmL hr hrow hc hg hbA hbL hone
                  go_wp2_with (at_builtin; go_must (refine append_rus rfl (.tmp 145) (.tmp 146) rfl w.heap.size (.slice (some ⟨wr.heap.size + 1, 0, none⟩) 1 1) (.slice a2 n2 c2) [⟨3, pat, rd, an⟩] _ rfl HONE.out rfl HOL.out HLN.out HBL.out.size ?_); intro v8 w8 hO8 hb8; obtain ⟨a8, n8, c8, rfl⟩ := hO8.slice3; have HO8 := Lib.hid hO8; have HB8 := Lib.hid (HBL.out.trans hb8); clear hb8 hO8)
                  go_roundw
                  case rel => exact ⟨i + 1, _, _, _, by go_num, rfl, by show _ ≤ _; have := HIM.out; omega, by rw [HSN.out]; have := HO8.out; show RuOwn _ _ _ _; simpa [guardR] using this, HB8⟩
                  case measure => have := HIM.out; simp [intOf]; omega
                · have hIi : ¬ (i : Int) < (m : Int) := by omega
                  have him : i = m := by have := HI.out; omega
                  have hO := HO.out
                  rw [him, HNL.out.2, List.take_length] at hO
                  have HOM := Lib.hid hO
                  have hLG : LightR (guards M ++ L) := light_app (fun r hr => by
                    unfold guards at hr
                    rw [List.mem_reverse, List.mem_map] at hr
                    obtain ⟨y, hy, rfl⟩ := hr
                    exact HLM.out.2 y hy) HLL.out.2 (by
                    have h3 := HTL.out.2.2
                    unfold guards
                    rw [List.length_reverse, List.length_map]; omega)
                  obtain ⟨H1, hH1⟩ : ∃ H, H = hiddenB L p dir := ⟨_, rfl⟩
                  have CH1 : Hid (Calls Tryd.prog 39 #[.slice a2 n2 c2, .string s, .bool dir] wr fun e w' => e = .returned (.bool H1) ∧ Below w.heap.size w w') := (HHID.out wr _ _ HBR.out hO.at hLG).mono fun e w' ⟨h1, h2, _⟩ => ⟨by rw [h1, hidden_guard _ _ _ _ (guards_act M), ← hH1], h2⟩
                  have CH2 : Hid (∀ W, Below w.heap.size w W → Calls Tryd.prog 39 #[.slice va n vc, .string s, .bool dir] W fun e w' => e = .returned (.bool H1) ∧ Below w.heap.size w w') := fun W hW => (HHID.out W _ _ hW (HV.out _ hW).1 HLG0.out).mono fun e w' ⟨h1, h2, _⟩ => ⟨by rw [h1, ← hH1], h2⟩
                  clear hi him hO HO HI hLG hH1
                  cases H1
                  all_goals
                    go_wp2_with (first
                      | (go_at_call 39; (with_reducible refine CH1.out.mono ?_); rintro e wx ⟨rfl, hb⟩; have HB := Lib.hid hb; clear hb)
                      | (go_at_call 39; (with_reducible refine (CH2.out _ HB.out).mono ?_); rintro e wx ⟨rfl, hb⟩; have HB := Lib.hid hb; clear hb)
                      | (go_at_call 23; (with_reducible refine (HAK.out _ HB.out).mono ?_); rintro e wx ⟨rfl, hb⟩; have HB := Lib.hid hb; clear hb))
                    go_ret
                    exact ⟨rfl, HB.out⟩
end Go.Proofs.YtokocfoeohddfaaDoor.Pa
