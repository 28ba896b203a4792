/- glob: the document's signs of a pattern. (A template.) -/
import Derived.Test.YtokocfoeohddfaaDoorGlRRow
import Derived.Test.YtokocfoeohddfaaDoorGlRCls
namespace Go.Proofs.YtokocfoeohddfaaDoor.Pa
open Go.RowKit
set_option linter.unusedVariables false
set_option linter.unusedSimpArgs false
set_option maxRecDepth 1000000

theorem rg_keep {w wx wy : World} {v : Value} {L : List Rg} {g : Nat} (h : RgOwn wx w.heap.size v L) (hg : g = wx.heap.size) (hb : Below wx.heap.size wx wy) : RgOwn wy w.heap.size v L := h.later hb
set_option maxHeartbeats 16000000 in
theorem rsigns_any (l : L8) (w : World) (hl : l.length ≤ 100) :
    Calls Tryd.prog 21 #[.string (mk l)] w fun e w' => ∃ v, e = .returned v ∧ RDR l w.heap.size v w' ∧ Below w.heap.size w w' := by
  have hs : (mk l).size = l.length := mk_size l
  have HS := Lib.hid hs
  have HL : Hid (l.length ≤ 100) := hl
  obtain ⟨R, hR⟩ : ∃ R, R = readR l := ⟨_, rfl⟩
  have HRD : Hid (∀ v w', (match R with | none => v = .tuple #[.slice none 0 0, .bool false] | some L => ∃ a c, v = .tuple #[.slice a L.length c, .bool true] ∧ RgOwn w' w.heap.size (.slice a L.length c) L) → RDR l w.heap.size v w') := by
    intro v w' h
    unfold RDR
    rw [← hR]
    exact h
  have HR0 : Hid (RestR l R [] 0) := by
    show RestR _ _ _ _
    unfold RestR
    rw [hR]
    unfold readR
    cases sgnsR l (l.length + 1) 0 <;> simp
  obtain ⟨i0, hi0, hz0, hz1, hzz⟩ := info_parts Tryd.infoRg
  have HI0 := Lib.hid hi0
  have HZ0 := Lib.hid hz0
  have HZ1 := Lib.hid hz1
  have hz := zero_rg
  obtain ⟨Z, hZ⟩ : ∃ Z, Z = sgC 0 0 false noneS := ⟨_, rfl⟩
  have HZL : Hid (Z.length = 259) := by show _ = _; rw [hZ]; exact sgC_length _ _ _ _
  rw [← hZ] at hz HZ0
  clear hs hl hR hi0 hz0 hz1 hzz hZ
  go_enter Tryd.func21, Tryd.ntmps21
  go_wp2
  go_loopw [4, 5] (fun v i wr => ∃ (a : Nat) (L : List Rg), i = .int .i64 a ∧ (∃ aa cc, v = .slice aa L.length cc) ∧ Hid (a ≤ l.length) ∧ Hid (L.length ≤ a) ∧ Hid (RestR l R L a) ∧ Hid (RgOwn wr w.heap.size v L) ∧ Hid (Below w.heap.size w wr)) (fun _ i _ => l.length - (intOf i).toNat)
  case atStart => exact ⟨0, [], rfl, ⟨none, 0, rfl⟩, Nat.zero_le _, Nat.zero_le _, HR0, RgOwn.none _ _, Below.refl _ _⟩
  case round =>
    clear HR0
    obtain ⟨a, L, rfl, ⟨a4, c4, rfl⟩, HA, HLA, HRS, HO, HB⟩ := hrel
    have hA := HA.out
    have hLL := HL.out
    by_cases ha : a < l.length
    · have hIa : (a : Int) < ((mk l).size : Int) := by rw [HS.out]; omega
      have hx := run_at l a ha
      have hw1 : IntKind.i64.wrap ((a : Int) + 1) = (a : Int) + 1 := IntWalk.i64_in _ (by omega)
      rw [bt_nb] at hx
      obtain ⟨n, hn⟩ : ∃ n, n = nb l a := ⟨_, rfl⟩
      rw [← hn] at hx
      have HN := Lib.hid hn
      obtain ⟨F, hF⟩ : ∃ F, F = sgC 0 (n : Int) false noneS := ⟨_, rfl⟩
      have HF := Lib.hid hF
      have HBF : Hid (Tryd.prog.built 35 [(1, .int .u8 (n : Int))] = some F.toArray) := by show _ = _; rw [hF]; exact built_byte _
      have HFL : Hid (F.length = 259) := by show _ = _; rw [hF]; exact sgC_length _ _ _ _
      have HFS : Hid ((Tryd.prog.info? 35).map (·.size) = some F.toArray.size) := size_rga HFL.out
      have HFO : Hid (F.toArray.all (·.oneCell') = true) := by show _ = _; rw [hF]; exact all_oneCell_toArray (sgC_one _ _ _ _)
      have hh := heap_new wr (.cells Z.toArray 35)
      have HFT : Hid ((wr.alloc (.cells Z.toArray 35)).there wr.heap.size 0 F.toArray.size) := there_block hh _ (by rw [List.size_toArray, List.size_toArray, HFL.out, HZL.out]; exact Nat.le_refl _)
      have HX0 : Hid (((wr.alloc (.cells Z.toArray 35)).setCells wr.heap.size 0 F).heap[wr.heap.size]? = some (.cells F.toArray 35)) := stored_whole _ _ _ _ _ hh (by rw [List.size_toArray, HFL.out, HZL.out])
      have HBB : Hid (Below wr.heap.size wr ((wr.alloc (.cells Z.toArray 35)).setCells wr.heap.size 0 F)) := below_setCells _ _ _ _ _ _ ((Below.refl _ _).alloc (Nat.le_refl _) _) (Nat.le_refl _)
      have HSW : Hid (w.heap.size ≤ wr.heap.size ∧ wr.heap.size < ((wr.alloc (.cells Z.toArray 35)).setCells wr.heap.size 0 F).heap.size) := ⟨HB.out.size, by rw [size_setCells]; simp⟩
      have HIL := Lib.hid ha
      clear hn hF hh hA hLL
      go_upto_region 6 with (first
        | ((with_reducible show wpList _ _ _ (Oper.mk (some 19) _ _ _ _ _ :: _) _ _); go_must (refine wpList_buildTo rfl 35 #[(1, .tmp 18)] rfl (some 19) rfl F.toArray (by simpa [Act.eval] using HBF.out) ?_))
        | ((with_reducible show wpList _ _ _ (Oper.mk none (Op.store 35 _ _) _ _ _ _ :: _) _ _); go_must (refine wpList_store_mid rfl 35 (.tmp 7) (.tmp 19) rfl wr.heap.size 0 F.toArray rfl rfl HFT.out HFS.out HFO.out ?_)))
      try simp only [Act.put, List.setIfInBounds_toArray, List.set_cons_zero, List.set_cons_succ]
      generalize ((wr.alloc (.cells Z.toArray 35)).setCells wr.heap.size 0 F) = wB at HX0 HBB HSW ⊢
      obtain ⟨gS, hgS⟩ : ∃ gS, gS = wr.heap.size := ⟨_, rfl⟩
      rw [← hgS] at HX0 HSW ⊢
      have HG := Lib.hid hgS
      have HO2 : Hid (RgOwn wB w.heap.size (.slice a4 L.length c4) L) := HO.out.later HBB.out
      have HB2 : Hid (Below w.heap.size w wB) := HB.out.trans (HBB.out.mono HB.out.size)
      rw [HF.out] at HX0
      clear hgS HBF HFL HFS HFO HFT
      by_cases h91 : n = 91
      · have p91 : ((n : Int) == 91) = true := by simp [h91]
        have q92 : ((n : Int) == 92) = false := by simp [h91]
        have q63 : ((n : Int) == 63) = false := by simp [h91]
        have q42 : ((n : Int) == 42) = false := by simp [h91]
        have hLL := HL.out
        have hIL := HIL.out
        have HSG : Hid (sgnR l a = match clsR l (l.length + 1) (if bang l a then a + 2 else a + 1) noneS 0 with | none => none | some (S, b) => some (⟨4, 0, bang l a, S⟩, b)) := sgnR_91 (by rw [← HN.out]; exact h91)
        have hcl := class_any l (a + 1) wB (by omega) (by omega)
        rw [show ((a + 1 : Nat) : Int) = (a : Int) + 1 from by omega] at hcl
        have HCL := Lib.hid hcl
        have HRC : Hid (RC l (a + 1) = fun v => match clsR l (l.length + 1) (if bang l a then a + 2 else a + 1) noneS 0 with
          | none => ∃ nt S z, v = .tuple #[.agg (sgC 4 0 nt S).toArray, .int .i64 z, .bool false]
          | some (S, b) => v = .tuple #[.agg (sgC 4 0 (bang l a) S).toArray, .int .i64 (b : Int), .bool true]) := rfl
        have HOB : Hid (∀ W, Below gS wB W → RgOwn W w.heap.size (.slice a4 L.length c4) L) := fun W hW => HO.out.later (HBB.out.trans (hW.mono (Nat.le_of_eq HG.out.symm)))
        have HWR : Hid (w.heap.size ≤ gS ∧ gS < wB.heap.size) := HSW.out
        have HLX : Hid (∀ k c nt S, ((Tryd.prog.info? 35).map (·.size) = some (sgC k c nt S).toArray.size) ∧ (sgC k c nt S).toArray.all (·.oneCell') = true) := fun k c nt S => ⟨size_rga (sgC_length _ _ _ _), all_oneCell_toArray (sgC_one _ _ _ _)⟩
        have HTX : Hid (∀ (W : World) k c nt S, (W.alloc (.cells Z.toArray 35)).there W.heap.size 0 (sgC k c nt S).toArray.size) := fun W k c nt S => there_block (heap_new _ _) _ (by rw [List.size_toArray, List.size_toArray, HZL.out, sgC_length]; exact Nat.le_refl _)
        clear h91 hLL hIL hcl
        cases hcs : clsR l (l.length + 1) (if bang l a then a + 2 else a + 1) noneS 0 with
        | none =>
          have HRN : Hid (R = none) := restR_none HRS.out HIL.out (by rw [HSG.out, hcs])
          have HF4 : Hid (∀ v, RC l (a + 1) v → ∃ nt S z, v = .tuple #[.agg (sgC 4 0 nt S).toArray, .int .i64 z, .bool false]) := by
            intro v hv; rw [HRC.out] at hv; simp only [hcs] at hv; exact hv
          clear hcs
          go_wp2_with (first
            | (go_at_call 46; refine HCL.out.mono ?_; rintro e w2 ⟨v, rfl, hv, hb⟩; obtain ⟨nt, S, z, e⟩ := HF4.out v hv; subst e; have HBC := Lib.hid hb; obtain ⟨X4, hX4⟩ : ∃ X, X = sgC 4 0 nt S := ⟨_, rfl⟩; have HLX4 := Lib.hid (HLX.out 4 0 nt S); have HTX4 := Lib.hid (HTX.out w2 4 0 nt S); rw [← hX4] at HLX4 HTX4 ⊢; clear hv hb hX4)
            | ((with_reducible show wpList _ _ _ (Oper.mk none (Op.store 35 _ _) _ _ _ _ :: _) _ _); go_must (refine wpList_store_mid rfl 35 (.tmp 8) (.tmp 59) rfl w2.heap.size 0 X4.toArray rfl rfl HTX4.out HLX4.out.1 HLX4.out.2 ?_)))
          go_ret2
          exact ⟨_, rfl, HRD.out _ _ (by rw [HRN.out]; rfl), by
            have h1 : Below wB.heap.size wB ((w2.alloc (.cells Z.toArray 35)).setCells w2.heap.size 0 X4) := below_setCells _ _ _ _ _ _ (HBC.out.alloc HBC.out.size _) HBC.out.size
            simpa using HB2.out.trans (h1.mono HB2.out.size)⟩
        | some y =>
          obtain ⟨S, b⟩ := y
          have HSN : Hid (sgnR l a = some (⟨4, 0, bang l a, S⟩, b)) := by show _ = _; rw [HSG.out, hcs]
          have HBD := Lib.hid (sgnR_bd HIL.out HSN.out)
          have HF4 : Hid (∀ v, RC l (a + 1) v → v = .tuple #[.agg (sgC 4 0 (bang l a) S).toArray, .int .i64 (b : Int), .bool true]) := by
            intro v hv; rw [HRC.out] at hv; simp only [hcs] at hv; exact hv
          clear hcs
          obtain ⟨X4, hX4⟩ : ∃ X, X = sgC 4 0 (bang l a) S := ⟨_, rfl⟩
          have HLX4 := Lib.hid (HLX.out 4 0 (bang l a) S)
          have HTX4 : Hid (∀ W : World, (W.alloc (.cells Z.toArray 35)).there W.heap.size 0 X4.toArray.size) := by intro W; rw [hX4]; exact HTX.out W 4 0 _ S
          have HX4L : Hid (X4.length = 259) := by show _ = _; rw [hX4]; exact sgC_length _ _ _ _
          have HX4S : Hid ((Tryd.prog.info? 35).map (·.size) = some X4.length) := size_rg HX4L.out
          have HX4E := Lib.hid hX4
          rw [← hX4] at HLX4 HF4
          have HCC : Hid (∀ w2, Below wB.heap.size wB w2 → ((w2.alloc (.cells Z.toArray 35)).setCells w2.heap.size 0 X4).rangeAt w2.heap.size 0 X4 ∧ ((w2.alloc (.cells Z.toArray 35)).setCells w2.heap.size 0 X4).there gS 0 X4.toArray.size ∧ Below gS wB (((w2.alloc (.cells Z.toArray 35)).setCells w2.heap.size 0 X4).setCells gS 0 X4) ∧ (((w2.alloc (.cells Z.toArray 35)).setCells w2.heap.size 0 X4).setCells gS 0 X4).heap[gS]? = some (.cells X4.toArray 35)) := by
            intro w2 hb
            have hg := HWR.out
            have hne : gS ≠ w2.heap.size := by have := hb.size; omega
            have h1 : ((w2.alloc (.cells Z.toArray 35)).setCells w2.heap.size 0 X4).heap[gS]? = some (.cells (sgC 0 (n : Int) false noneS).toArray 35) := by
              rw [heap_setCells _ _ hne, Below.heap_alloc _ _ _ (by have := hb.size; omega), hb.block _ (by omega)]; exact HX0.out
            refine ⟨range_block (stored_whole _ _ _ _ _ (heap_new _ _) (by rw [List.size_toArray, HZL.out, HX4L.out])), there_block h1 _ (by rw [List.size_toArray, List.size_toArray, HX4L.out, sgC_length]; exact Nat.le_refl _), ?_, stored_whole _ _ _ _ _ h1 (by rw [List.size_toArray, HX4L.out, sgC_length])⟩
            have h2 : Below gS wB (w2.alloc (.cells Z.toArray 35)) := (hb.mono (by omega)).alloc (by have := hb.size; omega) _
            exact below_setCells _ _ _ _ _ _ (below_setCells _ _ _ _ _ _ h2 (by have := hb.size; omega)) (Nat.le_refl _)
          clear hX4
          go_upto_region 25 with (first
            | (go_at_call 46; refine HCL.out.mono ?_; rintro e w2 ⟨v, rfl, hv, hb⟩; have e := HF4.out v hv; subst e; have HC2 := Lib.hid (HCC.out w2 hb); have HTW := Lib.hid (HTX4.out w2); clear hv hb)
            | ((with_reducible show wpList _ _ _ (Oper.mk none (Op.store 35 (.tmp 8) _) _ _ _ _ :: _) _ _); go_must (refine wpList_store_mid rfl 35 (.tmp 8) (.tmp 59) rfl w2.heap.size 0 X4.toArray rfl rfl HTW.out HLX4.out.1 HLX4.out.2 ?_))
            | ((with_reducible show wpList _ _ _ (Oper.mk (some 64) _ _ _ _ _ :: _) _ _); go_must (refine wpList_load_mid rfl 35 (.tmp 8) rfl w2.heap.size 0 rfl X4 _ HC2.out.1 Tryd.underlying35 rfl HX4S.out ?_))
            | ((with_reducible show wpList _ _ _ (Oper.mk none (Op.store 35 (.tmp 7) _) _ _ _ _ :: _) _ _); go_must (refine wpList_store_mid rfl 35 (.tmp 7) (.tmp 64) rfl gS 0 X4.toArray rfl rfl HC2.out.2.1 HLX4.out.1 HLX4.out.2 ?_)))
          try simp only [Act.put, List.setIfInBounds_toArray, List.set_cons_zero, List.set_cons_succ]
          have HC3 : Hid (Below gS wB (((w2.alloc (.cells Z.toArray 35)).setCells w2.heap.size 0 X4).setCells gS 0 X4) ∧ (((w2.alloc (.cells Z.toArray 35)).setCells w2.heap.size 0 X4).setCells gS 0 X4).heap[gS]? = some (.cells X4.toArray 35)) := HC2.out.2.2
          clear HC2 HTW
          generalize (((w2.alloc (.cells Z.toArray 35)).setCells w2.heap.size 0 X4).setCells gS 0 X4) = wE at HC3 ⊢
          obtain ⟨x, hxx⟩ : ∃ x, x = (⟨4, 0, bang l a, S⟩ : Rg) := ⟨_, rfl⟩
          have HXB : Hid ((wE).heap[gS]? = some (.cells x.cs.toArray 35)) := by show _ = _; rw [hxx]; exact (by rw [HC3.out.2, HX4E.out]; rfl)
          have HB3 : Hid (Below w.heap.size w (wE)) := HB2.out.trans (HC3.out.1.mono HWR.out.1)
          have HO3 : Hid (RgOwn (wE) w.heap.size (.slice a4 L.length c4) L) := HOB.out _ HC3.out.1
          have HNX : Hid (RestR l R (L ++ [x]) (b)) := by show RestR _ _ _ _; rw [hxx]; exact restR_next HRS.out HIL.out HSN.out
          clear hxx
          obtain ⟨X, hX⟩ : ∃ X, X = x.cs := ⟨_, rfl⟩
          have HXL : Hid (X.length = 259) := by show _ = _; rw [hX]; exact Rg.cs_length _
          have HXS : Hid ((Tryd.prog.info? 35).map (·.size) = some X.length) := size_rg HXL.out
          rw [← hX] at HXB
          have HRG : Hid ((wE).rangeAt gS 0 X) := range_block HXB.out
          have HFI : Hid (Instr.fill (fun i => some (i * i0.size, i0.size)) ((Array.range (1 * i0.size)).map ((Value.agg Z.toArray).cells[· % (Value.agg Z.toArray).cells.size]!)) [(0, .agg X.toArray)] = some X.toArray) := by show _ = _; rw [HZ1.out]; exact fill_rg X HXL.out _
          have HSM : Hid ((¬ 1 * i0.size > 2 ^ 24) ∧ ¬ 1 * i0.size = 0) := by show _ ∧ _; rw [HZ1.out]; omega
          have hbA : Below (wE).heap.size (wE) ((wE).alloc (.cells X.toArray 35)) := (Below.refl _ _).alloc (Nat.le_refl _) _
          have HO4 : Hid (RgOwn ((wE).alloc (.cells X.toArray 35)) w.heap.size (.slice a4 L.length c4) L) := HO3.out.later hbA
          have HB4 : Hid (Below w.heap.size w ((wE).alloc (.cells X.toArray 35))) := HB3.out.trans (hbA.mono HB3.out.size)
          have HC4 : Hid (∀ j u, x.cs[j]? = some u → ((wE).alloc (.cells X.toArray 35)).cell? ⟨(wE).heap.size, j, none⟩ = some u) := by
            intro j u hj
            rw [cell_of_row _ _ j _ _ (0, 0) (heap_new _ _), List.getElem?_toArray, hX]; exact hj
          have HLN : Hid (L.length ≤ 100000) := (by show _ ≤ _; have := HLA.out; have := HA.out; have := HL.out; omega)
          clear hbA hX
          go_wp2_with (first
            | ((with_reducible show wpList _ _ _ (Oper.mk (some 67) _ _ _ _ _ :: _) _ _); go_must (refine wpList_load_mid rfl 35 (.tmp 7) rfl gS 0 rfl X _ HRG.out Tryd.underlying35 rfl HXS.out ?_))
            | ((with_reducible show wpList _ _ _ (Oper.mk (some 68) _ _ _ _ _ :: _) _ _); go_must (refine wpList_buildSlice rfl 30 35 1 #[(0, .tmp 67)] rfl X.toArray i0 (.agg Z.toArray) Tryd.underlying30 HI0.out HZ0.out HSM.out.1 HSM.out.2 (by simp only [List.map_toArray, List.map_cons, List.map_nil]; exact HFI.out) ?_))
            | (at_builtin; go_must (refine append_rg rfl (.tmp 66) (.tmp 68) rfl w.heap.size (.slice a4 L.length c4) L x rfl HO4.out _ 1 rfl HC4.out HLN.out HB4.out.size ?_); intro v5 w5 hO5 hG5 hV5
               have HO5 := Lib.hid hO5; have HB5 := Lib.hid (HB4.out.grown hG5 HB4.out.size (fun k hk => (HO4.out.lt k hk).1)); clear hG5 hV5 hO5))
          obtain ⟨a5, c5, rfl⟩ : ∃ aa cc, v5 = .slice aa (L ++ [x]).length cc := HO5.out.slice
          go_roundw
          case rel => exact ⟨b, L ++ [x], by go_num, ⟨_, _, rfl⟩, by show _ ≤ _; have := HBD.out; omega, by show _ ≤ _; have := HLA.out; have := HBD.out; simp; omega, HNX, HO5, HB5⟩
          case measure => have := HIL.out; have := HBD.out; simp [intOf]; omega
      · have q91 : ((n : Int) == 91) = false := by simpa using fun e => h91 (by omega)
        by_cases h63 : n = 63
        · have p63 : ((n : Int) == 63) = true := by simp [h63]
          have q92 : ((n : Int) == 92) = false := by simp [h63]
          have q42 : ((n : Int) == 42) = false := by simp [h63]
          have HSG : Hid (sgnR l a = some (⟨1, 63, false, noneS⟩, a + 1)) := sgnR_63 (by rw [← HN.out]; exact h63)
          have hc0 : wB.cell? ⟨gS, 0, none⟩ = some (.int .i64 0) := by rw [cell_of_row _ _ 0 _ _ (0, 0) HX0.out]; rfl
          have hf0 : wB.frozen? ⟨gS, 0, none⟩ = false := unfrozen HX0.out
          have HX1 : Hid ((wB.setCell ⟨gS, 0, none⟩ (.int .i64 1)).heap[gS]? = some (.cells (sgC 1 63 false noneS).toArray 35)) := by show _ = _; rw [row_set HX0.out 0, sgC_set0, h63]; rfl
          have HB1 : Hid (Below gS wB (wB.setCell ⟨gS, 0, none⟩ (.int .i64 1))) := Below.setCell (p := ⟨gS, 0, none⟩) (Below.refl _ _) (Nat.le_refl _) _
          have HWR : Hid (gS ≤ wB.heap.size ∧ w.heap.size ≤ gS) := ⟨Nat.le_of_lt HSW.out.2, HSW.out.1⟩
          have HOX : Hid (RgOwn (wB.setCell ⟨gS, 0, none⟩ (.int .i64 1)) w.heap.size (.slice a4 L.length c4) L) := by
            show RgOwn _ _ _ _
            have h1 := HBB.out.trans (HB1.out.mono (Nat.le_of_eq HG.out.symm))
            exact HO.out.later h1
          clear h63
          go_upto_region 25 with (fail)
          obtain ⟨x, hxx⟩ : ∃ x, x = (⟨1, 63, false, noneS⟩ : Rg) := ⟨_, rfl⟩
          have HXB : Hid ((wB.setCell ⟨gS, 0, none⟩ (.int .i64 1)).heap[gS]? = some (.cells x.cs.toArray 35)) := by show _ = _; rw [hxx]; exact HX1.out
          have HB3 : Hid (Below w.heap.size w (wB.setCell ⟨gS, 0, none⟩ (.int .i64 1))) := HB2.out.trans (HB1.out.mono HWR.out.2)
          have HO3 : Hid (RgOwn (wB.setCell ⟨gS, 0, none⟩ (.int .i64 1)) w.heap.size (.slice a4 L.length c4) L) := HOX.out
          have HNX : Hid (RestR l R (L ++ [x]) (a + 1)) := by show RestR _ _ _ _; rw [hxx]; exact restR_next HRS.out HIL.out HSG.out
          clear hxx
          obtain ⟨X, hX⟩ : ∃ X, X = x.cs := ⟨_, rfl⟩
          have HXL : Hid (X.length = 259) := by show _ = _; rw [hX]; exact Rg.cs_length _
          have HXS : Hid ((Tryd.prog.info? 35).map (·.size) = some X.length) := size_rg HXL.out
          rw [← hX] at HXB
          have HRG : Hid ((wB.setCell ⟨gS, 0, none⟩ (.int .i64 1)).rangeAt gS 0 X) := range_block HXB.out
          have HFI : Hid (Instr.fill (fun i => some (i * i0.size, i0.size)) ((Array.range (1 * i0.size)).map ((Value.agg Z.toArray).cells[· % (Value.agg Z.toArray).cells.size]!)) [(0, .agg X.toArray)] = some X.toArray) := by show _ = _; rw [HZ1.out]; exact fill_rg X HXL.out _
          have HSM : Hid ((¬ 1 * i0.size > 2 ^ 24) ∧ ¬ 1 * i0.size = 0) := by show _ ∧ _; rw [HZ1.out]; omega
          have hbA : Below (wB.setCell ⟨gS, 0, none⟩ (.int .i64 1)).heap.size (wB.setCell ⟨gS, 0, none⟩ (.int .i64 1)) ((wB.setCell ⟨gS, 0, none⟩ (.int .i64 1)).alloc (.cells X.toArray 35)) := (Below.refl _ _).alloc (Nat.le_refl _) _
          have HO4 : Hid (RgOwn ((wB.setCell ⟨gS, 0, none⟩ (.int .i64 1)).alloc (.cells X.toArray 35)) w.heap.size (.slice a4 L.length c4) L) := HO3.out.later hbA
          have HB4 : Hid (Below w.heap.size w ((wB.setCell ⟨gS, 0, none⟩ (.int .i64 1)).alloc (.cells X.toArray 35))) := HB3.out.trans (hbA.mono HB3.out.size)
          have HC4 : Hid (∀ j u, x.cs[j]? = some u → ((wB.setCell ⟨gS, 0, none⟩ (.int .i64 1)).alloc (.cells X.toArray 35)).cell? ⟨(wB.setCell ⟨gS, 0, none⟩ (.int .i64 1)).heap.size, j, none⟩ = some u) := by
            intro j u hj
            rw [cell_of_row _ _ j _ _ (0, 0) (heap_new _ _), List.getElem?_toArray, hX]; exact hj
          have HWS : Hid ((wB.setCell ⟨gS, 0, none⟩ (.int .i64 1)).heap.size = wB.heap.size) := (by show _ = _; first | rfl | simp)
          have HLN : Hid (L.length ≤ 100000) := (by show _ ≤ _; have := HLA.out; have := HA.out; have := HL.out; omega)
          clear hbA hX
          go_wp2_with (first
            | ((with_reducible show wpList _ _ _ (Oper.mk (some 67) _ _ _ _ _ :: _) _ _); go_must (refine wpList_load_mid rfl 35 (.tmp 7) rfl gS 0 rfl X _ HRG.out Tryd.underlying35 rfl HXS.out ?_))
            | ((with_reducible show wpList _ _ _ (Oper.mk (some 68) _ _ _ _ _ :: _) _ _); go_must (refine wpList_buildSlice rfl 30 35 1 #[(0, .tmp 67)] rfl X.toArray i0 (.agg Z.toArray) Tryd.underlying30 HI0.out HZ0.out HSM.out.1 HSM.out.2 (by simp only [List.map_toArray, List.map_cons, List.map_nil]; exact HFI.out) ?_))
            | (at_builtin; go_must (refine append_rg rfl (.tmp 66) (.tmp 68) rfl w.heap.size (.slice a4 L.length c4) L x rfl HO4.out _ 1 rfl HC4.out HLN.out HB4.out.size ?_); intro v5 w5 hO5 hG5 hV5
               have HO5 := Lib.hid hO5; have HB5 := Lib.hid (HB4.out.grown hG5 HB4.out.size (fun k hk => (HO4.out.lt k hk).1)); clear hG5 hV5 hO5))
          obtain ⟨a5, c5, rfl⟩ : ∃ aa cc, v5 = .slice aa (L ++ [x]).length cc := HO5.out.slice
          go_roundw
          case rel => exact ⟨a + 1, L ++ [x], by go_num, ⟨_, _, rfl⟩, by show _ ≤ _; have := HIL.out; omega, by show _ ≤ _; have := HLA.out; simp; omega, HNX, HO5, HB5⟩
          case measure => have := HIL.out; simp [intOf]; omega
        · have q63 : ((n : Int) == 63) = false := by simpa using fun e => h63 (by omega)
          by_cases h42 : n = 42
          · have p42 : ((n : Int) == 42) = true := by simp [h42]
            have q92 : ((n : Int) == 92) = false := by simp [h42]
            have hSP := stars_pos HIL.out (by rw [← HN.out]; exact h42)
            have HSP := Lib.hid hSP
            have HSG : Hid (sgnR l a = some (⟨if stars l a > 1 then 3 else 2, 42, false, noneS⟩, a + stars l a)) := sgnR_42 (by rw [← HN.out]; exact h42)
            have hc0 : wB.cell? ⟨gS, 0, none⟩ = some (.int .i64 0) := by rw [cell_of_row _ _ 0 _ _ (0, 0) HX0.out]; rfl
            have hf0 : wB.frozen? ⟨gS, 0, none⟩ = false := unfrozen HX0.out
            have HX1 : Hid ((wB.setCell ⟨gS, 0, none⟩ (.int .i64 2)).heap[gS]? = some (.cells (sgC (if a + 1 > a + 1 then 3 else 2) 42 false noneS).toArray 35)) := by show _ = _; rw [row_set HX0.out 0, sgC_set0, h42, if_neg (by omega)]; rfl
            have HB1 : Hid (Below gS wB (wB.setCell ⟨gS, 0, none⟩ (.int .i64 2))) := Below.setCell (p := ⟨gS, 0, none⟩) (Below.refl _ _) (Nat.le_refl _) _
            have HWR : Hid (w.heap.size ≤ gS) := HSW.out.1
            have HOB : Hid (∀ W, Below gS wB W → RgOwn W w.heap.size (.slice a4 L.length c4) L) := fun W hW => HO.out.later (HBB.out.trans (hW.mono (Nat.le_of_eq HG.out.symm)))
            have H91 : Hid (n ≠ 91) := h91
            clear h63 h42 hSP h91
            go_wp2
            go_loopw [5] (fun v wx => ∃ j : Nat, v = .int .i64 j ∧ Hid (a + 1 ≤ j) ∧ Hid (j ≤ a + stars l a) ∧ Hid (wx.heap[gS]? = some (.cells (sgC (if j > a + 1 then 3 else 2) 42 false noneS).toArray 35)) ∧ Hid (Below gS wB wx)) (fun v _ => l.length - (intOf v).toNat)
            case atStart => exact ⟨a + 1, by go_num, Nat.le_refl _, by show _ ≤ _; have := HSP.out; omega, HX1, HB1⟩
            case round =>
              clear HX0 HX1 HB1 hx hw1 hc0 hf0
              obtain ⟨j, rfl, HJ1, HJ2, HXJ, HBJ⟩ := hrel
              have hj2 := HJ2.out
              have hj1 := HJ1.out
              have hSP := HSP.out
              have hLL := HL.out
              by_cases hj : j < l.length
              · have hIj : (j : Int) < ((mk l).size : Int) := by rw [HS.out]; omega
                have hIj' : ¬ ((mk l).size : Int) ≤ (j : Int) := by rw [HS.out]; omega
                have hxj := run_at l j hj
                by_cases h42 : nb l j = 42
                · have hb42 : bt l j = 42 := by rw [bt_nb, h42]; rfl
                  rw [hb42] at hxj
                  have hjs := stars_more (by omega) hj2 hj h42
                  have HJS := Lib.hid hjs
                  have HJL := Lib.hid hj
                  have hw1 : IntKind.i64.wrap ((j : Int) + 1) = (j : Int) + 1 := IntWalk.i64_in _ (by omega)
                  have hc0 : wr.cell? ⟨gS, 0, none⟩ = some (.int .i64 (if j > a + 1 then 3 else 2)) := by rw [cell_of_row _ _ 0 _ _ (0, 0) HXJ.out]; rfl
                  have hf0 : wr.frozen? ⟨gS, 0, none⟩ = false := unfrozen HXJ.out
                  have HXN : Hid ((wr.setCell ⟨gS, 0, none⟩ (.int .i64 3)).heap[gS]? = some (.cells (sgC (if j + 1 > a + 1 then 3 else 2) 42 false noneS).toArray 35)) := by show _ = _; rw [row_set HXJ.out 0, sgC_set0, if_pos (by omega)]
                  have HBN : Hid (Below gS wB (wr.setCell ⟨gS, 0, none⟩ (.int .i64 3))) := HBJ.out.setCell (Nat.le_refl _) _
                  generalize (if j > a + 1 then (3 : Int) else 2) = kk at hc0
                  clear hj2 hj1 hSP hLL hj h42 hb42 hjs
                  go_wp2
                  go_roundw
                  case rel => exact ⟨j + 1, by go_num, by show _ ≤ _; have := HJ1.out; omega, HJS.out, HXN, HBN⟩
                  case measure => have := HJL.out; simp [intOf]; omega
                · have hq : (bt l j == 42) = false := bt_ne (n := 42) h42
                  have HJE : Hid (j = a + stars l a) := by
                    show _ = _
                    rcases Nat.lt_or_ge j (a + stars l a) with h | h
                    · exact absurd (stars_in (by omega) h).2 h42
                    · omega
                  generalize bt l j = c at *
                  clear hj2 hj1 hSP hLL hj h42
                  go_upto_region 25 with (fail)
                  obtain ⟨x, hxx⟩ : ∃ x, x = (⟨if stars l a > 1 then 3 else 2, 42, false, noneS⟩ : Rg) := ⟨_, rfl⟩
                  have HXB : Hid ((wr).heap[gS]? = some (.cells x.cs.toArray 35)) := by show _ = _; rw [hxx]; exact (by have h := HXJ.out; rw [h]; have e : (if j > a + 1 then (3 : Int) else 2) = ((if stars l a > 1 then 3 else 2 : Nat) : Int) := (by have := HJE.out; split <;> split <;> first | rfl | (exfalso; omega)); rw [e]; rfl)
                  have HB3 : Hid (Below w.heap.size w (wr)) := HB2.out.trans (HBJ.out.mono HWR.out)
                  have HO3 : Hid (RgOwn (wr) w.heap.size (.slice a4 L.length c4) L) := HOB.out _ HBJ.out
                  have HNX : Hid (RestR l R (L ++ [x]) (j)) := by show RestR _ _ _ _; rw [hxx]; exact (by rw [HJE.out]; exact restR_next HRS.out HIL.out HSG.out)
                  clear hxx
                  obtain ⟨X, hX⟩ : ∃ X, X = x.cs := ⟨_, rfl⟩
                  have HXL : Hid (X.length = 259) := by show _ = _; rw [hX]; exact Rg.cs_length _
                  have HXS : Hid ((Tryd.prog.info? 35).map (·.size) = some X.length) := size_rg HXL.out
                  rw [← hX] at HXB
                  have HRG : Hid ((wr).rangeAt gS 0 X) := range_block HXB.out
                  have HFI : Hid (Instr.fill (fun i => some (i * i0.size, i0.size)) ((Array.range (1 * i0.size)).map ((Value.agg Z.toArray).cells[· % (Value.agg Z.toArray).cells.size]!)) [(0, .agg X.toArray)] = some X.toArray) := by show _ = _; rw [HZ1.out]; exact fill_rg X HXL.out _
                  have HSM : Hid ((¬ 1 * i0.size > 2 ^ 24) ∧ ¬ 1 * i0.size = 0) := by show _ ∧ _; rw [HZ1.out]; omega
                  have hbA : Below (wr).heap.size (wr) ((wr).alloc (.cells X.toArray 35)) := (Below.refl _ _).alloc (Nat.le_refl _) _
                  have HO4 : Hid (RgOwn ((wr).alloc (.cells X.toArray 35)) w.heap.size (.slice a4 L.length c4) L) := HO3.out.later hbA
                  have HB4 : Hid (Below w.heap.size w ((wr).alloc (.cells X.toArray 35))) := HB3.out.trans (hbA.mono HB3.out.size)
                  have HC4 : Hid (∀ j u, x.cs[j]? = some u → ((wr).alloc (.cells X.toArray 35)).cell? ⟨(wr).heap.size, j, none⟩ = some u) := by
                    intro j u hj
                    rw [cell_of_row _ _ j _ _ (0, 0) (heap_new _ _), List.getElem?_toArray, hX]; exact hj
                  have HLN : Hid (L.length ≤ 100000) := (by show _ ≤ _; have := HLA.out; have := HA.out; have := HL.out; omega)
                  clear hbA hX
                  go_wp2_with (first
                    | ((with_reducible show wpList _ _ _ (Oper.mk (some 67) _ _ _ _ _ :: _) _ _); go_must (refine wpList_load_mid rfl 35 (.tmp 7) rfl gS 0 rfl X _ HRG.out Tryd.underlying35 rfl HXS.out ?_))
                    | ((with_reducible show wpList _ _ _ (Oper.mk (some 68) _ _ _ _ _ :: _) _ _); go_must (refine wpList_buildSlice rfl 30 35 1 #[(0, .tmp 67)] rfl X.toArray i0 (.agg Z.toArray) Tryd.underlying30 HI0.out HZ0.out HSM.out.1 HSM.out.2 (by simp only [List.map_toArray, List.map_cons, List.map_nil]; exact HFI.out) ?_))
                    | (at_builtin; go_must (refine append_rg rfl (.tmp 66) (.tmp 68) rfl w.heap.size (.slice a4 L.length c4) L x rfl HO4.out _ 1 rfl HC4.out HLN.out HB4.out.size ?_); intro v5 w5 hO5 hG5 hV5
                       have HO5 := Lib.hid hO5; have HB5 := Lib.hid (HB4.out.grown hG5 HB4.out.size (fun k hk => (HO4.out.lt k hk).1)); clear hG5 hV5 hO5))
                  obtain ⟨a5, c5, rfl⟩ : ∃ aa cc, v5 = .slice aa (L ++ [x]).length cc := HO5.out.slice
                  go_roundw
                  case rel => exact ⟨j, L ++ [x], by go_num, ⟨_, _, rfl⟩, by show _ ≤ _; have := HJ2.out; have := HSP.out; omega, by show _ ≤ _; have := HLA.out; have := HJ1.out; simp; omega, HNX, HO5, HB5⟩
                  case measure => have := HIL.out; have := HJ1.out; simp [intOf]; omega
              · have hIj : ¬ (j : Int) < ((mk l).size : Int) := by rw [HS.out]; omega
                have hIj' : ((mk l).size : Int) ≤ (j : Int) := by rw [HS.out]; omega
                have HJE : Hid (j = a + stars l a) := by show _ = _; omega
                clear hj2 hj1 hSP hLL hj
                go_upto_region 25 with (fail)
                obtain ⟨x, hxx⟩ : ∃ x, x = (⟨if stars l a > 1 then 3 else 2, 42, false, noneS⟩ : Rg) := ⟨_, rfl⟩
                have HXB : Hid ((wr).heap[gS]? = some (.cells x.cs.toArray 35)) := by show _ = _; rw [hxx]; exact (by have h := HXJ.out; rw [h]; have e : (if j > a + 1 then (3 : Int) else 2) = ((if stars l a > 1 then 3 else 2 : Nat) : Int) := (by have := HJE.out; split <;> split <;> first | rfl | (exfalso; omega)); rw [e]; rfl)
                have HB3 : Hid (Below w.heap.size w (wr)) := HB2.out.trans (HBJ.out.mono HWR.out)
                have HO3 : Hid (RgOwn (wr) w.heap.size (.slice a4 L.length c4) L) := HOB.out _ HBJ.out
                have HNX : Hid (RestR l R (L ++ [x]) (j)) := by show RestR _ _ _ _; rw [hxx]; exact (by rw [HJE.out]; exact restR_next HRS.out HIL.out HSG.out)
                clear hxx
                obtain ⟨X, hX⟩ : ∃ X, X = x.cs := ⟨_, rfl⟩
                have HXL : Hid (X.length = 259) := by show _ = _; rw [hX]; exact Rg.cs_length _
                have HXS : Hid ((Tryd.prog.info? 35).map (·.size) = some X.length) := size_rg HXL.out
                rw [← hX] at HXB
                have HRG : Hid ((wr).rangeAt gS 0 X) := range_block HXB.out
                have HFI : Hid (Instr.fill (fun i => some (i * i0.size, i0.size)) ((Array.range (1 * i0.size)).map ((Value.agg Z.toArray).cells[· % (Value.agg Z.toArray).cells.size]!)) [(0, .agg X.toArray)] = some X.toArray) := by show _ = _; rw [HZ1.out]; exact fill_rg X HXL.out _
                have HSM : Hid ((¬ 1 * i0.size > 2 ^ 24) ∧ ¬ 1 * i0.size = 0) := by show _ ∧ _; rw [HZ1.out]; omega
                have hbA : Below (wr).heap.size (wr) ((wr).alloc (.cells X.toArray 35)) := (Below.refl _ _).alloc (Nat.le_refl _) _
                have HO4 : Hid (RgOwn ((wr).alloc (.cells X.toArray 35)) w.heap.size (.slice a4 L.length c4) L) := HO3.out.later hbA
                have HB4 : Hid (Below w.heap.size w ((wr).alloc (.cells X.toArray 35))) := HB3.out.trans (hbA.mono HB3.out.size)
                have HC4 : Hid (∀ j u, x.cs[j]? = some u → ((wr).alloc (.cells X.toArray 35)).cell? ⟨(wr).heap.size, j, none⟩ = some u) := by
                  intro j u hj
                  rw [cell_of_row _ _ j _ _ (0, 0) (heap_new _ _), List.getElem?_toArray, hX]; exact hj
                have HLN : Hid (L.length ≤ 100000) := (by show _ ≤ _; have := HLA.out; have := HA.out; have := HL.out; omega)
                clear hbA hX
                go_wp2_with (first
                  | ((with_reducible show wpList _ _ _ (Oper.mk (some 67) _ _ _ _ _ :: _) _ _); go_must (refine wpList_load_mid rfl 35 (.tmp 7) rfl gS 0 rfl X _ HRG.out Tryd.underlying35 rfl HXS.out ?_))
                  | ((with_reducible show wpList _ _ _ (Oper.mk (some 68) _ _ _ _ _ :: _) _ _); go_must (refine wpList_buildSlice rfl 30 35 1 #[(0, .tmp 67)] rfl X.toArray i0 (.agg Z.toArray) Tryd.underlying30 HI0.out HZ0.out HSM.out.1 HSM.out.2 (by simp only [List.map_toArray, List.map_cons, List.map_nil]; exact HFI.out) ?_))
                  | (at_builtin; go_must (refine append_rg rfl (.tmp 66) (.tmp 68) rfl w.heap.size (.slice a4 L.length c4) L x rfl HO4.out _ 1 rfl HC4.out HLN.out HB4.out.size ?_); intro v5 w5 hO5 hG5 hV5
                     have HO5 := Lib.hid hO5; have HB5 := Lib.hid (HB4.out.grown hG5 HB4.out.size (fun k hk => (HO4.out.lt k hk).1)); clear hG5 hV5 hO5))
                obtain ⟨a5, c5, rfl⟩ : ∃ aa cc, v5 = .slice aa (L ++ [x]).length cc := HO5.out.slice
                go_roundw
                case rel => exact ⟨j, L ++ [x], by go_num, ⟨_, _, rfl⟩, by show _ ≤ _; have := HJ2.out; have := HSP.out; omega, by show _ ≤ _; have := HLA.out; have := HJ1.out; simp; omega, HNX, HO5, HB5⟩
                case measure => have := HIL.out; have := HJ1.out; simp [intOf]; omega
          · have q42 : ((n : Int) == 42) = false := by simpa using fun e => h42 (by omega)
            have HSG : Hid (sgnR l a = match rbN l a with | none => none | some (c, b) => some (⟨0, c, false, noneS⟩, b)) := sgnR_own (by rw [← HN.out]; exact h91) (by rw [← HN.out]; exact h63) (by rw [← HN.out]; exact h42)
            by_cases h92 : n = 92
            · have p92 : ((n : Int) == 92) = true := by simp [h92]
              have hLL := HL.out
              have hIL := HIL.out
              by_cases h1 : a + 1 < l.length
              · have hI1 : ¬ ((mk l).size : Int) ≤ (a : Int) + 1 := by rw [HS.out]; omega
                have hx1 := run_at l (a + 1) h1
                rw [show ((a + 1 : Nat) : Int) = (a : Int) + 1 from by omega, bt_nb] at hx1
                have hw2 : IntKind.i64.wrap ((a : Int) + 1 + 1) = (a : Int) + 1 + 1 := IntWalk.i64_in _ (by omega)
                obtain ⟨m, hm⟩ : ∃ m, m = nb l (a + 1) := ⟨_, rfl⟩
                rw [← hm] at hx1
                have HH1 := Lib.hid h1
                have HSN : Hid (sgnR l a = some (⟨0, m, false, noneS⟩, a + 1 + 1)) := by show _ = _; rw [HSG.out, rbN_92 HIL.out (by rw [← HN.out]; exact h92), if_pos h1, ← hm]
                have hc0 : wB.cell? ⟨gS, 1, none⟩ = some (.int .u8 (n : Int)) := by rw [cell_of_row _ _ 1 _ _ (0, 0) HX0.out]; rfl
                have hf0 : wB.frozen? ⟨gS, 1, none⟩ = false := unfrozen HX0.out
                have HX1 : Hid ((wB.setCell ⟨gS, 1, none⟩ (.int .u8 (m : Int))).heap[gS]? = some (.cells (sgC 0 (m : Int) false noneS).toArray 35)) := by show _ = _; rw [row_set HX0.out 1, sgC_set1]
                have HB1 : Hid (Below gS wB (wB.setCell ⟨gS, 1, none⟩ (.int .u8 (m : Int)))) := Below.setCell (p := ⟨gS, 1, none⟩) (Below.refl _ _) (Nat.le_refl _) _
                have HWR : Hid (gS ≤ wB.heap.size ∧ w.heap.size ≤ gS) := ⟨Nat.le_of_lt HSW.out.2, HSW.out.1⟩
                have HOX : Hid (RgOwn (wB.setCell ⟨gS, 1, none⟩ (.int .u8 (m : Int))) w.heap.size (.slice a4 L.length c4) L) := by
                  show RgOwn _ _ _ _
                  have h1 := HBB.out.trans (HB1.out.mono (Nat.le_of_eq HG.out.symm))
                  exact HO.out.later h1
                clear h91 h63 h42 h92 h1 hm hLL hIL
                go_upto_region 25 with (fail)
                obtain ⟨x, hxx⟩ : ∃ x, x = (⟨0, m, false, noneS⟩ : Rg) := ⟨_, rfl⟩
                have HXB : Hid ((wB.setCell ⟨gS, 1, none⟩ (.int .u8 (m : Int))).heap[gS]? = some (.cells x.cs.toArray 35)) := by show _ = _; rw [hxx]; exact HX1.out
                have HB3 : Hid (Below w.heap.size w (wB.setCell ⟨gS, 1, none⟩ (.int .u8 (m : Int)))) := HB2.out.trans (HB1.out.mono HWR.out.2)
                have HO3 : Hid (RgOwn (wB.setCell ⟨gS, 1, none⟩ (.int .u8 (m : Int))) w.heap.size (.slice a4 L.length c4) L) := HOX.out
                have HNX : Hid (RestR l R (L ++ [x]) (a + 1 + 1)) := by show RestR _ _ _ _; rw [hxx]; exact restR_next HRS.out HIL.out HSN.out
                clear hxx
                obtain ⟨X, hX⟩ : ∃ X, X = x.cs := ⟨_, rfl⟩
                have HXL : Hid (X.length = 259) := by show _ = _; rw [hX]; exact Rg.cs_length _
                have HXS : Hid ((Tryd.prog.info? 35).map (·.size) = some X.length) := size_rg HXL.out
                rw [← hX] at HXB
                have HRG : Hid ((wB.setCell ⟨gS, 1, none⟩ (.int .u8 (m : Int))).rangeAt gS 0 X) := range_block HXB.out
                have HFI : Hid (Instr.fill (fun i => some (i * i0.size, i0.size)) ((Array.range (1 * i0.size)).map ((Value.agg Z.toArray).cells[· % (Value.agg Z.toArray).cells.size]!)) [(0, .agg X.toArray)] = some X.toArray) := by show _ = _; rw [HZ1.out]; exact fill_rg X HXL.out _
                have HSM : Hid ((¬ 1 * i0.size > 2 ^ 24) ∧ ¬ 1 * i0.size = 0) := by show _ ∧ _; rw [HZ1.out]; omega
                have hbA : Below (wB.setCell ⟨gS, 1, none⟩ (.int .u8 (m : Int))).heap.size (wB.setCell ⟨gS, 1, none⟩ (.int .u8 (m : Int))) ((wB.setCell ⟨gS, 1, none⟩ (.int .u8 (m : Int))).alloc (.cells X.toArray 35)) := (Below.refl _ _).alloc (Nat.le_refl _) _
                have HO4 : Hid (RgOwn ((wB.setCell ⟨gS, 1, none⟩ (.int .u8 (m : Int))).alloc (.cells X.toArray 35)) w.heap.size (.slice a4 L.length c4) L) := HO3.out.later hbA
                have HB4 : Hid (Below w.heap.size w ((wB.setCell ⟨gS, 1, none⟩ (.int .u8 (m : Int))).alloc (.cells X.toArray 35))) := HB3.out.trans (hbA.mono HB3.out.size)
                have HC4 : Hid (∀ j u, x.cs[j]? = some u → ((wB.setCell ⟨gS, 1, none⟩ (.int .u8 (m : Int))).alloc (.cells X.toArray 35)).cell? ⟨(wB.setCell ⟨gS, 1, none⟩ (.int .u8 (m : Int))).heap.size, j, none⟩ = some u) := by
                  intro j u hj
                  rw [cell_of_row _ _ j _ _ (0, 0) (heap_new _ _), List.getElem?_toArray, hX]; exact hj
                have HWS : Hid ((wB.setCell ⟨gS, 1, none⟩ (.int .u8 (m : Int))).heap.size = wB.heap.size) := (by show _ = _; first | rfl | simp)
                have HLN : Hid (L.length ≤ 100000) := (by show _ ≤ _; have := HLA.out; have := HA.out; have := HL.out; omega)
                clear hbA hX
                go_wp2_with (first
                  | ((with_reducible show wpList _ _ _ (Oper.mk (some 67) _ _ _ _ _ :: _) _ _); go_must (refine wpList_load_mid rfl 35 (.tmp 7) rfl gS 0 rfl X _ HRG.out Tryd.underlying35 rfl HXS.out ?_))
                  | ((with_reducible show wpList _ _ _ (Oper.mk (some 68) _ _ _ _ _ :: _) _ _); go_must (refine wpList_buildSlice rfl 30 35 1 #[(0, .tmp 67)] rfl X.toArray i0 (.agg Z.toArray) Tryd.underlying30 HI0.out HZ0.out HSM.out.1 HSM.out.2 (by simp only [List.map_toArray, List.map_cons, List.map_nil]; exact HFI.out) ?_))
                  | (at_builtin; go_must (refine append_rg rfl (.tmp 66) (.tmp 68) rfl w.heap.size (.slice a4 L.length c4) L x rfl HO4.out _ 1 rfl HC4.out HLN.out HB4.out.size ?_); intro v5 w5 hO5 hG5 hV5
                     have HO5 := Lib.hid hO5; have HB5 := Lib.hid (HB4.out.grown hG5 HB4.out.size (fun k hk => (HO4.out.lt k hk).1)); clear hG5 hV5 hO5))
                obtain ⟨a5, c5, rfl⟩ : ∃ aa cc, v5 = .slice aa (L ++ [x]).length cc := HO5.out.slice
                go_roundw
                case rel => exact ⟨a + 1 + 1, L ++ [x], by go_num, ⟨_, _, rfl⟩, by show _ ≤ _; have := HH1.out; omega, by show _ ≤ _; have := HLA.out; have := HH1.out; simp; omega, HNX, HO5, HB5⟩
                case measure => have := HIL.out; have := HH1.out; simp [intOf]; omega
              · have hI1 : ((mk l).size : Int) ≤ (a : Int) + 1 := by rw [HS.out]; omega
                have HRN : Hid (R = none) := restR_none HRS.out HIL.out (by rw [HSG.out, rbN_92 HIL.out (by rw [← HN.out]; exact h92), if_neg h1])
                clear h91 h63 h42 h92 h1 hLL hIL
                go_wp2
                go_ret2
                exact ⟨_, rfl, HRD.out _ _ (by rw [HRN.out]; rfl), HB2.out⟩
            · have q92 : ((n : Int) == 92) = false := by simpa using fun e => h92 (by omega)
              have HSN : Hid (sgnR l a = some (⟨0, n, false, noneS⟩, a + 1)) := by show _ = _; rw [HSG.out, rbN_other HIL.out (by rw [← HN.out]; exact h92), ← HN.out]
              clear h91 h63 h42 h92
              go_upto_region 25 with (fail)
              obtain ⟨x, hxx⟩ : ∃ x, x = (⟨0, n, false, noneS⟩ : Rg) := ⟨_, rfl⟩
              have HXB : Hid ((wB).heap[gS]? = some (.cells x.cs.toArray 35)) := by show _ = _; rw [hxx]; exact HX0.out
              have HB3 : Hid (Below w.heap.size w (wB)) := HB2.out
              have HO3 : Hid (RgOwn (wB) w.heap.size (.slice a4 L.length c4) L) := HO2.out
              have HNX : Hid (RestR l R (L ++ [x]) (a + 1)) := by show RestR _ _ _ _; rw [hxx]; exact restR_next HRS.out HIL.out HSN.out
              clear hxx
              obtain ⟨X, hX⟩ : ∃ X, X = x.cs := ⟨_, rfl⟩
              have HXL : Hid (X.length = 259) := by show _ = _; rw [hX]; exact Rg.cs_length _
              have HXS : Hid ((Tryd.prog.info? 35).map (·.size) = some X.length) := size_rg HXL.out
              rw [← hX] at HXB
              have HRG : Hid ((wB).rangeAt gS 0 X) := range_block HXB.out
              have HFI : Hid (Instr.fill (fun i => some (i * i0.size, i0.size)) ((Array.range (1 * i0.size)).map ((Value.agg Z.toArray).cells[· % (Value.agg Z.toArray).cells.size]!)) [(0, .agg X.toArray)] = some X.toArray) := by show _ = _; rw [HZ1.out]; exact fill_rg X HXL.out _
              have HSM : Hid ((¬ 1 * i0.size > 2 ^ 24) ∧ ¬ 1 * i0.size = 0) := by show _ ∧ _; rw [HZ1.out]; omega
              have hbA : Below (wB).heap.size (wB) ((wB).alloc (.cells X.toArray 35)) := (Below.refl _ _).alloc (Nat.le_refl _) _
              have HO4 : Hid (RgOwn ((wB).alloc (.cells X.toArray 35)) w.heap.size (.slice a4 L.length c4) L) := HO3.out.later hbA
              have HB4 : Hid (Below w.heap.size w ((wB).alloc (.cells X.toArray 35))) := HB3.out.trans (hbA.mono HB3.out.size)
              have HC4 : Hid (∀ j u, x.cs[j]? = some u → ((wB).alloc (.cells X.toArray 35)).cell? ⟨(wB).heap.size, j, none⟩ = some u) := by
                intro j u hj
                rw [cell_of_row _ _ j _ _ (0, 0) (heap_new _ _), List.getElem?_toArray, hX]; exact hj
              have HWS : Hid ((wB).heap.size = wB.heap.size) := (by show _ = _; first | rfl | simp)
              have HLN : Hid (L.length ≤ 100000) := (by show _ ≤ _; have := HLA.out; have := HA.out; have := HL.out; omega)
              clear hbA hX
              go_wp2_with (first
                | ((with_reducible show wpList _ _ _ (Oper.mk (some 67) _ _ _ _ _ :: _) _ _); go_must (refine wpList_load_mid rfl 35 (.tmp 7) rfl gS 0 rfl X _ HRG.out Tryd.underlying35 rfl HXS.out ?_))
                | ((with_reducible show wpList _ _ _ (Oper.mk (some 68) _ _ _ _ _ :: _) _ _); go_must (refine wpList_buildSlice rfl 30 35 1 #[(0, .tmp 67)] rfl X.toArray i0 (.agg Z.toArray) Tryd.underlying30 HI0.out HZ0.out HSM.out.1 HSM.out.2 (by simp only [List.map_toArray, List.map_cons, List.map_nil]; exact HFI.out) ?_))
                | (at_builtin; go_must (refine append_rg rfl (.tmp 66) (.tmp 68) rfl w.heap.size (.slice a4 L.length c4) L x rfl HO4.out _ 1 rfl HC4.out HLN.out HB4.out.size ?_); intro v5 w5 hO5 hG5 hV5
                   have HO5 := Lib.hid hO5; have HB5 := Lib.hid (HB4.out.grown hG5 HB4.out.size (fun k hk => (HO4.out.lt k hk).1)); clear hG5 hV5 hO5))
              obtain ⟨a5, c5, rfl⟩ : ∃ aa cc, v5 = .slice aa (L ++ [x]).length cc := HO5.out.slice
              go_roundw
              case rel => exact ⟨a + 1, L ++ [x], by go_num, ⟨_, _, rfl⟩, by show _ ≤ _; have := HIL.out; omega, by show _ ≤ _; have := HLA.out; simp; omega, HNX, HO5, HB5⟩
              case measure => have := HIL.out; simp [intOf]; omega
    · have hIa : ¬ (a : Int) < ((mk l).size : Int) := by rw [HS.out]; omega
      have HRL : Hid (R = some L) := restR_stop HRS.out ha
      clear hA hLL ha
      go_wp2
      go_ret2
      exact ⟨_, rfl, HRD.out _ _ (by rw [HRL.out]; exact ⟨_, _, rfl, HO.out⟩), HB.out⟩
end Go.Proofs.YtokocfoeohddfaaDoor.Pa
