/- sha's Write. -/
import Derived.Test.YtkppnbehkmpogaaDoorSState
namespace Go.Proofs.YtkppnbehkmpogaaDoor.Sha
open Go.RowKit Go.Proofs.ShaMath Go.Proofs.CopyW
set_option linter.unusedVariables false
set_option maxRecDepth 100000

theorem rem64 (n : Nat) : Int.tmod (n : Int) 64 = ((n % 64 : Nat) : Int) := by
  rw [Int.tmod_eq_emod_of_nonneg (by omega)]; omega

/-- the bytes from a place on, apart from a block -/
theorem from_src {w : World} {g : Nat} {a : Option Addr} {l : List Int} (h : Src w g a l) (cap n : Nat) (hn : n = l.length) (hcap : n ≤ cap) (hnil : a = none → cap = 0) (p m : Nat) (x : Int) (hx : x = ((p : Nat) : Int)) (hm : p + m = n) :
    ∃ a', (∀ W, (Instr.slice 22 (.slice a n cap) (some (.int .i64 x)) none none).run Tryd.prog W = .ok (.slice a' m (cap - p)) W) ∧ Src w g a' (l.drop p) ∧ (a' = none → cap - p = 0) := by
  subst hn hx
  refine ⟨(if cap = p then a else a.map (·.add (p * 1))), fun W => ?_, ⟨h.1.drop p, fun hne => ?_⟩, ?_⟩
  · have hr := run_slice_l (P := Tryd.prog) (w := W) 22 a l.length cap (by rw [hel]; exact Tryd.underlying22) .i64 (p : Int) (by omega) (by omega)
    have hsz : (sizeOf (Tryd.prog.elem 22)).run Tryd.prog W = .ok 1 W := by rw [hel]; rfl
    rw [hsz] at hr
    have e2 : l.length - p = m := by omega
    simp only [Result.andThen, sliced, Int.toNat_natCast, e2] at hr
    exact hr
  · have hl : l ≠ [] := by intro e; subst e; simp at hne
    have hpl : p < l.length := by
      rcases Nat.lt_or_ge p l.length with h1 | h1
      · exact h1
      · exact absurd (List.drop_of_length_le h1) hne
    obtain ⟨b, off, rfl, hn, hc⟩ := h.2 hl
    refine ⟨b, off + p, ?_, hn, fun i hi => ?_⟩
    · rw [if_neg (by omega)]
      by_cases hp : p = 0
      · subst hp; simp [Addr.add]
      · simp [Addr.add, hp]
    · rw [List.length_drop] at hi
      rw [List.getD_eq_getElem?_getD, List.getElem?_drop, ← List.getD_eq_getElem?_getD, Nat.add_assoc]
      exact hc (p + i) (by omega)
  · intro h0
    split at h0
    · omega
    · simp at h0; have := hnil h0; omega

set_option maxHeartbeats 4000000 in
set_option maxRecDepth 1000000 in
theorem write_walk (a : Option Addr) (cap g : Nat) (K l m : List Int) (w : World) (hW : Wrote w g K l) (hT : Tab w 2 K) (hg1 : g ≠ 2) (hS : Src w g a m) (hnil : a = none → cap = 0) (hcap : m.length ≤ cap) (hcb : cap ≤ 9223372036854775807) (hl : l.length + m.length ≤ 1000000000000) :
    Calls Tryd.prog 79 #[.pointer (some ⟨g, 0, none⟩), .slice a m.length cap] w fun e w' => e = .returned (.tuple #[]) ∧ Wrote w' g K (l ++ m) ∧ But w w' g := by
  have HW := Lib.hid hW
  have HT := Lib.hid hT
  have HS := Lib.hid hS
  obtain ⟨M, hM⟩ : ∃ M, M = m.length := ⟨_, rfl⟩
  rw [← hM] at hl hcap ⊢
  have HM := Lib.hid hM
  clear hW hT hS hM
  go_enter Tryd.func79, Tryd.ntmps79
  go_wp2
  go_loopw [1] (fun v wr => ∃ (k : Nat) (a' : Option Addr) (cap' : Nat), v = .slice a' (M - k) cap' ∧ k ≤ M ∧ (a' = none → cap' = 0) ∧ M - k ≤ cap' ∧ cap' ≤ cap ∧ Hid (Wrote wr g K (l ++ m.take k)) ∧ Hid (Src wr g a' (m.drop k)) ∧ Hid (But w wr g)) (fun v _ => lenV v)
  case atStart => exact ⟨0, a, cap, rfl, by omega, hnil, hcap, Nat.le_refl _, by simpa using HW, by simpa using HS, But.refl _ _⟩
  case round =>
    obtain ⟨k, a', cap', rfl, hk, hnil', hcap', hcc, HW', HS', HB'⟩ := hrel
    clear HW HS hnil hcap
    obtain ⟨W', hWe⟩ : ∃ W', W' = wr := ⟨_, rfl⟩
    by_cases hz : M - k = 0
    · go_wp2
      go_end0
      have hkM : k = M := by omega
      have h1 := HW'.out
      rw [hkM, HM.out, List.take_length] at h1
      exact ⟨rfl, h1, HB'.out⟩
    · obtain ⟨R, hR, hRo, hR3, hC⟩ := HW'.out
      have hL : (l ++ m.take k).length = l.length + k := by rw [List.length_append, List.length_take, ← HM.out]; omega
      obtain ⟨L, hLd⟩ : ∃ L, L = l ++ m.take k := ⟨_, rfl⟩
      obtain ⟨n, hn⟩ : ∃ n, n = L.length := ⟨_, rfl⟩
      obtain ⟨D, hD⟩ : ∃ D, D = m.drop k := ⟨_, rfl⟩
      obtain ⟨d, hd⟩ : ∃ d, d = M - k := ⟨_, rfl⟩
      have hDl : D.length = d := by rw [hD, List.length_drop, hd, HM.out]
      rw [← hLd] at hR3 hC hL
      rw [← hn] at hR3 hC hL
      rw [← hD] at HS'
      rw [← hd] at hz hcap' ⊢
      have HLD := Lib.hid hLd
      have HD := Lib.hid hD
      have HDL := Lib.hid hDl
      have HN := Lib.hid hn
      have HC := Lib.hid hC
      have HR := Lib.hid hR
      have HRO := Lib.hid hRo
      have HR3 := Lib.hid hR3
      have hsz := hC.size hR
      have hd0 : 0 < (d : Int) := by omega
      have hdM : k + d = M := by omega
      have hnb : n ≤ 1000000000000 := by omega
      have hnd : n + d ≤ 1000000000000 := by omega
      have hrm := Lib.hid (rem64 n)
      have HLEN := Lib.hid hL
      clear hL
      clear hC hR hRo hR3 hLd hn hD hd hDl HW' hWe W'
      obtain ⟨S, hSd⟩ : ∃ S, S = run K L (n / 64) := ⟨_, rfl⟩
      rw [← hSd] at HC
      have HSD := Lib.hid hSd
      clear hSd
      by_cases hat : n % 64 = 0 ∧ 64 ≤ d
      · obtain ⟨hat0, hd64⟩ := hat
        have hrm0 : Int.tmod (n : Int) 64 = 0 := by rw [hrm.out]; omega
        have hby := HS'.out.bytes
        obtain ⟨a2, hcut, hsl2⟩ := run_first hby cap' (by rw [HDL.out]; exact hcap') hnil' 64 (by rw [HDL.out]; exact hd64)
        obtain ⟨a3, hcut3, hsl3, hnil3⟩ := from_src HS'.out cap' D.length rfl (by rw [HDL.out]; exact hcap') hnil' 64 (d - 64) 64 (by simp) (by rw [HDL.out]; omega)
        rw [HDL.out] at hcut hcut3
        obtain ⟨ax, cx, ex, hby2, _, _⟩ := hsl2
        obtain ⟨B, hB⟩ : ∃ B, B = D.take 64 := ⟨_, rfl⟩
        have hBl : B.length = 64 := by rw [hB, List.length_take, HDL.out]; omega
        rw [← hB] at ex hby2
        rw [hBl] at ex
        have e1 : a2 = ax := by injection ex
        subst e1
        obtain ⟨b, off, rfl, hcB⟩ := hby2.2 (by intro h0; rw [h0] at hBl; simp at hBl)
        obtain ⟨S', hS'⟩ : ∃ S', S' = mix K S B := ⟨_, rfl⟩
        have hTr : Tab wr 2 K := by
          obtain ⟨t1, t2, t3, t4⟩ := HT.out
          exact ⟨Nat.lt_of_lt_of_le t1 HB'.out.2.2.2.1, t2, t3, fun j hj => HB'.out.cell (Ne.symm hg1) (t4 j hj)⟩
        have HMX : Hid (Calls Tryd.prog 87 #[.agg #[.int .u32 S.a, .int .u32 S.b, .int .u32 S.c, .int .u32 S.d, .int .u32 S.e, .int .u32 S.f, .int .u32 S.g, .int .u32 S.h], .slice (some ⟨b, off, none⟩) 64 cap'] wr.drew fun e w' => e = .returned (.agg #[.int .u32 S'.a, .int .u32 S'.b, .int .u32 S'.c, .int .u32 S'.d, .int .u32 S'.e, .int .u32 S'.f, .int .u32 S'.g, .int .u32 S'.h]) ∧ Below wr.heap.size wr w' ∧ StC w' g S R n) := by
          refine (mixed_walk b off cap' B S K wr.drew (by rw [HSD.out]; exact run_ok _ _ _) hBl hby2.1 hTr (fun i hi => hcB i (by omega))).mono ?_
          rintro e w5 ⟨rfl, hb5⟩
          rw [hS']
          have hb6 : Below wr.heap.size wr w5 := (Below.drew (Below.refl _ _)).trans hb5
          exact ⟨rfl, hb6, HC.out.later hb6⟩
        have HS3 := Lib.hid hsl3
        have HNIL3 := Lib.hid hnil3
        have HBB := Lib.hid hB
        have HBL := Lib.hid hBl
        have HSS' := Lib.hid hS'
        have hcut' : ∀ W, (Instr.slice 22 (.slice a' d cap') none (some (.int .i64 64)) none).run Tryd.prog W = .ok (.slice (some ⟨b, off, none⟩) 64 cap') W := hcut
        obtain ⟨c0, c1, c2, c3, c4, c5, c6, c7⟩ := HC.out.words
        clear hcut hby hsl3 hnil3 hB hBl hS' hTr ex hby2 hcB
        go_wp2
        go_region_with (go_at_call 87; refine HMX.out.mono ?_; rintro e w5 ⟨rfl, hb5, hC5⟩; obtain ⟨x0, x1, x2, x3, x4, x5, x6, x7⟩ := hC5.words; obtain ⟨f0, f1, f2, f3, f4, f5, f6, f7⟩ := (⟨hC5.free 0, hC5.free 1, hC5.free 2, hC5.free 3, hC5.free 4, hC5.free 5, hC5.free 6, hC5.free 7⟩ : w5.frozen? ⟨g, 0, none⟩ = false ∧ w5.frozen? ⟨g, 1, none⟩ = false ∧ w5.frozen? ⟨g, 2, none⟩ = false ∧ w5.frozen? ⟨g, 3, none⟩ = false ∧ w5.frozen? ⟨g, 4, none⟩ = false ∧ w5.frozen? ⟨g, 5, none⟩ = false ∧ w5.frozen? ⟨g, 6, none⟩ = false ∧ w5.frozen? ⟨g, 7, none⟩ = false); have HC5 := Lib.hid hC5; have HB5 := Lib.hid hb5; clear hC5 hb5)
        change Exit.then _ _ Exit.normal _ (put8 w5 g S')
        have hC6 := HC5.out.with8 S'
        have HB6 : Hid (But w (put8 w5 g S') g) := (HB'.out.trans (But.of_below HB5.out)).trans (But.with8 _ _ _)
        have HBW : Hid (But wr (put8 w5 g S') g) := (But.of_below HB5.out).trans (But.with8 _ _ _)
        clear x0 x1 x2 x3 x4 x5 x6 x7 f0 f1 f2 f3 f4 f5 f6 f7 c0 c1 c2 c3 c4 c5 c6 c7 hsz HMX
        generalize put8 w5 g S' = w6 at hC6 HB6 HBW ⊢
        have s6 := hC6.size HR.out
        have g6 := hC6.free 72
        have HC6 := Lib.hid hC6
        have hadd : (n : Int) + 64 = ((n + 64 : Nat) : Int) := by omega
        have HADD := Lib.hid hadd
        clear hC6 hcut' hadd
        go_wp2
        go_roundw
        case rel =>
          have hd3 : M - (k + 64) = d - 64 := by omega
          have hDk : m.drop (k + 64) = D.drop 64 := by rw [HD.out, List.drop_drop]
          have hLk : l ++ m.take (k + 64) = L ++ B := by
            rw [HLD.out, HBB.out, HD.out, List.append_assoc, List.take_add]
          refine ⟨k + 64, a3, cap' - 64, by rw [hd3], by omega, HNIL3.out, by omega, by omega, ?_, ?_, ?_⟩
          · rw [hLk]
            have h7 := HC6.out.setSize HR.out (n + 64)
            rw [HSS'.out, HSD.out, HN.out] at h7
            rw [HADD.out, HN.out]
            exact wrote_block (by rw [← HN.out]; exact hat0) HBL.out HR.out HRO.out h7
          · rw [hDk]
            exact (HS3.out.but HBW.out).but (But.setCell _ _ _ _)
          · exact HB6.out.trans (But.setCell _ _ _ _)
        case measure => simp [lenV]; omega
      · obtain ⟨t, ht⟩ : ∃ t, t = n % 64 := ⟨_, rfl⟩
        have ht64 : t < 64 := by omega
        have htm : Int.tmod (n : Int) 64 = (t : Int) := by rw [hrm.out, ht]
        obtain ⟨c, hc⟩ : ∃ c, c = min d (64 - t) := ⟨_, rfl⟩
        have hcd : c ≤ d := by omega
        have hct : t + c ≤ 64 := by omega
        have hc1 : 1 ≤ c := by omega
        have hend : t + c < 64 → c = d := by omega
        obtain ⟨a3, hcut3, hsl3, hnil3⟩ := from_src HS'.out cap' D.length rfl (by rw [HDL.out]; exact hcap') hnil' c (d - c) c (by simp) (by rw [HDL.out]; omega)
        rw [HDL.out] at hcut3
        rw [← ht] at hat HR3
        have HTT := Lib.hid ht
        have HCC := Lib.hid hc
        have HS3 := Lib.hid hsl3
        have HNIL3 := Lib.hid hnil3
        have HEND := Lib.hid hend
        have q0 : (0 : Int) ≤ (t : Int) := by omega
        have q1 : (t : Int) ≤ 64 := by omega
        clear hsl3 hnil3 ht hc hend
        obtain ⟨C, hC⟩ : ∃ C, C = D.take c := ⟨_, rfl⟩
        have hCl : C.length = c := by rw [hC, List.length_take, HDL.out]; omega
        have hCo : Oct C := by rw [hC]; exact HS'.out.1.take _
        have hs1 : (Tryd.prog.info? 5).map (·.size) = some 1 := by kernel_rfl
        have K2 : Hid ((C.map (Value.int .u8)).length = Nat.min d (64 - t)) := by show _ = _; rw [List.length_map, hCl]; exact HCC.out
        have K3 : Hid (0 < (C.map (Value.int .u8)).length → (some (⟨g, 8 + t, none⟩ : Addr)) = some ⟨g, 8 + t, none⟩ ∧ ∃ ad, a' = some ad ∧ ∀ j v, (C.map (Value.int .u8))[j]? = some v → wr.cell? (ad.add j) = some v) := by
          intro hpos
          refine ⟨rfl, ?_⟩
          have hne : D ≠ [] := by intro e; rw [hC, e] at hpos; simp at hpos
          obtain ⟨b, off, rfl, hnb, hcc⟩ := HS'.out.2 hne
          refine ⟨_, rfl, Bytes.at (l := C) fun i hi => ?_⟩
          rw [hCl] at hi
          rw [hC, List.getD_eq_getElem?_getD, List.getElem?_take, if_pos hi, ← List.getD_eq_getElem?_getD]
          exact hcc i (by rw [HDL.out]; omega)
        have K4 : Hid (8 + t + (C.map (Value.int .u8)).length ≤ (stc S R n).length) := by
          show _ ≤ _
          rw [List.length_map, hCl, stc]; simp [St.list, HR.out]; omega
        have K5 := Lib.hid (oneCells C)
        have hadd : (n : Int) + (c : Int) = ((n + c : Nat) : Int) := by omega
        have HADD := Lib.hid hadd
        have HCL := Lib.hid hCl
        have HCO := Lib.hid hCo
        have HCC2 := Lib.hid hC
        have hsplice := Lib.hid (stc_splice S R n t C (by rw [hCl, HR.out]; omega))
        have hlaylen : (lay R t C).length = 64 := by rw [lay_length _ _ _ (by rw [hCl, HR.out]; omega), HR.out]
        have HLAY := Lib.hid hlaylen
        have hTr : Tab wr 2 K := by
          obtain ⟨t1, t2, t3, t4⟩ := HT.out
          exact ⟨Nat.lt_of_lt_of_le t1 HB'.out.2.2.2.1, t2, t3, fun j hj => HB'.out.cell (Ne.symm hg1) (t4 j hj)⟩
        have HTR := Lib.hid hTr
        clear hC hCl hCo hadd hlaylen hTr
        obtain ⟨Y, hY⟩ : ∃ Y, Y = lay R t C := ⟨_, rfl⟩
        have hYo : Oct Y := by rw [hY]; exact (HRO.out.take _).append (HCO.out.append (HRO.out.drop _))
        rw [← hY] at HLAY hsplice
        have HY := Lib.hid hY
        have HYO := Lib.hid hYo
        have hgg : (((t : Int) == 0) = true ∧ decide ((64 : Int) ≤ (d : Int)) = false) ∨ ((t : Int) == 0) = false := by
          by_cases ht0 : t = 0
          · exact .inl ⟨by simp [ht0], by simp; omega⟩
          · exact .inr (by simp [ht0])
        clear hat hY hYo
        rcases hgg with ⟨g1, g2⟩ | g1
        all_goals
          go_wp2_with ((with_reducible show wpList _ _ _ (Oper.mk (some 48) _ _ _ _ _ :: _) _ _); go_must (refine copy_row rfl (.tmp 46) (.tmp 47) 22 22 rfl 5 Tryd.underlying22 hs1 (some ⟨g, 8 + t, none⟩) a' (64 - t) (64 - t) d cap' rfl rfl g (8 + t) (stc S R n) 104 HC.out (C.map (Value.int .u8)) K2.out K3.out K4.out K5.out ?_))
          intro w4 HH4 HO4
          have hC4 : StC w4 g S Y n := by have h := HH4.out; rw [hsplice.out] at h; exact h
          have s4 := hC4.size HLAY.out
          have g4 := hC4.free 72
          have HC4 := Lib.hid hC4
          have hlc : (C.map (Value.int .u8)).length = c := by rw [List.length_map, HCL.out]
          first | rw [hlc] | rw [HCL.out] | simp only [List.length_map, HCL.out]
          have HB4 : Hid (But w w4 g) := HB'.out.trans (But.of_only HO4.out)
          have HBW : Hid (But wr w4 g) := But.of_only HO4.out
          clear hC4 hlc HH4 HO4 hsz K2 K3 K4 K5
          have hd3 : M - (k + c) = d - c := by omega
          have hDk : m.drop (k + c) = D.drop c := by rw [HD.out, List.drop_drop]
          have hLk : l ++ m.take (k + c) = L ++ C := by
            rw [HLD.out, HCC2.out, HD.out, List.append_assoc, List.take_add]
          have HD3 := Lib.hid hd3
          have HDK := Lib.hid hDk
          have HLK := Lib.hid hLk
          clear hd3 hDk hLk
          by_cases hfull : t + c = 64
          · have g3 : ((t : Int) + (c : Int) == 64) = true := by simp; omega
            go_wp2
            rw [HADD.out]
            have hC5 := HC4.out.setSize HLAY.out (n + c)
            have HB5 : Hid (But w (w4.setCell ⟨g, 72, none⟩ (.int .i64 ((n + c : Nat) : Int))) g) := HB4.out.trans (But.setCell _ _ _ _)
            have HBW5 : Hid (But wr (w4.setCell ⟨g, 72, none⟩ (.int .i64 ((n + c : Nat) : Int))) g) := HBW.out.trans (But.setCell _ _ _ _)
            generalize w4.setCell ⟨g, 72, none⟩ (.int .i64 ((n + c : Nat) : Int)) = w5 at hC5 HB5 HBW5 ⊢
            obtain ⟨S', hS'⟩ : ∃ S', S' = mix K S Y := ⟨_, rfl⟩
            have HMX : Hid (Calls Tryd.prog 87 #[.agg #[.int .u32 S.a, .int .u32 S.b, .int .u32 S.c, .int .u32 S.d, .int .u32 S.e, .int .u32 S.f, .int .u32 S.g, .int .u32 S.h], .slice (some ⟨g, 8, none⟩) 64 64] w5.drew fun e w' => e = .returned (.agg #[.int .u32 S'.a, .int .u32 S'.b, .int .u32 S'.c, .int .u32 S'.d, .int .u32 S'.e, .int .u32 S'.f, .int .u32 S'.g, .int .u32 S'.h]) ∧ Below w5.heap.size w5 w' ∧ StC w' g S Y (n + c)) := by
              have hT5 : Tab w5.drew 2 K := by
                obtain ⟨t1, t2, t3, t4⟩ := HTR.out
                exact ⟨Nat.lt_of_lt_of_le t1 HBW5.out.2.2.2.1, t2, t3, fun j hj => HBW5.out.cell (Ne.symm hg1) (t4 j hj)⟩
              refine (mixed_walk g 8 64 Y S K w5.drew (by rw [HSD.out]; exact run_ok _ _ _) HLAY.out HYO.out hT5 (fun i hi => hC5.rest i (by rw [HLAY.out]; exact hi))).mono ?_
              rintro e w6 ⟨rfl, hb6⟩
              rw [hS']
              have hb7 : Below w5.heap.size w5 w6 := (Below.drew (Below.refl _ _)).trans hb6
              exact ⟨rfl, hb7, hC5.later hb7⟩
            have HSS' := Lib.hid hS'
            obtain ⟨c0, c1, c2, c3, c4, c5, c6, c7⟩ := hC5.words
            clear hS' hC5
            go_region_with (go_at_call 87; refine HMX.out.mono ?_; rintro e w6 ⟨rfl, hb6, hC6⟩; obtain ⟨x0, x1, x2, x3, x4, x5, x6, x7⟩ := hC6.words; obtain ⟨f0, f1, f2, f3, f4, f5, f6, f7⟩ := (⟨hC6.free 0, hC6.free 1, hC6.free 2, hC6.free 3, hC6.free 4, hC6.free 5, hC6.free 6, hC6.free 7⟩ : w6.frozen? ⟨g, 0, none⟩ = false ∧ w6.frozen? ⟨g, 1, none⟩ = false ∧ w6.frozen? ⟨g, 2, none⟩ = false ∧ w6.frozen? ⟨g, 3, none⟩ = false ∧ w6.frozen? ⟨g, 4, none⟩ = false ∧ w6.frozen? ⟨g, 5, none⟩ = false ∧ w6.frozen? ⟨g, 6, none⟩ = false ∧ w6.frozen? ⟨g, 7, none⟩ = false); have HC6 := Lib.hid hC6; have HB6 := Lib.hid hb6; clear hC6 hb6)
            rw [show (((((((w6.setCell ⟨g, 0, none⟩ (.int .u32 S'.a)).setCell ⟨g, 1, none⟩ (.int .u32 S'.b)).setCell ⟨g, 2, none⟩ (.int .u32 S'.c)).setCell ⟨g, 3, none⟩ (.int .u32 S'.d)).setCell ⟨g, 4, none⟩ (.int .u32 S'.e)).setCell ⟨g, 5, none⟩ (.int .u32 S'.f)).setCell ⟨g, 6, none⟩ (.int .u32 S'.g)).setCell ⟨g, 7, none⟩ (.int .u32 S'.h) = put8 w6 g S' from rfl]
            have HC7 := Lib.hid (HC6.out.with8 S')
            have HB7 : Hid (But w (put8 w6 g S') g) := (HB5.out.trans (But.of_below HB6.out)).trans (But.with8 _ _ _)
            have HBW7 : Hid (But wr (put8 w6 g S') g) := (HBW5.out.trans (But.of_below HB6.out)).trans (But.with8 _ _ _)
            clear x0 x1 x2 x3 x4 x5 x6 x7 f0 f1 f2 f3 f4 f5 f6 f7 c0 c1 c2 c3 c4 c5 c6 c7 HMX
            generalize put8 w6 g S' = w7 at HC7 HB7 HBW7 ⊢
            try go_wp2
            go_roundw
            case rel =>
              refine ⟨k + c, a3, cap' - c, by rw [HD3.out], by omega, HNIL3.out, by omega, by omega, ?_, ?_, HB7⟩
              · rw [HLK.out]
                have h7 := HC7.out
                have h3 := HR3.out
                rw [HSS'.out, HSD.out, HY.out, HTT.out, HN.out, ← HCL.out] at h7
                rw [HTT.out, HN.out] at h3
                exact wrote_full HR.out HRO.out HCO.out h3 (by rw [HCL.out, ← HN.out, ← HTT.out]; exact hfull) h7
              · rw [HDK.out]
                exact HS3.out.but HBW7.out
            case measure => simp [lenV]; omega
          · have g3 : ((t : Int) + (c : Int) == 64) = false := by simp; omega
            go_wp2
            go_roundw
            case rel =>
              refine ⟨k + c, a3, cap' - c, by rw [HD3.out], by omega, HNIL3.out, by omega, by omega, ?_, ?_, ?_⟩
              · rw [HLK.out, HADD.out]
                have h7 := HC4.out.setSize HLAY.out (n + c)
                have h3 := HR3.out
                rw [HSD.out, HY.out, HTT.out] at h7
                rw [HTT.out] at h3
                have hlt : n % 64 + c < 64 := by have := HTT.out; omega
                rw [← HCL.out] at h7 hlt ⊢
                rw [HN.out] at h7 h3 hlt ⊢
                exact wrote_some HR.out HRO.out HCO.out h3 hlt h7
              · rw [HDK.out]
                exact (HS3.out.but HBW.out).but (But.setCell _ _ _ _)
              · exact HB4.out.trans (But.setCell _ _ _ _)
            case measure => simp [lenV]; omega
end Go.Proofs.YtkppnbehkmpogaaDoor.Sha
