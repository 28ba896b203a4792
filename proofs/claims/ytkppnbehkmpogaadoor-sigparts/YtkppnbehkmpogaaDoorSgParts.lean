/- SigParts: the marks of a signature are the sums of the text's blocks. -/
import Derived.Test.YtkppnbehkmpogaaDoorSgFits
namespace Go.Proofs.YtkppnbehkmpogaaDoor
open Go.RowKit Go.Shelf Go.Proofs.BlkMath Go.Proofs.HeldRound
open Go.Proofs.ShaMath (sumB)
open Go.Proofs.RollMath (sumOf sumOf_bd)
set_option linter.unusedVariables false
set_option maxRecDepth 100000

set_option maxHeartbeats 1000000 in
theorem shacut_yes (u : Value) (K l : List Int) (s : Nat) (w : World) (h1 : s ≤ 32) (H : Calls Tryd.prog 57 #[u] w fun e w' => e = .returned (.string (strOfNums (sumB K l))) ∧ Below w.heap.size w w') :
    Calls Tryd.prog 26 #[u, .int .i64 (s : Int)] w fun e w' => e = .returned (.tuple #[.string (strong K l s), .int .i64 0]) ∧ Below w.heap.size w w' := by
  have hr := fun W => first_str (strOfNums (sumB K l)) s W h1 (sum_size K l)
  have hE : (strOfNums (sumB K l)).extract 0 s = strong K l s := rfl
  rw [hE] at hr
  have HH := Lib.hid H
  generalize strong K l s = B at hr ⊢
  generalize strOfNums (sumB K l) = A at hr HH
  have h0 : (0 : Int) ≤ (s : Int) := by omega
  have h2 : (s : Int) ≤ 32 := by omega
  clear H hE
  go_enter Tryd.func26, Tryd.ntmps26
  go_wp2_with (go_at_call 57; refine HH.out.mono ?_; rintro e w1 ⟨rfl, hb1⟩)
  all_goals first
    | (exfalso; omega)
    | (go_ret2; exact ⟨rfl, hb1⟩)

set_option maxRecDepth 1000000 in
set_option maxHeartbeats 8000000 in
theorem parts_no (a : Option Addr) (len cap : Nat) (b0 st : Int) (w : World) (hlen : len ≤ 1000) (hok : ¬ ((1 ≤ st ∧ st ≤ 32) ∧ (b0 = 0 ∨ (16 ≤ b0 ∧ b0 ≤ 4096))))
    (HAW : ∀ W, Below w.heap.size w W → Calls Tryd.prog 10 #[] W fun e w' => e = .returned (.bool true) ∧ Below W.heap.size W w') :
    Calls Tryd.prog 7 #[.slice a len cap, .int .i64 b0, .int .i64 st] w fun e w' => e = .returned (.bool true) ∧ Below w.heap.size w w' := by
  have HNO : Hid (Calls Tryd.prog 11 #[.slice a len cap, .int .i64 b0, .int .i64 st] w fun e w' => e = .returned (.tuple #[sigV 0 0 0 (.slice none 0 0), .int .i64 2]) ∧ Below w.heap.size w w') := sigof_no a len cap b0 st w hok
  unfold sigV at HNO
  have HA := Lib.hid HAW
  have hbig : ¬ ((1000 : Int) < (len : Int)) := by omega
  clear HAW
  have HC : (∃ g1 : decide (st < 1) = true, True) ∨ (∃ (g1 : decide (st < 1) = false) (g2 : decide (32 < st) = true), True) ∨ (∃ (g1 : decide (st < 1) = false) (g2 : decide (32 < st) = false) (g3 : (b0 != 0) = true) (g4 : decide (b0 < 16) = true), True) ∨ (∃ (g1 : decide (st < 1) = false) (g2 : decide (32 < st) = false) (g3 : (b0 != 0) = true) (g4 : decide (b0 < 16) = false) (g5 : decide (4096 < b0) = true), True) := by
    by_cases c1 : st < 1
    · exact .inl ⟨decide_eq_true c1, trivial⟩
    · by_cases c2 : 32 < st
      · exact .inr (.inl ⟨decide_eq_false c1, decide_eq_true c2, trivial⟩)
      · have h3 : b0 ≠ 0 := fun e => hok ⟨⟨by omega, by omega⟩, .inl e⟩
        by_cases c4 : b0 < 16
        · exact .inr (.inr (.inl ⟨decide_eq_false c1, decide_eq_false c2, by simp; exact h3, decide_eq_true c4, trivial⟩))
        · refine .inr (.inr (.inr ⟨decide_eq_false c1, decide_eq_false c2, by simp; exact h3, decide_eq_false c4, decide_eq_true ?_, trivial⟩))
          rcases Int.lt_or_le 4096 b0 with h' | h'
          · exact h'
          · exact absurd ⟨⟨by omega, by omega⟩, .inr ⟨by omega, h'⟩⟩ hok
  clear hok
  rcases HC with ⟨g1, _⟩ | ⟨g1, g2, _⟩ | ⟨g1, g2, g3, g4, _⟩ | ⟨g1, g2, g3, g4, g5, _⟩
  all_goals
    go_enter Tryd.func7, Tryd.ntmps7
    go_wp2_with fail
    refine HNO.out.mono ?_
    rintro e w1 ⟨rfl, hb1⟩
    have B1 := Lib.hid (hb1.alloc hb1.size (Obj.cells #[Value.int IntKind.i64 0, Value.int IntKind.i64 0, Value.int IntKind.i64 0, Value.slice none 0 0] 26))
    have HA1 := Lib.hid (HA.out _ B1.out)
    clear hb1
    go_wp2_with (go_at_call 10; refine HA1.out.mono ?_; rintro e w4 ⟨rfl, hb4⟩)
    go_ret
    exact ⟨rfl, B1.out.trans (hb4.mono B1.out.size)⟩

set_option maxRecDepth 1000000 in
set_option maxHeartbeats 16000000 in
theorem parts_yes (a : Option Addr) (len cap : Nat) (l : List Int) (b0 st : Int) (w : World) (hlen : len ≤ 1000) (hok : (1 ≤ st ∧ st ≤ 32) ∧ (b0 = 0 ∨ (16 ≤ b0 ∧ b0 ≤ 4096))) (hT2 : TabR w Ks) (hl : len = l.length) (hB : Bytes w a l) (hnil : a = none → cap = 0) (hcap : len ≤ cap)
    (HAW : ∀ W, Below w.heap.size w W → Calls Tryd.prog 10 #[] W fun e w' => e = .returned (.bool true) ∧ Below W.heap.size W w') :
    Calls Tryd.prog 7 #[.slice a len cap, .int .i64 b0, .int .i64 st] w fun e w' => e = .returned (.bool true) ∧ Below w.heap.size w w' := by
  obtain ⟨blk, hR, hbk⟩ := blk_of len (by omega) b0 hok.2
  obtain ⟨s, hs⟩ : ∃ s : Nat, st = s := ⟨st.toNat, by omega⟩
  have hcs := cnt_spec hR
  obtain ⟨N, hN⟩ : ∃ N : Nat, N = (cnt len blk).toNat := ⟨_, rfl⟩
  have hNb : N ≤ 1000 := by omega
  have hS : Sl w (.slice a len cap) l := ⟨a, cap, by rw [hl], hB, hnil, by omega⟩
  have hOf := sigof_yes (.slice a len cap) Ks l b0 blk s w hS hB.1 (by rw [← hl]; exact hR) hT2 (by omega) (by omega) (by
    rcases hbk with ⟨h1, h2⟩ | h
    · exact .inl ⟨h1, fun W => by rw [← hl, h2]; exact length_any len W⟩
    · exact .inr h)
  rw [← hl, ← hN, ← hs] at hOf
  have HCK : Hid (∀ W av cv, Marks W av (mks Ks l blk s N) → Calls Tryd.prog 17 #[sigV len blk st (.slice av N cv)] W fun e w' => e = .returned (.int .i64 0) ∧ Below W.heap.size W w') := by
    intro W av cv hm
    have h := check_any len blk s av cv (mks Ks l blk s N) W hm (by rw [mks_length]; omega) (fun m hmm => by rw [mks_st Ks l blk s N (by omega) m hmm]; omega)
    rw [mks_length, hN, chk_of Ks l len blk s hR (by omega) (by omega), ← hN, ← hs] at h
    exact h
  have HCU : Hid (∀ W, Below w.heap.size w W → Calls Tryd.prog 25 #[.slice a len cap, .int .i64 (blk : Int)] W fun e w' => ∃ v, e = .returned (.tuple #[v, .int .i64 0]) ∧ Made w' W.heap.size v (pieces l blk N) ∧ Below W.heap.size W w') := by
    intro W hb
    have h := cut_yes (.slice a len cap) l blk W (hS.later hb) hB.1 (by rw [← hl]; exact hR)
    rw [← hl, ← hN] at h
    exact h
  have HSC : Hid (∀ W k base u, Below w.heap.size w W → Own W base u (piece l blk k) → Calls Tryd.prog 26 #[u, .int .i64 st] W fun e w' => e = .returned (.tuple #[.string (strong Ks (piece l blk k) s), .int .i64 0]) ∧ Below W.heap.size W w') := by
    intro W k base u hb ho
    obtain ⟨pa, pc, rfl, hBp, hpn, hpc⟩ := ho.sl (piece_oct hB.1 blk k)
    have hp2 := piece_le l blk k
    have h := shacut_yes _ Ks (piece l blk k) s W (by omega) (Sha.sumof_walk pa pc Ks (piece l blk k) W hBp (hT2.later hb) hpn hpc (own_cap ho) (by omega))
    rw [← hs] at h
    exact h
  have HRO : Hid (∀ W k base u, Own W base u (piece l blk k) → Calls Tryd.prog 27 #[u] W fun e w' => e = .returned (.int .u32 (sumOf (piece l blk k))) ∧ W = w') := by
    intro W k base u ho
    obtain ⟨pa, pc, rfl, hBp, hpn, hpc⟩ := ho.sl (piece_oct hB.1 blk k)
    have hp2 := piece_le l blk k
    exact Roll.of_any pa _ pc (piece l blk k) W rfl (by omega) hBp
  have HFT : Hid (∀ W k base u av cv, k < N → Below w.heap.size w W → Marks W av (mks Ks l blk s N) → Own W base u (piece l blk k) → Calls Tryd.prog 23 #[sigV len blk st (.slice av N cv), .int .i64 (k : Int), u] W fun e w' => e = .returned (.bool true) ∧ Below W.heap.size W w') := by
    intro W k base u av cv hk hb hm ho
    obtain ⟨pa, pc, rfl, hBp, hpn, hpc⟩ := ho.sl (piece_oct hB.1 blk k)
    have h := fits_true Ks l len blk s N k hl hR hN hk (by omega) (by omega) (by omega) av pa cv pc _ W rfl hm hBp hpn hpc (own_cap ho) (hT2.later hb)
    rw [← hs] at h
    exact h
  have hbkI : (b0 = 0) ∨ (b0 ≠ 0 ∧ b0 = (blk : Int)) := by
    rcases hbk with ⟨h, _⟩ | h
    · exact .inl h
    · exact .inr h
  have HOF := Lib.hid hOf
  have HA := Lib.hid HAW
  have HPO := Lib.hid (pieces_oct hB.1 blk N)
  have hbig : ¬ ((1000 : Int) < (len : Int)) := by omega
  obtain ⟨bI, hbI⟩ : ∃ bI : Int, bI = blk := ⟨_, rfl⟩
  rw [← hbI] at HCK HCU HFT HOF hbkI
  have HBI := Lib.hid hbI
  unfold sigV at *
  clear hB hT2 hl hnil hcap hok hbk hcs hS hOf hR hN hs hbI HAW
  have HB0 : (∃ g3 : (b0 != 0) = false, True) ∨ (b0 = bI ∧ bI ≠ 0) := by
    rcases hbkI with h | ⟨h, h'⟩
    · exact .inl ⟨by simp [h], trivial⟩
    · exact .inr ⟨h', by omega⟩
  clear hbkI
  go_enter Tryd.func7, Tryd.ntmps7
  go_wp2_with fail
  refine HOF.out.mono ?_
  rintro e w1 ⟨v1, rfl, hmo, hb1⟩
  obtain ⟨av, cv, ev, hM1⟩ := hmo.sl (mks_bd _ _ _ _ _)
  rw [mks_length] at ev
  subst ev
  have B1 := Lib.hid hb1
  have hbA : Below w1.heap.size w1 (w1.alloc (Obj.cells #[Value.int IntKind.i64 (len : Int), Value.int IntKind.i64 bI, Value.int IntKind.i64 st, Value.slice av N cv] 26)) := (Below.refl _ _).alloc (Nat.le_refl _) _
  have HHA := Lib.hid (heap_new w1 (Obj.cells #[Value.int IntKind.i64 (len : Int), Value.int IntKind.i64 bI, Value.int IntKind.i64 st, Value.slice av N cv] 26))
  have BA := Lib.hid (B1.out.trans (hbA.mono B1.out.size))
  have MA := Lib.hid (hM1.later hbA)
  have HQ := Lib.hid (HCU.out _ BA.out)
  clear hmo hM1 hb1 hbA HOF HCU
  go_wp2_with fail
  refine HQ.out.mono ?_
  rintro e w2 ⟨lv, rfl, hmd, hb2⟩
  have hmr := hmd.r
  obtain ⟨al, cl, el, -⟩ := madeR_form hmr HPO.out
  rw [show (pieces l blk N).length = N from by simp [pieces]] at el
  subst el
  have HMR := Lib.hid hmr
  have hh2 := (KeepC.of_below hb2).2 _ _ _ _ HHA.out
  have HH2 := Lib.hid hh2
  have M2 := Lib.hid (MA.out.later hb2)
  have B2 : Hid (Below w.heap.size w w2) := BA.out.trans (hb2.mono BA.out.size)
  have q0 : w2.cell? ⟨w1.heap.size, 0, none⟩ = some (.int .i64 (len : Int)) := by rw [cell_of_row w2 _ 0 _ _ (0, 0) hh2]; rfl
  have q1 : w2.cell? ⟨w1.heap.size, 1, none⟩ = some (.int .i64 bI) := by rw [cell_of_row w2 _ 1 _ _ (0, 0) hh2]; rfl
  have q2 : w2.cell? ⟨w1.heap.size, 2, none⟩ = some (.int .i64 st) := by rw [cell_of_row w2 _ 2 _ _ (0, 0) hh2]; rfl
  have q3 : w2.cell? ⟨w1.heap.size, 3, none⟩ = some (.slice av N cv) := by rw [cell_of_row w2 _ 3 _ _ (0, 0) hh2]; rfl
  have HC2 := Lib.hid (HCK.out w2 av cv M2.out)
  clear hmd hmr hb2 hh2 HQ HCK HHA MA
  go_wp2_with fail
  refine HC2.out.mono ?_
  rintro e w3 ⟨rfl, hb3⟩
  have hh3 := (KeepC.of_below hb3).2 _ _ _ _ HH2.out
  have HH3 := Lib.hid hh3
  have M3 := Lib.hid (M2.out.later hb3)
  have R3 := Lib.hid (HMR.out.keep (KeepC.of_below hb3))
  have B3 : Hid (Below w.heap.size w w3) := B2.out.trans (hb3.mono B2.out.size)
  have p0 : w3.cell? ⟨w1.heap.size, 0, none⟩ = some (.int .i64 (len : Int)) := by rw [cell_of_row w3 _ 0 _ _ (0, 0) hh3]; rfl
  have p1 : w3.cell? ⟨w1.heap.size, 1, none⟩ = some (.int .i64 bI) := by rw [cell_of_row w3 _ 1 _ _ (0, 0) hh3]; rfl
  clear hb3 hh3 HC2 q0 q1 q2 q3 HMR HH2 M2 B2
  rcases HB0 with ⟨g3, _⟩ | ⟨hb0, hbn⟩
  · go_wp2
    clear p0 p1 g3
    go_loopw [99] (fun i wr => ∃ k : Nat, i = .int .i64 k ∧ k ≤ N ∧ Below w3.heap.size w3 wr) (fun i _ => N - (intOf i).toNat)
    case atStart => exact ⟨0, rfl, by omega, Below.refl _ _⟩
    case round =>
      obtain ⟨k, rfl, hk, hbel⟩ := hrel
      have BR : Hid (Below w.heap.size w wr) := B3.out.trans (hbel.mono B3.out.size)
      by_cases hlt : k < N
      · have hlt2 : (k : Int) < (N : Int) := by omega
        have hkp : (0 : Int) ≤ (k : Int) := by omega
        obtain ⟨vs, hvl, hrow, hown⟩ := R3.out.keep (KeepC.of_below hbel)
        have hplen : (pieces l blk N).length = N := by simp [pieces]
        have hown' := hown k (by rw [hplen]; exact hlt)
        rw [pieces_getD l blk N k hlt] at hown'
        obtain ⟨pa, pc, eu⟩ := own_form hown'
        have hal : ∃ g, al = some ⟨g, 0, none⟩ := by
          rcases hrow.2 with ⟨h0, h1⟩ | ⟨g, _, _, h0, _⟩
          · omega
          · injection h0 with h0; exact ⟨g, h0⟩
        obtain ⟨g, ea⟩ := hal
        subst ea
        have hc1 : wr.cell? ⟨g, k, none⟩ = some (vs.getD k undef) := by
          rw [hplen] at hrow
          rw [hrow.cellAt k (by omega), List.getD_eq_getElem?_getD, List.getElem?_eq_getElem (by rw [hvl, hplen]; exact hlt)]; rfl
        rw [eu] at hc1 hown'
        have hne : mks Ks l blk s N ≠ [] := by
          intro e
          have := mks_length Ks l blk s N
          rw [e] at this
          simp at this
          omega
        have hMr := M3.out.later hbel
        obtain ⟨b, off, ea, hcell⟩ := hMr.2 hne
        subst ea
        obtain ⟨y0, y1⟩ := hcell k (by rw [mks_length]; exact hlt)
        rw [mks_getD Ks l blk s N k hlt] at y0 y1
        have HSK := Lib.hid (HSC.out wr k _ _ BR.out hown')
        have e1 : (mkOf Ks (piece l blk k) s).1 = sumOf (piece l blk k) := rfl
        have e2 : (mkOf Ks (piece l blk k) s).2 = strong Ks (piece l blk k) s := rfl
        rw [e1] at y0
        rw [e2] at y1
        have HRK : Hid (∀ W, Below wr.heap.size wr W → Calls Tryd.prog 27 #[.slice pa (piece l blk k).length pc] W fun e w' => e = .returned (.int .u32 (sumOf (piece l blk k))) ∧ W = w') := fun W hb => HRO.out W k _ _ (hown'.below hb)
        have HFK : Hid (∀ W, Below wr.heap.size wr W → Calls Tryd.prog 23 #[.agg #[.int .i64 (len : Int), .int .i64 bI, .int .i64 st, .slice (some ⟨b, off, none⟩) N cv], .int .i64 (k : Int), .slice pa (piece l blk k).length pc] W fun e w' => e = .returned (.bool true) ∧ Below W.heap.size W w') := fun W hb => HFT.out W k _ _ _ cv hlt (BR.out.trans (hb.mono BR.out.size)) (hMr.later hb) (hown'.below hb)
        generalize sumOf (piece l blk k) = xk at y0 HRK
        generalize strong Ks (piece l blk k) s = sk at y1 HSK
        generalize (piece l blk k).length = pl at hc1 HSK HRK HFK
        have Y0 := Lib.hid y0
        have Y1 := Lib.hid y1
        have HHR := Lib.hid ((KeepC.of_below hbel).2 _ _ _ _ HH3.out)
        have HBEL := Lib.hid hbel
        clear hown hrow hown' hcell hne hMr y0 y1 e1 e2 eu hvl hplen hbel
        go_wp2_with fail
        refine HSK.out.mono ?_
        rintro e wq ⟨rfl, hbq⟩
        have hhq := (KeepC.of_below hbq).2 _ _ _ _ HHR.out
        have hS0 : Below wq.drew.heap.size wq.drew wq.drew ∧ wq.drew.cell? ⟨w1.heap.size, 0, none⟩ = some (.int .i64 (len : Int)) ∧ wq.drew.cell? ⟨w1.heap.size, 1, none⟩ = some (.int .i64 bI) ∧ wq.drew.cell? ⟨w1.heap.size, 2, none⟩ = some (.int .i64 st) ∧ wq.drew.cell? ⟨w1.heap.size, 3, none⟩ = some (.slice (some ⟨b, off, none⟩) N cv) ∧ wq.drew.cell? ⟨b, off + k * 2, none⟩ = some (.int .u32 xk) ∧ wq.drew.cell? ⟨b, off + k * 2 + 1, none⟩ = some (.string sk) := by
          refine ⟨Below.refl _ _, ?_, ?_, ?_, ?_, ?_, ?_⟩
          · exact (show wq.cell? _ = _ from by rw [cell_of_row wq _ 0 _ _ (0, 0) hhq]; rfl)
          · exact (show wq.cell? _ = _ from by rw [cell_of_row wq _ 1 _ _ (0, 0) hhq]; rfl)
          · exact (show wq.cell? _ = _ from by rw [cell_of_row wq _ 2 _ _ (0, 0) hhq]; rfl)
          · exact (show wq.cell? _ = _ from by rw [cell_of_row wq _ 3 _ _ (0, 0) hhq]; rfl)
          · exact (show wq.cell? _ = _ from cell_later hbq Y0.out)
          · exact (show wq.cell? _ = _ from cell_later hbq Y1.out)
        have HR2 : Hid (∀ W, (Below wq.drew.heap.size wq.drew W ∧ W.cell? ⟨w1.heap.size, 0, none⟩ = some (.int .i64 (len : Int)) ∧ W.cell? ⟨w1.heap.size, 1, none⟩ = some (.int .i64 bI) ∧ W.cell? ⟨w1.heap.size, 2, none⟩ = some (.int .i64 st) ∧ W.cell? ⟨w1.heap.size, 3, none⟩ = some (.slice (some ⟨b, off, none⟩) N cv) ∧ W.cell? ⟨b, off + k * 2, none⟩ = some (.int .u32 xk) ∧ W.cell? ⟨b, off + k * 2 + 1, none⟩ = some (.string sk)) → Calls Tryd.prog 27 #[.slice pa pl pc] W fun e w' => e = .returned (.int .u32 xk) ∧ (Below wq.drew.heap.size wq.drew w' ∧ w'.cell? ⟨w1.heap.size, 0, none⟩ = some (.int .i64 (len : Int)) ∧ w'.cell? ⟨w1.heap.size, 1, none⟩ = some (.int .i64 bI) ∧ w'.cell? ⟨w1.heap.size, 2, none⟩ = some (.int .i64 st) ∧ w'.cell? ⟨w1.heap.size, 3, none⟩ = some (.slice (some ⟨b, off, none⟩) N cv) ∧ w'.cell? ⟨b, off + k * 2, none⟩ = some (.int .u32 xk) ∧ w'.cell? ⟨b, off + k * 2 + 1, none⟩ = some (.string sk))) := by
          intro W hb
          have hbW : Below wr.heap.size wr W := hbq.trans (Below.mono ⟨hb.1.os, hb.1.tape, hb.1.output, hb.1.size, hb.1.block⟩ hbq.size)
          refine (HRK.out W hbW).mono ?_
          rintro e w' ⟨rfl, rfl⟩
          exact ⟨rfl, hb⟩
        have HF2 : Hid (∀ W, (Below wq.drew.heap.size wq.drew W ∧ W.cell? ⟨w1.heap.size, 0, none⟩ = some (.int .i64 (len : Int)) ∧ W.cell? ⟨w1.heap.size, 1, none⟩ = some (.int .i64 bI) ∧ W.cell? ⟨w1.heap.size, 2, none⟩ = some (.int .i64 st) ∧ W.cell? ⟨w1.heap.size, 3, none⟩ = some (.slice (some ⟨b, off, none⟩) N cv) ∧ W.cell? ⟨b, off + k * 2, none⟩ = some (.int .u32 xk) ∧ W.cell? ⟨b, off + k * 2 + 1, none⟩ = some (.string sk)) → Calls Tryd.prog 23 #[.agg #[.int .i64 (len : Int), .int .i64 bI, .int .i64 st, .slice (some ⟨b, off, none⟩) N cv], .int .i64 (k : Int), .slice pa pl pc] W fun e w' => e = .returned (.bool true) ∧ (Below wq.drew.heap.size wq.drew w' ∧ w'.cell? ⟨w1.heap.size, 0, none⟩ = some (.int .i64 (len : Int)) ∧ w'.cell? ⟨w1.heap.size, 1, none⟩ = some (.int .i64 bI) ∧ w'.cell? ⟨w1.heap.size, 2, none⟩ = some (.int .i64 st) ∧ w'.cell? ⟨w1.heap.size, 3, none⟩ = some (.slice (some ⟨b, off, none⟩) N cv) ∧ w'.cell? ⟨b, off + k * 2, none⟩ = some (.int .u32 xk) ∧ w'.cell? ⟨b, off + k * 2 + 1, none⟩ = some (.string sk))) := by
          rintro W ⟨hb, d1, d2, d3, d4, d5, d6⟩
          have hbW : Below wr.heap.size wr W := hbq.trans (Below.mono ⟨hb.os, hb.tape, hb.output, hb.size, hb.block⟩ hbq.size)
          refine (HFK.out W hbW).mono ?_
          rintro e w' ⟨rfl, h⟩
          exact ⟨rfl, hb.trans (h.mono hb.size), cell_later h d1, cell_later h d2, cell_later h d3, cell_later h d4, cell_later h d5, cell_later h d6⟩
        have HBQ : Hid (Below w3.heap.size w3 wq) := HBEL.out.trans (hbq.mono HBEL.out.size)
        clear hbq hhq HSK HRK HFK HHR Y0 Y1 hc1 HBEL
        go_wp2
        go_region_held3 (fun W => Below wq.drew.heap.size wq.drew W ∧ W.cell? ⟨w1.heap.size, 0, none⟩ = some (.int .i64 (len : Int)) ∧ W.cell? ⟨w1.heap.size, 1, none⟩ = some (.int .i64 bI) ∧ W.cell? ⟨w1.heap.size, 2, none⟩ = some (.int .i64 st) ∧ W.cell? ⟨w1.heap.size, 3, none⟩ = some (.slice (some ⟨b, off, none⟩) N cv) ∧ W.cell? ⟨b, off + k * 2, none⟩ = some (.int .u32 xk) ∧ W.cell? ⟨b, off + k * 2 + 1, none⟩ = some (.string sk)) (first | assumption | exact hS0) (first
          | (go_at_call 27; (with_reducible refine (HR2.out _ ?_).mono ?_); (focus (first | assumption | exact hS0)); rintro e w8 ⟨rfl, hb8⟩)
          | (go_at_call 23; (with_reducible refine (HF2.out _ ?_).mono ?_); (focus (first | assumption | exact hS0)); rintro e w9 ⟨rfl, hb9⟩))
        have HBF : Hid (Below w3.heap.size w3 w9) := HBQ.out.trans (Below.mono ⟨hb9.1.os, hb9.1.tape, hb9.1.output, hb9.1.size, hb9.1.block⟩ HBQ.out.size)
        clear hS0 hb8 hb9 HR2 HF2
        go_wp2
        go_roundw
        case rel => exact ⟨k + 1, by go_num, by omega, HBF.out⟩
        case measure => simp [intOf]; omega
      · have hkk : ¬ (k : Int) < (N : Int) := by omega
        have HAR := Lib.hid (HA.out _ BR.out)
        clear hbel
        go_wp2_with (go_at_call 10; refine HAR.out.mono ?_; rintro e w4 ⟨rfl, hb4⟩)
        go_ret
        exact ⟨rfl, BR.out.trans (hb4.mono BR.out.size)⟩
  · subst hb0
    have g3 : (b0 != 0) = true := by simp; exact hbn
    go_wp2
    clear p0 p1 g3 hbn
    go_loopw [99] (fun i wr => ∃ k : Nat, i = .int .i64 k ∧ k ≤ N ∧ Below w3.heap.size w3 wr) (fun i _ => N - (intOf i).toNat)
    case atStart => exact ⟨0, rfl, by omega, Below.refl _ _⟩
    case round =>
      obtain ⟨k, rfl, hk, hbel⟩ := hrel
      have BR : Hid (Below w.heap.size w wr) := B3.out.trans (hbel.mono B3.out.size)
      by_cases hlt : k < N
      · have hlt2 : (k : Int) < (N : Int) := by omega
        have hkp : (0 : Int) ≤ (k : Int) := by omega
        obtain ⟨vs, hvl, hrow, hown⟩ := R3.out.keep (KeepC.of_below hbel)
        have hplen : (pieces l blk N).length = N := by simp [pieces]
        have hown' := hown k (by rw [hplen]; exact hlt)
        rw [pieces_getD l blk N k hlt] at hown'
        obtain ⟨pa, pc, eu⟩ := own_form hown'
        have hal : ∃ g, al = some ⟨g, 0, none⟩ := by
          rcases hrow.2 with ⟨h0, h1⟩ | ⟨g, _, _, h0, _⟩
          · omega
          · injection h0 with h0; exact ⟨g, h0⟩
        obtain ⟨g, ea⟩ := hal
        subst ea
        have hc1 : wr.cell? ⟨g, k, none⟩ = some (vs.getD k undef) := by
          rw [hplen] at hrow
          rw [hrow.cellAt k (by omega), List.getD_eq_getElem?_getD, List.getElem?_eq_getElem (by rw [hvl, hplen]; exact hlt)]; rfl
        rw [eu] at hc1 hown'
        have hne : mks Ks l blk s N ≠ [] := by
          intro e
          have := mks_length Ks l blk s N
          rw [e] at this
          simp at this
          omega
        have hMr := M3.out.later hbel
        obtain ⟨b, off, ea, hcell⟩ := hMr.2 hne
        subst ea
        obtain ⟨y0, y1⟩ := hcell k (by rw [mks_length]; exact hlt)
        rw [mks_getD Ks l blk s N k hlt] at y0 y1
        have HSK := Lib.hid (HSC.out wr k _ _ BR.out hown')
        have e1 : (mkOf Ks (piece l blk k) s).1 = sumOf (piece l blk k) := rfl
        have e2 : (mkOf Ks (piece l blk k) s).2 = strong Ks (piece l blk k) s := rfl
        rw [e1] at y0
        rw [e2] at y1
        have HRK : Hid (∀ W, Below wr.heap.size wr W → Calls Tryd.prog 27 #[.slice pa (piece l blk k).length pc] W fun e w' => e = .returned (.int .u32 (sumOf (piece l blk k))) ∧ W = w') := fun W hb => HRO.out W k _ _ (hown'.below hb)
        have HFK : Hid (∀ W, Below wr.heap.size wr W → Calls Tryd.prog 23 #[.agg #[.int .i64 (len : Int), .int .i64 b0, .int .i64 st, .slice (some ⟨b, off, none⟩) N cv], .int .i64 (k : Int), .slice pa (piece l blk k).length pc] W fun e w' => e = .returned (.bool true) ∧ Below W.heap.size W w') := fun W hb => HFT.out W k _ _ _ cv hlt (BR.out.trans (hb.mono BR.out.size)) (hMr.later hb) (hown'.below hb)
        generalize sumOf (piece l blk k) = xk at y0 HRK
        generalize strong Ks (piece l blk k) s = sk at y1 HSK
        generalize (piece l blk k).length = pl at hc1 HSK HRK HFK
        have Y0 := Lib.hid y0
        have Y1 := Lib.hid y1
        have HHR := Lib.hid ((KeepC.of_below hbel).2 _ _ _ _ HH3.out)
        have HBEL := Lib.hid hbel
        clear hown hrow hown' hcell hne hMr y0 y1 e1 e2 eu hvl hplen hbel
        go_wp2_with fail
        refine HSK.out.mono ?_
        rintro e wq ⟨rfl, hbq⟩
        have hhq := (KeepC.of_below hbq).2 _ _ _ _ HHR.out
        have hS0 : Below wq.drew.heap.size wq.drew wq.drew ∧ wq.drew.cell? ⟨w1.heap.size, 0, none⟩ = some (.int .i64 (len : Int)) ∧ wq.drew.cell? ⟨w1.heap.size, 1, none⟩ = some (.int .i64 b0) ∧ wq.drew.cell? ⟨w1.heap.size, 2, none⟩ = some (.int .i64 st) ∧ wq.drew.cell? ⟨w1.heap.size, 3, none⟩ = some (.slice (some ⟨b, off, none⟩) N cv) ∧ wq.drew.cell? ⟨b, off + k * 2, none⟩ = some (.int .u32 xk) ∧ wq.drew.cell? ⟨b, off + k * 2 + 1, none⟩ = some (.string sk) := by
          refine ⟨Below.refl _ _, ?_, ?_, ?_, ?_, ?_, ?_⟩
          · exact (show wq.cell? _ = _ from by rw [cell_of_row wq _ 0 _ _ (0, 0) hhq]; rfl)
          · exact (show wq.cell? _ = _ from by rw [cell_of_row wq _ 1 _ _ (0, 0) hhq]; rfl)
          · exact (show wq.cell? _ = _ from by rw [cell_of_row wq _ 2 _ _ (0, 0) hhq]; rfl)
          · exact (show wq.cell? _ = _ from by rw [cell_of_row wq _ 3 _ _ (0, 0) hhq]; rfl)
          · exact (show wq.cell? _ = _ from cell_later hbq Y0.out)
          · exact (show wq.cell? _ = _ from cell_later hbq Y1.out)
        have HR2 : Hid (∀ W, (Below wq.drew.heap.size wq.drew W ∧ W.cell? ⟨w1.heap.size, 0, none⟩ = some (.int .i64 (len : Int)) ∧ W.cell? ⟨w1.heap.size, 1, none⟩ = some (.int .i64 b0) ∧ W.cell? ⟨w1.heap.size, 2, none⟩ = some (.int .i64 st) ∧ W.cell? ⟨w1.heap.size, 3, none⟩ = some (.slice (some ⟨b, off, none⟩) N cv) ∧ W.cell? ⟨b, off + k * 2, none⟩ = some (.int .u32 xk) ∧ W.cell? ⟨b, off + k * 2 + 1, none⟩ = some (.string sk)) → Calls Tryd.prog 27 #[.slice pa pl pc] W fun e w' => e = .returned (.int .u32 xk) ∧ (Below wq.drew.heap.size wq.drew w' ∧ w'.cell? ⟨w1.heap.size, 0, none⟩ = some (.int .i64 (len : Int)) ∧ w'.cell? ⟨w1.heap.size, 1, none⟩ = some (.int .i64 b0) ∧ w'.cell? ⟨w1.heap.size, 2, none⟩ = some (.int .i64 st) ∧ w'.cell? ⟨w1.heap.size, 3, none⟩ = some (.slice (some ⟨b, off, none⟩) N cv) ∧ w'.cell? ⟨b, off + k * 2, none⟩ = some (.int .u32 xk) ∧ w'.cell? ⟨b, off + k * 2 + 1, none⟩ = some (.string sk))) := by
          intro W hb
          have hbW : Below wr.heap.size wr W := hbq.trans (Below.mono ⟨hb.1.os, hb.1.tape, hb.1.output, hb.1.size, hb.1.block⟩ hbq.size)
          refine (HRK.out W hbW).mono ?_
          rintro e w' ⟨rfl, rfl⟩
          exact ⟨rfl, hb⟩
        have HF2 : Hid (∀ W, (Below wq.drew.heap.size wq.drew W ∧ W.cell? ⟨w1.heap.size, 0, none⟩ = some (.int .i64 (len : Int)) ∧ W.cell? ⟨w1.heap.size, 1, none⟩ = some (.int .i64 b0) ∧ W.cell? ⟨w1.heap.size, 2, none⟩ = some (.int .i64 st) ∧ W.cell? ⟨w1.heap.size, 3, none⟩ = some (.slice (some ⟨b, off, none⟩) N cv) ∧ W.cell? ⟨b, off + k * 2, none⟩ = some (.int .u32 xk) ∧ W.cell? ⟨b, off + k * 2 + 1, none⟩ = some (.string sk)) → Calls Tryd.prog 23 #[.agg #[.int .i64 (len : Int), .int .i64 b0, .int .i64 st, .slice (some ⟨b, off, none⟩) N cv], .int .i64 (k : Int), .slice pa pl pc] W fun e w' => e = .returned (.bool true) ∧ (Below wq.drew.heap.size wq.drew w' ∧ w'.cell? ⟨w1.heap.size, 0, none⟩ = some (.int .i64 (len : Int)) ∧ w'.cell? ⟨w1.heap.size, 1, none⟩ = some (.int .i64 b0) ∧ w'.cell? ⟨w1.heap.size, 2, none⟩ = some (.int .i64 st) ∧ w'.cell? ⟨w1.heap.size, 3, none⟩ = some (.slice (some ⟨b, off, none⟩) N cv) ∧ w'.cell? ⟨b, off + k * 2, none⟩ = some (.int .u32 xk) ∧ w'.cell? ⟨b, off + k * 2 + 1, none⟩ = some (.string sk))) := by
          rintro W ⟨hb, d1, d2, d3, d4, d5, d6⟩
          have hbW : Below wr.heap.size wr W := hbq.trans (Below.mono ⟨hb.os, hb.tape, hb.output, hb.size, hb.block⟩ hbq.size)
          refine (HFK.out W hbW).mono ?_
          rintro e w' ⟨rfl, h⟩
          exact ⟨rfl, hb.trans (h.mono hb.size), cell_later h d1, cell_later h d2, cell_later h d3, cell_later h d4, cell_later h d5, cell_later h d6⟩
        have HBQ : Hid (Below w3.heap.size w3 wq) := HBEL.out.trans (hbq.mono HBEL.out.size)
        clear hbq hhq HSK HRK HFK HHR Y0 Y1 hc1 HBEL
        go_wp2
        go_region_held3 (fun W => Below wq.drew.heap.size wq.drew W ∧ W.cell? ⟨w1.heap.size, 0, none⟩ = some (.int .i64 (len : Int)) ∧ W.cell? ⟨w1.heap.size, 1, none⟩ = some (.int .i64 b0) ∧ W.cell? ⟨w1.heap.size, 2, none⟩ = some (.int .i64 st) ∧ W.cell? ⟨w1.heap.size, 3, none⟩ = some (.slice (some ⟨b, off, none⟩) N cv) ∧ W.cell? ⟨b, off + k * 2, none⟩ = some (.int .u32 xk) ∧ W.cell? ⟨b, off + k * 2 + 1, none⟩ = some (.string sk)) (first | assumption | exact hS0) (first
          | (go_at_call 27; (with_reducible refine (HR2.out _ ?_).mono ?_); (focus (first | assumption | exact hS0)); rintro e w8 ⟨rfl, hb8⟩)
          | (go_at_call 23; (with_reducible refine (HF2.out _ ?_).mono ?_); (focus (first | assumption | exact hS0)); rintro e w9 ⟨rfl, hb9⟩))
        have HBF : Hid (Below w3.heap.size w3 w9) := HBQ.out.trans (Below.mono ⟨hb9.1.os, hb9.1.tape, hb9.1.output, hb9.1.size, hb9.1.block⟩ HBQ.out.size)
        clear hS0 hb8 hb9 HR2 HF2
        go_wp2
        go_roundw
        case rel => exact ⟨k + 1, by go_num, by omega, HBF.out⟩
        case measure => simp [intOf]; omega
      · have hkk : ¬ (k : Int) < (N : Int) := by omega
        have HAR := Lib.hid (HA.out _ BR.out)
        clear hbel
        go_wp2_with (go_at_call 10; refine HAR.out.mono ?_; rintro e w4 ⟨rfl, hb4⟩)
        go_ret
        exact ⟨rfl, BR.out.trans (hb4.mono BR.out.size)⟩
end Go.Proofs.YtkppnbehkmpogaaDoor
