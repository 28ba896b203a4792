/- The document's state behind a block. -/
import Derived.Test.YtkppnbehkmpogaaDoorMixed
import Derived.Test.YtkppnbehkmpogaaDoorRWords
namespace Go.Proofs.YtkppnbehkmpogaaDoor.Sha
open Go.RowKit Go.Proofs.ShaMath
set_option linter.unusedVariables false
set_option maxRecDepth 100000

set_option maxHeartbeats 2000000 in
set_option maxRecDepth 1000000 in
theorem rblock_walk (bs bw cs cw : Nat) (s : St) (K Ws : List Int) (w : World) (hs : s.ok) (hT : Tab w 1 K) (hW : ∀ x ∈ Ws, U32 x)
    (hc : w.cell? ⟨bs, 0, none⟩ = some (.int .u32 s.a) ∧ w.cell? ⟨bs, 1, none⟩ = some (.int .u32 s.b) ∧ w.cell? ⟨bs, 2, none⟩ = some (.int .u32 s.c) ∧ w.cell? ⟨bs, 3, none⟩ = some (.int .u32 s.d) ∧ w.cell? ⟨bs, 4, none⟩ = some (.int .u32 s.e) ∧ w.cell? ⟨bs, 5, none⟩ = some (.int .u32 s.f) ∧ w.cell? ⟨bs, 6, none⟩ = some (.int .u32 s.g) ∧ w.cell? ⟨bs, 7, none⟩ = some (.int .u32 s.h))
    (hw : ∀ j, j < 64 → w.cell? ⟨bw, j, none⟩ = some (.int .u32 (Ws.getD j 0))) :
    Calls Tryd.prog 67 #[.slice (some ⟨bs, 0, none⟩) 8 cs, .slice (some ⟨bw, 0, none⟩) 64 cw] w fun e w' => e = .returned (.slice (some ⟨w.heap.size, 0, none⟩) 8 8) ∧ w'.heap[w.heap.size]? = some (.cells (words (s.plus (rnds K Ws s 64))) 45) ∧ Below w.heap.size w w' := by
  have HT := Lib.hid hT
  have HS := Lib.hid hs
  have HWU := Lib.hid hW
  have HWC := Lib.hid hw
  have HC := Lib.hid hc
  obtain ⟨c0, c1, c2, c3, c4, c5, c6, c7⟩ := hc
  clear hT hs hW hw
  go_enter Tryd.func67, Tryd.ntmps67
  go_wp2
  refine wp_region_still_lit (by kernel_rfl) (by kernel_rfl) ?_
  repeat still_step
  refine wpStill_nil ?_
  change Exit.then _ _ Exit.normal _ w.drew
  have d4 : w.drew.cell? _ = _ := c4
  have d5 : w.drew.cell? _ = _ := c5
  have d6 : w.drew.cell? _ = _ := c6
  have d7 : w.drew.cell? _ = _ := c7
  have HQ1 : Hid (w.drew.heap = w.heap) := rfl
  have HB1 := Lib.hid (Below.drew (Below.refl w.heap.size w))
  generalize w.drew = w1 at d4 d5 d6 d7 HQ1 HB1 ⊢
  clear c0 c1 c2 c3 c4 c5 c6 c7
  go_wp2
  refine wp_region_still_lit (by kernel_rfl) (by kernel_rfl) ?_
  repeat still_step
  refine wpStill_nil ?_
  change Exit.then _ _ Exit.normal _ w1.drew
  have HQ2 : Hid (w1.drew.heap = w.heap) := HQ1.out
  have HB2 := Lib.hid (Below.drew HB1.out)
  generalize w1.drew = w2 at HQ2 HB2 ⊢
  clear d4 d5 d6 d7 HQ1 HB1
  go_wp2
  go_loopw [5, 6, 7, 8, 9, 10, 11, 12, 13] (fun x6 x7 x8 x9 x10 x11 x12 x13 c wr => ∃ (k : Nat) (ra rb rc rd re rf rg rh : Int), k ≤ 64 ∧ c = .int .i64 k ∧ x6 = .int .u32 ra ∧ x7 = .int .u32 rb ∧ x8 = .int .u32 rc ∧ x9 = .int .u32 rd ∧ x10 = .int .u32 re ∧ x11 = .int .u32 rf ∧ x12 = .int .u32 rg ∧ x13 = .int .u32 rh ∧ Hid (St.mk ra rb rc rd re rf rg rh = rnds K Ws s k) ∧ wr.heap = w.heap ∧ Below w.heap.size w wr) (fun _ _ _ _ _ _ _ _ c _ => 64 - (intOf c).toNat)
  case atStart => exact ⟨0, s.a, s.b, s.c, s.d, s.e, s.f, s.g, s.h, by omega, rfl, rfl, rfl, rfl, rfl, rfl, rfl, rfl, rfl, rfl, HQ2.out, HB2.out⟩
  case round =>
    obtain ⟨k, ra, rb, rc, rd, re, rf, rg, rh, hk, rfl, rfl, rfl, rfl, rfl, rfl, rfl, rfl, rfl, HR, hheap, hbel⟩ := hrel
    have hok := rnds_ok K Ws HS.out k
    rw [← HR.out] at hok
    obtain ⟨oa, ob, oc, od, oe, of, og, oh⟩ := hok
    have HBEL := Lib.hid hbel
    have HHEAP := Lib.hid hheap
    clear hbel hheap
    by_cases hlt : k < 64
    · have hT := HT.out.later HBEL.out
      have hcell := hT.2.2.2 k hlt
      have hwc := cell_later HBEL.out (HWC.out k hlt)
      have hKu := getD_u32 hT.2.2.1 k
      have hWu := getD_u32 HWU.out k
      obtain ⟨kt, hkt⟩ : ∃ x, x = K.getD k 0 := ⟨_, rfl⟩
      obtain ⟨wt, hwt⟩ : ∃ x, x = Ws.getD k 0 := ⟨_, rfl⟩
      rw [← hkt] at hcell hKu
      rw [← hwt] at hwc hWu
      have HK := Lib.hid hkt
      have HW := Lib.hid hwt
      clear hT hkt hwt
      have p0 : (0 : Int) ≤ (k : Int) := by omega
      have p1 : (k : Int) < 64 := by omega
      have HOE := Lib.hid oe
      have HOA := Lib.hid oa
      have T6 := Lib.hid (fun W => rturned_any re 6 W HOE.out (by omega) (by omega))
      have T11 := Lib.hid (fun W => rturned_any re 11 W HOE.out (by omega) (by omega))
      have T25 := Lib.hid (fun W => rturned_any re 25 W HOE.out (by omega) (by omega))
      have T2 : Hid (∀ W, Calls Tryd.prog 81 #[.int .u32 ra, .int .u64 2] W fun e w' => e = .returned (.int .u32 (rot 2 ra)) ∧ w' = W) := fun W => rturned_any ra 2 W HOA.out (by omega) (by omega)
      have T13 : Hid (∀ W, Calls Tryd.prog 81 #[.int .u32 ra, .int .u64 13] W fun e w' => e = .returned (.int .u32 (rot 13 ra)) ∧ w' = W) := fun W => rturned_any ra 13 W HOA.out (by omega) (by omega)
      have T22 : Hid (∀ W, Calls Tryd.prog 81 #[.int .u32 ra, .int .u64 22] W fun e w' => e = .returned (.int .u32 (rot 22 ra)) ∧ w' = W) := fun W => rturned_any ra 22 W HOA.out (by omega) (by omega)
      unfold U32 at oa ob oc od oe of og oh hKu hWu
      go_wp2
      refine wp_region_still_lit (by kernel_rfl) (by kernel_rfl) ?_
      repeat still_step
      still_call (T6.out _)
      repeat still_step
      still_call (T11.out _)
      repeat still_step
      still_call (T25.out _)
      repeat still_step
      refine wpStill_nil ?_
      change Exit.then _ _ Exit.normal _ wr.drew
      have HHEAP1 : Hid (wr.drew.heap = w.heap) := HHEAP.out
      have HBEL1 := Lib.hid (Below.drew HBEL.out)
      generalize wr.drew = w5 at HHEAP1 HBEL1 ⊢
      obtain ⟨U, hU⟩ : ∃ U, U = (IntKind.u32.wrap (IntKind.u32.wrap (IntKind.u32.wrap (IntKind.u32.wrap (rh + bits BinOp.xor IntKind.u32 (bits BinOp.xor IntKind.u32 (rot 6 re) (rot 11 re)) (rot 25 re)) + bits BinOp.xor IntKind.u32 (bits BinOp.and IntKind.u32 re rf) (bits BinOp.and IntKind.u32 (bits BinOp.xor IntKind.u32 (if IntKind.u32.signed = true then -1 else IntKind.u32.max) re) rg)) + kt) + wt)) := ⟨_, rfl⟩
      rw [← hU]
      have HU : Hid (U = up ⟨ra, rb, rc, rd, re, rf, rg, rh⟩ kt wt) := by
        show _ = _
        rw [hU, IntKind.wrap_u32, IntKind.wrap_u32, IntKind.wrap_u32, IntKind.wrap_u32]
        rfl
      have hUb : 0 ≤ U ∧ U ≤ 4294967295 := by
        rw [HU.out]; exact u32_mod _
      clear hU hcell hwc
      go_wp2_with (first | (go_at_call 81; with_reducible refine (T2.out _).mono ?_; rintro e w' ⟨rfl, rfl⟩) | (go_at_call 81; with_reducible refine (T13.out _).mono ?_; rintro e w' ⟨rfl, rfl⟩) | (go_at_call 81; with_reducible refine (T22.out _).mono ?_; rintro e w' ⟨rfl, rfl⟩))
      go_roundw
      case rel =>
        refine ⟨k + 1, _, _, _, _, _, _, _, _, by omega, by go_num, rfl, rfl, rfl, rfl, rfl, rfl, rfl, rfl, ?_, HHEAP1.out, HBEL1.out⟩
        show _ = _
        rw [rnds, ← HR.out, ← HK.out, ← HW.out, St.step, ← HU.out]
        rfl
      case measure => simp [intOf]; omega
    · have hk64 : k = 64 := by omega
      have HR' : Hid (St.mk ra rb rc rd re rf rg rh = rnds K Ws s 64) := by
        have h := HR.out
        rw [hk64] at h
        exact h
      clear HR
      have hkk : ¬ (k : Int) < 64 := by omega
      clear hk64
      obtain ⟨c0, c1, c2, c3, c4, c5, c6, c7⟩ := HC.out
      have e0 := cell_later HBEL.out c0
      have e1 := cell_later HBEL.out c1
      have e2 := cell_later HBEL.out c2
      have e3 := cell_later HBEL.out c3
      have e4 := cell_later HBEL.out c4
      have e5 := cell_later HBEL.out c5
      have e6 := cell_later HBEL.out c6
      have e7 := cell_later HBEL.out c7
      clear c0 c1 c2 c3 c4 c5 c6 c7
      have hsz : wr.heap.size = w.heap.size := by rw [HHEAP.out]
      go_wp2
      go_still_tail 40, (by kernel_rfl)
      change wpList _ _ _ _ _ wr.drew
      have HSZ9 : Hid (wr.drew.heap.size = w.heap.size) := hsz
      have HB9 := Lib.hid (Below.drew HBEL.out)
      generalize wr.drew = w9 at HSZ9 HB9 ⊢
      clear e0 e1 e2 e3 e4 e5 e6 e7 hsz
      go_wp2
      go_ret
      refine ⟨?_, ?_, ?_⟩
      · show Ending.returned (.slice (some ⟨w9.heap.size, 0, none⟩) 8 8) = _
        rw [HSZ9.out]
      · rw [← HSZ9.out, heap_new, ← HR'.out]
        simp [words, St.plus]
      · exact HB9.out.alloc (by rw [HSZ9.out]; exact Nat.le_refl _) _
end Go.Proofs.YtkppnbehkmpogaaDoor.Sha
