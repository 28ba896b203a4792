/- The document's words of a block. -/
import Derived.Test.YtkppnbehkmpogaaDoorSpread
namespace Go.Proofs.YtkppnbehkmpogaaDoor.Sha
open Go.RowKit Go.Proofs.ShaMath
set_option linter.unusedVariables false
set_option maxRecDepth 100000

theorem Tryd.info45 : (Tryd.prog.info? 45).map (fun i => (i.zero, i.size, i.bytes)) = some (some (.int .u32 0), 1, 4) := by kernel_rfl
theorem made64 : madeCells (Value.int .u32 0).cells (64 * 1) = row [] := by kernel_rfl

set_option maxHeartbeats 2000000 in
set_option maxRecDepth 1000000 in
theorem rwords_walk (b off cap : Nat) (B : List Int) (w : World) (hl : B.length = 64) (ho : Oct B) (hc : ∀ i, i < 64 → w.cell? ⟨b, off + i, none⟩ = some (.int .u8 (B.getD i 0))) :
    Calls Tryd.prog 68 #[.slice (some ⟨b, off, none⟩) 64 cap] w fun e w' => e = .returned (.slice (some ⟨w.heap.size, 0, none⟩) 64 64) ∧ w'.heap[w.heap.size]? = some (.cells (row (sched B 64)) 45) ∧ Below w.heap.size w w' := by
  have HO := Lib.hid ho
  have HC := Lib.hid hc
  clear ho hc
  obtain ⟨i0, hi, hz0, hz1, hz2⟩ := info_parts Tryd.info45
  have hmk := run_make (P := Tryd.prog) w 82 45 i0 (.int .u32 0) Tryd.underlying82 hi hz0 .i64 .i64 64 64 (by omega) (by omega) (by rw [hz2]; omega) (by omega)
  rw [hz1] at hmk
  simp only [show (64 : Int).toNat = 64 from rfl] at hmk
  rw [made64] at hmk
  have HH : Hid ((w.alloc (.cells (row []) 45)).heap[w.heap.size]? = some (.cells (row (sched B 0)) 45)) := heap_new _ _
  have HB1 : Hid (Below w.heap.size w (w.alloc (.cells (row []) 45))) := (Below.refl _ _).alloc (Nat.le_refl _) _
  generalize w.alloc (.cells (row []) 45) = w1 at hmk HH HB1
  obtain ⟨g, hg⟩ : ∃ g, g = w.heap.size := ⟨_, rfl⟩
  have HG := Lib.hid hg
  rw [← hg] at hmk HH HB1 ⊢
  clear hg
  go_enter Tryd.func68, Tryd.ntmps68
  go_wp2
  go_loopw [4] (fun c wr => ∃ k : Nat, k ≤ 16 ∧ c = .int .i64 k ∧ Below g w wr ∧ Hid (wr.heap[g]? = some (.cells (row (sched B k)) 45))) (fun c _ => 16 - (intOf c).toNat)
  case atStart => exact ⟨0, by omega, rfl, HB1.out, HH⟩
  case round =>
    obtain ⟨k, hk, rfl, hbel, HR⟩ := hrel
    have HBEL := Lib.hid hbel
    clear hbel
    by_cases hlt : k < 16
    · have e0 := cell_later (by have := HBEL.out; rw [HG.out] at this; exact this) (HC.out (4 * k) (by omega))
      have e1 := cell_later (by have := HBEL.out; rw [HG.out] at this; exact this) (HC.out (4 * k + 1) (by omega))
      have e2 := cell_later (by have := HBEL.out; rw [HG.out] at this; exact this) (HC.out (4 * k + 2) (by omega))
      have e3 := cell_later (by have := HBEL.out; rw [HG.out] at this; exact this) (HC.out (4 * k + 3) (by omega))
      have b0 := HO.out.getD (4 * k)
      have b1 := HO.out.getD (4 * k + 1)
      have b2 := HO.out.getD (4 * k + 2)
      have b3 := HO.out.getD (4 * k + 3)
      have hst := row_cell HR.out k (by omega)
      have hfz := unfrozen (i := k) HR.out
      obtain ⟨x0, hx0⟩ : ∃ x, x = B.getD (4 * k) 0 := ⟨_, rfl⟩
      obtain ⟨x1, hx1⟩ : ∃ x, x = B.getD (4 * k + 1) 0 := ⟨_, rfl⟩
      obtain ⟨x2, hx2⟩ : ∃ x, x = B.getD (4 * k + 2) 0 := ⟨_, rfl⟩
      obtain ⟨x3, hx3⟩ : ∃ x, x = B.getD (4 * k + 3) 0 := ⟨_, rfl⟩
      have HW : Hid (w4 B k = bits .or .u32 (bits .or .u32 (bits .or .u32 (x0 * 16777216) (x1 * 65536)) (x2 * 256)) x3) := by
        show _ = _
        rw [w4, hx0, hx1, hx2, hx3]
      rw [← hx0] at e0 b0
      rw [← hx1] at e1 b1
      rw [← hx2] at e2 b2
      rw [← hx3] at e3 b3
      clear hx0 hx1 hx2 hx3
      have hw0 : IntKind.i64.wrap (4 * (k : Int)) = 4 * (k : Int) := by rw [IntKind.wrap_i64]; omega
      have hw1 : IntKind.i64.wrap (4 * (k : Int) + 1) = 4 * (k : Int) + 1 := by rw [IntKind.wrap_i64]; omega
      have hw2 : IntKind.i64.wrap (4 * (k : Int) + 2) = 4 * (k : Int) + 2 := by rw [IntKind.wrap_i64]; omega
      have hw3 : IntKind.i64.wrap (4 * (k : Int) + 3) = 4 * (k : Int) + 3 := by rw [IntKind.wrap_i64]; omega
      have i0 : (0 : Int) ≤ 4 * (k : Int) := by omega
      have j0 : 4 * (k : Int) < 64 := by omega
      have j1 : 4 * (k : Int) + 1 < 64 := by omega
      have j2 : 4 * (k : Int) + 2 < 64 := by omega
      have j3 : 4 * (k : Int) + 3 < 64 := by omega
      have i1 : (0 : Int) ≤ 4 * (k : Int) + 1 := by omega
      have i2 : (0 : Int) ≤ 4 * (k : Int) + 2 := by omega
      have i3 : (0 : Int) ≤ 4 * (k : Int) + 3 := by omega
      have t0 : (4 * (k : Int)).toNat = 4 * k := by omega
      have t1 : (4 * (k : Int) + 1).toNat = 4 * k + 1 := by omega
      have t2 : (4 * (k : Int) + 2).toNat = 4 * k + 2 := by omega
      have t3 : (4 * (k : Int) + 3).toNat = 4 * k + 3 := by omega
      have p0 : (0 : Int) ≤ (k : Int) := by omega
      have p1 : (k : Int) < 64 := by omega
      have v0 : IntKind.u32.wrap x0 = x0 := by rw [IntKind.wrap_u32]; omega
      have v1 : IntKind.u32.wrap x1 = x1 := by rw [IntKind.wrap_u32]; omega
      have v2 : IntKind.u32.wrap x2 = x2 := by rw [IntKind.wrap_u32]; omega
      have v3 : IntKind.u32.wrap x3 = x3 := by rw [IntKind.wrap_u32]; omega
      have z0 : IntKind.u32.wrap (x0 * 16777216) = x0 * 16777216 := by rw [IntKind.wrap_u32]; omega
      have z1 : IntKind.u32.wrap (x1 * 65536) = x1 * 65536 := by rw [IntKind.wrap_u32]; omega
      have z2 : IntKind.u32.wrap (x2 * 256) = x2 * 256 := by rw [IntKind.wrap_u32]; omega
      go_wp2
      go_still_tail 36, (by kernel_rfl)
      change wpList _ _ _ _ _ wr.drew
      have HS : Hid ((wr.drew.setCell ⟨g, k, none⟩ (.int .u32 (w4 B k))).heap[g]? = some (.cells (row (sched B (k + 1))) 45)) := by
        show _ = _
        have h1 : wr.drew.heap[g]? = some (.cells (row (sched B k)) 45) := HR.out
        rw [Joins.block_setCell h1, sched, if_pos hlt, ← row_set _ _ (by rw [sched_length]; omega), sched_length]
      have HSB : Hid (Below g w (wr.drew.setCell ⟨g, k, none⟩ (.int .u32 (w4 B k)))) := Below.setCell (p := ⟨g, k, none⟩) (Below.drew HBEL.out) (Nat.le_refl _) _
      have hst' : wr.drew.cell? ⟨g, k, none⟩ = some (.int .u32 ((sched B k).getD k 0)) := hst
      have hfz' : wr.drew.frozen? ⟨g, k, none⟩ = false := hfz
      rw [HW.out] at HS HSB
      generalize wr.drew = w5 at HS HSB hst' hfz' ⊢
      go_wp2
      go_roundw
      case rel => exact ⟨k + 1, by omega, by go_num, HSB.out, HS⟩
      case measure => simp [intOf]; omega
    · have hk16 : k = 16 := by omega
      have HR' : Hid (wr.heap[g]? = some (.cells (row (sched B 16)) 45)) := by
        have h := HR.out
        rw [hk16] at h
        exact h
      clear HR
      have hkk : ¬ (k : Int) < 16 := by omega
      clear hk16
      go_wp2
      go_loopw [5] (fun c wq => ∃ k : Nat, 16 ≤ k ∧ k ≤ 64 ∧ c = .int .i64 k ∧ Below g w wq ∧ Hid (wq.heap[g]? = some (.cells (row (sched B k)) 45))) (fun c _ => 64 - (intOf c).toNat)
      case atStart => exact ⟨16, by omega, by omega, rfl, HBEL.out, HR'⟩
      case round =>
        clear HBEL HR'
        obtain ⟨k, hk1, hk2, rfl, hbel, HR⟩ := hrel
        have HBEL := Lib.hid hbel
        clear hbel
        by_cases hlt2 : k < 64
        · have u := sched_u32 B k
          have e2 := row_cell HR.out (k - 2) (by omega)
          have e7 := row_cell HR.out (k - 7) (by omega)
          have e15 := row_cell HR.out (k - 15) (by omega)
          have e16 := row_cell HR.out (k - 16) (by omega)
          have b2 := getD_u32 u (k - 2)
          have b7 := getD_u32 u (k - 7)
          have b15 := getD_u32 u (k - 15)
          have b16 := getD_u32 u (k - 16)
          have hst := row_cell HR.out k (by omega)
          have hfz := unfrozen (i := k) HR.out
          obtain ⟨y2, h2⟩ : ∃ x, x = (sched B k).getD (k - 2) 0 := ⟨_, rfl⟩
          obtain ⟨y7, h7⟩ : ∃ x, x = (sched B k).getD (k - 7) 0 := ⟨_, rfl⟩
          obtain ⟨y15, h15⟩ : ∃ x, x = (sched B k).getD (k - 15) 0 := ⟨_, rfl⟩
          obtain ⟨y16, h16⟩ : ∃ x, x = (sched B k).getD (k - 16) 0 := ⟨_, rfl⟩
          have HW : Hid (wn (sched B k) k = (((s1 y2 + y7) % 4294967296 + s0 y15) % 4294967296 + y16) % 4294967296) := by
            show _ = _
            rw [wn, h2, h7, h15, h16]
          rw [← h2] at e2 b2
          rw [← h7] at e7 b7
          rw [← h15] at e15 b15
          rw [← h16] at e16 b16
          have HU2 := Lib.hid b2
          have HU15 := Lib.hid b15
          unfold U32 at b2 b7 b15 b16
          clear h2 h7 h15 h16 u
          have T17 := Lib.hid (fun W => rturned_any y2 17 W HU2.out (by omega) (by omega))
          have T19 := Lib.hid (fun W => rturned_any y2 19 W HU2.out (by omega) (by omega))
          have T7 := Lib.hid (fun W => rturned_any y15 7 W HU15.out (by omega) (by omega))
          have T18 := Lib.hid (fun W => rturned_any y15 18 W HU15.out (by omega) (by omega))
          have w2 : IntKind.i64.wrap ((k : Int) - 2) = (k : Int) - 2 := by rw [IntKind.wrap_i64]; omega
          have w7 : IntKind.i64.wrap ((k : Int) - 7) = (k : Int) - 7 := by rw [IntKind.wrap_i64]; omega
          have w15 : IntKind.i64.wrap ((k : Int) - 15) = (k : Int) - 15 := by rw [IntKind.wrap_i64]; omega
          have w16 : IntKind.i64.wrap ((k : Int) - 16) = (k : Int) - 16 := by rw [IntKind.wrap_i64]; omega
          have q2 : (0 : Int) ≤ (k : Int) - 2 ∧ (k : Int) - 2 < 64 := by omega
          have q7 : (0 : Int) ≤ (k : Int) - 7 ∧ (k : Int) - 7 < 64 := by omega
          have q15 : (0 : Int) ≤ (k : Int) - 15 ∧ (k : Int) - 15 < 64 := by omega
          have q16 : (0 : Int) ≤ (k : Int) - 16 ∧ (k : Int) - 16 < 64 := by omega
          have t2 : ((k : Int) - 2).toNat = k - 2 := by omega
          have t7 : ((k : Int) - 7).toNat = k - 7 := by omega
          have t15 : ((k : Int) - 15).toNat = k - 15 := by omega
          have t16 : ((k : Int) - 16).toNat = k - 16 := by omega
          have p0 : (0 : Int) ≤ (k : Int) := by omega
          have p1 : (k : Int) < 64 := by omega
          have r2 : (2 : Int) ≤ (k : Int) := by omega
          have r7 : (7 : Int) ≤ (k : Int) := by omega
          have r15 : (15 : Int) ≤ (k : Int) := by omega
          have r16 : (16 : Int) ≤ (k : Int) := by omega
          go_wp2
          refine wp_region_still_lit (by kernel_rfl) (by kernel_rfl) ?_
          repeat still_step
          refine wpStill_nil ?_
          change Exit.then _ _ Exit.normal _ wr.drew
          have HR1 : Hid (wr.drew.heap[g]? = some (.cells (row (sched B k)) 45)) := HR.out
          have HBEL1 := Lib.hid (Below.drew HBEL.out)
          have f7 : wr.drew.cell? _ = _ := e7
          have f16 : wr.drew.cell? _ = _ := e16
          have fst : wr.drew.cell? _ = _ := hst
          have ffz : wr.drew.frozen? _ = _ := hfz
          generalize wr.drew = w5 at HR1 HBEL1 f7 f16 fst ffz ⊢
          clear e2 e7 e15 e16 hst hfz HR HBEL
          go_wp2
          go_still_tail 32, (by kernel_rfl)
          still_call (T17.out _)
          repeat still_step
          still_call (T19.out _)
          repeat still_step
          still_call (T7.out _)
          repeat still_step
          still_call (T18.out _)
          repeat still_step
          refine wpStill_nil ?_
          change wpList _ _ _ _ _ w5.drew
          have HR3 : Hid (w5.drew.heap[g]? = some (.cells (row (sched B k)) 45)) := HR1.out
          have HBEL3 := Lib.hid (Below.drew HBEL1.out)
          have kst : w5.drew.cell? _ = _ := fst
          have kfz : w5.drew.frozen? _ = _ := ffz
          generalize w5.drew = w7 at HR3 HBEL3 kst kfz ⊢
          clear f7 f16 fst ffz HR1 HBEL1
          obtain ⟨X, hX⟩ : ∃ X, X = IntKind.u32.wrap (IntKind.u32.wrap (IntKind.u32.wrap (bits BinOp.xor IntKind.u32 (bits BinOp.xor IntKind.u32 (rot 17 y2) (rot 19 y2)) (y2 / 1024) + y7) + bits BinOp.xor IntKind.u32 (bits BinOp.xor IntKind.u32 (rot 7 y15) (rot 18 y15)) (y15 / 8)) + y16) := ⟨_, rfl⟩
          have hE : X = wn (sched B k) k := by rw [hX, HW.out, IntKind.wrap_u32, IntKind.wrap_u32, IntKind.wrap_u32]; rfl
          rw [← hX]
          clear hX
          go_wp2
          go_roundw
          case rel =>
            refine ⟨k + 1, by omega, by omega, by go_num, ?_, ?_⟩
            · exact Below.setCell (p := ⟨g, k, none⟩) HBEL3.out (Nat.le_refl _) _
            · show _ = _
              rw [sched, if_neg (by omega), ← row_set _ _ (by rw [sched_length]; omega), sched_length, ← hE]
              exact Joins.block_setCell HR3.out _
          case measure => simp [intOf]; omega
        · have hk64 : k = 64 := by omega
          have HR' : Hid (wr.heap[g]? = some (.cells (row (sched B 64)) 45)) := by
            have h := HR.out
            rw [hk64] at h
            exact h
          clear HR
          have hkk : ¬ (k : Int) < 64 := by omega
          clear hk64
          go_wp2
          go_ret
          exact ⟨rfl, HR'.out, HBEL.out⟩
end Go.Proofs.YtkppnbehkmpogaaDoor.Sha
