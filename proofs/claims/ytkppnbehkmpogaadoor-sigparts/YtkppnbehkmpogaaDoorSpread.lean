import Derived.Test.YtkppnbehkmpogaaDoorSBase
import Derived.Deep.DeepCutAuto
import Derived.Laws.ResultCell
import Derived.Deep.MidRow
namespace Go.Proofs.YtkppnbehkmpogaaDoor.Sha
open Go.RowKit Go.Proofs.ShaMath
set_option linter.unusedVariables false
set_option maxRecDepth 100000
def Oct (l : List Int) : Prop := ∀ c ∈ l, 0 ≤ c ∧ c ≤ 255
theorem Oct.getD {l : List Int} (h : Oct l) (i : Nat) : 0 ≤ l.getD i 0 ∧ l.getD i 0 ≤ 255 := by
  by_cases hi : i < l.length
  · rw [List.getD_eq_getElem?_getD, List.getElem?_eq_getElem hi]; exact h _ (List.getElem_mem hi)
  · rw [List.getD_eq_getElem?_getD, List.getElem?_eq_none (by omega)]; simp
/-- words, and zeros up to 64 -/
def row (l : List Int) : Array Value := ((l ++ List.replicate (64 - l.length) 0).map (Value.int .u32)).toArray
theorem row_set (l : List Int) (x : Int) (h : l.length < 64) : (row l).setIfInBounds l.length (.int .u32 x) = row (l ++ [x]) := by
  obtain ⟨m, hm⟩ : ∃ m, 64 - l.length = m + 1 := ⟨63 - l.length, by omega⟩
  unfold row
  rw [hm, List.length_append, List.length_singleton, show 64 - (l.length + 1) = m from by omega]
  apply Array.ext'
  simp only [Array.toList_setIfInBounds, List.replicate_succ, List.map_append, List.map_cons]
  rw [List.set_append_right _ _ (by simp)]
  simp
theorem row_cell {W : World} {g : Nat} {l : List Int} {t : TypeId} (h : W.heap[g]? = some (.cells (row l) t)) (i : Nat) (hi : i < 64) : W.cell? ⟨g, i, none⟩ = some (.int .u32 (l.getD i 0)) := by
  simp only [World.cell?, h, row]
  rw [List.getElem?_toArray, List.getElem?_map, List.getElem?_append]
  by_cases hl : i < l.length
  · rw [if_pos hl, List.getElem?_eq_getElem hl, List.getD_eq_getElem?_getD, List.getElem?_eq_getElem hl]; rfl
  · have h2 : i - l.length < 64 - l.length := by omega
    rw [if_neg hl, List.getElem?_replicate, if_pos h2, List.getD_eq_getElem?_getD, List.getElem?_eq_none (by omega)]; rfl
theorem unfrozen {W : World} {g i : Nat} {cs : Array Value} {t : TypeId} (h : W.heap[g]? = some (.cells cs t)) : W.frozen? ⟨g, i, none⟩ = false := by
  simp [World.frozen?, h]
theorem heap_lt {W : World} {g : Nat} {o : Obj} (h : W.heap[g]? = some o) : g < W.heap.size := by
  rcases Nat.lt_or_ge g W.heap.size with h' | h'
  · exact h'
  · rw [Array.getElem?_eq_none h'] at h; cases h
theorem row_nil : row [] = #[.int .u32 0, .int .u32 0, .int .u32 0, .int .u32 0, .int .u32 0, .int .u32 0, .int .u32 0, .int .u32 0, .int .u32 0, .int .u32 0, .int .u32 0, .int .u32 0, .int .u32 0, .int .u32 0, .int .u32 0, .int .u32 0, .int .u32 0, .int .u32 0, .int .u32 0, .int .u32 0, .int .u32 0, .int .u32 0, .int .u32 0, .int .u32 0, .int .u32 0, .int .u32 0, .int .u32 0, .int .u32 0, .int .u32 0, .int .u32 0, .int .u32 0, .int .u32 0, .int .u32 0, .int .u32 0, .int .u32 0, .int .u32 0, .int .u32 0, .int .u32 0, .int .u32 0, .int .u32 0, .int .u32 0, .int .u32 0, .int .u32 0, .int .u32 0, .int .u32 0, .int .u32 0, .int .u32 0, .int .u32 0, .int .u32 0, .int .u32 0, .int .u32 0, .int .u32 0, .int .u32 0, .int .u32 0, .int .u32 0, .int .u32 0, .int .u32 0, .int .u32 0, .int .u32 0, .int .u32 0, .int .u32 0, .int .u32 0, .int .u32 0, .int .u32 0] := rfl
theorem heap_new (w : World) (o : Obj) : (w.alloc o).heap[w.heap.size]? = some o := by
  show (w.heap.push o)[w.heap.size]? = _
  simp

theorem row_size (l : List Int) (h : l.length ≤ 64) : (row l).size = 64 := by simp [row]; omega
theorem row_one (l : List Int) : ∀ v ∈ (row l).toList, v.oneCell' = true := by
  intro v hv
  simp only [row, List.mem_map] at hv
  obtain ⟨x, _, rfl⟩ := hv
  rfl
theorem row_full (l : List Int) (h : l.length = 64) : (row l).toList.toArray = (l.map (Value.int .u32)).toArray := by
  rw [Array.toArray_toList]
  simp [row, h]
theorem below_setCells (B g : Nat) (vs : List Value) : ∀ (o : Nat) (w W : World), Below B w W → B ≤ g → Below B w (W.setCells g o vs) := by
  induction vs with
  | nil => intro o w W h _; exact h
  | cons v vs ih => intro o w W h hg; exact ih (o + 1) w _ (Below.setCell (p := ⟨g, o, none⟩) h hg v) hg
theorem load_row {W : World} {g : Nat} {c : Array Value} {t : TypeId} {fr : Nat × Nat} (h : W.heap[g]? = some (.cells c t fr)) (n : Nat) (hn : c.size = n) :
    (loadCellsFrom ⟨g, 0, none⟩ 0 n #[]).run Tryd.prog W = .ok c W := by
  subst hn
  have := run_loadCells_list (P := Tryd.prog) W ⟨g, 0, none⟩ c.toList (fun j v hv => by
    have hadd : (⟨g, 0, none⟩ : Addr).add j = ⟨g, j, none⟩ := by unfold Addr.add; split <;> simp_all
    rw [hadd, cell_of_row _ _ j c t fr h]
    simpa using hv)
  simpa [loadCells] using this
theorem store_row {W : World} {g : Nat} {old : Array Value} {t : TypeId} (h : W.heap[g]? = some (.cells old t)) (c : Array Value) (ho : old.size = c.size) (h1 : ∀ v ∈ c.toList, v.oneCell' = true) :
    (storeCells ⟨g, 0, none⟩ c.toList 0).run Tryd.prog W = .ok () (W.setRow g c) := by
  have := run_storeCells_from (P := Tryd.prog) g t c.toList 0 old W h (by simp; omega) h1
  simpa using this

set_option maxHeartbeats 1000000 in
set_option maxRecDepth 1000000 in
theorem spread_walk (b off cap : Nat) (B : List Int) (w : World) (hl : B.length = 64) (ho : Oct B) (hc : ∀ i, i < 64 → w.cell? ⟨b, off + i, none⟩ = some (.int .u8 (B.getD i 0))) :
    Calls Tryd.prog 91 #[.slice (some ⟨b, off, none⟩) 64 cap] w fun e w' => e = .returned (.agg ((sched B 64).map (Value.int .u32)).toArray) ∧ Below w.heap.size w w' := by
  have HO := Lib.hid ho
  have HC := Lib.hid hc
  clear ho hc
  go_enter Tryd.func91, Tryd.ntmps91
  go_wp2
  rw [← row_nil]
  have HH1 : Hid (((w.alloc (.cells (row []) 99)).alloc (.cells (row []) 99)).heap[w.heap.size + 1]? = some (.cells (row (sched B 0)) 99)) := by
    show _ = _
    have h := heap_new (w.alloc (.cells (row []) 99)) (.cells (row []) 99)
    rw [show (w.alloc (.cells (row []) 99)).heap.size = w.heap.size + 1 from by simp] at h
    exact h
  have HH0 : Hid (((w.alloc (.cells (row []) 99)).alloc (.cells (row []) 99)).heap[w.heap.size]? = some (.cells (row []) 99)) := by
    show _ = _
    rw [Below.heap_alloc _ _ _ (by simp)]; exact heap_new _ _
  have HB1 : Hid (Below w.heap.size w ((w.alloc (.cells (row []) 99)).alloc (.cells (row []) 99))) := ((Below.refl _ _).alloc (Nat.le_refl _) _).alloc (by simp) _
  generalize (w.alloc (.cells (row []) 99)).alloc (.cells (row []) 99) = w1 at HH1 HH0 HB1 ⊢
  obtain ⟨g, hg⟩ : ∃ g, g = w.heap.size := ⟨_, rfl⟩
  have HG := Lib.hid hg
  rw [← hg] at HH1 HH0 HB1 ⊢
  clear hg
  go_loopw [8] (fun c wr => ∃ k : Nat, k ≤ 16 ∧ c = .int .i64 k ∧ Below g w wr ∧ Hid (wr.heap[g + 1]? = some (.cells (row (sched B k)) 99)) ∧ Hid (wr.heap[g]? = some (.cells (row []) 99))) (fun c _ => 16 - (intOf c).toNat)
  case atStart => exact ⟨0, by omega, rfl, HB1.out, HH1, HH0⟩
  case round =>
    obtain ⟨k, hk, rfl, hbel, HR, HR0⟩ := hrel
    have HBEL := Lib.hid hbel
    clear hbel
    by_cases hlt : k < 16
    · have e0 := cell_later (by have := HBEL.out; rw [HG.out] at this; exact this) (HC.out (4 * k) (by omega))
      have e1 := cell_later (by have := HBEL.out; rw [HG.out] at this; exact this) (HC.out (4 * k + 1) (by omega))
      have e2 := cell_later (by have := HBEL.out; rw [HG.out] at this; exact this) (HC.out (4 * k + 2) (by omega))
      have e3 := cell_later (by have := HBEL.out; rw [HG.out] at this; exact this) (HC.out (4 * k + 3) (by omega))
      have b0 := HO.out.getD (4 * k)
      have b1 := HO.out.getD (4 * k + 1)
      have b2 := HO.out.getD (4 * k + 2)
      have b3 := HO.out.getD (4 * k + 3)
      have hst := row_cell HR.out k (by omega)
      have hfz := unfrozen (i := k) HR.out
      obtain ⟨x0, hx0⟩ : ∃ x, x = B.getD (4 * k) 0 := ⟨_, rfl⟩
      obtain ⟨x1, hx1⟩ : ∃ x, x = B.getD (4 * k + 1) 0 := ⟨_, rfl⟩
      obtain ⟨x2, hx2⟩ : ∃ x, x = B.getD (4 * k + 2) 0 := ⟨_, rfl⟩
      obtain ⟨x3, hx3⟩ : ∃ x, x = B.getD (4 * k + 3) 0 := ⟨_, rfl⟩
      have HW : Hid (w4 B k = bits .or .u32 (bits .or .u32 (bits .or .u32 (x0 * 16777216) (x1 * 65536)) (x2 * 256)) x3) := by
        show _ = _
        rw [w4, hx0, hx1, hx2, hx3]
      rw [← hx0] at e0 b0
      rw [← hx1] at e1 b1
      rw [← hx2] at e2 b2
      rw [← hx3] at e3 b3
      clear hx0 hx1 hx2 hx3
      have hw0 : IntKind.i64.wrap (4 * (k : Int)) = 4 * (k : Int) := by rw [IntKind.wrap_i64]; omega
      have hw1 : IntKind.i64.wrap (4 * (k : Int) + 1) = 4 * (k : Int) + 1 := by rw [IntKind.wrap_i64]; omega
      have hw2 : IntKind.i64.wrap (4 * (k : Int) + 2) = 4 * (k : Int) + 2 := by rw [IntKind.wrap_i64]; omega
      have hw3 : IntKind.i64.wrap (4 * (k : Int) + 3) = 4 * (k : Int) + 3 := by rw [IntKind.wrap_i64]; omega
      have i0 : (0 : Int) ≤ 4 * (k : Int) := by omega
      have j0 : 4 * (k : Int) < 64 := by omega
      have j1 : 4 * (k : Int) + 1 < 64 := by omega
      have j2 : 4 * (k : Int) + 2 < 64 := by omega
      have j3 : 4 * (k : Int) + 3 < 64 := by omega
      have i1 : (0 : Int) ≤ 4 * (k : Int) + 1 := by omega
      have i2 : (0 : Int) ≤ 4 * (k : Int) + 2 := by omega
      have i3 : (0 : Int) ≤ 4 * (k : Int) + 3 := by omega
      have t0 : (4 * (k : Int)).toNat = 4 * k := by omega
      have t1 : (4 * (k : Int) + 1).toNat = 4 * k + 1 := by omega
      have t2 : (4 * (k : Int) + 2).toNat = 4 * k + 2 := by omega
      have t3 : (4 * (k : Int) + 3).toNat = 4 * k + 3 := by omega
      have p0 : (0 : Int) ≤ (k : Int) := by omega
      have p1 : (k : Int) < 64 := by omega
      have v0 : IntKind.u32.wrap x0 = x0 := by rw [IntKind.wrap_u32]; omega
      have v1 : IntKind.u32.wrap x1 = x1 := by rw [IntKind.wrap_u32]; omega
      have v2 : IntKind.u32.wrap x2 = x2 := by rw [IntKind.wrap_u32]; omega
      have v3 : IntKind.u32.wrap x3 = x3 := by rw [IntKind.wrap_u32]; omega
      have z0 : IntKind.u32.wrap (x0 * 16777216) = x0 * 16777216 := by rw [IntKind.wrap_u32]; omega
      have z1 : IntKind.u32.wrap (x1 * 65536) = x1 * 65536 := by rw [IntKind.wrap_u32]; omega
      have z2 : IntKind.u32.wrap (x2 * 256) = x2 * 256 := by rw [IntKind.wrap_u32]; omega
      go_wp2
      go_still_tail 35, (by kernel_rfl)
      change wpList _ _ _ _ _ wr.drew
      have HS : Hid ((wr.drew.setCell ⟨g + 1, k, none⟩ (.int .u32 (w4 B k))).heap[g + 1]? = some (.cells (row (sched B (k + 1))) 99)) := by
        show _ = _
        have h1 : wr.drew.heap[g + 1]? = some (.cells (row (sched B k)) 99) := HR.out
        rw [Joins.block_setCell h1, sched, if_pos hlt, ← row_set _ _ (by rw [sched_length]; omega), sched_length]
      have HS0 : Hid ((wr.drew.setCell ⟨g + 1, k, none⟩ (.int .u32 (w4 B k))).heap[g]? = some (.cells (row []) 99)) := by
        show _ = _
        rw [Below.heap_setCell _ _ _ _ (by show g ≠ g + 1; omega)]; exact HR0.out
      have HSB : Hid (Below g w (wr.drew.setCell ⟨g + 1, k, none⟩ (.int .u32 (w4 B k)))) := Below.setCell (p := ⟨g + 1, k, none⟩) (Below.drew HBEL.out) (by show g ≤ g + 1; omega) _
      have hst' : wr.drew.cell? ⟨g + 1, k, none⟩ = some (.int .u32 ((sched B k).getD k 0)) := hst
      have hfz' : wr.drew.frozen? ⟨g + 1, k, none⟩ = false := hfz
      rw [HW.out] at HS HS0 HSB
      generalize wr.drew = w5 at HS HS0 HSB hst' hfz' ⊢
      go_wp2
      go_roundw
      case rel => exact ⟨k + 1, by omega, by go_num, HSB.out, HS, HS0⟩
      case measure => simp [intOf]; omega
    · have hk16 : k = 16 := by omega
      have HR' : Hid (wr.heap[g + 1]? = some (.cells (row (sched B 16)) 99)) := by rw [← hk16]; exact HR
      clear HR
      have hkk : ¬ (k : Int) < 16 := by omega
      clear hk16
      go_wp2
      go_loopw [5] (fun c wq => ∃ k : Nat, 16 ≤ k ∧ k ≤ 64 ∧ c = .int .i64 k ∧ Below g w wq ∧ Hid (wq.heap[g + 1]? = some (.cells (row (sched B k)) 99)) ∧ Hid (wq.heap[g]? = some (.cells (row []) 99))) (fun c _ => 64 - (intOf c).toNat)
      case atStart => exact ⟨16, by omega, by omega, rfl, HBEL.out, HR', HR0⟩
      case round =>
        clear HBEL HR' HR0
        obtain ⟨k, hk1, hk2, rfl, hbel, HR, HR0⟩ := hrel
        have HBEL := Lib.hid hbel
        clear hbel
        by_cases hlt2 : k < 64
        · have u := sched_u32 B k
          have e2 := row_cell HR.out (k - 2) (by omega)
          have e7 := row_cell HR.out (k - 7) (by omega)
          have e15 := row_cell HR.out (k - 15) (by omega)
          have e16 := row_cell HR.out (k - 16) (by omega)
          have b2 := getD_u32 u (k - 2)
          have b7 := getD_u32 u (k - 7)
          have b15 := getD_u32 u (k - 15)
          have b16 := getD_u32 u (k - 16)
          have hst := row_cell HR.out k (by omega)
          have hfz := unfrozen (i := k) HR.out
          obtain ⟨y2, h2⟩ : ∃ x, x = (sched B k).getD (k - 2) 0 := ⟨_, rfl⟩
          obtain ⟨y7, h7⟩ : ∃ x, x = (sched B k).getD (k - 7) 0 := ⟨_, rfl⟩
          obtain ⟨y15, h15⟩ : ∃ x, x = (sched B k).getD (k - 15) 0 := ⟨_, rfl⟩
          obtain ⟨y16, h16⟩ : ∃ x, x = (sched B k).getD (k - 16) 0 := ⟨_, rfl⟩
          have HW : Hid (wn (sched B k) k = (((s1 y2 + y7) % 4294967296 + s0 y15) % 4294967296 + y16) % 4294967296) := by
            show _ = _
            rw [wn, h2, h7, h15, h16]
          rw [← h2] at e2 b2
          rw [← h7] at e7 b7
          rw [← h15] at e15 b15
          rw [← h16] at e16 b16
          have HU2 := Lib.hid b2
          have HU15 := Lib.hid b15
          unfold U32 at b2 b7 b15 b16
          clear h2 h7 h15 h16 u
          have T17 := Lib.hid (fun W => turned_any y2 17 W HU2.out (by omega) (by omega))
          have T19 := Lib.hid (fun W => turned_any y2 19 W HU2.out (by omega) (by omega))
          have T7 := Lib.hid (fun W => turned_any y15 7 W HU15.out (by omega) (by omega))
          have T18 := Lib.hid (fun W => turned_any y15 18 W HU15.out (by omega) (by omega))
          have w2 : IntKind.i64.wrap ((k : Int) - 2) = (k : Int) - 2 := by rw [IntKind.wrap_i64]; omega
          have w7 : IntKind.i64.wrap ((k : Int) - 7) = (k : Int) - 7 := by rw [IntKind.wrap_i64]; omega
          have w15 : IntKind.i64.wrap ((k : Int) - 15) = (k : Int) - 15 := by rw [IntKind.wrap_i64]; omega
          have w16 : IntKind.i64.wrap ((k : Int) - 16) = (k : Int) - 16 := by rw [IntKind.wrap_i64]; omega
          have q2 : (0 : Int) ≤ (k : Int) - 2 ∧ (k : Int) - 2 < 64 := by omega
          have q7 : (0 : Int) ≤ (k : Int) - 7 ∧ (k : Int) - 7 < 64 := by omega
          have q15 : (0 : Int) ≤ (k : Int) - 15 ∧ (k : Int) - 15 < 64 := by omega
          have q16 : (0 : Int) ≤ (k : Int) - 16 ∧ (k : Int) - 16 < 64 := by omega
          have t2 : ((k : Int) - 2).toNat = k - 2 := by omega
          have t7 : ((k : Int) - 7).toNat = k - 7 := by omega
          have t15 : ((k : Int) - 15).toNat = k - 15 := by omega
          have t16 : ((k : Int) - 16).toNat = k - 16 := by omega
          have p0 : (0 : Int) ≤ (k : Int) := by omega
          have p1 : (k : Int) < 64 := by omega
          have r2 : (2 : Int) ≤ (k : Int) := by omega
          have r7 : (7 : Int) ≤ (k : Int) := by omega
          have r15 : (15 : Int) ≤ (k : Int) := by omega
          have r16 : (16 : Int) ≤ (k : Int) := by omega
          go_wp2
          refine wp_region_still_lit (by kernel_rfl) (by kernel_rfl) ?_
          repeat still_step
          still_call (T17.out _)
          repeat still_step
          still_call (T19.out _)
          repeat still_step
          refine wpStill_nil ?_
          change Exit.then _ _ Exit.normal _ wr.drew
          have HR1 : Hid (wr.drew.heap[g + 1]? = some (.cells (row (sched B k)) 99)) := HR.out
          have HR01 : Hid (wr.drew.heap[g]? = some (.cells (row []) 99)) := HR0.out
          have HBEL1 := Lib.hid (Below.drew HBEL.out)
          have f7 : wr.drew.cell? _ = _ := e7
          have f15 : wr.drew.cell? _ = _ := e15
          have f16 : wr.drew.cell? _ = _ := e16
          have fst : wr.drew.cell? _ = _ := hst
          have ffz : wr.drew.frozen? _ = _ := hfz
          generalize wr.drew = w5 at HR1 HR01 HBEL1 f7 f15 f16 fst ffz ⊢
          rw [show bits BinOp.xor IntKind.u32 (bits BinOp.xor IntKind.u32 (rot 17 y2) (rot 19 y2)) (y2 / 1024) = s1 y2 from rfl]
          have bs1 := s1_u32 y2
          unfold U32 at bs1
          clear e2 e7 e15 e16 hst hfz HR HR0 HBEL
          go_wp2
          refine wp_region_still_lit (by kernel_rfl) (by kernel_rfl) ?_
          repeat still_step
          still_call (T7.out _)
          repeat still_step
          still_call (T18.out _)
          repeat still_step
          refine wpStill_nil ?_
          change Exit.then _ _ Exit.normal _ w5.drew
          have HR2 : Hid (w5.drew.heap[g + 1]? = some (.cells (row (sched B k)) 99)) := HR1.out
          have HR02 : Hid (w5.drew.heap[g]? = some (.cells (row []) 99)) := HR01.out
          have HBEL2 := Lib.hid (Below.drew HBEL1.out)
          have g7 : w5.drew.cell? _ = _ := f7
          have g16 : w5.drew.cell? _ = _ := f16
          have gst : w5.drew.cell? _ = _ := fst
          have gfz : w5.drew.frozen? _ = _ := ffz
          generalize w5.drew = w6 at HR2 HR02 HBEL2 g7 g16 gst gfz ⊢
          rw [show bits BinOp.xor IntKind.u32 (bits BinOp.xor IntKind.u32 (rot 7 y15) (rot 18 y15)) (y15 / 8) = s0 y15 from rfl]
          have bs0 := s0_u32 y15
          unfold U32 at bs0
          clear f7 f15 f16 fst ffz HR1 HR01 HBEL1
          go_wp2
          go_still_tail 15, (by kernel_rfl)
          change wpList _ _ _ _ _ w6.drew
          have HR3 : Hid (w6.drew.heap[g + 1]? = some (.cells (row (sched B k)) 99)) := HR2.out
          have HR03 : Hid (w6.drew.heap[g]? = some (.cells (row []) 99)) := HR02.out
          have HBEL3 := Lib.hid (Below.drew HBEL2.out)
          have kst : w6.drew.cell? _ = _ := gst
          have kfz : w6.drew.frozen? _ = _ := gfz
          generalize w6.drew = w7 at HR3 HR03 HBEL3 kst kfz ⊢
          obtain ⟨X, hX⟩ : ∃ X, X = IntKind.u32.wrap (IntKind.u32.wrap (IntKind.u32.wrap (s1 y2 + y7) + s0 y15) + y16) := ⟨_, rfl⟩
          have hE : X = wn (sched B k) k := by rw [hX, HW.out, IntKind.wrap_u32, IntKind.wrap_u32, IntKind.wrap_u32]
          rw [← hX]
          clear hX
          clear g7 g16 gst gfz HR2 HR02 HBEL2
          go_wp2
          go_roundw
          case rel =>
            refine ⟨k + 1, by omega, by omega, by go_num, ?_, ?_, ?_⟩
            · exact Below.setCell (p := ⟨g + 1, k, none⟩) HBEL3.out (by show g ≤ g + 1; omega) _
            · show _ = _
              rw [sched, if_neg (by omega), ← row_set _ _ (by rw [sched_length]; omega), sched_length, ← hE]
              exact Joins.block_setCell HR3.out _
            · show _ = _
              rw [Below.heap_setCell _ _ _ _ (by show g ≠ g + 1; omega)]; exact HR03.out
          case measure => simp [intOf]; omega
        · have hk64 : k = 64 := by omega
          have HR' : Hid (wr.heap[g + 1]? = some (.cells (row (sched B 64)) 99)) := by rw [← hk64]; exact HR
          clear HR
          have hkk : ¬ (k : Int) < 64 := by omega
          clear hk64
          have hr1 : wr.rangeAt (g + 1) 0 (row (sched B 64)).toList := by
            intro j v hj
            rw [Nat.zero_add]
            exact (cell_of_row _ _ j _ 99 (0, 0) HR'.out).trans (by simpa using hj)
          have ht0 : wr.there g 0 (row (sched B 64)).toList.toArray.size := by
            intro j hj
            rw [Nat.zero_add]
            refine ⟨?_, unfrozen HR0.out⟩
            rw [row_cell HR0.out j (by rw [Array.toArray_toList, row_size _ (by rw [sched_length]; omega)] at hj; exact hj)]; rfl
          have hi1 : (Tryd.prog.info? 99).map (·.size) = some (row (sched B 64)).toList.length := by
            rw [Array.length_toList, row_size _ (by rw [sched_length]; omega)]; kernel_rfl
          have hi2 : (Tryd.prog.info? 99).map (·.size) = some (row (sched B 64)).toList.toArray.size := by
            rw [Array.toArray_toList, row_size _ (by rw [sched_length]; omega)]; kernel_rfl
          have h1c : ((row (sched B 64)).toList.toArray.all fun x => x.oneCell') = true := by
            rw [Array.all_eq_true_iff_forall_mem]
            intro v hv
            exact row_one _ v (by simpa using hv)
          go_upto_region 13 with (fail)
          refine wp_region_lit ?_
          refine wpList_load_mid rfl 99 (.tmp 3) rfl (g + 1) 0 rfl (row (sched B 64)).toList (.array 64 45) hr1 Tryd.underlying99 rfl hi1 ?_
          refine wpList_store_mid rfl 99 (.tmp 2) (.tmp 100) rfl g 0 (row (sched B 64)).toList.toArray rfl rfl ht0 hi2 h1c ?_
          have hr3 : (wr.setCells g 0 (row (sched B 64)).toList.toArray.toList).rangeAt g 0 (row (sched B 64)).toList := by
            have := World.rangeAt_setCells_same wr g 0 (row (sched B 64)).toList.toArray.toList (by simpa using ht0)
            simpa using this
          have hb3 : Below g w (wr.setCells g 0 (row (sched B 64)).toList.toArray.toList) := below_setCells g g _ 0 w wr HBEL.out (Nat.le_refl _)
          generalize wr.setCells g 0 (row (sched B 64)).toList.toArray.toList = w9 at hr3 hb3 ⊢
          have hres := run_loadVar_mid (P := Tryd.prog) (w := w9) (ty := 99) (b := g) (o := 0) (cs := (row (sched B 64)).toList) (d := .array 64 45) hr3 Tryd.underlying99 rfl hi1
          have HRES := Lib.hid hres
          have HB3 := Lib.hid hb3
          clear hres hb3 hr3 hr1 ht0 hi1 hi2 h1c
          go_wp2
          refine bodyPost_ret (v := .agg ((sched B 64).map (Value.int .u32)).toArray) ?_ rfl ?_
          · have hres := HRES.out
            rw [row_full _ (sched_length B 64)] at hres
            simp only [results]
            simp [asAddr, hres]
          · exact ⟨rfl, by rw [← HG.out]; exact HB3.out⟩
end Go.Proofs.YtkppnbehkmpogaaDoor.Sha
