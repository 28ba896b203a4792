/- sha.mixed: the state's words behind one more block. -/
import Derived.Test.YtkppnbehkmpogaaDoorSpread
namespace Go.Proofs.YtkppnbehkmpogaaDoor.Sha
open Go.RowKit Go.Proofs.ShaMath
set_option linter.unusedVariables false
set_option maxRecDepth 100000

/-- a table of 64 words lies in a block -/
def Tab (W : World) (b : Nat) (K : List Int) : Prop := b < W.heap.size ∧ K.length = 64 ∧ (∀ x ∈ K, U32 x) ∧ ∀ j, j < 64 → W.cell? ⟨b, j, none⟩ = some (.int .u32 (K.getD j 0))
theorem Tab.later {W W' : World} {b : Nat} {K : List Int} (h : Tab W b K) (hb : Below W.heap.size W W') : Tab W' b K :=
  ⟨Nat.lt_of_lt_of_le h.1 hb.size, h.2.1, h.2.2.1, fun j hj => cell_later hb (h.2.2.2 j hj)⟩
theorem heap_setCells (g k : Nat) (hk : k ≠ g) (vs : List Value) : ∀ (o : Nat) (W : World), (W.setCells g o vs).heap[k]? = W.heap[k]? := by
  induction vs with
  | nil => intro o W; rfl
  | cons v vs ih => intro o W; exact (ih (o + 1) _).trans (Below.heap_setCell _ _ _ _ hk)
def words (s : St) : Array Value := #[.int .u32 s.a, .int .u32 s.b, .int .u32 s.c, .int .u32 s.d, .int .u32 s.e, .int .u32 s.f, .int .u32 s.g, .int .u32 s.h]

theorem run_idx (C : Array Value) (k : Nat) (x : Int) (W : World) (hk : k < 64) (hg : C[k]? = some (.int .u32 x)) :
    (Instr.index 99 (.agg C) (.int .i64 (k : Int))).run Tryd.prog W = .ok (.int .u32 x) W := by
  have hn : (0 : Int) ≤ (k : Int) ∧ (k : Int) < 64 := by omega
  have hu := Tryd.underlying99
  simp [Instr.index, run_underlying hu, asIntOf, go_sem]
  rw [if_pos hk, hg]; rfl
/-- the words of which the first j have what a round made added -/
def adds (s r : St) (j : Nat) : Array Value := (((s.plus r).list.take j ++ s.list.drop j).map (Value.int .u32)).toArray
theorem lt8 (j : Nat) (h : j < 8) : j = 0 ∨ j = 1 ∨ j = 2 ∨ j = 3 ∨ j = 4 ∨ j = 5 ∨ j = 6 ∨ j = 7 := by omega
theorem adds_set (s r : St) (j : Nat) (h : j < 8) : (adds s r j).setIfInBounds j (.int .u32 ((s.list.getD j 0 + r.list.getD j 0) % 4294967296)) = adds s r (j + 1) := by
  rcases lt8 j h with rfl | rfl | rfl | rfl | rfl | rfl | rfl | rfl <;> rfl
theorem adds_cell {W : World} {g : Nat} {s r : St} {t : TypeId} (j : Nat) (h : W.heap[g]? = some (.cells (adds s r j) t)) (hj : j < 8) : W.cell? ⟨g, j, none⟩ = some (.int .u32 (s.list.getD j 0)) := by
  simp only [World.cell?, h]
  rcases lt8 j hj with rfl | rfl | rfl | rfl | rfl | rfl | rfl | rfl <;> rfl
theorem adds_zero (s r : St) : adds s r 0 = words s := rfl
theorem adds_all (s r : St) : adds s r 8 = words (s.plus r) := rfl
theorem list_u32 {s : St} (h : s.ok) (j : Nat) : U32 (s.list.getD j 0) := by
  apply getD_u32
  intro x hx
  simp only [St.list, List.mem_cons, List.not_mem_nil, or_false] at hx
  obtain ⟨h1, h2, h3, h4, h5, h6, h7, h8⟩ := h
  rcases hx with rfl | rfl | rfl | rfl | rfl | rfl | rfl | rfl <;> assumption
theorem run_idx8 (r : St) (j : Nat) (W : World) (hj : j < 8) :
    (Instr.index 101 (.agg (words r)) (.int .i64 (j : Int))).run Tryd.prog W = .ok (.int .u32 (r.list.getD j 0)) W := by
  have hu := Tryd.underlying101
  have hg : (words r)[j]? = some (.int .u32 (r.list.getD j 0)) := by
    rcases lt8 j hj with rfl | rfl | rfl | rfl | rfl | rfl | rfl | rfl <;> rfl
  simp [Instr.index, run_underlying hu, asIntOf, go_sem]
  rw [if_pos hj, hg]; rfl
theorem cells8 {W : World} {g : Nat} {s : St} {t : TypeId} (h : W.heap[g]? = some (.cells (words s) t)) :
    W.cell? ⟨g, 0, none⟩ = some (.int .u32 s.a) ∧ W.cell? ⟨g, 1, none⟩ = some (.int .u32 s.b) ∧ W.cell? ⟨g, 2, none⟩ = some (.int .u32 s.c) ∧ W.cell? ⟨g, 3, none⟩ = some (.int .u32 s.d) ∧ W.cell? ⟨g, 4, none⟩ = some (.int .u32 s.e) ∧ W.cell? ⟨g, 5, none⟩ = some (.int .u32 s.f) ∧ W.cell? ⟨g, 6, none⟩ = some (.int .u32 s.g) ∧ W.cell? ⟨g, 7, none⟩ = some (.int .u32 s.h) := by
  unfold words at h
  refine ⟨?_, ?_, ?_, ?_, ?_, ?_, ?_, ?_⟩ <;> simp [World.cell?, h]

set_option maxHeartbeats 2000000 in
set_option maxRecDepth 1000000 in
theorem mixed_walk (b off cap : Nat) (B : List Int) (s : St) (K : List Int) (w : World) (hs : s.ok) (hl : B.length = 64) (ho : Oct B) (hT : Tab w 2 K) (hc : ∀ i, i < 64 → w.cell? ⟨b, off + i, none⟩ = some (.int .u8 (B.getD i 0))) :
    Calls Tryd.prog 87 #[.agg (words s), .slice (some ⟨b, off, none⟩) 64 cap] w fun e w' => e = .returned (.agg (words (mix K s B))) ∧ Below w.heap.size w w' := by
  have HT := Lib.hid hT
  have HSP := Lib.hid (fun W (hb : Below w.heap.size w W) => spread_walk b off cap B W hl ho (fun i hi => cell_later hb (hc i hi)))
  have HS := Lib.hid hs
  clear hT hc ho hs
  unfold words
  go_enter Tryd.func87, Tryd.ntmps87
  go_upto_region 1 with (fail)
  obtain ⟨g, hg⟩ : ∃ g, g = w.heap.size := ⟨_, rfl⟩
  have HH0 : Hid (((w.alloc (.cells #[.int .u32 s.a, .int .u32 s.b, .int .u32 s.c, .int .u32 s.d, .int .u32 s.e, .int .u32 s.f, .int .u32 s.g, .int .u32 s.h] 101)).alloc (.cells #[.int .u32 0, .int .u32 0, .int .u32 0, .int .u32 0, .int .u32 0, .int .u32 0, .int .u32 0, .int .u32 0] 101)).heap[g]? = some (.cells (words s) 101)) := by
    show _ = _
    rw [hg, Below.heap_alloc _ _ _ (by simp)]; exact heap_new _ _
  have HH1 : Hid (((w.alloc (.cells #[.int .u32 s.a, .int .u32 s.b, .int .u32 s.c, .int .u32 s.d, .int .u32 s.e, .int .u32 s.f, .int .u32 s.g, .int .u32 s.h] 101)).alloc (.cells #[.int .u32 0, .int .u32 0, .int .u32 0, .int .u32 0, .int .u32 0, .int .u32 0, .int .u32 0, .int .u32 0] 101)).heap[g + 1]? = some (.cells #[.int .u32 0, .int .u32 0, .int .u32 0, .int .u32 0, .int .u32 0, .int .u32 0, .int .u32 0, .int .u32 0] 101)) := by
    show _ = _
    have h := heap_new (w.alloc (.cells #[.int .u32 s.a, .int .u32 s.b, .int .u32 s.c, .int .u32 s.d, .int .u32 s.e, .int .u32 s.f, .int .u32 s.g, .int .u32 s.h] 101)) (.cells #[.int .u32 0, .int .u32 0, .int .u32 0, .int .u32 0, .int .u32 0, .int .u32 0, .int .u32 0, .int .u32 0] 101)
    rw [show (w.alloc (.cells #[.int .u32 s.a, .int .u32 s.b, .int .u32 s.c, .int .u32 s.d, .int .u32 s.e, .int .u32 s.f, .int .u32 s.g, .int .u32 s.h] 101)).heap.size = g + 1 from by rw [hg]; simp] at h
    exact h
  have HB1 : Hid (Below w.heap.size w ((w.alloc (.cells #[.int .u32 s.a, .int .u32 s.b, .int .u32 s.c, .int .u32 s.d, .int .u32 s.e, .int .u32 s.f, .int .u32 s.g, .int .u32 s.h] 101)).alloc (.cells #[.int .u32 0, .int .u32 0, .int .u32 0, .int .u32 0, .int .u32 0, .int .u32 0, .int .u32 0, .int .u32 0] 101))) := ((Below.refl _ _).alloc (Nat.le_refl _) _).alloc (by simp) _
  generalize ((w.alloc (.cells #[.int .u32 s.a, .int .u32 s.b, .int .u32 s.c, .int .u32 s.d, .int .u32 s.e, .int .u32 s.f, .int .u32 s.g, .int .u32 s.h] 101)).alloc (.cells #[.int .u32 0, .int .u32 0, .int .u32 0, .int .u32 0, .int .u32 0, .int .u32 0, .int .u32 0, .int .u32 0] 101)) = w1 at HH0 HH1 HB1 ⊢
  rw [← hg]
  have HG := Lib.hid hg
  clear hg
  go_wp2_with fail
  refine (HSP.out _ HB1.out).mono ?_
  rintro e w2 ⟨rfl, hb2⟩
  have hlt0 := heap_lt HH0.out
  have hlt1 := heap_lt HH1.out
  obtain ⟨SCH, hSCH⟩ : ∃ SCH, SCH = ((sched B 64).map (Value.int .u32)).toArray := ⟨_, rfl⟩
  rw [← hSCH]
  have hsz : SCH.size = 64 := by rw [hSCH]; simp [sched_length]
  have HGET : Hid (∀ j, j < 64 → SCH[j]? = some (.int .u32 ((sched B 64).getD j 0))) := by
    intro j hj
    rw [hSCH, List.getElem?_toArray, List.getElem?_map, List.getElem?_eq_getElem (by rw [sched_length]; exact hj), List.getD_eq_getElem?_getD, List.getElem?_eq_getElem (by rw [sched_length]; exact hj)]; rfl
  have HONE : Hid ((SCH.all fun x => x.oneCell') = true) := by
    show _ = _
    rw [Array.all_eq_true_iff_forall_mem, hSCH]
    intro v hv
    simp only [List.mem_toArray, List.mem_map] at hv
    obtain ⟨x, _, rfl⟩ := hv
    rfl
  have HTH : Hid ((w2.alloc (.cells (row []) 99)).there w2.heap.size 0 SCH.size) := by
    intro j hj
    rw [Nat.zero_add]
    refine ⟨?_, unfrozen (heap_new w2 _)⟩
    rw [row_cell (heap_new w2 _) j (by rw [hsz] at hj; exact hj)]; rfl
  rw [row_nil] at HTH
  have HI : Hid ((Tryd.prog.info? 99).map (·.size) = some SCH.size) := by show _ = _; rw [hsz]; kernel_rfl
  have HB2 := Lib.hid (HB1.out.trans (hb2.mono HB1.out.size))
  have HA0 : Hid (w2.heap[g]? = some (.cells (words s) 101)) := by show _ = _; rw [hb2.block g hlt0]; exact HH0.out
  have HA1 : Hid (w2.heap[g + 1]? = some (.cells #[.int .u32 0, .int .u32 0, .int .u32 0, .int .u32 0, .int .u32 0, .int .u32 0, .int .u32 0, .int .u32 0] 101)) := by show _ = _; rw [hb2.block (g + 1) hlt1]; exact HH1.out
  have HSZ := Lib.hid hsz
  clear hSCH hsz hb2
  go_wp2_with (refine wpList_store_mid rfl 99 (.tmp 5) (.tmp 21) rfl w2.heap.size 0 SCH rfl rfl HTH.out HI.out HONE.out ?_)
  have HR3 : Hid (((w2.alloc (.cells (row []) 99)).setCells w2.heap.size 0 SCH.toList).rangeAt w2.heap.size 0 SCH.toList) := World.rangeAt_setCells_same _ _ _ _ (by rw [Array.length_toList]; rw [← row_nil] at HTH; exact HTH.out)
  have HB3 : Hid (Below g w ((w2.alloc (.cells (row []) 99)).setCells w2.heap.size 0 SCH.toList)) := below_setCells g w2.heap.size _ 0 w _ ((by have := HB2.out; rw [← HG.out] at this; exact this.alloc (by have := heap_lt HA0.out; omega) _)) (by have := heap_lt HA0.out; omega)
  have HA03 : Hid (((w2.alloc (.cells (row []) 99)).setCells w2.heap.size 0 SCH.toList).heap[g]? = some (.cells (words s) 101)) := by
    show _ = _
    rw [heap_setCells _ _ (by have := heap_lt HA0.out; omega), Below.heap_alloc _ _ _ (heap_lt HA0.out)]; exact HA0.out
  have HA13 : Hid (((w2.alloc (.cells (row []) 99)).setCells w2.heap.size 0 SCH.toList).heap[g + 1]? = some (.cells #[.int .u32 0, .int .u32 0, .int .u32 0, .int .u32 0, .int .u32 0, .int .u32 0, .int .u32 0, .int .u32 0] 101)) := by
    show _ = _
    rw [heap_setCells _ _ (by have := heap_lt HA1.out; omega), Below.heap_alloc _ _ _ (heap_lt HA1.out)]; exact HA1.out
  rw [← row_nil]
  generalize (w2.alloc (.cells (row []) 99)).setCells w2.heap.size 0 SCH.toList = w3 at HR3 HB3 HA03 HA13 ⊢
  clear HTH HA0 HA1 HH0 HH1 hlt0 hlt1
  generalize w2.heap.size = g5 at HR3 ⊢
  obtain ⟨c0, c1, c2, c3, c4, c5, c6, c7⟩ := cells8 HA03.out
  refine wp_region_still_lit (by kernel_rfl) (by kernel_rfl) ?_
  repeat still_step
  refine wpStill_nil ?_
  change Exit.then _ _ Exit.normal _ w3.drew
  have HR4 : Hid (w3.drew.rangeAt g5 0 SCH.toList) := HR3.out
  have HB4 := Lib.hid (Below.drew HB3.out)
  have HA04 : Hid (w3.drew.heap[g]? = some (.cells (words s) 101)) := HA03.out
  have HA14 : Hid (w3.drew.heap[g + 1]? = some (.cells #[.int .u32 0, .int .u32 0, .int .u32 0, .int .u32 0, .int .u32 0, .int .u32 0, .int .u32 0, .int .u32 0] 101)) := HA13.out
  generalize w3.drew = w4 at HR4 HB4 HA04 HA14 ⊢
  clear HR3 HB3 HA03 HA13 c0 c1 c2 c3 c4 c5 c6 c7
  have HIL : Hid ((Tryd.prog.info? 99).map (·.size) = some SCH.toList.length) := by show _ = _; rw [Array.length_toList]; exact HI.out
  go_wp2_with (refine wpList_load_mid rfl 99 (.tmp 5) rfl g5 0 rfl SCH.toList (.array 64 45) HR4.out Tryd.underlying99 rfl HIL.out ?_)
  go_loopw [6, 7, 8, 9, 10, 11, 12, 13, 39] (fun x6 x7 x8 x9 x10 x11 x12 x13 c wr => ∃ (k : Nat) (ra rb rc rd re rf rg rh : Int), k ≤ 64 ∧ c = .int .i64 k ∧ x6 = .int .u32 ra ∧ x7 = .int .u32 rb ∧ x8 = .int .u32 rc ∧ x9 = .int .u32 rd ∧ x10 = .int .u32 re ∧ x11 = .int .u32 rf ∧ x12 = .int .u32 rg ∧ x13 = .int .u32 rh ∧ Hid (St.mk ra rb rc rd re rf rg rh = rnds K (sched B 64) s k) ∧ wr.heap = w4.heap ∧ Below g w wr) (fun _ _ _ _ _ _ _ _ c _ => 64 - (intOf c).toNat)
  case atStart => exact ⟨0, s.a, s.b, s.c, s.d, s.e, s.f, s.g, s.h, by omega, rfl, rfl, rfl, rfl, rfl, rfl, rfl, rfl, rfl, rfl, rfl, HB4.out⟩
  case round =>
    obtain ⟨k, ra, rb, rc, rd, re, rf, rg, rh, hk, rfl, rfl, rfl, rfl, rfl, rfl, rfl, rfl, rfl, HR, hheap, hbel⟩ := hrel
    have hok := rnds_ok K (sched B 64) HS.out k
    rw [← HR.out] at hok
    obtain ⟨oa, ob, oc, od, oe, of, og, oh⟩ := hok
    have HBEL := Lib.hid hbel
    have HHEAP := Lib.hid hheap
    clear hbel hheap
    by_cases hlt : k < 64
    · have hT := HT.out.later (by have := HBEL.out; rw [HG.out] at this; exact this)
      have hcell := hT.2.2.2 k hlt
      have hKu := getD_u32 hT.2.2.1 k
      have hWu := getD_u32 (sched_u32 B 64) k
      have hget := HGET.out k hlt
      obtain ⟨kt, hkt⟩ : ∃ x, x = K.getD k 0 := ⟨_, rfl⟩
      obtain ⟨wt, hwt⟩ : ∃ x, x = (sched B 64).getD k 0 := ⟨_, rfl⟩
      rw [← hkt] at hcell hKu
      rw [← hwt] at hget hWu
      have HK := Lib.hid hkt
      have HW := Lib.hid hwt
      clear hT hkt hwt
      have p0 : (0 : Int) ≤ (k : Int) := by omega
      have p1 : (k : Int) < 64 := by omega
      have HOE := Lib.hid oe
      have HOA := Lib.hid oa
      have T6 := Lib.hid (fun W => turned_any re 6 W HOE.out (by omega) (by omega))
      have T11 := Lib.hid (fun W => turned_any re 11 W HOE.out (by omega) (by omega))
      have T25 := Lib.hid (fun W => turned_any re 25 W HOE.out (by omega) (by omega))
      have T2 : Hid (∀ W, Calls Tryd.prog 92 #[.int .u32 ra, .int .i64 2] W fun e w' => e = .returned (.int .u32 (rot 2 ra)) ∧ w' = W) := fun W => turned_any ra 2 W HOA.out (by omega) (by omega)
      have T13 : Hid (∀ W, Calls Tryd.prog 92 #[.int .u32 ra, .int .i64 13] W fun e w' => e = .returned (.int .u32 (rot 13 ra)) ∧ w' = W) := fun W => turned_any ra 13 W HOA.out (by omega) (by omega)
      have T22 : Hid (∀ W, Calls Tryd.prog 92 #[.int .u32 ra, .int .i64 22] W fun e w' => e = .returned (.int .u32 (rot 22 ra)) ∧ w' = W) := fun W => turned_any ra 22 W HOA.out (by omega) (by omega)
      unfold U32 at oa ob oc od oe of og oh hKu hWu
      have hidx := fun W => run_idx SCH k wt W hlt hget
      clear hget
      go_wp2
      refine wp_region_still_lit (by kernel_rfl) (by kernel_rfl) ?_
      repeat still_step
      still_call (T6.out _)
      repeat still_step
      still_call (T11.out _)
      repeat still_step
      still_call (T25.out _)
      repeat still_step
      refine wpStill_nil ?_
      change Exit.then _ _ Exit.normal _ wr.drew
      have HHEAP1 : Hid (wr.drew.heap = w4.heap) := HHEAP.out
      have HBEL1 := Lib.hid (Below.drew HBEL.out)
      generalize wr.drew = w5 at HHEAP1 HBEL1 ⊢
      obtain ⟨U, hU⟩ : ∃ U, U = (IntKind.u32.wrap (IntKind.u32.wrap (IntKind.u32.wrap (IntKind.u32.wrap (rh + bits BinOp.xor IntKind.u32 (bits BinOp.xor IntKind.u32 (rot 6 re) (rot 11 re)) (rot 25 re)) + bits BinOp.xor IntKind.u32 (bits BinOp.and IntKind.u32 re rf) (bits BinOp.and IntKind.u32 (bits BinOp.xor IntKind.u32 (if IntKind.u32.signed = true then -1 else IntKind.u32.max) re) rg)) + kt) + wt)) := ⟨_, rfl⟩
      rw [← hU]
      have HU : Hid (U = up ⟨ra, rb, rc, rd, re, rf, rg, rh⟩ kt wt) := by
        show _ = _
        rw [hU, IntKind.wrap_u32, IntKind.wrap_u32, IntKind.wrap_u32, IntKind.wrap_u32]
        rfl
      have hUb : 0 ≤ U ∧ U ≤ 4294967295 := by
        rw [HU.out]; exact u32_mod _
      clear hU hcell hidx
      go_wp2_with (first | (go_at_call 92; with_reducible refine (T2.out _).mono ?_; rintro e w' ⟨rfl, rfl⟩) | (go_at_call 92; with_reducible refine (T13.out _).mono ?_; rintro e w' ⟨rfl, rfl⟩) | (go_at_call 92; with_reducible refine (T22.out _).mono ?_; rintro e w' ⟨rfl, rfl⟩))
      go_roundw
      case rel =>
        refine ⟨k + 1, _, _, _, _, _, _, _, _, by omega, by go_num, rfl, rfl, rfl, rfl, rfl, rfl, rfl, rfl, ?_, HHEAP1.out, HBEL1.out⟩
        show _ = _
        rw [rnds, ← HR.out, ← HK.out, ← HW.out, St.step, ← HU.out]
        rfl
      case measure => simp [intOf]; omega
    · have hk64 : k = 64 := by omega
      have HR' : Hid (St.mk ra rb rc rd re rf rg rh = rnds K (sched B 64) s 64) := by
        have h := HR.out
        rw [hk64] at h
        exact h
      clear HR
      have hkk : ¬ (k : Int) < 64 := by omega
      clear hk64
      obtain ⟨r, hr⟩ : ∃ r : St, r = St.mk ra rb rc rd re rf rg rh := ⟨_, rfl⟩
      have hrok : r.ok := by rw [hr]; exact ⟨oa, ob, oc, od, oe, of, og, oh⟩
      have hagg : #[Value.int .u32 ra, .int .u32 rb, .int .u32 rc, .int .u32 rd, .int .u32 re, .int .u32 rf, .int .u32 rg, .int .u32 rh] = words r := by rw [hr]; rfl
      have HAGG := Lib.hid hagg
      have HRR : Hid (r = rnds K (sched B 64) s 64) := by show _ = _; rw [hr]; exact HR'.out
      have HROK := Lib.hid hrok
      clear hr hrok hagg HR'
      have HX0 : Hid (wr.heap[g]? = some (.cells (adds s r 0) 101)) := by show _ = _; rw [HHEAP.out, adds_zero]; exact HA04.out
      have HX1 : Hid (wr.heap[g + 1]? = some (.cells #[.int .u32 0, .int .u32 0, .int .u32 0, .int .u32 0, .int .u32 0, .int .u32 0, .int .u32 0, .int .u32 0] 101)) := by show _ = _; rw [HHEAP.out]; exact HA14.out
      go_wp2
      rw [HAGG.out]
      go_loopw [110] (fun c wq => ∃ j : Nat, j ≤ 8 ∧ c = .int .i64 j ∧ Below g w wq ∧ Hid (wq.heap[g]? = some (.cells (adds s r j) 101)) ∧ Hid (wq.heap[g + 1]? = some (.cells #[.int .u32 0, .int .u32 0, .int .u32 0, .int .u32 0, .int .u32 0, .int .u32 0, .int .u32 0, .int .u32 0] 101))) (fun c _ => 8 - (intOf c).toNat)
      case atStart => exact ⟨0, by omega, rfl, HBEL.out, HX0, HX1⟩
      case round =>
        clear HX0 HX1 HBEL HHEAP
        obtain ⟨j, hj, rfl, hbel, HX0, HX1⟩ := hrel
        have HBEL := Lib.hid hbel
        clear hbel
        by_cases hlj : j < 8
        · have hce := adds_cell j HX0.out hlj
          have hfz := unfrozen (i := j) HX0.out
          have hidx := fun W => run_idx8 r j W hlj
          have u1 := list_u32 HS.out j
          have u2 := list_u32 HROK.out j
          have HSET := Lib.hid (adds_set s r j hlj)
          obtain ⟨x, hx⟩ : ∃ x, x = s.list.getD j 0 := ⟨_, rfl⟩
          obtain ⟨y, hy⟩ : ∃ y, y = r.list.getD j 0 := ⟨_, rfl⟩
          rw [← hx] at hce u1 HSET
          rw [← hy] at hidx u2 HSET
          unfold U32 at u1 u2
          have q0 : (0 : Int) ≤ (j : Int) := by omega
          have q1 : (j : Int) < 8 := by omega
          clear hx hy
          generalize hwr : words r = WR at *
          clear hwr
          go_wp2
          go_roundw
          case rel =>
            refine ⟨j + 1, by omega, by go_num, ?_, ?_, ?_⟩
            · exact Below.setCell (p := ⟨g, j, none⟩) HBEL.out (Nat.le_refl _) _
            · show _ = _
              rw [← HSET.out]
              exact Joins.block_setCell HX0.out _
            · show _ = _
              rw [Below.heap_setCell _ _ _ _ (by show g + 1 ≠ g; omega)]; exact HX1.out
          case measure => simp [intOf]; omega
        · have hj8 : j = 8 := by omega
          have HX0' : Hid (wr.heap[g]? = some (.cells (words (s.plus r)) 101)) := by
            show _ = _
            have h := HX0.out
            rw [hj8, adds_all] at h
            exact h
          clear HX0
          have hjj : ¬ (j : Int) < 8 := by omega
          clear hj8
          obtain ⟨q, hq⟩ : ∃ q : St, q = s.plus r := ⟨_, rfl⟩
          have HQ : Hid (q = mix K s B) := by show _ = _; rw [hq, HRR.out, mix]
          rw [← hq] at HX0'
          clear hq
          have hr1 : wr.rangeAt g 0 (words q).toList := by
            intro i v hi
            rw [Nat.zero_add]
            exact (cell_of_row _ _ i _ 101 (0, 0) HX0'.out).trans (by simpa using hi)
          have ht0 : wr.there (g + 1) 0 (words q).toList.toArray.size := by
            intro i hi
            rw [Nat.zero_add]
            refine ⟨?_, unfrozen HX1.out⟩
            have hi8 : i < 8 := hi
            rcases lt8 i hi8 with rfl | rfl | rfl | rfl | rfl | rfl | rfl | rfl <;> simp [World.cell?, HX1.out]
          have hi1 : (Tryd.prog.info? 101).map (·.size) = some (words q).toList.length := by show _ = some 8; kernel_rfl
          have hi2 : (Tryd.prog.info? 101).map (·.size) = some (words q).toList.toArray.size := by show _ = some 8; kernel_rfl
          have h1c : ((words q).toList.toArray.all fun x => x.oneCell') = true := by simp [words, Value.oneCell']
          go_upto_region 15 with (fail)
          refine wp_region_lit ?_
          refine wpList_load_mid rfl 101 (.tmp 2) rfl g 0 rfl (words q).toList (.array 8 45) hr1 Tryd.underlying101 rfl hi1 ?_
          refine wpList_store_mid rfl 101 (.tmp 4) (.tmp 121) rfl (g + 1) 0 (words q).toList.toArray rfl rfl ht0 hi2 h1c ?_
          have hr3 : (wr.setCells (g + 1) 0 (words q).toList.toArray.toList).rangeAt (g + 1) 0 (words q).toList := by
            have := World.rangeAt_setCells_same wr (g + 1) 0 (words q).toList.toArray.toList (by simpa using ht0)
            simpa using this
          have hb3 : Below g w (wr.setCells (g + 1) 0 (words q).toList.toArray.toList) := below_setCells g (g + 1) _ 0 w wr HBEL.out (by omega)
          generalize wr.setCells (g + 1) 0 (words q).toList.toArray.toList = w9 at hr3 hb3 ⊢
          have hres := run_loadVar_mid (P := Tryd.prog) (w := w9) (ty := 101) (b := g + 1) (o := 0) (cs := (words q).toList) (d := .array 8 45) hr3 Tryd.underlying101 rfl hi1
          have HRES := Lib.hid hres
          have HB9 := Lib.hid hb3
          clear hres hb3 hr3 hr1 ht0 hi1 hi2 h1c
          go_wp2
          refine bodyPost_ret (v := .agg (words (mix K s B))) ?_ rfl ?_
          · have hres := HRES.out
            rw [Array.toArray_toList, HQ.out] at hres
            simp only [results]
            simp [asAddr, hres]
          · exact ⟨rfl, by rw [← HG.out]; exact HB9.out⟩
end Go.Proofs.YtkppnbehkmpogaaDoor.Sha
