/- The document's Of, walked. -/
import Derived.Test.YtkppnbehkmpogaaDoorSgOf2
namespace Go.Proofs.YtkppnbehkmpogaaDoor
open Go.RowKit Go.Shelf Go.Proofs.BlkMath Go.Proofs.RangeLaw Go.Proofs.HeldRound
open Go.Proofs.ShaMath (sumB)
open Go.Proofs.RollMath (sumOf sumOf_bd)
set_option linter.unusedVariables false
set_option maxRecDepth 100000

def pBytes (t : TypeId) : Prop := t = 5 ∨ t = 22
theorem KeepT.madeR {W W' : World} {n0 : Nat} {v : Value} {ps : List (List Int)} (k : KeepT pBytes W W') (h : MadeR W n0 v ps) : MadeR W' n0 v ps := by
  obtain ⟨vs, h1, ⟨p1, p2⟩, h3⟩ := h
  refine ⟨vs, h1, ⟨p1, ?_⟩, fun j hj => ?_⟩
  · rcases p2 with p2 | ⟨g, cap, cur, p3, p4, p5, p6⟩
    · exact .inl p2
    · exact .inr ⟨g, cap, cur, p3, p4, k.2 _ _ _ _ (.inr rfl) p5, p6⟩
  · obtain ⟨q1, q2⟩ := h3 j hj
    refine ⟨q1, ?_⟩
    rcases q2 with q2 | ⟨g, cap, cur, q3, q4, q5, q6⟩
    · exact .inl q2
    · exact .inr ⟨g, cap, cur, q3, q4, k.2 _ _ _ _ (.inl rfl) q5, q6⟩
theorem pieces_getD (l : List Int) (blk N j : Nat) (h : j < N) : (pieces l blk N).getD j [] = piece l blk j := by
  rw [List.getD_eq_getElem?_getD, pieces, List.getElem?_map, List.getElem?_range h]; rfl
theorem pieces_oct {l : List Int} (h : Oct l) (blk N j : Nat) : Oct ((pieces l blk N).getD j []) := by
  by_cases hj : j < N
  · rw [pieces_getD l blk N j hj]; exact piece_oct h blk j
  · rw [List.getD_eq_getElem?_getD, List.getElem?_eq_none (by simp [pieces]; omega)]; intro c hc; simp at hc
theorem rroll_sl (u : Value) (l : List Int) (w : World) (hS : Sl w u l) (hl : l.length ≤ 9223372036854775807) :
    Calls Tryd.prog 37 #[u] w fun e w' => e = .returned (.int .u32 (sumOf l)) ∧ w = w' := by
  obtain ⟨a, cap, rfl, hB, _, _⟩ := hS
  exact Roll.rof_any a l.length cap l w rfl hl hB
theorem piece_blk (l : List Int) (blk k : Nat) : (piece l blk k).length ≤ blk := by unfold piece; rw [List.length_take]; omega

set_option maxRecDepth 1000000 in
set_option maxHeartbeats 8000000 in
theorem rof_yes (a : Option Addr) (len cap : Nat) (K l : List Int) (b0 : Int) (blk st : Nat) (w : World) (hlen : len = l.length) (hS : Sl w (.slice a len cap) l) (ho : Oct l) (hR : Rt len blk) (hT : TabD w K) (hs1 : 1 ≤ st) (hs : st ≤ 32)
    (hB0 : (b0 = 0 ∧ ∀ W, Calls Tryd.prog 35 #[.int .i64 len] W fun e w' => e = .returned (.int .i64 blk) ∧ W = w') ∨ (b0 ≠ 0 ∧ b0 = blk)) :
    Calls Tryd.prog 12 #[.slice a len cap, .int .i64 b0, .int .i64 st] w fun e w' => ∃ v, e = .returned (.tuple #[sigV len blk st v, .int .i64 0]) ∧ MOwn w' w.heap.size v (mks K l blk st (cnt len blk).toNat) ∧ Below w.heap.size w w' := by
  have hcs := cnt_spec hR
  have hlb : len ≤ 131072 := by unfold Rt at hR; omega
  have hbl := hR.2
  obtain ⟨N, hN⟩ : ∃ N : Nat, (N : Int) = cnt len blk := ⟨(cnt len blk).toNat, by omega⟩
  have hNt : (cnt len blk).toNat = N := by omega
  have hNb : N ≤ 131072 := by omega
  obtain ⟨w1, hw1⟩ : ∃ w1, w1 = (w.alloc (.cells #[.int .i64 0, .int .i64 0, .int .i64 0, .slice none 0 0] 26)).alloc (.cells #[.int .i64 (len : Int), .int .i64 (blk : Int), .int .i64 (st : Int), .slice none 0 0] 26) := ⟨_, rfl⟩
  have hb1 : Below w.heap.size w w1 := by rw [hw1]; exact ((Below.refl _ _).alloc (Nat.le_refl _) _).alloc (by simp) _
  have hz1 : w1.heap.size = w.heap.size + 2 := by rw [hw1]; simp
  have q0 : w1.heap[w.heap.size]? = some (.cells #[.int .i64 0, .int .i64 0, .int .i64 0, .slice none 0 0] 26) := by
    rw [hw1, Below.heap_alloc _ _ _ (by simp)]; exact heap_new _ _
  have q1 : w1.heap[w.heap.size + 1]? = some (.cells #[.int .i64 (len : Int), .int .i64 (blk : Int), .int .i64 (st : Int), .slice none 0 0] 26) := by
    rw [hw1]
    have := heap_new (w.alloc (.cells #[.int .i64 0, .int .i64 0, .int .i64 0, .slice none 0 0] 26)) (.cells #[.int .i64 (len : Int), .int .i64 (blk : Int), .int .i64 (st : Int), .slice none 0 0] 26)
    rw [show (w.alloc (.cells #[.int .i64 0, .int .i64 0, .int .i64 0, .slice none 0 0] 26)).heap.size = w.heap.size + 1 from by simp] at this
    exact this
  have HCU := Lib.hid (rcut_yes a len cap l blk w1 hlen (hS.later hb1) hR)
  rw [hNt] at HCU ⊢
  have HW1 := Lib.hid hw1
  have HB1 := Lib.hid hb1
  have HQ0 := Lib.hid q0
  have HQ1 := Lib.hid q1
  have HLO := Lib.hid ho
  have HT := Lib.hid hT
  have HB0 := Lib.hid hB0
  have HLEN := Lib.hid hlen
  obtain ⟨i0, hi0, hy0, hys, hyb⟩ := info_parts Tryd.infoM
  have hst1 : (1 : Int) ≤ (st : Int) := by omega
  have hst2 : (st : Int) ≤ 32 := by omega
  have hlenbig : ¬ ((131072 : Int) < (len : Int)) := by omega
  have hk0 : ¬ ((blk : Int) = 0) := by omega
  have hk1 : (16 : Int) ≤ (blk : Int) := by omega
  have hk2 : (blk : Int) ≤ 4096 := by omega
  have HKB : Hid (blk ≤ 4096) := by show blk ≤ 4096; omega
  unfold sigV
  clear hS ho hR hT hB0 hw1 hb1 q0 q1 hcs hN hNt hlen hbl
  have HST := Lib.hid (show ((st : Nat) : Int) = (st : Int) from rfl)
  generalize hsI : ((st : Nat) : Int) = sI at *
  have g1 : decide (sI < 1) = false := decide_eq_false (by omega)
  have g2 : decide (32 < sI) = false := decide_eq_false (by omega)
  have HSI := Lib.hid hsI
  clear hsI HST
  go_enter Tryd.func12, Tryd.ntmps12
  rcases HB0.out with ⟨hb0, hL⟩ | ⟨hb0, hbb⟩
  · subst hb0
    have HL := Lib.hid hL
    clear hL HB0
    go_wp2_with (go_at_call 35; refine (HL.out _).mono ?_; rintro e w' ⟨rfl, rfl⟩)
    rw [← HW1.out]
    refine HCU.out.mono ?_
    rintro e w3 ⟨lv, rfl, hlv, hb3⟩
    have hb13 := HB1.out.trans (hb3.mono HB1.out.size)
    have HB3 := Lib.hid hb13
    have HQ03 := Lib.hid ((KeepC.of_below hb3).2 _ _ _ _ HQ0.out)
    have HQ13 := Lib.hid ((KeepC.of_below hb3).2 _ _ _ _ HQ1.out)
    have HLV := Lib.hid hlv
    obtain ⟨al, cl, el, -⟩ := madeR_form hlv (pieces_oct HLO.out blk N)
    rw [show (pieces l blk N).length = N from by simp [pieces]] at el
    subst el
    clear hlv hb3 hb13 HCU HQ0 HQ1 g1 g2 hst1 hst2 hk0 hk1 hk2
    go_wp2
    clear hlenbig
    go_loopw [54] (fun i wr => ∃ (k : Nat) (v : Value), i = .int .i64 k ∧ k ≤ N ∧ Hid (MOwn wr w.heap.size v (mks K l blk st k)) ∧ Hid (wr.heap[w.heap.size + 1]? = some (.cells #[.int .i64 (len : Int), .int .i64 (blk : Int), .int .i64 sI, v] 26)) ∧ Hid (wr.heap[w.heap.size]? = some (.cells #[.int .i64 0, .int .i64 0, .int .i64 0, .slice none 0 0] 26)) ∧ Hid (MadeR wr w1.heap.size (.slice al N cl) (pieces l blk N)) ∧ Below w.heap.size w wr) (fun i _ => N - (intOf i).toNat)
    case atStart => exact ⟨0, _, rfl, by omega, MOwn.nil _ _, HQ13, HQ03, HLV, HB3.out⟩
    case round =>
      clear HQ13 HQ03 HLV HB3
      obtain ⟨k, v0, rfl, hk, HMO, HG1, HG0, HMR, hbel⟩ := hrel
      by_cases hlt : k < N
      · have hlt2 : (k : Int) < (N : Int) := by omega
        obtain ⟨av, cv, eav, hparts⟩ := madeR_form HMR.out (pieces_oct HLO.out blk N)
        obtain ⟨g, pa, pc, e1, hc1, hsl⟩ := hparts k (by simpa [pieces] using hlt)
        rw [pieces_getD l blk N k hlt] at hc1 hsl
        have e2 : al = some ⟨g, 0, none⟩ := by injection eav with e; rw [e, e1]
        subst e2
        obtain ⟨pl, hpl⟩ : ∃ pl, pl = (piece l blk k).length := ⟨_, rfl⟩
        have hplb := piece_blk l blk k
        have hkb := HKB.out
        rw [← hpl] at hc1 hsl hplb
        have HRO : Hid (∀ W', Below wr.drew.heap.size wr.drew W' → Calls Tryd.prog 37 #[.slice pa pl pc] W' fun e w' => e = .returned (.int .u32 (sumOf (piece l blk k))) ∧ W' = w') := by
          intro W' hb
          have hbd : Below wr.heap.size wr W' := ⟨hb.os, hb.tape, hb.output, hb.size, hb.block⟩
          exact rroll_sl _ _ W' (hsl.later hbd) (by rw [← hpl]; omega)
        have HRS : Hid (∀ W', Below wr.drew.heap.size wr.drew W' → Calls Tryd.prog 38 #[.slice pa pl pc] W' fun e w' => e = .returned (.string (strOfNums (sumB K (piece l blk k)))) ∧ Below W'.heap.size W' w') := by
          intro W' hb
          have hbd : Below wr.heap.size wr W' := ⟨hb.os, hb.tape, hb.output, hb.size, hb.block⟩
          exact Sha.rsum_walk (.slice pa pl pc) (piece l blk k) K W' (hsl.later hbd) (piece_oct HLO.out blk k) (by omega) (HT.out.later (hbel.trans (hbd.mono hbel.size)))
        have hfs := fun W => first_str (strOfNums (sumB K (piece l blk k))) st W hs (sum_size K (piece l blk k))
        rw [HSI.out] at hfs
        have HMS := Lib.hid (mks_succ K l blk st k)
        have HPI : Hid (mkOf K (piece l blk k) st = (sumOf (piece l blk k), (strOfNums (sumB K (piece l blk k))).extract 0 st)) := rfl
        generalize sumOf (piece l blk k) = x at HRO HPI
        generalize strOfNums (sumB K (piece l blk k)) = A at HRS HPI hfs
        generalize A.extract 0 st = B at HPI hfs
        have c3 : wr.drew.cell? ⟨w.heap.size + 1, 3, none⟩ = some v0 := (show wr.cell? ⟨w.heap.size + 1, 3, none⟩ = some v0 from by rw [cell_of_row wr (w.heap.size + 1) 3 _ _ (0, 0) HG1.out]; rfl)
        have HBL := Lib.hid hbel
        have HFS := Lib.hid hfs
        clear hparts hsl hpl hbel hfs eav e1 hkb
        go_wp2
        refine region_plain (S := fun W' => Below wr.drew.heap.size wr.drew W') (bad := [10, 11, 12]) (by kernel_rfl) ?_
        have hS0 : Below wr.drew.heap.size wr.drew wr.drew := Below.refl _ _
        refine wpAnyK_take (i := 0) [1, 10, 11, 12] (v := .pointer (some ⟨w.heap.size + 1, 3, none⟩)) rfl (by kernel_rfl) (by kernel_rfl) (by kernel_rfl) (by kernel_rfl) (fun _ _ _ h => h) (Or.inl ⟨by rfl, fun w' hw' => by go_simp⟩) hS0 ?_
        refine wpAnyK_take (i := 1) [10, 11, 12] (v := v0) rfl (by kernel_rfl) (by kernel_rfl) (by kernel_rfl) (by kernel_rfl) (fun _ _ _ h => h) (Or.inl ⟨by rfl, fun w' hw' => by have c3' := cell_later hw' c3; go_simp⟩) hS0 ?_
        refine wpAnyK_take (i := 2) [3, 8, 9, 10, 11, 12] (v := .slice pa pl pc) rfl (by kernel_rfl) (by kernel_rfl) (by kernel_rfl) (by kernel_rfl) (fun _ _ _ h => h) (Or.inl ⟨by rfl, fun w' hw' => by go_simp⟩) hS0 ?_
        refine wpAnyK_take (i := 4) [5, 7, 8, 9, 10, 11, 12] (v := .slice pa pl pc) rfl (by kernel_rfl) (by kernel_rfl) (by kernel_rfl) (by kernel_rfl) (fun _ _ _ h => h) (Or.inl ⟨by rfl, fun w' hw' => by go_simp⟩) hS0 ?_
        refine wpAnyK_take (i := 6) [7, 8, 9, 10, 11, 12] (v := .int .i64 sI) rfl (by kernel_rfl) (by kernel_rfl) (by kernel_rfl) (by kernel_rfl) (fun _ _ _ h => h) (Or.inl ⟨by rfl, fun w' hw' => by go_simp⟩) hS0 ?_
        refine wpAnyK_only (i := 3) (by kernel_rfl) rfl (by rfl) (fun K0 hK0 => ?_)
        have HK0 := Lib.hid hK0
        clear hK0
        go_simp
        refine (HRO.out _ hS0).mono ?_
        rintro e w4 ⟨rfl, rfl⟩
        refine HK0.out _ _ (fun _ => hS0) ?_
        clear HK0
        refine wpAnyK_only (i := 5) (by kernel_rfl) rfl (by rfl) (fun K0 hK0 => ?_)
        have HK0 := Lib.hid hK0
        clear hK0
        go_simp
        refine (HRS.out _ hS0).mono ?_
        rintro e w5 ⟨rfl, hb5⟩
        refine HK0.out _ _ (fun _ => hb5) ?_
        clear HK0
        refine wpAnyK_only (i := 7) (by kernel_rfl) rfl (by rfl) (fun K0 hK0 => ?_)
        have HK0 := Lib.hid hK0
        clear hK0
        have hfs := HFS.out
        go_simp
        clear hfs
        refine HK0.out _ _ (fun _ => hb5) ?_
        clear HK0
        refine wpAnyK_only (i := 8) (by kernel_rfl) rfl (by rfl) (fun K0 hK0 => ?_)
        have HK0 := Lib.hid hK0
        clear hK0
        go_simp
        refine HK0.out _ _ (fun _ => hb5) ?_
        clear HK0
        refine wpAnyK_only (i := 9) (by kernel_rfl) rfl (by rfl) (fun K0 hK0 => ?_)
        have HK0 := Lib.hid hK0
        clear hK0
        go_simp
        have hb6 : Below wr.drew.heap.size wr.drew (w5.alloc (.cells #[.int .u32 x, .string B] 47)) := hb5.alloc hb5.size _
        refine HK0.out _ _ (fun _ => hb6) ?_
        clear HK0
        refine wpAnyK_only (i := 10) (by kernel_rfl) rfl (by rfl) (fun K0 hK0 => ?_)
        have HK0 := Lib.hid hK0
        clear hK0
        have hbW : Below wr.heap.size wr (w5.alloc (.cells #[.int .u32 x, .string B] 47)) := ⟨hb6.os, hb6.tape, hb6.output, hb6.size, hb6.block⟩
        have hown := HMO.out.later hbW
        have hcn : (w5.alloc (.cells #[.int .u32 x, .string B] 47)).heap[w5.heap.size]? = some (.cells #[.int .u32 x, .string B] 47) := heap_new _ _
        have hml := mks_length K l blk st k
        have hws := HBL.out.size
        have hWs := hbW.size
        refine wp_append_own _ (.tmp 59) (.tmp 67) 24 rfl w.heap.size 47 i0 _ 2 24 Tryd.underlying24 hi0 hy0 hys hyb rfl (by decide) v0 _ _ rfl hown ⟨w5.heap.size, 0, none⟩ 1 1 [.int .u32 x, .string B] rfl rfl ?_ ?_ (by unfold maxLen; omega) (by omega) (by omega) ?_
        · intro j u hj
          have hj2 : j = 0 ∨ j = 1 := by
            rcases Nat.lt_or_ge j 2 with h | h
            · omega
            · rw [List.getElem?_eq_none (by simpa using h)] at hj; cases hj
          rcases hj2 with rfl | rfl
          · rw [show (⟨w5.heap.size, 0, none⟩ : Addr).add 0 = ⟨w5.heap.size, 0, none⟩ from by simp [Addr.add], cell_of_row _ _ 0 _ _ (0, 0) hcn]; exact hj
          · rw [show (⟨w5.heap.size, 0, none⟩ : Addr).add 1 = ⟨w5.heap.size, 1, none⟩ from by simp [Addr.add], cell_of_row _ _ 1 _ _ (0, 0) hcn]; exact hj
        · intro u hu
          simp at hu
          rcases hu with rfl | rfl <;> rfl
        intro v' w6 hown6 hg6 _
        obtain ⟨a6, c6, ev6⟩ := row_form hown6
        rw [hml] at ev6
        subst ev6
        refine HK0.out _ _ (fun h => by simp at h) ?_
        clear HK0
        refine wpAnyK_only (i := 11) (by kernel_rfl) rfl (by rfl) (fun K0 hK0 => ?_)
        have HK0 := Lib.hid hK0
        clear hK0
        go_simp
        refine HK0.out _ _ (fun h => by simp at h) ?_
        clear HK0
        have k2 : w6.heap[w.heap.size + 1]? = some (.cells #[.int .i64 (len : Int), .int .i64 (blk : Int), .int .i64 sI, v0] 26) := row_apart hown hg6 ((KeepC.of_below hbW).2 _ _ _ _ HG1.out) (by decide)
        have d3 : w6.cell? ⟨w.heap.size + 1, 3, none⟩ = some v0 := by rw [cell_of_row w6 (w.heap.size + 1) 3 _ _ (0, 0) k2]; rfl
        have f3 : w6.frozen? ⟨w.heap.size + 1, 3, none⟩ = false := unfrozen k2
        refine wpAnyK_only (i := 12) (by kernel_rfl) rfl (by rfl) (fun K0 hK0 => ?_)
        have HK0 := Lib.hid hK0
        clear hK0
        go_simp
        refine HK0.out _ _ (fun h => by simp at h) ?_
        refine wpAnyK_done (by kernel_rfl) ?_ _
        have hbut : ∀ b (c : Array Value) (t : TypeId) (fr : Nat × Nat), wr.heap[b]? = some (.cells c t fr) → t ≠ 47 → b ≠ w.heap.size + 1 → (w6.setCell ⟨w.heap.size + 1, 3, none⟩ (.slice a6 (k + 1) c6)).heap[b]? = some (.cells c t fr) := by
          intro b c t fr hb ht hne
          rw [Below.heap_setCell _ _ _ _ (by show b ≠ w.heap.size + 1; omega)]
          exact row_apart hown hg6 ((KeepC.of_below hbW).2 _ _ _ _ hb) ht
        have hsz6 := hg6.size
        have hszF : wr.heap.size ≤ (w6.setCell ⟨w.heap.size + 1, 3, none⟩ (.slice a6 (k + 1) c6)).heap.size := by
          have e : (w6.setCell ⟨w.heap.size + 1, 3, none⟩ (.slice a6 (k + 1) c6)).heap.size = w6.heap.size := by simp [World.setCell]
          rw [e]; exact Nat.le_trans hWs hsz6
        have HM1 : Hid (MOwn (w6.setCell ⟨w.heap.size + 1, 3, none⟩ (.slice a6 (k + 1) c6)) w.heap.size (.slice a6 (k + 1) c6) (mks K l blk st (k + 1))) := by
          have e : mks K l blk st (k + 1) = mks K l blk st k ++ [(x, B)] := by rw [HMS.out, HPI.out]
          rw [e]
          have h1 : w6.ownsRow w.heap.size 47 2 (.slice a6 (k + 1) c6) (mks K l blk st k ++ [(x, B)]).length (mcells (mks K l blk st k ++ [(x, B)])) := by
            rw [mcells_snoc, List.length_append]; exact hown6
          obtain ⟨z1, z2⟩ := h1
          refine ⟨z1, ?_⟩
          rcases z2 with z2 | ⟨g', cp, cur, z3, z4, z5, z6⟩
          · exact .inl z2
          · refine .inr ⟨g', cp, cur, z3, z4, ?_, z6⟩
            rw [Below.heap_setCell _ _ _ _ ?_]
            · exact z5
            · show g' ≠ w.heap.size + 1
              intro e; subst e
              rw [k2] at z5
              cases z5
        have HK1 : Hid ((w6.setCell ⟨w.heap.size + 1, 3, none⟩ (.slice a6 (k + 1) c6)).heap[w.heap.size + 1]? = some (.cells #[.int .i64 (len : Int), .int .i64 (blk : Int), .int .i64 sI, .slice a6 (k + 1) c6] 26)) := by
          show _ = _
          rw [Joins.block_setCell k2 _]; rfl
        have HK2 := Lib.hid (hbut _ _ _ _ HG0.out (by decide) (by omega))
        have HK3 : Hid (MadeR (w6.setCell ⟨w.heap.size + 1, 3, none⟩ (.slice a6 (k + 1) c6)) w1.heap.size (.slice (some ⟨g, 0, none⟩) N cl) (pieces l blk N)) := by
          refine KeepT.madeR ⟨hszF, fun b c t fr hp hb => hbut b c t fr hb ?_ ?_⟩ HMR.out
          · rcases hp with rfl | rfl <;> decide
          · intro e
            subst e
            rw [HG1.out] at hb
            cases hb
            rcases hp with h | h <;> exact absurd h (by decide)
        have HK4 : Hid (Below w.heap.size w (w6.setCell ⟨w.heap.size + 1, 3, none⟩ (.slice a6 (k + 1) c6))) :=
          (HBL.out.trans ((hbW.mono HBL.out.size).trans ((Below.refl _ _).grown hg6 (by omega) (fun j hj => (World.ownsRow.lt hown j hj).1)))).setCell (p := ⟨w.heap.size + 1, 3, none⟩) (by show _ ≤ w.heap.size + 1; omega) _
        generalize w6.setCell ⟨w.heap.size + 1, 3, none⟩ (.slice a6 (k + 1) c6) = w7 at HM1 HK1 HK2 HK3 HK4 ⊢
        clear hown6 hg6 hbut hszF k2 d3 f3 hown hbW hb6 hcn hb5 HRO HRS HFS HMS HPI HMO HG1 HG0 HMR c3 hc1 HK0
        go_wp2
        go_roundw
        case rel => exact ⟨k + 1, _, by go_num, by omega, HM1, HK1, HK2, HK3, HK4.out⟩
        case measure => simp [intOf]; omega
      · have hkN : k = N := by omega
        subst hkN
        obtain ⟨a0, c0, ev0⟩ := row_form HMO.out
        rw [mks_length] at ev0
        subst ev0
        have e0 : wr.cell? ⟨w.heap.size + 1, 0, none⟩ = some (.int .i64 (len : Int)) := by rw [cell_of_row wr (w.heap.size + 1) 0 _ _ (0, 0) HG1.out]; rfl
        have e1 : wr.cell? ⟨w.heap.size + 1, 1, none⟩ = some (.int .i64 (blk : Int)) := by rw [cell_of_row wr (w.heap.size + 1) 1 _ _ (0, 0) HG1.out]; rfl
        have e2 : wr.cell? ⟨w.heap.size + 1, 2, none⟩ = some (.int .i64 sI) := by rw [cell_of_row wr (w.heap.size + 1) 2 _ _ (0, 0) HG1.out]; rfl
        have e3 : wr.cell? ⟨w.heap.size + 1, 3, none⟩ = some (.slice a0 k c0) := by rw [cell_of_row wr (w.heap.size + 1) 3 _ _ (0, 0) HG1.out]; rfl
        have d0 : wr.cell? ⟨w.heap.size, 0, none⟩ = some (.int .i64 0) := by rw [cell_of_row wr (w.heap.size) 0 _ _ (0, 0) HG0.out]; rfl
        have d1 : wr.cell? ⟨w.heap.size, 1, none⟩ = some (.int .i64 0) := by rw [cell_of_row wr (w.heap.size) 1 _ _ (0, 0) HG0.out]; rfl
        have d2 : wr.cell? ⟨w.heap.size, 2, none⟩ = some (.int .i64 0) := by rw [cell_of_row wr (w.heap.size) 2 _ _ (0, 0) HG0.out]; rfl
        have d3 : wr.cell? ⟨w.heap.size, 3, none⟩ = some (.slice none 0 0) := by rw [cell_of_row wr (w.heap.size) 3 _ _ (0, 0) HG0.out]; rfl
        have f0 : wr.frozen? ⟨w.heap.size, 0, none⟩ = false := unfrozen HG0.out
        have f1 : wr.frozen? ⟨w.heap.size, 1, none⟩ = false := unfrozen HG0.out
        have f2 : wr.frozen? ⟨w.heap.size, 2, none⟩ = false := unfrozen HG0.out
        have f3 : wr.frozen? ⟨w.heap.size, 3, none⟩ = false := unfrozen HG0.out
        have HF := Lib.hid (set4_block (.int .i64 (len : Int)) (.int .i64 (blk : Int)) (.int .i64 sI) (.slice a0 k c0) HG0.out)
        have HM4 : Hid (MOwn (set4 wr w.heap.size (.int .i64 (len : Int)) (.int .i64 (blk : Int)) (.int .i64 sI) (.slice a0 k c0)) w.heap.size (.slice a0 k c0) (mks K l blk st k)) := by
          obtain ⟨z1, z2⟩ := HMO.out
          refine ⟨z1, ?_⟩
          rcases z2 with z2 | ⟨g', cp, cur, z3, z4, z5, z6⟩
          · exact .inl z2
          · refine .inr ⟨g', cp, cur, z3, z4, ?_, z6⟩
            rw [set4_other _ _ _ _ ?_]
            · exact z5
            · intro e; subst e
              rw [HG0.out] at z5
              cases z5
        have HB4 : Hid (Below w.heap.size w (set4 wr w.heap.size (.int .i64 (len : Int)) (.int .i64 (blk : Int)) (.int .i64 sI) (.slice a0 k c0))) := set4_below _ _ _ _ hbel (Nat.le_refl _)
        clear hbel HMO HG1 HG0 HMR
        go_wp2
        have x0 := cell_of_row _ w.heap.size 0 _ _ (0, 0) HF.out
        have x1 := cell_of_row _ w.heap.size 1 _ _ (0, 0) HF.out
        have x2 := cell_of_row _ w.heap.size 2 _ _ (0, 0) HF.out
        have x3 := cell_of_row _ w.heap.size 3 _ _ (0, 0) HF.out
        simp only [set4] at x0 x1 x2 x3
        refine bodyPost_ret (v := .tuple #[.agg #[.int .i64 (len : Int), .int .i64 (blk : Int), .int .i64 sI, .slice a0 k c0], .int .i64 0]) (by simp [results, go_sem, x0, x1, x2, x3]) rfl ⟨_, rfl, HM4.out, HB4.out⟩
  · subst hbb
    clear HB0
    generalize hbI : ((blk : Nat) : Int) = bI at *
    have g3 : (bI != 0) = true := by simp; omega
    have g4 : decide (bI < 16) = false := decide_eq_false (by omega)
    have g5 : decide (4096 < bI) = false := decide_eq_false (by omega)
    clear hbI
    go_wp2_with fail
    rw [← HW1.out]
    refine HCU.out.mono ?_
    rintro e w3 ⟨lv, rfl, hlv, hb3⟩
    have hb13 := HB1.out.trans (hb3.mono HB1.out.size)
    have HB3 := Lib.hid hb13
    have HQ03 := Lib.hid ((KeepC.of_below hb3).2 _ _ _ _ HQ0.out)
    have HQ13 := Lib.hid ((KeepC.of_below hb3).2 _ _ _ _ HQ1.out)
    have HLV := Lib.hid hlv
    obtain ⟨al, cl, el, -⟩ := madeR_form hlv (pieces_oct HLO.out blk N)
    rw [show (pieces l blk N).length = N from by simp [pieces]] at el
    subst el
    clear hlv hb3 hb13 HCU HQ0 HQ1 g1 g2 g3 g4 g5 hb0 hst1 hst2 hk0 hk1 hk2
    go_wp2
    clear hlenbig
    go_loopw [54] (fun i wr => ∃ (k : Nat) (v : Value), i = .int .i64 k ∧ k ≤ N ∧ Hid (MOwn wr w.heap.size v (mks K l blk st k)) ∧ Hid (wr.heap[w.heap.size + 1]? = some (.cells #[.int .i64 (len : Int), .int .i64 bI, .int .i64 sI, v] 26)) ∧ Hid (wr.heap[w.heap.size]? = some (.cells #[.int .i64 0, .int .i64 0, .int .i64 0, .slice none 0 0] 26)) ∧ Hid (MadeR wr w1.heap.size (.slice al N cl) (pieces l blk N)) ∧ Below w.heap.size w wr) (fun i _ => N - (intOf i).toNat)
    case atStart => exact ⟨0, _, rfl, by omega, MOwn.nil _ _, HQ13, HQ03, HLV, HB3.out⟩
    case round =>
      clear HQ13 HQ03 HLV HB3
      obtain ⟨k, v0, rfl, hk, HMO, HG1, HG0, HMR, hbel⟩ := hrel
      by_cases hlt : k < N
      · have hlt2 : (k : Int) < (N : Int) := by omega
        obtain ⟨av, cv, eav, hparts⟩ := madeR_form HMR.out (pieces_oct HLO.out blk N)
        obtain ⟨g, pa, pc, e1, hc1, hsl⟩ := hparts k (by simpa [pieces] using hlt)
        rw [pieces_getD l blk N k hlt] at hc1 hsl
        have e2 : al = some ⟨g, 0, none⟩ := by injection eav with e; rw [e, e1]
        subst e2
        obtain ⟨pl, hpl⟩ : ∃ pl, pl = (piece l blk k).length := ⟨_, rfl⟩
        have hplb := piece_blk l blk k
        have hkb := HKB.out
        rw [← hpl] at hc1 hsl hplb
        have HRO : Hid (∀ W', Below wr.drew.heap.size wr.drew W' → Calls Tryd.prog 37 #[.slice pa pl pc] W' fun e w' => e = .returned (.int .u32 (sumOf (piece l blk k))) ∧ W' = w') := by
          intro W' hb
          have hbd : Below wr.heap.size wr W' := ⟨hb.os, hb.tape, hb.output, hb.size, hb.block⟩
          exact rroll_sl _ _ W' (hsl.later hbd) (by rw [← hpl]; omega)
        have HRS : Hid (∀ W', Below wr.drew.heap.size wr.drew W' → Calls Tryd.prog 38 #[.slice pa pl pc] W' fun e w' => e = .returned (.string (strOfNums (sumB K (piece l blk k)))) ∧ Below W'.heap.size W' w') := by
          intro W' hb
          have hbd : Below wr.heap.size wr W' := ⟨hb.os, hb.tape, hb.output, hb.size, hb.block⟩
          exact Sha.rsum_walk (.slice pa pl pc) (piece l blk k) K W' (hsl.later hbd) (piece_oct HLO.out blk k) (by omega) (HT.out.later (hbel.trans (hbd.mono hbel.size)))
        have hfs := fun W => first_str (strOfNums (sumB K (piece l blk k))) st W hs (sum_size K (piece l blk k))
        rw [HSI.out] at hfs
        have HMS := Lib.hid (mks_succ K l blk st k)
        have HPI : Hid (mkOf K (piece l blk k) st = (sumOf (piece l blk k), (strOfNums (sumB K (piece l blk k))).extract 0 st)) := rfl
        generalize sumOf (piece l blk k) = x at HRO HPI
        generalize strOfNums (sumB K (piece l blk k)) = A at HRS HPI hfs
        generalize A.extract 0 st = B at HPI hfs
        have c3 : wr.drew.cell? ⟨w.heap.size + 1, 3, none⟩ = some v0 := (show wr.cell? ⟨w.heap.size + 1, 3, none⟩ = some v0 from by rw [cell_of_row wr (w.heap.size + 1) 3 _ _ (0, 0) HG1.out]; rfl)
        have HBL := Lib.hid hbel
        have HFS := Lib.hid hfs
        clear hparts hsl hpl hbel hfs eav e1 hkb
        go_wp2
        refine region_plain (S := fun W' => Below wr.drew.heap.size wr.drew W') (bad := [10, 11, 12]) (by kernel_rfl) ?_
        have hS0 : Below wr.drew.heap.size wr.drew wr.drew := Below.refl _ _
        refine wpAnyK_take (i := 0) [1, 10, 11, 12] (v := .pointer (some ⟨w.heap.size + 1, 3, none⟩)) rfl (by kernel_rfl) (by kernel_rfl) (by kernel_rfl) (by kernel_rfl) (fun _ _ _ h => h) (Or.inl ⟨by rfl, fun w' hw' => by go_simp⟩) hS0 ?_
        refine wpAnyK_take (i := 1) [10, 11, 12] (v := v0) rfl (by kernel_rfl) (by kernel_rfl) (by kernel_rfl) (by kernel_rfl) (fun _ _ _ h => h) (Or.inl ⟨by rfl, fun w' hw' => by have c3' := cell_later hw' c3; go_simp⟩) hS0 ?_
        refine wpAnyK_take (i := 2) [3, 8, 9, 10, 11, 12] (v := .slice pa pl pc) rfl (by kernel_rfl) (by kernel_rfl) (by kernel_rfl) (by kernel_rfl) (fun _ _ _ h => h) (Or.inl ⟨by rfl, fun w' hw' => by go_simp⟩) hS0 ?_
        refine wpAnyK_take (i := 4) [5, 7, 8, 9, 10, 11, 12] (v := .slice pa pl pc) rfl (by kernel_rfl) (by kernel_rfl) (by kernel_rfl) (by kernel_rfl) (fun _ _ _ h => h) (Or.inl ⟨by rfl, fun w' hw' => by go_simp⟩) hS0 ?_
        refine wpAnyK_take (i := 6) [7, 8, 9, 10, 11, 12] (v := .int .i64 sI) rfl (by kernel_rfl) (by kernel_rfl) (by kernel_rfl) (by kernel_rfl) (fun _ _ _ h => h) (Or.inl ⟨by rfl, fun w' hw' => by go_simp⟩) hS0 ?_
        refine wpAnyK_only (i := 3) (by kernel_rfl) rfl (by rfl) (fun K0 hK0 => ?_)
        have HK0 := Lib.hid hK0
        clear hK0
        go_simp
        refine (HRO.out _ hS0).mono ?_
        rintro e w4 ⟨rfl, rfl⟩
        refine HK0.out _ _ (fun _ => hS0) ?_
        clear HK0
        refine wpAnyK_only (i := 5) (by kernel_rfl) rfl (by rfl) (fun K0 hK0 => ?_)
        have HK0 := Lib.hid hK0
        clear hK0
        go_simp
        refine (HRS.out _ hS0).mono ?_
        rintro e w5 ⟨rfl, hb5⟩
        refine HK0.out _ _ (fun _ => hb5) ?_
        clear HK0
        refine wpAnyK_only (i := 7) (by kernel_rfl) rfl (by rfl) (fun K0 hK0 => ?_)
        have HK0 := Lib.hid hK0
        clear hK0
        have hfs := HFS.out
        go_simp
        clear hfs
        refine HK0.out _ _ (fun _ => hb5) ?_
        clear HK0
        refine wpAnyK_only (i := 8) (by kernel_rfl) rfl (by rfl) (fun K0 hK0 => ?_)
        have HK0 := Lib.hid hK0
        clear hK0
        go_simp
        refine HK0.out _ _ (fun _ => hb5) ?_
        clear HK0
        refine wpAnyK_only (i := 9) (by kernel_rfl) rfl (by rfl) (fun K0 hK0 => ?_)
        have HK0 := Lib.hid hK0
        clear hK0
        go_simp
        have hb6 : Below wr.drew.heap.size wr.drew (w5.alloc (.cells #[.int .u32 x, .string B] 47)) := hb5.alloc hb5.size _
        refine HK0.out _ _ (fun _ => hb6) ?_
        clear HK0
        refine wpAnyK_only (i := 10) (by kernel_rfl) rfl (by rfl) (fun K0 hK0 => ?_)
        have HK0 := Lib.hid hK0
        clear hK0
        have hbW : Below wr.heap.size wr (w5.alloc (.cells #[.int .u32 x, .string B] 47)) := ⟨hb6.os, hb6.tape, hb6.output, hb6.size, hb6.block⟩
        have hown := HMO.out.later hbW
        have hcn : (w5.alloc (.cells #[.int .u32 x, .string B] 47)).heap[w5.heap.size]? = some (.cells #[.int .u32 x, .string B] 47) := heap_new _ _
        have hml := mks_length K l blk st k
        have hws := HBL.out.size
        have hWs := hbW.size
        refine wp_append_own _ (.tmp 59) (.tmp 67) 24 rfl w.heap.size 47 i0 _ 2 24 Tryd.underlying24 hi0 hy0 hys hyb rfl (by decide) v0 _ _ rfl hown ⟨w5.heap.size, 0, none⟩ 1 1 [.int .u32 x, .string B] rfl rfl ?_ ?_ (by unfold maxLen; omega) (by omega) (by omega) ?_
        · intro j u hj
          have hj2 : j = 0 ∨ j = 1 := by
            rcases Nat.lt_or_ge j 2 with h | h
            · omega
            · rw [List.getElem?_eq_none (by simpa using h)] at hj; cases hj
          rcases hj2 with rfl | rfl
          · rw [show (⟨w5.heap.size, 0, none⟩ : Addr).add 0 = ⟨w5.heap.size, 0, none⟩ from by simp [Addr.add], cell_of_row _ _ 0 _ _ (0, 0) hcn]; exact hj
          · rw [show (⟨w5.heap.size, 0, none⟩ : Addr).add 1 = ⟨w5.heap.size, 1, none⟩ from by simp [Addr.add], cell_of_row _ _ 1 _ _ (0, 0) hcn]; exact hj
        · intro u hu
          simp at hu
          rcases hu with rfl | rfl <;> rfl
        intro v' w6 hown6 hg6 _
        obtain ⟨a6, c6, ev6⟩ := row_form hown6
        rw [hml] at ev6
        subst ev6
        refine HK0.out _ _ (fun h => by simp at h) ?_
        clear HK0
        refine wpAnyK_only (i := 11) (by kernel_rfl) rfl (by rfl) (fun K0 hK0 => ?_)
        have HK0 := Lib.hid hK0
        clear hK0
        go_simp
        refine HK0.out _ _ (fun h => by simp at h) ?_
        clear HK0
        have k2 : w6.heap[w.heap.size + 1]? = some (.cells #[.int .i64 (len : Int), .int .i64 bI, .int .i64 sI, v0] 26) := row_apart hown hg6 ((KeepC.of_below hbW).2 _ _ _ _ HG1.out) (by decide)
        have d3 : w6.cell? ⟨w.heap.size + 1, 3, none⟩ = some v0 := by rw [cell_of_row w6 (w.heap.size + 1) 3 _ _ (0, 0) k2]; rfl
        have f3 : w6.frozen? ⟨w.heap.size + 1, 3, none⟩ = false := unfrozen k2
        refine wpAnyK_only (i := 12) (by kernel_rfl) rfl (by rfl) (fun K0 hK0 => ?_)
        have HK0 := Lib.hid hK0
        clear hK0
        go_simp
        refine HK0.out _ _ (fun h => by simp at h) ?_
        refine wpAnyK_done (by kernel_rfl) ?_ _
        have hbut : ∀ b (c : Array Value) (t : TypeId) (fr : Nat × Nat), wr.heap[b]? = some (.cells c t fr) → t ≠ 47 → b ≠ w.heap.size + 1 → (w6.setCell ⟨w.heap.size + 1, 3, none⟩ (.slice a6 (k + 1) c6)).heap[b]? = some (.cells c t fr) := by
          intro b c t fr hb ht hne
          rw [Below.heap_setCell _ _ _ _ (by show b ≠ w.heap.size + 1; omega)]
          exact row_apart hown hg6 ((KeepC.of_below hbW).2 _ _ _ _ hb) ht
        have hsz6 := hg6.size
        have hszF : wr.heap.size ≤ (w6.setCell ⟨w.heap.size + 1, 3, none⟩ (.slice a6 (k + 1) c6)).heap.size := by
          have e : (w6.setCell ⟨w.heap.size + 1, 3, none⟩ (.slice a6 (k + 1) c6)).heap.size = w6.heap.size := by simp [World.setCell]
          rw [e]; exact Nat.le_trans hWs hsz6
        have HM1 : Hid (MOwn (w6.setCell ⟨w.heap.size + 1, 3, none⟩ (.slice a6 (k + 1) c6)) w.heap.size (.slice a6 (k + 1) c6) (mks K l blk st (k + 1))) := by
          have e : mks K l blk st (k + 1) = mks K l blk st k ++ [(x, B)] := by rw [HMS.out, HPI.out]
          rw [e]
          have h1 : w6.ownsRow w.heap.size 47 2 (.slice a6 (k + 1) c6) (mks K l blk st k ++ [(x, B)]).length (mcells (mks K l blk st k ++ [(x, B)])) := by
            rw [mcells_snoc, List.length_append]; exact hown6
          obtain ⟨z1, z2⟩ := h1
          refine ⟨z1, ?_⟩
          rcases z2 with z2 | ⟨g', cp, cur, z3, z4, z5, z6⟩
          · exact .inl z2
          · refine .inr ⟨g', cp, cur, z3, z4, ?_, z6⟩
            rw [Below.heap_setCell _ _ _ _ ?_]
            · exact z5
            · show g' ≠ w.heap.size + 1
              intro e; subst e
              rw [k2] at z5
              cases z5
        have HK1 : Hid ((w6.setCell ⟨w.heap.size + 1, 3, none⟩ (.slice a6 (k + 1) c6)).heap[w.heap.size + 1]? = some (.cells #[.int .i64 (len : Int), .int .i64 bI, .int .i64 sI, .slice a6 (k + 1) c6] 26)) := by
          show _ = _
          rw [Joins.block_setCell k2 _]; rfl
        have HK2 := Lib.hid (hbut _ _ _ _ HG0.out (by decide) (by omega))
        have HK3 : Hid (MadeR (w6.setCell ⟨w.heap.size + 1, 3, none⟩ (.slice a6 (k + 1) c6)) w1.heap.size (.slice (some ⟨g, 0, none⟩) N cl) (pieces l blk N)) := by
          refine KeepT.madeR ⟨hszF, fun b c t fr hp hb => hbut b c t fr hb ?_ ?_⟩ HMR.out
          · rcases hp with rfl | rfl <;> decide
          · intro e
            subst e
            rw [HG1.out] at hb
            cases hb
            rcases hp with h | h <;> exact absurd h (by decide)
        have HK4 : Hid (Below w.heap.size w (w6.setCell ⟨w.heap.size + 1, 3, none⟩ (.slice a6 (k + 1) c6))) :=
          (HBL.out.trans ((hbW.mono HBL.out.size).trans ((Below.refl _ _).grown hg6 (by omega) (fun j hj => (World.ownsRow.lt hown j hj).1)))).setCell (p := ⟨w.heap.size + 1, 3, none⟩) (by show _ ≤ w.heap.size + 1; omega) _
        generalize w6.setCell ⟨w.heap.size + 1, 3, none⟩ (.slice a6 (k + 1) c6) = w7 at HM1 HK1 HK2 HK3 HK4 ⊢
        clear hown6 hg6 hbut hszF k2 d3 f3 hown hbW hb6 hcn hb5 HRO HRS HFS HMS HPI HMO HG1 HG0 HMR c3 hc1 HK0
        go_wp2
        go_roundw
        case rel => exact ⟨k + 1, _, by go_num, by omega, HM1, HK1, HK2, HK3, HK4.out⟩
        case measure => simp [intOf]; omega
      · have hkN : k = N := by omega
        subst hkN
        obtain ⟨a0, c0, ev0⟩ := row_form HMO.out
        rw [mks_length] at ev0
        subst ev0
        have e0 : wr.cell? ⟨w.heap.size + 1, 0, none⟩ = some (.int .i64 (len : Int)) := by rw [cell_of_row wr (w.heap.size + 1) 0 _ _ (0, 0) HG1.out]; rfl
        have e1 : wr.cell? ⟨w.heap.size + 1, 1, none⟩ = some (.int .i64 bI) := by rw [cell_of_row wr (w.heap.size + 1) 1 _ _ (0, 0) HG1.out]; rfl
        have e2 : wr.cell? ⟨w.heap.size + 1, 2, none⟩ = some (.int .i64 sI) := by rw [cell_of_row wr (w.heap.size + 1) 2 _ _ (0, 0) HG1.out]; rfl
        have e3 : wr.cell? ⟨w.heap.size + 1, 3, none⟩ = some (.slice a0 k c0) := by rw [cell_of_row wr (w.heap.size + 1) 3 _ _ (0, 0) HG1.out]; rfl
        have d0 : wr.cell? ⟨w.heap.size, 0, none⟩ = some (.int .i64 0) := by rw [cell_of_row wr (w.heap.size) 0 _ _ (0, 0) HG0.out]; rfl
        have d1 : wr.cell? ⟨w.heap.size, 1, none⟩ = some (.int .i64 0) := by rw [cell_of_row wr (w.heap.size) 1 _ _ (0, 0) HG0.out]; rfl
        have d2 : wr.cell? ⟨w.heap.size, 2, none⟩ = some (.int .i64 0) := by rw [cell_of_row wr (w.heap.size) 2 _ _ (0, 0) HG0.out]; rfl
        have d3 : wr.cell? ⟨w.heap.size, 3, none⟩ = some (.slice none 0 0) := by rw [cell_of_row wr (w.heap.size) 3 _ _ (0, 0) HG0.out]; rfl
        have f0 : wr.frozen? ⟨w.heap.size, 0, none⟩ = false := unfrozen HG0.out
        have f1 : wr.frozen? ⟨w.heap.size, 1, none⟩ = false := unfrozen HG0.out
        have f2 : wr.frozen? ⟨w.heap.size, 2, none⟩ = false := unfrozen HG0.out
        have f3 : wr.frozen? ⟨w.heap.size, 3, none⟩ = false := unfrozen HG0.out
        have HF := Lib.hid (set4_block (.int .i64 (len : Int)) (.int .i64 bI) (.int .i64 sI) (.slice a0 k c0) HG0.out)
        have HM4 : Hid (MOwn (set4 wr w.heap.size (.int .i64 (len : Int)) (.int .i64 bI) (.int .i64 sI) (.slice a0 k c0)) w.heap.size (.slice a0 k c0) (mks K l blk st k)) := by
          obtain ⟨z1, z2⟩ := HMO.out
          refine ⟨z1, ?_⟩
          rcases z2 with z2 | ⟨g', cp, cur, z3, z4, z5, z6⟩
          · exact .inl z2
          · refine .inr ⟨g', cp, cur, z3, z4, ?_, z6⟩
            rw [set4_other _ _ _ _ ?_]
            · exact z5
            · intro e; subst e
              rw [HG0.out] at z5
              cases z5
        have HB4 : Hid (Below w.heap.size w (set4 wr w.heap.size (.int .i64 (len : Int)) (.int .i64 bI) (.int .i64 sI) (.slice a0 k c0))) := set4_below _ _ _ _ hbel (Nat.le_refl _)
        clear hbel HMO HG1 HG0 HMR
        go_wp2
        have x0 := cell_of_row _ w.heap.size 0 _ _ (0, 0) HF.out
        have x1 := cell_of_row _ w.heap.size 1 _ _ (0, 0) HF.out
        have x2 := cell_of_row _ w.heap.size 2 _ _ (0, 0) HF.out
        have x3 := cell_of_row _ w.heap.size 3 _ _ (0, 0) HF.out
        simp only [set4] at x0 x1 x2 x3
        refine bodyPost_ret (v := .tuple #[.agg #[.int .i64 (len : Int), .int .i64 bI, .int .i64 sI, .slice a0 k c0], .int .i64 0]) (by simp [results, go_sem, x0, x1, x2, x3]) rfl ⟨_, rfl, HM4.out, HB4.out⟩
end Go.Proofs.YtkppnbehkmpogaaDoor
