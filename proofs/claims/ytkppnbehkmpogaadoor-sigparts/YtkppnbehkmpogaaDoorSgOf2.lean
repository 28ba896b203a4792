/- sig.Of, walked. -/
import Derived.Test.YtkppnbehkmpogaaDoorSgOf
namespace Go.Proofs.YtkppnbehkmpogaaDoor
open Go.RowKit Go.Shelf Go.Proofs.BlkMath Go.Proofs.RangeLaw Go.Proofs.HeldRound
open Go.Proofs.ShaMath (sumB)
open Go.Proofs.RollMath (sumOf sumOf_bd)
set_option linter.unusedVariables false
set_option maxRecDepth 100000
attribute [local go_sem] Oper.semAt_some

/-- range_seen, the round's frame being what the assignment makes of the frame at hand: the two things handed, and the second one once more -/
theorem range_seen2 {P : Program} {n : Nat} {g : Operand} {p0 p1 : Tmp} {assign body : Code} {Q : Exit → Act → World → Prop} {a : Act} {w : World} (d : Tmp)
    {gf : Nat} {lb : Array Value} (hg : a.eval g = .func (.func gf) #[] lb) (eg : Enters P gf)
    {X : Nat → Array Value → World → Prop} {N : Nat} {T : World → Prop} {w0 : World} (hseq : Hands P (n - 1) gf lb X N T w0) (hb0 : Below w0.heap.size w0 w)
    (J : Nat → World → Prop)
    (hX : ∀ k vs W, X k vs W → vs.size = 2)
    (hXp : ∀ k vs W o, X k vs W → Rec W (w.heap.size + 1) → X k vs (W.putObj (w.heap.size + 1) (.loop o)))
    (hJp : ∀ k W o, J k W → Rec W (w.heap.size + 1) → J k (W.putObj (w.heap.size + 1) (.loop o)))
    (hJb : ∀ k W W', J k W → Below W.heap.size W W' → J k W')
    (hT : ∀ k W, J k W → T W)
    (h0 : ∀ r, J 0 ((w.alloc (.deferred (some []))).alloc (.loop r)))
    (hassign : ∀ (l k : Nat) (vs : Array Value) (W : World) (K : Act → World → Prop), X k vs W → K { tmps := ((a.tmps.setIfInBounds p0 (vs.getD 0 undef)).setIfInBounds p1 (vs.getD 1 undef)).setIfInBounds d (vs.getD 1 undef), defers := [] } W →
      assign.wpIn (Fence.wide.inRound l) (n - 1 - 1) P (Exit.then K (fun _ _ _ => False)) { tmps := (a.tmps.setIfInBounds p0 (vs.getD 0 undef)).setIfInBounds p1 (vs.getD 1 undef), defers := [] } W)
    (hbody : ∀ (k : Nat) (vs : Array Value) (W : World), k < N → J k W → X k vs W → w.heap.size + 1 < W.heap.size →
      body.wpIn (Fence.wide.inRound (w.heap.size + 1)) (n - 1 - 1) P (Go.Proofs.RangeLaw.Left (w.heap.size + 1) w.heap.size J (fun _ _ _ => False) (k + 1) W) { tmps := ((a.tmps.setIfInBounds p0 (vs.getD 0 undef)).setIfInBounds p1 (vs.getD 1 undef)).setIfInBounds d (vs.getD 1 undef), defers := [] } W)
    (hdone : ∀ (W : World), J N W → W.heap[w.heap.size]? = some (.deferred (some [])) → w.heap.size + 1 < W.heap.size → Q .normal { a with defers := { target := .collected w.heap.size, args := #[] } :: a.defers } W) :
    (Code.rangeFunc g #[p0, p1] assign body).wpIn Fence.wide n P Q a w := by
  refine range_seen hg eg hseq hb0 J (fun _ _ _ => False) (fun k vs W h => by rw [hX k vs W h]; rfl) hXp hJp (fun _ _ _ _ h _ => h) hJb hT h0
    (fun k vs => { tmps := ((a.tmps.setIfInBounds p0 (vs.getD 0 undef)).setIfInBounds p1 (vs.getD 1 undef)).setIfInBounds d (vs.getD 1 undef), defers := [] }) ?_ hbody hdone (fun _ _ _ _ h => h.elim)
  intro l k vs W K hx hK
  have hz := hX k vs W hx
  obtain ⟨x, y, rfl⟩ : ∃ x y, vs = #[x, y] := by
    obtain ⟨L⟩ := vs
    match L, hz with
    | [x, y], _ => exact ⟨x, y, rfl⟩
  have h := hassign l k #[x, y] W K hx hK
  simpa using h

def OfJ (w : World) (n3 : Nat) (K l : List Int) (blk st N tb k : Nat) (W : World) : Prop :=
  k ≤ N ∧ ∃ v : Value, MOwn W (n3 + 2) v (mks K l blk st k) ∧ W.heap[w.heap.size + 2]? = some (.cells #[.int .i64 l.length, .int .i64 blk, .int .i64 st, v] 26) ∧
    W.heap[w.heap.size]? = some (.cells #[.int .i64 st] 3) ∧ W.heap[w.heap.size + 1]? = some (.cells #[.int .i64 0, .int .i64 0, .int .i64 0, .slice none 0 0] 26) ∧
    Held (w.heap.size + 3) tb (w.heap.size + 3) l blk W ∧ Below w.heap.size w W
theorem OfJ.keep {w W W' : World} {n3 : Nat} {K l : List Int} {blk st N tb k : Nat} (h : OfJ w n3 K l blk st N tb k W) (hk : KeepC W W') (hb : Below w.heap.size W W') : OfJ w n3 K l blk st N tb k W' := by
  obtain ⟨h0, v, h1, h2, h3, h4, h5, h6⟩ := h
  exact ⟨h0, v, h1.keep hk, hk.2 _ _ _ _ h2, hk.2 _ _ _ _ h3, hk.2 _ _ _ _ h4, h5.keep hk, h6.trans hb⟩

/-- the length of blocks that is taken -/
def OfBlk (len : Nat) (b0 : Int) (blk : Nat) : Prop := (b0 = 0 ∧ ∀ W, Calls Tryd.prog 32 #[.int .i64 len] W fun e w' => e = .returned (.int .i64 blk) ∧ W = w') ∨ (b0 ≠ 0 ∧ b0 = blk)

theorem own_cap {w : World} {base : Nat} {a : Option Addr} {n c : Nat} {l : List Int} (h : Own w base (.slice a n c) l) : c ≤ 9223372036854775807 := by
  rcases h.2 with ⟨e, _⟩ | ⟨g, cap, cur, e, _, _, _, h7, _⟩
  · cases e; omega
  · cases e; unfold maxLen at h7; omega
/-- four cells of a block, set one by one -/
def set4 (W : World) (g : Nat) (y0 y1 y2 y3 : Value) : World := (((W.setCell ⟨g, 0, none⟩ y0).setCell ⟨g, 1, none⟩ y1).setCell ⟨g, 2, none⟩ y2).setCell ⟨g, 3, none⟩ y3
theorem set4_block {W : World} {g : Nat} {t : TypeId} {x0 x1 x2 x3 : Value} (y0 y1 y2 y3 : Value) (h : W.heap[g]? = some (.cells #[x0, x1, x2, x3] t)) : (set4 W g y0 y1 y2 y3).heap[g]? = some (.cells #[y0, y1, y2, y3] t) := by
  have h1 := Joins.block_setCell (i := 0) h y0
  have h2 := Joins.block_setCell (i := 1) h1 y1
  have h3 := Joins.block_setCell (i := 2) h2 y2
  exact Joins.block_setCell (i := 3) h3 y3
theorem set4_other {W : World} {g b : Nat} (y0 y1 y2 y3 : Value) (h : b ≠ g) : (set4 W g y0 y1 y2 y3).heap[b]? = W.heap[b]? := by
  unfold set4
  rw [Below.heap_setCell _ _ _ _ h, Below.heap_setCell _ _ _ _ h, Below.heap_setCell _ _ _ _ h, Below.heap_setCell _ _ _ _ h]
theorem set4_below {w W : World} {g : Nat} (y0 y1 y2 y3 : Value) (h : Below w.heap.size w W) (hg : w.heap.size ≤ g) : Below w.heap.size w (set4 W g y0 y1 y2 y3) :=
  (((h.setCell (p := ⟨g, 0, none⟩) hg _).setCell (p := ⟨g, 1, none⟩) hg _).setCell (p := ⟨g, 2, none⟩) hg _).setCell (p := ⟨g, 3, none⟩) hg _
theorem piece_oct {l : List Int} (h : Oct l) (blk k : Nat) : Oct (piece l blk k) := (h.drop _).take _
theorem piece_le (l : List Int) (blk k : Nat) : (piece l blk k).length ≤ l.length := by unfold piece; rw [List.length_take, List.length_drop]; omega

set_option maxRecDepth 1000000 in
set_option maxHeartbeats 4000000 in
theorem sigof_yes (u : Value) (K l : List Int) (b0 : Int) (blk st : Nat) (w : World) (hS : Sl w u l) (ho : Oct l) (hR : Rt l.length blk) (hT : TabR w K) (hs1 : 1 ≤ st) (hs : st ≤ 32) (hB0 : OfBlk l.length b0 blk) :
    Calls Tryd.prog 11 #[u, .int .i64 b0, .int .i64 st] w fun e w' => ∃ v, e = .returned (.tuple #[sigV l.length blk st v, .int .i64 0]) ∧ MOwn w' w.heap.size v (mks K l blk st (cnt l.length blk).toNat) ∧ Below w.heap.size w w' := by
  obtain ⟨a, cap, hu, hB, hnil, hcap⟩ := id hS
  obtain ⟨len, hlen⟩ : ∃ len, len = l.length := ⟨_, rfl⟩
  have hlb : l.length ≤ 131072 := by unfold Rt at hR; omega
  have hcs := cnt_spec hR
  obtain ⟨N, hN⟩ : ∃ N : Nat, (N : Int) = cnt l.length blk := ⟨(cnt l.length blk).toNat, by omega⟩
  have hNt : (cnt l.length blk).toNat = N := by omega
  have hNb : N ≤ 131072 := by omega
  have HST : Hid (∀ W, Calls Tryd.prog 30 #[.int .i64 (st : Int)] W fun e w' => e = .returned (.bool true) ∧ W = w') := by
    intro W; have h := rightStrength_any st W; rw [decide_eq_true (show (1 : Int) ≤ st ∧ (st : Int) ≤ 32 by omega)] at h; exact h
  have HRT : Hid (∀ W, Calls Tryd.prog 31 #[.int .i64 0, .int .i64 (blk : Int)] W fun e w' => e = .returned (.bool true) ∧ W = w') := by
    intro W; have h := right_any 0 blk W; rw [decide_eq_true (show Rt 0 blk from ⟨⟨by omega, by omega⟩, hR.2⟩)] at h; exact h
  -- the three blocks
  obtain ⟨w1, hw1⟩ : ∃ w1, w1 = ((w.alloc (.cells #[.int .i64 (st : Int)] 3)).alloc (.cells #[.int .i64 0, .int .i64 0, .int .i64 0, .slice none 0 0] 26)).alloc (.cells #[.int .i64 (len : Int), .int .i64 (blk : Int), .int .i64 (st : Int), .slice none 0 0] 26) := ⟨_, rfl⟩
  have hb1 : Below w.heap.size w w1 := by rw [hw1]; exact (((Below.refl _ _).alloc (Nat.le_refl _) _).alloc (by simp) _).alloc (by simp; omega) _
  have hz1 : w1.heap.size = w.heap.size + 3 := by rw [hw1]; simp
  have q0 : w1.heap[w.heap.size]? = some (.cells #[.int .i64 (st : Int)] 3) := by
    rw [hw1, Below.heap_alloc _ _ _ (by simp; omega), Below.heap_alloc _ _ _ (by simp)]; exact heap_new _ _
  have q1 : w1.heap[w.heap.size + 1]? = some (.cells #[.int .i64 0, .int .i64 0, .int .i64 0, .slice none 0 0] 26) := by
    rw [hw1, Below.heap_alloc _ _ _ (by simp)]
    have := heap_new (w.alloc (.cells #[.int .i64 (st : Int)] 3)) (.cells #[.int .i64 0, .int .i64 0, .int .i64 0, .slice none 0 0] 26)
    rw [show (w.alloc (.cells #[.int .i64 (st : Int)] 3)).heap.size = w.heap.size + 1 from by simp] at this
    exact this
  have q2 : w1.heap[w.heap.size + 2]? = some (.cells #[.int .i64 (len : Int), .int .i64 (blk : Int), .int .i64 (st : Int), .slice none 0 0] 26) := by
    rw [hw1]
    have := heap_new ((w.alloc (.cells #[.int .i64 (st : Int)] 3)).alloc (.cells #[.int .i64 0, .int .i64 0, .int .i64 0, .slice none 0 0] 26)) (.cells #[.int .i64 (len : Int), .int .i64 (blk : Int), .int .i64 (st : Int), .slice none 0 0] 26)
    rw [show ((w.alloc (.cells #[.int .i64 (st : Int)] 3)).alloc (.cells #[.int .i64 0, .int .i64 0, .int .i64 0, .slice none 0 0] 26)).heap.size = w.heap.size + 2 from by simp] at this
    exact this
  have hEA := each_yes u l blk w1 (hS.later hb1) hR
  rw [hz1] at hEA
  have HEA := Lib.hid hEA
  have HW1 := Lib.hid hw1
  have HB1 := Lib.hid hb1
  have HQ0 := Lib.hid q0
  have HQ1 := Lib.hid q1
  have HQ2 := Lib.hid q2
  have HR := Lib.hid hR
  have HLO := Lib.hid ho
  have HNT := Lib.hid hNt
  have HNN := Lib.hid hN
  have HLEN := Lib.hid hlen
  have HT := Lib.hid hT
  have HB0 := Lib.hid hB0
  have hlen2 : len ≤ 131072 := by omega
  rw [hNt]
  rw [← hlen] at hu
  unfold sigV
  clear hS hB hnil hcap hcs hEA hlb hN hNt hw1 hb1 q0 q1 q2 ho hT hB0 hR
  rw [← hlen]
  clear hlen
  refine callsIn_wide (n := 5).1 ?_
  refine callsIn_of_wp_marks Tryd.func11 rfl trivial ?_ rfl
  simp only [Tryd.ntmps11, List.size_toArray, List.length_cons, List.length_nil, Nat.reduceAdd, Nat.reduceSub, Array.replicate_succ, Array.replicate_zero, List.push_toArray, List.append_toArray, List.nil_append, List.cons_append]
  subst hu
  have hlenbig : ¬ ((131072 : Int) < (len : Int)) := by omega
  rcases HB0.out with ⟨hb0, hL⟩ | ⟨hb0, hbb⟩
  · subst hb0
    have HL := Lib.hid hL
    clear hL HB0
    rw [← HLEN.out] at HL
    gi_wp2_with (first
      | (refine ⟨trivial, ?_⟩; gi_at_call 30; refine (callsIn_wide.2 (HST.out _)).mono ?_; rintro e w' ⟨rfl, rfl⟩)
      | (refine ⟨trivial, ?_⟩; gi_at_call 32; refine (callsIn_wide.2 (HL.out _)).mono ?_; rintro e w' ⟨rfl, rfl⟩))
    refine ⟨trivial, ?_⟩
    gi_wp2_with (refine ⟨trivial, ?_⟩; gi_at_call 32; refine (callsIn_wide.2 (HL.out _)).mono ?_; rintro e w' ⟨rfl, rfl⟩)
    rw [← HW1.out]
    refine ⟨trivial, ?_⟩
    refine (callsIn_wide.2 HEA.out).mono ?_
    rintro e w3 ⟨tb, rfl, hH3, hb3⟩
    have HH3 := Lib.hid hH3
    have hb3' : Below w1.heap.size w1 w3 := by rw [hz1]; exact hb3
    have HB3 := Lib.hid hb3'
    have hz3 := hb3'.size
    clear hH3 hb3 hb3' HEA
    gi_wp2
    have hJ3 : OfJ w w3.heap.size K l blk st N tb 0 w3 := by
      have kc := KeepC.of_below HB3.out
      refine ⟨Nat.zero_le _, _, MOwn.nil _ _, ?_, kc.2 _ _ _ _ HQ0.out, kc.2 _ _ _ _ HQ1.out, HH3.out, HB1.out.trans (HB3.out.mono HB1.out.size)⟩
      rw [← HLEN.out]; exact kc.2 _ _ _ _ HQ2.out
    have HJ3 := Lib.hid hJ3
    have hw3 : w.heap.size + 3 ≤ w3.heap.size := by omega
    clear hJ3
    refine range_seen2 10 (gf := 63) (lb := #[.pointer (some ⟨tb, 0, none⟩), .pointer (some ⟨w.heap.size + 3, 0, none⟩)]) rfl (enters_of Tryd.func63 (by kernel_rfl) rfl)
      (each2_hands 4 (w.heap.size + 3) tb (w.heap.size + 3) blk l w3 HR.out) (Below.refl _ _) (OfJ w w3.heap.size K l blk st N tb)
      ?hX ?hXp ?hJp ?hJb ?hT ?h0 ?assign ?body ?done
    case hX => rintro k vs W ⟨v, rfl, _⟩; rfl
    case hXp =>
      rintro k vs W o ⟨v, rfl, hv⟩ hr
      exact ⟨v, rfl, (KeepC.rec o hr).own hv⟩
    case hJp =>
      intro k W o h hr
      exact h.keep (KeepC.rec o hr) (below_put _ (by omega))
    case hJb =>
      intro k W W' h hb
      exact h.keep (KeepC.of_below hb) (hb.mono h.2.choose_spec.2.2.2.2.2.size)
    case hT =>
      intro k W h
      exact (h.2.choose_spec.2.2.2.2.1).text HLO.out
    case h0 =>
      intro r
      have hbb : Below w3.heap.size w3 ((w3.alloc (.deferred (some []))).alloc (.loop r)) := ((Below.refl _ _).alloc (Nat.le_refl _) _).alloc (by simp) _
      exact HJ3.out.keep (KeepC.of_below hbb) (hbb.mono (HB1.out.trans (HB3.out.mono HB1.out.size)).size)
    case assign =>
      rintro l' k vs W K0 ⟨v, rfl, _⟩ hK
      simp only [List.setIfInBounds_toArray, List.set_cons_zero, List.set_cons_succ] at hK ⊢
      gi_wp2
      exact hK
    case body =>
      rw [HNT.out]
      rintro k vs' W hk ⟨hkN, v0, hmo, g2, g0, g1, hheld, hbel⟩ ⟨v, rfl, hv⟩ hlt
      simp only [List.setIfInBounds_toArray, List.set_cons_zero, List.set_cons_succ]
      obtain ⟨av, cv, ev, hBv, hnv, hcv⟩ := hv.sl (piece_oct HLO.out blk k)
      have hcb : cv ≤ 9223372036854775807 := by rw [ev] at hv; exact own_cap hv
      have hpl := piece_le l blk k
      rw [← HLEN.out] at hpl
      have HMK : Hid (∀ W', Below W.drew.heap.size W.drew W' → Calls Tryd.prog 34 #[.slice av (piece l blk k).length cv, .int .i64 (st : Int)] W' fun e w' => e = .returned (mkV (sumOf (piece l blk k)) (strong K (piece l blk k) st)) ∧ Below W'.heap.size W' w') := by
        intro W' hb
        have hbd : Below W.heap.size W W' := ⟨hb.os, hb.tape, hb.output, hb.size, hb.block⟩
        exact markOf_any av cv st K (piece l blk k) W' (hBv.later hbd) (HT.out.later (hbel.trans (hbd.mono hbel.size))) hnv hcv hcb (by omega) (by omega)
      have HMS := Lib.hid (mks_succ K l blk st k)
      have HPI : Hid (mkOf K (piece l blk k) st = (sumOf (piece l blk k), strong K (piece l blk k) st)) := rfl
      subst ev
      generalize sumOf (piece l blk k) = x at HMK HPI
      generalize strong K (piece l blk k) st = B at HMK HPI
      have c3 : W.drew.cell? ⟨w.heap.size + 1 + 1, 3, none⟩ = some v0 := by
        show W.cell? _ = _
        rw [cell_of_row W (w.heap.size + 1 + 1) 3 _ _ (0, 0) g2]; rfl
      have c0 : W.drew.cell? ⟨w.heap.size, 0, none⟩ = some (.int .i64 (st : Int)) := by
        show W.cell? _ = _
        rw [cell_of_row W w.heap.size 0 _ _ (0, 0) g0]; rfl
      gi_wp2
      refine region_round (S := fun W' => Below W.drew.heap.size W.drew W') (bad := [6, 7, 8]) (by kernel_rfl) (by kernel_rfl) (by rintro ⟨_, _, h⟩; exact h) ?_
      have hS0 : Below W.drew.heap.size W.drew W.drew := Below.refl _ _
      refine wpAnyK_take (i := 0) [1, 6, 7, 8] (v := .pointer (some ⟨w.heap.size + 1 + 1, 3, none⟩)) rfl (by kernel_rfl) (by kernel_rfl) (by kernel_rfl) (by kernel_rfl) (fun _ _ _ h => h) (Or.inl ⟨by rfl, fun w' hw' => by go_simp⟩) hS0 ?_
      refine wpAnyK_take (i := 1) [6, 7, 8] (v := v0) rfl (by kernel_rfl) (by kernel_rfl) (by kernel_rfl) (by kernel_rfl) (fun _ _ _ h => h) (Or.inl ⟨by rfl, fun w' hw' => by have c3' := cell_later hw' c3; go_simp⟩) hS0 ?_
      refine wpAnyK_take (i := 2) [4, 5, 6, 7, 8] (v := .slice av (piece l blk k).length cv) rfl (by kernel_rfl) (by kernel_rfl) (by kernel_rfl) (by kernel_rfl) (fun _ _ _ h => h) (Or.inl ⟨by rfl, fun w' hw' => by go_simp⟩) hS0 ?_
      refine wpAnyK_take (i := 3) [4, 5, 6, 7, 8] (v := .int .i64 (st : Int)) rfl (by kernel_rfl) (by kernel_rfl) (by kernel_rfl) (by kernel_rfl) (fun _ _ _ h => h) (Or.inl ⟨by rfl, fun w' hw' => by have c0' := cell_later hw' c0; go_simp⟩) hS0 ?_
      refine wpAnyK_only (i := 4) (by kernel_rfl) rfl (by rfl) (fun K0 hK0 => ?_)
      have HK0 := Lib.hid hK0
      clear hK0
      go_simp
      refine (HMK.out _ hS0).mono ?_
      rintro e w5 ⟨rfl, hb5⟩
      refine HK0.out _ _ (fun _ => hb5) ?_
      clear HK0
      refine wpAnyK_only (i := 5) (by kernel_rfl) rfl (by rfl) (fun K0 hK0 => ?_)
      have HK0 := Lib.hid hK0
      clear hK0
      unfold mkV
      go_simp
      have hb6 : Below W.drew.heap.size W.drew (w5.alloc (.cells #[.int .u32 x, .string B] 47)) := hb5.alloc hb5.size _
      refine HK0.out _ _ (fun _ => hb6) ?_
      clear HK0
      refine wpAnyK_only (i := 6) (by kernel_rfl) rfl (by rfl) (fun K0 hK0 => ?_)
      have HK0 := Lib.hid hK0
      clear hK0
      have hbW : Below W.heap.size W (w5.alloc (.cells #[.int .u32 x, .string B] 47)) := ⟨hb6.os, hb6.tape, hb6.output, hb6.size, hb6.block⟩
      have hown := hmo.later hbW
      have hcn : (w5.alloc (.cells #[.int .u32 x, .string B] 47)).heap[w5.heap.size]? = some (.cells #[.int .u32 x, .string B] 47) := heap_new _ _
      obtain ⟨i0, hi0, hz0, hzs, hzb⟩ := info_parts Tryd.infoM
      have hml := mks_length K l blk st k
      have hws := hbel.size
      have hWs := hbW.size
      refine wp_append_own _ (.tmp 47) (.tmp 51) 24 rfl (w3.heap.size + 2) 47 i0 _ 2 24 Tryd.underlying24 hi0 hz0 hzs hzb rfl (by decide) v0 _ _ rfl hown ⟨w5.heap.size, 0, none⟩ 1 1 [.int .u32 x, .string B] rfl rfl ?_ ?_ (by unfold maxLen; omega) (by omega) (by omega) ?_
      · intro j u hj
        have hj2 : j = 0 ∨ j = 1 := by
          rcases Nat.lt_or_ge j 2 with h | h
          · omega
          · rw [List.getElem?_eq_none (by simpa using h)] at hj; cases hj
        rcases hj2 with rfl | rfl
        · rw [show (⟨w5.heap.size, 0, none⟩ : Addr).add 0 = ⟨w5.heap.size, 0, none⟩ from by simp [Addr.add], cell_of_row _ _ 0 _ _ (0, 0) hcn]; exact hj
        · rw [show (⟨w5.heap.size, 0, none⟩ : Addr).add 1 = ⟨w5.heap.size, 1, none⟩ from by simp [Addr.add], cell_of_row _ _ 1 _ _ (0, 0) hcn]; exact hj
      · intro u hu
        simp at hu
        rcases hu with rfl | rfl <;> rfl
      intro v' w6 hown6 hg6 _
      obtain ⟨a6, c6, ev6⟩ := row_form hown6
      rw [hml] at ev6
      subst ev6
      refine HK0.out _ _ (fun h => by simp at h) ?_
      clear HK0
      refine wpAnyK_only (i := 7) (by kernel_rfl) rfl (by rfl) (fun K0 hK0 => ?_)
      have HK0 := Lib.hid hK0
      clear hK0
      go_simp
      refine HK0.out _ _ (fun h => by simp at h) ?_
      clear HK0
      have k2 : w6.heap[w.heap.size + 2]? = some (.cells #[.int .i64 l.length, .int .i64 blk, .int .i64 st, v0] 26) := row_apart hown hg6 ((KeepC.of_below hbW).2 _ _ _ _ g2) (by decide)
      have d3 : w6.cell? ⟨w.heap.size + 1 + 1, 3, none⟩ = some v0 := by rw [cell_of_row w6 (w.heap.size + 1 + 1) 3 _ _ (0, 0) k2]; rfl
      have f3 : w6.frozen? ⟨w.heap.size + 1 + 1, 3, none⟩ = false := unfrozen k2
      refine wpAnyK_only (i := 8) (by kernel_rfl) rfl (by rfl) (fun K0 hK0 => ?_)
      have HK0 := Lib.hid hK0
      clear hK0
      go_simp
      refine HK0.out _ _ (fun h => by simp at h) ?_
      refine wpAnyK_done (by kernel_rfl) ?_ _
      have hbut : ∀ b (c : Array Value) (t : TypeId) (fr : Nat × Nat), W.heap[b]? = some (.cells c t fr) → t ≠ 47 → b ≠ w.heap.size + 2 → (w6.setCell ⟨w.heap.size + 1 + 1, 3, none⟩ (.slice a6 (k + 1) c6)).heap[b]? = some (.cells c t fr) := by
        intro b c t fr hb ht hne
        rw [Below.heap_setCell _ _ _ _ (by show b ≠ w.heap.size + 1 + 1; omega)]
        exact row_apart hown hg6 ((KeepC.of_below hbW).2 _ _ _ _ hb) ht
      have hsz6 := hg6.size
      have hszF : W.heap.size ≤ (w6.setCell ⟨w.heap.size + 1 + 1, 3, none⟩ (.slice a6 (k + 1) c6)).heap.size := by
        have e : (w6.setCell ⟨w.heap.size + 1 + 1, 3, none⟩ (.slice a6 (k + 1) c6)).heap.size = w6.heap.size := by simp [World.setCell]
        rw [e]; exact Nat.le_trans hWs hsz6
      have hlow : ∀ j, v0.ownBlock = some j → w3.heap.size + 2 ≤ j := fun j hj => (World.ownsRow.lt hmo j hj).1
      have hblk : ∀ b, b < w3.heap.size + 2 → b ≠ w.heap.size + 2 → (w6.setCell ⟨w.heap.size + 1 + 1, 3, none⟩ (.slice a6 (k + 1) c6)).heap[b]? = W.heap[b]? := by
        intro b hb hne
        rw [Below.heap_setCell _ _ _ _ (by show b ≠ w.heap.size + 1 + 1; omega), hg6.block b (by omega) (fun e => by have := hlow b e.symm; omega), hbW.block b (by omega)]
      refine ⟨⟨hblk (w3.heap.size + 1) (by omega) (by omega), hblk w3.heap.size (by omega) (by omega)⟩, by omega, .slice a6 (k + 1) c6, ?_, ?_, ?_, ?_, ?_, ?_⟩
      · have e : mks K l blk st (k + 1) = mks K l blk st k ++ [(x, B)] := by rw [HMS.out, HPI.out]
        rw [e]
        have h1 : w6.ownsRow (w3.heap.size + 2) 47 2 (.slice a6 (k + 1) c6) (mks K l blk st k ++ [(x, B)]).length (mcells (mks K l blk st k ++ [(x, B)])) := by
          rw [mcells_snoc, List.length_append]; exact hown6
        obtain ⟨z1, z2⟩ := h1
        refine ⟨z1, ?_⟩
        rcases z2 with z2 | ⟨g, cp, cur, z3, z4, z5, z6⟩
        · exact .inl z2
        · exact .inr ⟨g, cp, cur, z3, z4, by rw [Below.heap_setCell _ _ _ _ (by show g ≠ w.heap.size + 1 + 1; omega)]; exact z5, z6⟩
      · rw [Joins.block_setCell k2 _]; rfl
      · exact hbut _ _ _ _ g0 (by decide) (by omega)
      · exact hbut _ _ _ _ g1 (by decide) (by omega)
      · refine KeepT.held ⟨hszF, fun b c t fr hp hb => hbut b c t fr hb ?_ ?_⟩ hheld
        · rcases hp with rfl | rfl | rfl <;> decide
        · intro e
          subst e
          rw [g2] at hb
          cases hb
          rcases hp with h | h | h <;> exact absurd h (by decide)
      · refine ⟨hg6.os.trans (hbW.os.trans hbel.os), hg6.tape.trans (hbW.tape.trans hbel.tape), hg6.output.trans (hbW.output.trans hbel.output), Nat.le_trans hws hszF, fun b hb => ?_⟩
        rw [hblk b (by omega) (by omega)]; exact hbel.block b hb
    case done =>
      rw [HNT.out]
      rintro W ⟨hkN, v0, hmo, g2, g0, g1, hheld, hbel⟩ hD hlt
      obtain ⟨a0, c0, ev0⟩ := row_form hmo
      rw [mks_length] at ev0
      subst ev0
      have e0 : W.cell? ⟨w.heap.size + 1 + 1, 0, none⟩ = some (.int .i64 (len : Int)) := by rw [cell_of_row W (w.heap.size + 1 + 1) 0 _ _ (0, 0) g2, HLEN.out]; rfl
      have e1 : W.cell? ⟨w.heap.size + 1 + 1, 1, none⟩ = some (.int .i64 blk) := by rw [cell_of_row W (w.heap.size + 1 + 1) 1 _ _ (0, 0) g2]; rfl
      have e2 : W.cell? ⟨w.heap.size + 1 + 1, 2, none⟩ = some (.int .i64 st) := by rw [cell_of_row W (w.heap.size + 1 + 1) 2 _ _ (0, 0) g2]; rfl
      have e3 : W.cell? ⟨w.heap.size + 1 + 1, 3, none⟩ = some (.slice a0 N c0) := by rw [cell_of_row W (w.heap.size + 1 + 1) 3 _ _ (0, 0) g2]; rfl
      have d0 : W.cell? ⟨w.heap.size + 1, 0, none⟩ = some (.int .i64 0) := by rw [cell_of_row W (w.heap.size + 1) 0 _ _ (0, 0) g1]; rfl
      have d1 : W.cell? ⟨w.heap.size + 1, 1, none⟩ = some (.int .i64 0) := by rw [cell_of_row W (w.heap.size + 1) 1 _ _ (0, 0) g1]; rfl
      have d2 : W.cell? ⟨w.heap.size + 1, 2, none⟩ = some (.int .i64 0) := by rw [cell_of_row W (w.heap.size + 1) 2 _ _ (0, 0) g1]; rfl
      have d3 : W.cell? ⟨w.heap.size + 1, 3, none⟩ = some (.slice none 0 0) := by rw [cell_of_row W (w.heap.size + 1) 3 _ _ (0, 0) g1]; rfl
      have f0 : W.frozen? ⟨w.heap.size + 1, 0, none⟩ = false := unfrozen g1
      have f1 : W.frozen? ⟨w.heap.size + 1, 1, none⟩ = false := unfrozen g1
      have f2 : W.frozen? ⟨w.heap.size + 1, 2, none⟩ = false := unfrozen g1
      have f3 : W.frozen? ⟨w.heap.size + 1, 3, none⟩ = false := unfrozen g1
      have HF := Lib.hid (set4_block (.int .i64 (len : Int)) (.int .i64 (blk : Int)) (.int .i64 (st : Int)) (.slice a0 N c0) g1)
      have HD4 : Hid ((set4 W (w.heap.size + 1) (.int .i64 (len : Int)) (.int .i64 (blk : Int)) (.int .i64 (st : Int)) (.slice a0 N c0)).heap[w3.heap.size]? = some (.deferred (some []))) := by
        show _ = _
        rw [set4_other _ _ _ _ (by omega)]; exact hD
      have HM4 : Hid (MOwn (set4 W (w.heap.size + 1) (.int .i64 (len : Int)) (.int .i64 (blk : Int)) (.int .i64 (st : Int)) (.slice a0 N c0)) w.heap.size (.slice a0 N c0) (mks K l blk st N)) := by
        obtain ⟨z1, z2⟩ := hmo
        refine ⟨z1, ?_⟩
        rcases z2 with z2 | ⟨g, cp, cur, z3, z4, z5, z6⟩
        · exact .inl z2
        · exact .inr ⟨g, cp, cur, z3, by omega, by rw [set4_other _ _ _ _ (by omega)]; exact z5, z6⟩
      have HB4 : Hid (Below w.heap.size w (set4 W (w.heap.size + 1) (.int .i64 (len : Int)) (.int .i64 (blk : Int)) (.int .i64 (st : Int)) (.slice a0 N c0))) := set4_below _ _ _ _ hbel (by omega)
      gi_wp2
      refine ⟨by simp, .inl ⟨_, _, rfl, run_takeDeferred HD4.out, ?_⟩⟩
      have hk := KeepC.put (.deferred none) HD4.out rfl
      have hF := hk.2 _ _ _ _ HF.out
      have x0 := cell_of_row _ (w.heap.size + 1) 0 _ _ (0, 0) hF
      have x1 := cell_of_row _ (w.heap.size + 1) 1 _ _ (0, 0) hF
      have x2 := cell_of_row _ (w.heap.size + 1) 2 _ _ (0, 0) hF
      have x3 := cell_of_row _ (w.heap.size + 1) 3 _ _ (0, 0) hF
      refine ⟨.tuple #[.agg #[.int .i64 (len : Int), .int .i64 (blk : Int), .int .i64 (st : Int), .slice a0 N c0], .int .i64 0], ?_, _, rfl, HM4.out.keep hk, HB4.out.trans (below_put _ (by omega))⟩
      simp only [set4] at x0 x1 x2 x3
      simp [results, go_sem, x0, x1, x2, x3]
  · subst hbb
    clear HB0
    gi_wp2_with (first
      | (refine ⟨trivial, ?_⟩; gi_at_call 30; refine (callsIn_wide.2 (HST.out _)).mono ?_; rintro e w' ⟨rfl, rfl⟩)
      | (refine ⟨trivial, ?_⟩; gi_at_call 31; refine (callsIn_wide.2 (HRT.out _)).mono ?_; rintro e w' ⟨rfl, rfl⟩))
    rw [← HW1.out]
    refine ⟨trivial, ?_⟩
    refine (callsIn_wide.2 HEA.out).mono ?_
    rintro e w3 ⟨tb, rfl, hH3, hb3⟩
    have HH3 := Lib.hid hH3
    have hb3' : Below w1.heap.size w1 w3 := by rw [hz1]; exact hb3
    have HB3 := Lib.hid hb3'
    have hz3 := hb3'.size
    clear hH3 hb3 hb3' HEA
    gi_wp2
    have hJ3 : OfJ w w3.heap.size K l blk st N tb 0 w3 := by
      have kc := KeepC.of_below HB3.out
      refine ⟨Nat.zero_le _, _, MOwn.nil _ _, ?_, kc.2 _ _ _ _ HQ0.out, kc.2 _ _ _ _ HQ1.out, HH3.out, HB1.out.trans (HB3.out.mono HB1.out.size)⟩
      rw [← HLEN.out]; exact kc.2 _ _ _ _ HQ2.out
    have HJ3 := Lib.hid hJ3
    have hw3 : w.heap.size + 3 ≤ w3.heap.size := by omega
    clear hJ3
    refine range_seen2 10 (gf := 63) (lb := #[.pointer (some ⟨tb, 0, none⟩), .pointer (some ⟨w.heap.size + 3, 0, none⟩)]) rfl (enters_of Tryd.func63 (by kernel_rfl) rfl)
      (each2_hands 4 (w.heap.size + 3) tb (w.heap.size + 3) blk l w3 HR.out) (Below.refl _ _) (OfJ w w3.heap.size K l blk st N tb)
      ?hX ?hXp ?hJp ?hJb ?hT ?h0 ?assign ?body ?done
    case hX => rintro k vs W ⟨v, rfl, _⟩; rfl
    case hXp =>
      rintro k vs W o ⟨v, rfl, hv⟩ hr
      exact ⟨v, rfl, (KeepC.rec o hr).own hv⟩
    case hJp =>
      intro k W o h hr
      exact h.keep (KeepC.rec o hr) (below_put _ (by omega))
    case hJb =>
      intro k W W' h hb
      exact h.keep (KeepC.of_below hb) (hb.mono h.2.choose_spec.2.2.2.2.2.size)
    case hT =>
      intro k W h
      exact (h.2.choose_spec.2.2.2.2.1).text HLO.out
    case h0 =>
      intro r
      have hbb : Below w3.heap.size w3 ((w3.alloc (.deferred (some []))).alloc (.loop r)) := ((Below.refl _ _).alloc (Nat.le_refl _) _).alloc (by simp) _
      exact HJ3.out.keep (KeepC.of_below hbb) (hbb.mono (HB1.out.trans (HB3.out.mono HB1.out.size)).size)
    case assign =>
      rintro l' k vs W K0 ⟨v, rfl, _⟩ hK
      simp only [List.setIfInBounds_toArray, List.set_cons_zero, List.set_cons_succ] at hK ⊢
      gi_wp2
      exact hK
    case body =>
      rw [HNT.out]
      rintro k vs' W hk ⟨hkN, v0, hmo, g2, g0, g1, hheld, hbel⟩ ⟨v, rfl, hv⟩ hlt
      simp only [List.setIfInBounds_toArray, List.set_cons_zero, List.set_cons_succ]
      obtain ⟨av, cv, ev, hBv, hnv, hcv⟩ := hv.sl (piece_oct HLO.out blk k)
      have hcb : cv ≤ 9223372036854775807 := by rw [ev] at hv; exact own_cap hv
      have hpl := piece_le l blk k
      rw [← HLEN.out] at hpl
      have HMK : Hid (∀ W', Below W.drew.heap.size W.drew W' → Calls Tryd.prog 34 #[.slice av (piece l blk k).length cv, .int .i64 (st : Int)] W' fun e w' => e = .returned (mkV (sumOf (piece l blk k)) (strong K (piece l blk k) st)) ∧ Below W'.heap.size W' w') := by
        intro W' hb
        have hbd : Below W.heap.size W W' := ⟨hb.os, hb.tape, hb.output, hb.size, hb.block⟩
        exact markOf_any av cv st K (piece l blk k) W' (hBv.later hbd) (HT.out.later (hbel.trans (hbd.mono hbel.size))) hnv hcv hcb (by omega) (by omega)
      have HMS := Lib.hid (mks_succ K l blk st k)
      have HPI : Hid (mkOf K (piece l blk k) st = (sumOf (piece l blk k), strong K (piece l blk k) st)) := rfl
      subst ev
      generalize sumOf (piece l blk k) = x at HMK HPI
      generalize strong K (piece l blk k) st = B at HMK HPI
      have c3 : W.drew.cell? ⟨w.heap.size + 1 + 1, 3, none⟩ = some v0 := by
        show W.cell? _ = _
        rw [cell_of_row W (w.heap.size + 1 + 1) 3 _ _ (0, 0) g2]; rfl
      have c0 : W.drew.cell? ⟨w.heap.size, 0, none⟩ = some (.int .i64 (st : Int)) := by
        show W.cell? _ = _
        rw [cell_of_row W w.heap.size 0 _ _ (0, 0) g0]; rfl
      gi_wp2
      refine region_round (S := fun W' => Below W.drew.heap.size W.drew W') (bad := [6, 7, 8]) (by kernel_rfl) (by kernel_rfl) (by rintro ⟨_, _, h⟩; exact h) ?_
      have hS0 : Below W.drew.heap.size W.drew W.drew := Below.refl _ _
      refine wpAnyK_take (i := 0) [1, 6, 7, 8] (v := .pointer (some ⟨w.heap.size + 1 + 1, 3, none⟩)) rfl (by kernel_rfl) (by kernel_rfl) (by kernel_rfl) (by kernel_rfl) (fun _ _ _ h => h) (Or.inl ⟨by rfl, fun w' hw' => by go_simp⟩) hS0 ?_
      refine wpAnyK_take (i := 1) [6, 7, 8] (v := v0) rfl (by kernel_rfl) (by kernel_rfl) (by kernel_rfl) (by kernel_rfl) (fun _ _ _ h => h) (Or.inl ⟨by rfl, fun w' hw' => by have c3' := cell_later hw' c3; go_simp⟩) hS0 ?_
      refine wpAnyK_take (i := 2) [4, 5, 6, 7, 8] (v := .slice av (piece l blk k).length cv) rfl (by kernel_rfl) (by kernel_rfl) (by kernel_rfl) (by kernel_rfl) (fun _ _ _ h => h) (Or.inl ⟨by rfl, fun w' hw' => by go_simp⟩) hS0 ?_
      refine wpAnyK_take (i := 3) [4, 5, 6, 7, 8] (v := .int .i64 (st : Int)) rfl (by kernel_rfl) (by kernel_rfl) (by kernel_rfl) (by kernel_rfl) (fun _ _ _ h => h) (Or.inl ⟨by rfl, fun w' hw' => by have c0' := cell_later hw' c0; go_simp⟩) hS0 ?_
      refine wpAnyK_only (i := 4) (by kernel_rfl) rfl (by rfl) (fun K0 hK0 => ?_)
      have HK0 := Lib.hid hK0
      clear hK0
      go_simp
      refine (HMK.out _ hS0).mono ?_
      rintro e w5 ⟨rfl, hb5⟩
      refine HK0.out _ _ (fun _ => hb5) ?_
      clear HK0
      refine wpAnyK_only (i := 5) (by kernel_rfl) rfl (by rfl) (fun K0 hK0 => ?_)
      have HK0 := Lib.hid hK0
      clear hK0
      unfold mkV
      go_simp
      have hb6 : Below W.drew.heap.size W.drew (w5.alloc (.cells #[.int .u32 x, .string B] 47)) := hb5.alloc hb5.size _
      refine HK0.out _ _ (fun _ => hb6) ?_
      clear HK0
      refine wpAnyK_only (i := 6) (by kernel_rfl) rfl (by rfl) (fun K0 hK0 => ?_)
      have HK0 := Lib.hid hK0
      clear hK0
      have hbW : Below W.heap.size W (w5.alloc (.cells #[.int .u32 x, .string B] 47)) := ⟨hb6.os, hb6.tape, hb6.output, hb6.size, hb6.block⟩
      have hown := hmo.later hbW
      have hcn : (w5.alloc (.cells #[.int .u32 x, .string B] 47)).heap[w5.heap.size]? = some (.cells #[.int .u32 x, .string B] 47) := heap_new _ _
      obtain ⟨i0, hi0, hz0, hzs, hzb⟩ := info_parts Tryd.infoM
      have hml := mks_length K l blk st k
      have hws := hbel.size
      have hWs := hbW.size
      refine wp_append_own _ (.tmp 47) (.tmp 51) 24 rfl (w3.heap.size + 2) 47 i0 _ 2 24 Tryd.underlying24 hi0 hz0 hzs hzb rfl (by decide) v0 _ _ rfl hown ⟨w5.heap.size, 0, none⟩ 1 1 [.int .u32 x, .string B] rfl rfl ?_ ?_ (by unfold maxLen; omega) (by omega) (by omega) ?_
      · intro j u hj
        have hj2 : j = 0 ∨ j = 1 := by
          rcases Nat.lt_or_ge j 2 with h | h
          · omega
          · rw [List.getElem?_eq_none (by simpa using h)] at hj; cases hj
        rcases hj2 with rfl | rfl
        · rw [show (⟨w5.heap.size, 0, none⟩ : Addr).add 0 = ⟨w5.heap.size, 0, none⟩ from by simp [Addr.add], cell_of_row _ _ 0 _ _ (0, 0) hcn]; exact hj
        · rw [show (⟨w5.heap.size, 0, none⟩ : Addr).add 1 = ⟨w5.heap.size, 1, none⟩ from by simp [Addr.add], cell_of_row _ _ 1 _ _ (0, 0) hcn]; exact hj
      · intro u hu
        simp at hu
        rcases hu with rfl | rfl <;> rfl
      intro v' w6 hown6 hg6 _
      obtain ⟨a6, c6, ev6⟩ := row_form hown6
      rw [hml] at ev6
      subst ev6
      refine HK0.out _ _ (fun h => by simp at h) ?_
      clear HK0
      refine wpAnyK_only (i := 7) (by kernel_rfl) rfl (by rfl) (fun K0 hK0 => ?_)
      have HK0 := Lib.hid hK0
      clear hK0
      go_simp
      refine HK0.out _ _ (fun h => by simp at h) ?_
      clear HK0
      have k2 : w6.heap[w.heap.size + 2]? = some (.cells #[.int .i64 l.length, .int .i64 blk, .int .i64 st, v0] 26) := row_apart hown hg6 ((KeepC.of_below hbW).2 _ _ _ _ g2) (by decide)
      have d3 : w6.cell? ⟨w.heap.size + 1 + 1, 3, none⟩ = some v0 := by rw [cell_of_row w6 (w.heap.size + 1 + 1) 3 _ _ (0, 0) k2]; rfl
      have f3 : w6.frozen? ⟨w.heap.size + 1 + 1, 3, none⟩ = false := unfrozen k2
      refine wpAnyK_only (i := 8) (by kernel_rfl) rfl (by rfl) (fun K0 hK0 => ?_)
      have HK0 := Lib.hid hK0
      clear hK0
      go_simp
      refine HK0.out _ _ (fun h => by simp at h) ?_
      refine wpAnyK_done (by kernel_rfl) ?_ _
      have hbut : ∀ b (c : Array Value) (t : TypeId) (fr : Nat × Nat), W.heap[b]? = some (.cells c t fr) → t ≠ 47 → b ≠ w.heap.size + 2 → (w6.setCell ⟨w.heap.size + 1 + 1, 3, none⟩ (.slice a6 (k + 1) c6)).heap[b]? = some (.cells c t fr) := by
        intro b c t fr hb ht hne
        rw [Below.heap_setCell _ _ _ _ (by show b ≠ w.heap.size + 1 + 1; omega)]
        exact row_apart hown hg6 ((KeepC.of_below hbW).2 _ _ _ _ hb) ht
      have hsz6 := hg6.size
      have hszF : W.heap.size ≤ (w6.setCell ⟨w.heap.size + 1 + 1, 3, none⟩ (.slice a6 (k + 1) c6)).heap.size := by
        have e : (w6.setCell ⟨w.heap.size + 1 + 1, 3, none⟩ (.slice a6 (k + 1) c6)).heap.size = w6.heap.size := by simp [World.setCell]
        rw [e]; exact Nat.le_trans hWs hsz6
      have hlow : ∀ j, v0.ownBlock = some j → w3.heap.size + 2 ≤ j := fun j hj => (World.ownsRow.lt hmo j hj).1
      have hblk : ∀ b, b < w3.heap.size + 2 → b ≠ w.heap.size + 2 → (w6.setCell ⟨w.heap.size + 1 + 1, 3, none⟩ (.slice a6 (k + 1) c6)).heap[b]? = W.heap[b]? := by
        intro b hb hne
        rw [Below.heap_setCell _ _ _ _ (by show b ≠ w.heap.size + 1 + 1; omega), hg6.block b (by omega) (fun e => by have := hlow b e.symm; omega), hbW.block b (by omega)]
      refine ⟨⟨hblk (w3.heap.size + 1) (by omega) (by omega), hblk w3.heap.size (by omega) (by omega)⟩, by omega, .slice a6 (k + 1) c6, ?_, ?_, ?_, ?_, ?_, ?_⟩
      · have e : mks K l blk st (k + 1) = mks K l blk st k ++ [(x, B)] := by rw [HMS.out, HPI.out]
        rw [e]
        have h1 : w6.ownsRow (w3.heap.size + 2) 47 2 (.slice a6 (k + 1) c6) (mks K l blk st k ++ [(x, B)]).length (mcells (mks K l blk st k ++ [(x, B)])) := by
          rw [mcells_snoc, List.length_append]; exact hown6
        obtain ⟨z1, z2⟩ := h1
        refine ⟨z1, ?_⟩
        rcases z2 with z2 | ⟨g, cp, cur, z3, z4, z5, z6⟩
        · exact .inl z2
        · exact .inr ⟨g, cp, cur, z3, z4, by rw [Below.heap_setCell _ _ _ _ (by show g ≠ w.heap.size + 1 + 1; omega)]; exact z5, z6⟩
      · rw [Joins.block_setCell k2 _]; rfl
      · exact hbut _ _ _ _ g0 (by decide) (by omega)
      · exact hbut _ _ _ _ g1 (by decide) (by omega)
      · refine KeepT.held ⟨hszF, fun b c t fr hp hb => hbut b c t fr hb ?_ ?_⟩ hheld
        · rcases hp with rfl | rfl | rfl <;> decide
        · intro e
          subst e
          rw [g2] at hb
          cases hb
          rcases hp with h | h | h <;> exact absurd h (by decide)
      · refine ⟨hg6.os.trans (hbW.os.trans hbel.os), hg6.tape.trans (hbW.tape.trans hbel.tape), hg6.output.trans (hbW.output.trans hbel.output), Nat.le_trans hws hszF, fun b hb => ?_⟩
        rw [hblk b (by omega) (by omega)]; exact hbel.block b hb
    case done =>
      rw [HNT.out]
      rintro W ⟨hkN, v0, hmo, g2, g0, g1, hheld, hbel⟩ hD hlt
      obtain ⟨a0, c0, ev0⟩ := row_form hmo
      rw [mks_length] at ev0
      subst ev0
      have e0 : W.cell? ⟨w.heap.size + 1 + 1, 0, none⟩ = some (.int .i64 (len : Int)) := by rw [cell_of_row W (w.heap.size + 1 + 1) 0 _ _ (0, 0) g2, HLEN.out]; rfl
      have e1 : W.cell? ⟨w.heap.size + 1 + 1, 1, none⟩ = some (.int .i64 blk) := by rw [cell_of_row W (w.heap.size + 1 + 1) 1 _ _ (0, 0) g2]; rfl
      have e2 : W.cell? ⟨w.heap.size + 1 + 1, 2, none⟩ = some (.int .i64 st) := by rw [cell_of_row W (w.heap.size + 1 + 1) 2 _ _ (0, 0) g2]; rfl
      have e3 : W.cell? ⟨w.heap.size + 1 + 1, 3, none⟩ = some (.slice a0 N c0) := by rw [cell_of_row W (w.heap.size + 1 + 1) 3 _ _ (0, 0) g2]; rfl
      have d0 : W.cell? ⟨w.heap.size + 1, 0, none⟩ = some (.int .i64 0) := by rw [cell_of_row W (w.heap.size + 1) 0 _ _ (0, 0) g1]; rfl
      have d1 : W.cell? ⟨w.heap.size + 1, 1, none⟩ = some (.int .i64 0) := by rw [cell_of_row W (w.heap.size + 1) 1 _ _ (0, 0) g1]; rfl
      have d2 : W.cell? ⟨w.heap.size + 1, 2, none⟩ = some (.int .i64 0) := by rw [cell_of_row W (w.heap.size + 1) 2 _ _ (0, 0) g1]; rfl
      have d3 : W.cell? ⟨w.heap.size + 1, 3, none⟩ = some (.slice none 0 0) := by rw [cell_of_row W (w.heap.size + 1) 3 _ _ (0, 0) g1]; rfl
      have f0 : W.frozen? ⟨w.heap.size + 1, 0, none⟩ = false := unfrozen g1
      have f1 : W.frozen? ⟨w.heap.size + 1, 1, none⟩ = false := unfrozen g1
      have f2 : W.frozen? ⟨w.heap.size + 1, 2, none⟩ = false := unfrozen g1
      have f3 : W.frozen? ⟨w.heap.size + 1, 3, none⟩ = false := unfrozen g1
      have HF := Lib.hid (set4_block (.int .i64 (len : Int)) (.int .i64 (blk : Int)) (.int .i64 (st : Int)) (.slice a0 N c0) g1)
      have HD4 : Hid ((set4 W (w.heap.size + 1) (.int .i64 (len : Int)) (.int .i64 (blk : Int)) (.int .i64 (st : Int)) (.slice a0 N c0)).heap[w3.heap.size]? = some (.deferred (some []))) := by
        show _ = _
        rw [set4_other _ _ _ _ (by omega)]; exact hD
      have HM4 : Hid (MOwn (set4 W (w.heap.size + 1) (.int .i64 (len : Int)) (.int .i64 (blk : Int)) (.int .i64 (st : Int)) (.slice a0 N c0)) w.heap.size (.slice a0 N c0) (mks K l blk st N)) := by
        obtain ⟨z1, z2⟩ := hmo
        refine ⟨z1, ?_⟩
        rcases z2 with z2 | ⟨g, cp, cur, z3, z4, z5, z6⟩
        · exact .inl z2
        · exact .inr ⟨g, cp, cur, z3, by omega, by rw [set4_other _ _ _ _ (by omega)]; exact z5, z6⟩
      have HB4 : Hid (Below w.heap.size w (set4 W (w.heap.size + 1) (.int .i64 (len : Int)) (.int .i64 (blk : Int)) (.int .i64 (st : Int)) (.slice a0 N c0))) := set4_below _ _ _ _ hbel (by omega)
      gi_wp2
      refine ⟨by simp, .inl ⟨_, _, rfl, run_takeDeferred HD4.out, ?_⟩⟩
      have hk := KeepC.put (.deferred none) HD4.out rfl
      have hF := hk.2 _ _ _ _ HF.out
      have x0 := cell_of_row _ (w.heap.size + 1) 0 _ _ (0, 0) hF
      have x1 := cell_of_row _ (w.heap.size + 1) 1 _ _ (0, 0) hF
      have x2 := cell_of_row _ (w.heap.size + 1) 2 _ _ (0, 0) hF
      have x3 := cell_of_row _ (w.heap.size + 1) 3 _ _ (0, 0) hF
      refine ⟨.tuple #[.agg #[.int .i64 (len : Int), .int .i64 (blk : Int), .int .i64 (st : Int), .slice a0 N c0], .int .i64 0], ?_, _, rfl, HM4.out.keep hk, HB4.out.trans (below_put _ (by omega))⟩
      simp only [set4] at x0 x1 x2 x3
      simp [results, go_sem, x0, x1, x2, x3]

set_option maxHeartbeats 2000000 in
theorem sigof_no (a : Option Addr) (len cap : Nat) (b0 st : Int) (w : World) (h : ¬ ((1 ≤ st ∧ st ≤ 32) ∧ (b0 = 0 ∨ (16 ≤ b0 ∧ b0 ≤ 4096)))) :
    Calls Tryd.prog 11 #[.slice a len cap, .int .i64 b0, .int .i64 st] w fun e w' => e = .returned (.tuple #[sigV 0 0 0 (.slice none 0 0), .int .i64 2]) ∧ Below w.heap.size w w' := by
  have h1 := fun W => rightStrength_any st W
  have h2 := fun W => right_any 0 b0 W
  unfold sigV
  by_cases c1 : 1 ≤ st ∧ st ≤ 32
  · have c2 : b0 ≠ 0 := fun e => h ⟨c1, .inl e⟩
    have c3 : ¬ Rt 0 b0 := fun e => h ⟨c1, .inr e.2⟩
    rw [decide_eq_true c1] at h1
    rw [decide_eq_false c3] at h2
    have H1 := Lib.hid h1
    have H2 := Lib.hid h2
    clear h1 h2 c1 c3 h
    go_enter Tryd.func11, Tryd.ntmps11
    go_wp2_with (first | (go_at_call 30; refine (H1.out _).mono ?_; rintro e w' ⟨rfl, rfl⟩) | (go_at_call 31; refine (H2.out _).mono ?_; rintro e w' ⟨rfl, rfl⟩))
    refine bodyPost_ret (v := .tuple #[.agg #[.int .i64 0, .int .i64 0, .int .i64 0, .slice none 0 0], .int .i64 2]) (by simp [results, go_sem]) rfl ⟨rfl, ?_⟩
    exact ((Below.refl _ _).alloc (Nat.le_refl _) _).alloc (by simp) _
  · rw [decide_eq_false c1] at h1
    have H1 := Lib.hid h1
    clear h1 h2 c1 h
    go_enter Tryd.func11, Tryd.ntmps11
    go_wp2_with (first | (go_at_call 30; refine (H1.out _).mono ?_; rintro e w' ⟨rfl, rfl⟩))
    refine bodyPost_ret (v := .tuple #[.agg #[.int .i64 0, .int .i64 0, .int .i64 0, .slice none 0 0], .int .i64 2]) (by simp [results, go_sem]) rfl ⟨rfl, ?_⟩
    exact ((Below.refl _ _).alloc (Nat.le_refl _) _).alloc (by simp) _
end Go.Proofs.YtkppnbehkmpogaaDoor
