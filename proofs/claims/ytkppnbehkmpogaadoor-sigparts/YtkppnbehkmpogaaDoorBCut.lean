/- blocks.Cut: the blocks of a text. -/
import Derived.Test.YtkppnbehkmpogaaDoorBEach2
namespace Go.Proofs.YtkppnbehkmpogaaDoor
open Go.RowKit Go.Shelf Go.Proofs.BlkMath Go.Proofs.RangeLaw
set_option linter.unusedVariables false
attribute [local go_sem] Oper.semAt_some

/-- blocks that a call made: a row of slices, each of its own bytes -/
def Made (w : World) (n0 : Nat) (v : Value) (ps : List (List Int)) : Prop :=
  ∃ vs : List Value, vs.length = ps.length ∧ w.ownsRow n0 22 1 v ps.length vs ∧ ∀ j, j < ps.length → Own w (n0 + 2) (vs.getD j undef) (ps.getD j [])
def pieces (L : List Int) (blk N : Nat) : List (List Int) := (List.range N).map (piece L blk)

theorem Tryd.infoS : (Tryd.prog.info? 22).map (fun i => (i.zero, i.size, i.bytes)) = some (some (.slice none 0 0), 1, 24) := by kernel_rfl

/-- two blocks may differ, and new ones may be there -/
def But2 (n0 : Nat) (W W' : World) : Prop := W'.os = W.os ∧ W'.tape = W.tape ∧ W'.output = W.output ∧ W.heap.size ≤ W'.heap.size ∧ ∀ b, b < W.heap.size → b ≠ n0 → b ≠ n0 + 1 → W'.heap[b]? = W.heap[b]?
theorem But2.own {n0 : Nat} {W W' : World} (h : But2 n0 W W') {v : Value} {l : List Int} (ho : Own W (n0 + 2) v l) : Own W' (n0 + 2) v l := by
  obtain ⟨h1, h2⟩ := ho
  refine ⟨h1, ?_⟩
  rcases h2 with h2 | ⟨g, cap, cur, h3, h4, h5, h6⟩
  · exact .inl h2
  · exact .inr ⟨g, cap, cur, h3, h4, by rw [h.2.2.2.2 g (heap_lt h5) (by omega) (by omega)]; exact h5, h6⟩
theorem But2.held {n0 tb bb : Nat} {L : List Int} {blk : Int} {W W' : World} (h : But2 n0 W W') (k : Held (n0 + 2) tb bb L blk W) : Held (n0 + 2) tb bb L blk W' := by
  obtain ⟨vt, h1, h2, h3, h4, h5, h6⟩ := k
  exact ⟨vt, by rw [h.2.2.2.2 tb (heap_lt h1) (by omega) (by omega)]; exact h1, by rw [h.2.2.2.2 bb (heap_lt h2) (by omega) (by omega)]; exact h2, h.own h3, h4, h5, Nat.le_trans h6 h.2.2.2.1⟩
theorem But2.below {n0 : Nat} {W W' : World} (h : But2 n0 W W') (hn : n0 ≤ W.heap.size) : Below n0 W W' := ⟨h.1, h.2.1, h.2.2.1, h.2.2.2.1, fun k hk => h.2.2.2.2 k (by omega) (by omega) (by omega)⟩

/-- between two rounds: k blocks have come -/
def CutJ (w : World) (l : List Int) (blk N tb k : Nat) (W : World) : Prop :=
  k ≤ N ∧ ∃ vs : List Value, vs.length = k ∧ (∀ j, j < k → Own W (w.heap.size + 2) (vs.getD j undef) (piece l blk j)) ∧
    W.heap[w.heap.size + 1]? = some (.cells #[.slice (some ⟨w.heap.size, 0, none⟩) k N] 40) ∧ W.ownsRow w.heap.size 22 1 (.slice (some ⟨w.heap.size, 0, none⟩) k N) k vs ∧
    Held (w.heap.size + 2) tb (w.heap.size + 2) l blk W ∧ Below w.heap.size w W
theorem CutJ.keep {w W W' : World} {l : List Int} {blk N tb k : Nat} (h : CutJ w l blk N tb k W) (hk : KeepC W W') (hb : Below w.heap.size W W') : CutJ w l blk N tb k W' := by
  obtain ⟨h0, vs, h1, h2, h3, h4, h5, h6⟩ := h
  exact ⟨h0, vs, h1, fun j hj => hk.own (h2 j hj), hk.2 _ _ _ _ h3, hk.row h4, h5.keep hk, h6.trans hb⟩
theorem below_put {W : World} {n l : Nat} (o : Obj) (h : n ≤ l) : Below n W (W.putObj l o) := ⟨rfl, rfl, rfl, by simp [World.putObj], fun k hk => World.putObj_heap_other (by omega)⟩

set_option maxRecDepth 1000000 in
set_option maxHeartbeats 4000000 in
theorem cut_yes (u : Value) (l : List Int) (blk : Nat) (w : World) (hS : Sl w u l) (ho : Oct l) (hR : Rt l.length blk) :
    Calls Tryd.prog 25 #[u, .int .i64 blk] w fun e w' => ∃ v, e = .returned (.tuple #[v, .int .i64 0]) ∧ Made w' w.heap.size v (pieces l blk (cnt l.length blk).toNat) ∧ Below w.heap.size w w' := by
  obtain ⟨a, cap, hu, hB, hnil, hcap⟩ := id hS
  obtain ⟨len, hlen⟩ : ∃ len, len = l.length := ⟨_, rfl⟩
  have hlb : l.length ≤ 131072 := by unfold Rt at hR; omega
  have hrf : refB l.length blk = 0 := by unfold refB; rw [if_pos hR.2, if_pos hR.1.2]
  have HRF : Hid (∀ W, Calls Tryd.prog 56 #[u, .int .i64 blk] W fun e w' => e = .returned (.int .i64 0) ∧ W = w') := by
    intro W; rw [hu]; have h := refused_any a l.length cap blk W (by omega); rw [hrf] at h; exact h
  have hcs := cnt_spec hR
  obtain ⟨N, hN⟩ : ∃ N : Nat, (N : Int) = cnt l.length blk := ⟨(cnt l.length blk).toNat, by omega⟩
  have hNt : (cnt l.length blk).toNat = N := by omega
  have hNb : N ≤ 131072 := by omega
  have hcn : cntB l.length blk = (N : Int) := by unfold cntB; rw [if_pos hR, hN]
  have HCN : Hid (∀ W, Calls Tryd.prog 45 #[.int .i64 len, .int .i64 blk] W fun e w' => e = .returned (.int .i64 N) ∧ W = w') := by
    intro W; have h := count_any l.length blk W; rw [hcn, ← hlen] at h; exact h
  obtain ⟨i0, hi0, hz0, hz1, hzz⟩ := info_parts Tryd.infoS
  have hmk := run_make (P := Tryd.prog) w 40 22 i0 (.slice none 0 0) Tryd.underlying40 hi0 hz0 .i64 .i64 0 N (by omega) (by omega) (by rw [hzz]; omega) (by omega)
  rw [hz1] at hmk
  simp only [Int.toNat_natCast, Int.toNat_zero] at hmk
  have hOw : (w.alloc (.cells (madeCells (Value.slice none 0 0).cells (N * 1)) 22)).ownsRow w.heap.size 22 1 (.slice (some ⟨w.heap.size, 0, none⟩) 0 N) 0 [] := by
    have := World.ownsRow_made (base := w.heap.size) (e := 22) (size := 1) w (madeCells (Value.slice none 0 0).cells (N * 1)) N (Nat.le_refl _) (by unfold maxLen; omega) (by rw [size_madeCells])
    exact this
  have hb1 : Below w.heap.size w (w.alloc (.cells (madeCells (Value.slice none 0 0).cells (N * 1)) 22)) := (Below.refl _ _).alloc (Nat.le_refl _) _
  have hsz1 : (w.alloc (.cells (madeCells (Value.slice none 0 0).cells (N * 1)) 22)).heap.size = w.heap.size + 1 := by simp
  obtain ⟨w1, hw1⟩ : ∃ w1, w1 = w.alloc (.cells (madeCells (Value.slice none 0 0).cells (N * 1)) 22) := ⟨_, rfl⟩
  rw [← hw1] at hmk hOw hb1 hsz1
  obtain ⟨w2, hw2⟩ : ∃ w2, w2 = w1.alloc (.cells #[.slice (some ⟨w.heap.size, 0, none⟩) 0 N] 40) := ⟨_, rfl⟩
  have hb2 : Below w1.heap.size w1 w2 := by rw [hw2]; exact (Below.refl _ _).alloc (Nat.le_refl _) _
  have hsz2 : w2.heap.size = w.heap.size + 2 := by rw [hw2]; simp; omega
  have hbw2 : Below w.heap.size w w2 := hb1.trans (hb2.mono hb1.size)
  have hob : w2.heap[w.heap.size + 1]? = some (.cells #[.slice (some ⟨w.heap.size, 0, none⟩) 0 N] 40) := by rw [hw2, ← hsz1]; exact heap_new _ _
  have hO2 := (KeepC.of_below hb2).row hOw
  have hEA := each_yes u l blk w2 (hS.later hbw2) hR
  rw [hsz2] at hEA
  have HW2 := Lib.hid hw2
  have HEA := Lib.hid hEA
  have HOB := Lib.hid hob
  have HO2 := Lib.hid hO2
  have HBW2 := Lib.hid hbw2
  have HR := Lib.hid hR
  have HLO := Lib.hid ho
  have HNT := Lib.hid hNt
  have HNN := Lib.hid hN
  have HLEN := Lib.hid hlen
  rw [hNt]
  rw [← hlen] at hu
  have HRF' : Hid (∀ W, Calls Tryd.prog 56 #[.slice a len cap, .int .i64 blk] W fun e w' => e = .returned (.int .i64 0) ∧ W = w') := by rw [← hu]; exact HRF
  clear HRF
  clear hS hB hnil hcap hrf hcs hcn hOw hb1 hb2 hbw2 hob hO2 hEA hlb hN hNt hlen hw1 hw2
  refine callsIn_wide (n := 5).1 ?_
  refine callsIn_of_wp_marks Tryd.func25 rfl trivial ?_ rfl
  simp only [Tryd.ntmps25, List.size_toArray, List.length_cons, List.length_nil, Nat.reduceAdd, Nat.reduceSub, Array.replicate_succ, Array.replicate_zero, List.push_toArray, List.append_toArray, List.nil_append, List.cons_append]
  subst hu
  gi_wp2_with (first
    | (refine ⟨trivial, ?_⟩; gi_at_call 56; refine (callsIn_wide.2 (HRF'.out _)).mono ?_; rintro e w' ⟨rfl, rfl⟩)
    | (refine ⟨trivial, ?_⟩; gi_at_call 45; refine (callsIn_wide.2 (HCN.out _)).mono ?_; rintro e w' ⟨rfl, rfl⟩))
  rw [← HW2.out]
  refine ⟨trivial, ?_⟩
  refine (callsIn_wide.2 HEA.out).mono ?_
  rintro e w3 ⟨tb, rfl, hH3, hb3⟩
  have HH3 := Lib.hid hH3
  have hb3' : Below w2.heap.size w2 w3 := by rw [hsz2]; exact hb3
  have HB3 := Lib.hid hb3'
  clear hH3 hb3 hb3' HEA
  gi_wp2
  obtain ⟨n0, hn0⟩ : ∃ n0, n0 = w.heap.size := ⟨_, rfl⟩
  have hJ0 : ∀ r, CutJ w l blk N tb 0 ((w3.alloc (.deferred (some []))).alloc (.loop r)) := by
    intro r
    have hbb : Below w3.heap.size w3 ((w3.alloc (.deferred (some []))).alloc (.loop r)) := ((Below.refl _ _).alloc (Nat.le_refl _) _).alloc (by simp) _
    have h3 : CutJ w l blk N tb 0 w3 := by
      refine ⟨Nat.zero_le _, [], rfl, (fun j hj => by omega), ?_, (KeepC.of_below HB3.out).row HO2.out, HH3.out, HBW2.out.trans (HB3.out.mono HBW2.out.size)⟩
      exact (KeepC.of_below HB3.out).2 _ _ _ _ HOB.out
    exact h3.keep (KeepC.of_below hbb) (hbb.mono (HBW2.out.trans (HB3.out.mono HBW2.out.size)).size)
  have hw3 : w.heap.size + 2 ≤ w3.heap.size := by have := HB3.out.size; omega
  refine range_seen (gf := 63) (lb := #[.pointer (some ⟨tb, 0, none⟩), .pointer (some ⟨w.heap.size + 2, 0, none⟩)]) rfl (enters_of Tryd.func63 (by kernel_rfl) rfl)
    (each2_hands 4 (w.heap.size + 2) tb (w.heap.size + 2) blk l w3 HR.out) (Below.refl _ _) (CutJ w l blk N tb) (fun _ _ _ => False)
    ?hX ?hXp ?hJp ?hJxp ?hJb ?hT hJ0
    (fun k vs => { tmps := #[.slice a len cap, .int .i64 blk, undef, undef, .slice none 0 0, .int .i64 0, .int .i64 0, .pointer (some ⟨w.heap.size + 1, 0, none⟩), undef, vs.getD 1 undef, .slice a len cap, .int .i64 blk, .int .i64 0, .int .i64 0, .bool false, undef, .slice a len cap, .int .i64 len, .int .i64 blk, .int .i64 N, .slice (some ⟨w.heap.size, 0, none⟩) 0 N, .slice a len cap, .int .i64 blk, .func (.func 63) #[] #[.pointer (some ⟨tb, 0, none⟩), .pointer (some ⟨w.heap.size + 2, 0, none⟩)], vs.getD 0 undef, vs.getD 1 undef, undef, undef, undef, undef, undef], defers := [] })
    ?assign ?body ?done ?stop
  case hX => rintro k vs W ⟨v, rfl, _⟩; rfl
  case hXp =>
    rintro k vs W o ⟨v, rfl, hv⟩ hr
    exact ⟨v, rfl, (KeepC.rec o hr).own hv⟩
  case hJp =>
    intro k W o h hr
    exact h.keep (KeepC.rec o hr) (below_put _ (by omega))
  case hJxp => intro c k W o h _; exact h
  case hJb =>
    intro k W W' h hb
    have hsz := h.2.choose_spec.2.2.2.2.2.size
    exact h.keep (KeepC.of_below hb) (hb.mono hsz)
  case hT =>
    intro k W h
    exact (h.2.choose_spec.2.2.2.2.1).text HLO.out
  case assign =>
    rintro l' k vs W K ⟨v, rfl, _⟩ hK
    gi_wp2
    exact hK
  case body =>
    rw [HNT.out]
    rintro k vs' W hk ⟨hkN, vs, hvl, hvs, hob, hrow, hheld, hbel⟩ ⟨v, rfl, hv⟩ hlt
    obtain ⟨av, cv, ev⟩ := own_form hv
    obtain ⟨pl, hpl⟩ : ∃ pl, pl = (piece l blk k).length := ⟨_, rfl⟩
    rw [← hpl] at ev
    have hone : v.oneCell' = true := by rw [ev]; rfl
    subst ev
    have HPL := Lib.hid hpl
    clear hpl
    have hc := (cell_of_row W (w.heap.size + 1) 0 _ _ (0, 0) hob)
    have hc0 : W.cell? ⟨w.heap.size + 1, 0, none⟩ = some (.slice (some ⟨w.heap.size, 0, none⟩) k N) := by rw [hc]; rfl
    have HROW := Lib.hid (World.ownsRow.alloc hrow (.cells #[.slice av pl cv] 22))
    have HOB' := Lib.hid hob
    have hoblt := heap_lt hob
    clear hc hob hrow
    gi_wp2_with (gi_at_builtin; go_must (refine wpListIn_append_fits _ rfl (.tmp 26) (.tmp 28) 40 rfl w.heap.size 22 i0 1 Tryd.underlying40 hi0 hz1 w.heap.size k N vs rfl HROW.out ⟨W.heap.size, 0, none⟩ 1 1 [.slice av pl cv] rfl rfl (cell_one_new _ _ _) (by simpa using hone) (by omega) ?_))
    intro w5 hrow5 hg5
    have hsz5 := hg5.size
    have hblk5 : ∀ b, b < W.heap.size → b ≠ w.heap.size → w5.heap[b]? = W.heap[b]? := by
      intro b hb hne
      rw [hg5.block b (by simp; omega) (by intro e; injection e; omega), Below.heap_alloc _ _ _ hb]
    have hob5 : w5.heap[w.heap.size + 1]? = some (.cells #[.slice (some ⟨w.heap.size, 0, none⟩) k N] 40) := by rw [hblk5 _ hoblt (by omega)]; exact HOB'.out
    have hc5 : w5.cell? ⟨w.heap.size + 1, 0, none⟩ = some (.slice (some ⟨w.heap.size, 0, none⟩) k N) := by rw [cell_of_row w5 _ 0 _ _ (0, 0) hob5]; rfl
    have hf5 : w5.frozen? ⟨w.heap.size + 1, 0, none⟩ = false := unfrozen hob5
    have HBLK5 := Lib.hid hblk5
    have HOB5 := Lib.hid hob5
    have HROW5 := Lib.hid hrow5
    have HG5 := Lib.hid hg5
    have hsz5' : W.heap.size ≤ w5.heap.size := by simp at hsz5; omega
    clear hrow5 hg5 hblk5 hob5 hsz5 HROW
    gi_wp2
    have hbut : But2 w.heap.size W (w5.setCell ⟨w.heap.size + 1, 0, none⟩ (.slice (some ⟨w.heap.size, 0, none⟩) (k + 1) N)) := by
      refine ⟨HG5.out.os, HG5.out.tape, HG5.out.output, by simpa [World.setCell] using hsz5', fun b hb h1 h2 => ?_⟩
      rw [Below.heap_setCell _ _ _ _ h2, HBLK5.out b hb h1]
    have hwle := hbel.size
    refine ⟨⟨hbut.2.2.2.2 _ hlt (by omega) (by omega), hbut.2.2.2.2 _ (by omega) (by omega) (by omega)⟩, by omega, vs ++ [.slice av pl cv], by simp [hvl], ?_, ?_, ?_, hbut.held hheld, hbel.trans (hbut.below hwle)⟩
    · intro j hj
      by_cases hjk : j < k
      · rw [List.getD_eq_getElem?_getD, List.getElem?_append_left (by omega), ← List.getD_eq_getElem?_getD]
        exact hbut.own (hvs j hjk)
      · have ej : j = k := by omega
        subst ej
        rw [List.getD_eq_getElem?_getD, List.getElem?_append_right (by omega), hvl, Nat.sub_self]
        exact hbut.own hv
    · rw [Joins.block_setCell HOB5.out _]; rfl
    · obtain ⟨q1, q2⟩ := HROW5.out
      refine ⟨by simp [hvl], ?_⟩
      rcases q2 with ⟨q3, _⟩ | ⟨g, cp, cur, q3, q4, q5, q6⟩
      · cases q3
      · simp only [Value.slice.injEq, Option.some.injEq, Addr.mk.injEq] at q3
        obtain ⟨⟨rfl, -, -⟩, -, rfl⟩ := q3
        refine .inr ⟨w.heap.size, N, cur, rfl, Nat.le_refl _, ?_, q6⟩
        rw [Below.heap_setCell _ _ _ _ (by show w.heap.size ≠ w.heap.size + 1; omega)]
        exact q5
  case done =>
    rw [HNT.out]
    rintro W ⟨hkN, vs, hvl, hvs, hob, hrow, hheld, hbel⟩ hD hlt
    have hc0 : W.cell? ⟨w.heap.size + 1, 0, none⟩ = some (.slice (some ⟨w.heap.size, 0, none⟩) N N) := by rw [cell_of_row W _ 0 _ _ (0, 0) hob]; rfl
    gi_wp2
    refine ⟨by simp, .inl ⟨_, _, rfl, run_takeDeferred hD, ?_⟩⟩
    have hk := KeepC.put (.deferred none) hD rfl
    have hpn : (pieces l blk N).length = N := by simp [pieces]
    refine ⟨_, results_tmp2 rfl _ _ _, _, rfl, ⟨vs, by rw [hpn, hvl], ?_, fun j hj => ?_⟩, hbel.trans (below_put _ (by omega))⟩
    · rw [hpn]; exact hk.row hrow
    · rw [hpn] at hj
      have e : (pieces l blk N).getD j [] = piece l blk j := by
        rw [List.getD_eq_getElem?_getD, pieces, List.getElem?_map, List.getElem?_range hj]; rfl
      rw [e]
      exact hk.own (hvs j hj)
  case stop => intro c k W _ h; exact h.elim
end Go.Proofs.YtkppnbehkmpogaaDoor
