/- path.Split, Clean, Right. (A template.) -/
import Derived.Test.YteimbdbnipfmkaaPaJoin
namespace Go.Proofs.Yteimbdbnipfmkaa.Pa
open Go.RowKit Go.Shelf Go.Proofs.RangeStr
set_option linter.unusedVariables false
set_option linter.unusedSimpArgs false
attribute [local go_sem] Oper.semAt_some

/-- between two rounds: k parts have come -/
def SJ (w : World) (l : L8) (N k : Nat) (W : World) : Prop :=
  W.heap[w.heap.size + 1]? = some (.cells #[.slice (some ⟨w.heap.size, 0, none⟩) k N] 24) ∧
  W.ownsRow w.heap.size 9 1 (.slice (some ⟨w.heap.size, 0, none⟩) k N) k (strs ((parts l).take k)) ∧
  W.heap[w.heap.size + 2]? = some (.cells #[.string (mk l)] 9) ∧ Below w.heap.size w W
theorem SJ.keep {w W W' : World} {l : L8} {N k : Nat} (h : SJ w l N k W) (hk : KeepCD W W') (hb : Below w.heap.size W W') : SJ w l N k W' := by
  obtain ⟨h1, h2, h3, h4⟩ := h
  exact ⟨hk.cells h1, hk.row h2, hk.cells h3, h4.trans hb⟩

set_option maxRecDepth 1000000 in
set_option maxHeartbeats 4000000 in
theorem split_any (l : L8) (w : World) (hl : l.length ≤ 4398046511104) :
    Calls Try.prog 13 #[.string (mk l)] w fun e w' => ∃ v, e = .returned v ∧ SOwn w' w.heap.size v (parts l) ∧ Below w.heap.size w w' := by
  obtain ⟨N, hN⟩ : ∃ N, N = depth l := ⟨_, rfl⟩
  have hNb : N ≤ 4398046511105 := by
    rw [hN, depth_eq]
    have : l.count 47 ≤ l.length := List.count_le_length
    split <;> omega
  have HD := Lib.hid (fun W => depth_any l W (by omega))
  rw [← hN] at HD
  have hNl : N = (parts l).length := hN
  obtain ⟨i0, hi0, hz0, hz1, hzz⟩ := info_parts Try.infoStr
  have hmk := run_make (P := Try.prog) w 24 9 i0 (.string ⟨#[]⟩) Try.underlying24 hi0 hz0 .i64 .i64 0 N (by omega) (by omega) (by rw [hzz]; omega) (by omega)
  rw [hz1] at hmk
  simp only [Int.toNat_natCast, Int.toNat_zero] at hmk
  have hOw : (w.alloc (.cells (madeCells (Value.string ⟨#[]⟩).cells (N * 1)) 9)).ownsRow w.heap.size 9 1 (.slice (some ⟨w.heap.size, 0, none⟩) 0 N) 0 [] := by
    have := World.ownsRow_made (base := w.heap.size) (e := 9) (size := 1) w (madeCells (Value.string ⟨#[]⟩).cells (N * 1)) N (Nat.le_refl _) (by unfold maxLen; omega) (by rw [size_madeCells])
    exact this
  have hb1 : Below w.heap.size w (w.alloc (.cells (madeCells (Value.string ⟨#[]⟩).cells (N * 1)) 9)) := (Below.refl _ _).alloc (Nat.le_refl _) _
  obtain ⟨w1, hw1⟩ : ∃ w1, w1 = w.alloc (.cells (madeCells (Value.string ⟨#[]⟩).cells (N * 1)) 9) := ⟨_, rfl⟩
  have hsz1 : w1.heap.size = w.heap.size + 1 := by rw [hw1]; simp
  rw [← hw1] at hmk hOw hb1
  obtain ⟨w2, hw2⟩ : ∃ w2, w2 = w1.alloc (.cells #[.slice (some ⟨w.heap.size, 0, none⟩) 0 N] 24) := ⟨_, rfl⟩
  have hb2 : Below w1.heap.size w1 w2 := by rw [hw2]; exact (Below.refl _ _).alloc (Nat.le_refl _) _
  have hsz2 : w2.heap.size = w.heap.size + 2 := by rw [hw2]; simp; omega
  have hbw2 : Below w.heap.size w w2 := hb1.trans (hb2.mono hb1.size)
  have hob : w2.heap[w.heap.size + 1]? = some (.cells #[.slice (some ⟨w.heap.size, 0, none⟩) 0 N] 24) := by rw [hw2, ← hsz1]; exact heap_new _ _
  have hO2 := (KeepCD.below hb2).row hOw
  obtain ⟨w3, hw3⟩ : ∃ w3, w3 = w2.alloc (.cells #[.string (mk l)] 9) := ⟨_, rfl⟩
  have hb3 : Below w2.heap.size w2 w3 := by rw [hw3]; exact (Below.refl _ _).alloc (Nat.le_refl _) _
  have htb : w3.heap[w.heap.size + 2]? = some (.cells #[.string (mk l)] 9) := by rw [hw3, ← hsz2]; exact heap_new _ _
  have hs3 : w.heap.size + 3 ≤ w3.heap.size ∧ w3.heap.size ≤ w.heap.size + 3 := by rw [hw3]; simp; omega
  have HJ3 : Hid (SJ w l N 0 w3) := by
    refine ⟨(KeepCD.below hb3).cells hob, (KeepCD.below hb3).row hO2, htb, hbw2.trans (hb3.mono (by omega))⟩
  have HEA : Hid (Calls Try.prog 38 #[.string (mk l)] w2 fun e w' => e = .returned (.func (.func 52) #[] #[.pointer (some ⟨w.heap.size + 2, 0, none⟩)]) ∧ w3 = w') := by
    have h := each_any l w2
    rw [hsz2, ← hw3] at h
    exact h.mono (fun e w' ⟨a, b⟩ => ⟨a, b.symm⟩)
  have HW2 := Lib.hid hw2
  have HNL := Lib.hid hNl
  have HW1 := Lib.hid hw1
  have hzn : (0 : Int) ≤ (N : Int) := by omega
  clear hN hNl hOw hb1 hw2 hb2 hsz2 hbw2 hob hO2 hw3 hb3 htb hw1
  refine callsIn_wide (n := 5).1 ?_
  refine callsIn_of_wp_marks Try.func13 rfl trivial ?_ rfl
  simp only [Try.ntmps13, List.size_toArray, List.length_cons, List.length_nil, Nat.reduceAdd, Nat.reduceSub, Array.replicate_succ, Array.replicate_zero, List.push_toArray, List.append_toArray, List.nil_append, List.cons_append]
  gi_wp2_with (refine ⟨trivial, ?_⟩; gi_at_call 19; refine (callsIn_wide.2 (HD.out _)).mono ?_; rintro e w' ⟨rfl, rfl⟩)
  rw [← HW2.out]
  refine ⟨trivial, ?_⟩
  refine (callsIn_wide.2 HEA.out).mono ?_
  rintro e w' ⟨rfl, rfl⟩
  clear HEA
  gi_wp2
  have hJ0 : ∀ r, SJ w l N 0 ((w3.alloc (.deferred (some []))).alloc (.loop r)) := by
    intro r
    have hbb : Below w3.heap.size w3 ((w3.alloc (.deferred (some []))).alloc (.loop r)) := ((Below.refl _ _).alloc (Nat.le_refl _) _).alloc (by simp) _
    exact HJ3.out.keep (KeepCD.below hbb) (hbb.mono (by omega))
  refine range_seen (gf := 52) (lb := #[.pointer (some ⟨w.heap.size + 2, 0, none⟩)]) rfl (enters_of Try.func52 (by kernel_rfl) rfl)
    (each1_hands 4 (w.heap.size + 2) l w3 (by omega)) (Below.refl _ _) w.heap.size (by omega) (SJ w l N) (fun _ _ _ => False)
    ?hX ?hXp ?hJp ?hJxp ?hJs ?hT hJ0
    (fun k vs => { tmps := #[.string (mk l), undef, .slice none 0 0, .pointer (some ⟨w.heap.size + 1, 0, none⟩), vs.getD 0 undef, .string (mk l), .int .i64 (N : Nat), .slice (some ⟨w.heap.size, 0, none⟩) 0 N, .string (mk l), .func (.func 52) #[] #[.pointer (some ⟨w.heap.size + 2, 0, none⟩)], vs.getD 0 undef, undef, undef, undef, undef, undef], defers := [] })
    ?assign ?body ?done ?stop
  case hX => rintro k vs W hv; unfold Piece at hv; subst hv; rfl
  case hXp => rintro k vs W o hv hr; exact hv
  case hJp =>
    rintro k W o h hr
    exact h.keep (KeepCD.rec (.loop o) hr) (below_put _ (by omega))
  case hJxp => intro c k W o h _; exact h
  case hJs =>
    rintro k W W' h hs hb
    exact h.keep (KeepCD.still hs) hb
  case hT =>
    rintro k W h
    exact cell1 h.2.2.1
  case assign =>
    rintro l' k vs W K hv hK
    unfold Piece at hv
    subst hv
    gi_wp2
    exact hK
  case body =>
    rintro k vs W hkN ⟨hob, hrow, htb, hbel⟩ hv hlt hrec hdf
    unfold Piece at hv
    obtain ⟨p, hp⟩ : ∃ p, (parts l)[k]? = some p := ⟨_, List.getElem?_eq_getElem hkN⟩
    rw [List.getD_eq_getElem?_getD, hp] at hv
    simp only [Option.getD_some] at hv
    subst hv
    have HTK := Lib.hid (take_part hp)
    have hkN2 : k < N := by have := HNL.out; omega
    have HREC := Lib.hid hrec
    have HDF := Lib.hid hdf
    have HTB := Lib.hid htb
    have HBEL := Lib.hid hbel
    have hc0 := cell1 hob
    have HROW := Lib.hid (World.ownsRow.alloc hrow (.cells #[.string (mk p)] 9))
    have HOB' := Lib.hid hob
    have hoblt := heap_lt hob
    have htblt := heap_lt htb
    obtain ⟨g', cp', cur, hg1, -, hg2, -⟩ : ∃ g cap cur, (Value.slice (some ⟨w.heap.size, 0, none⟩) k N) = .slice (some ⟨g, 0, none⟩) k cap ∧ w.heap.size ≤ g ∧ W.heap[g]? = some (.cells cur 9 (0, 0)) ∧ True := by
      rcases hrow.2 with ⟨e, _⟩ | ⟨g, cap, cur, e, h1, h2, _⟩
      · cases e
      · exact ⟨g, cap, cur, e, h1, h2, trivial⟩
    simp only [Value.slice.injEq, Option.some.injEq, Addr.mk.injEq] at hg1
    obtain ⟨⟨hg1, -, -⟩, -, -⟩ := hg1
    subst hg1
    have HGC := Lib.hid hg2
    clear hob hrow hrec hdf htb hbel hp hg2
    gi_wp2_with (gi_at_builtin; go_must (refine wpListIn_append_fits _ rfl (.tmp 11) (.tmp 13) 24 rfl w.heap.size 9 i0 1 Try.underlying24 hi0 hz1 w.heap.size k N (strs ((parts l).take k)) rfl HROW.out ⟨W.heap.size, 0, none⟩ 1 1 [.string (mk p)] rfl rfl (cell_one_new _ _ _) (by simp [Value.oneCell']) (by omega) ?_))
    intro w5 hrow5 hg5
    have hba : Below W.heap.size W (W.alloc (.cells #[.string (mk p)] 9)) := (Below.refl _ _).alloc (Nat.le_refl _) _
    have hblk5 : ∀ b, b < W.heap.size → b ≠ w.heap.size → w5.heap[b]? = W.heap[b]? := by
      intro b hb hne
      rw [hg5.block b (by simp; omega) (by intro e; injection e; omega), hba.block _ hb]
    have hob5 : w5.heap[w.heap.size + 1]? = some (.cells #[.slice (some ⟨w.heap.size, 0, none⟩) k N] 24) := by rw [hblk5 _ hoblt (by omega)]; exact HOB'.out
    have hc5 := cell1 hob5
    have hf5 : w5.frozen? ⟨w.heap.size + 1, 0, none⟩ = false := unfrozen hob5
    have HBLK5 := Lib.hid hblk5
    have HOB5 := Lib.hid hob5
    have HROW5 := Lib.hid hrow5
    have HG5 := Lib.hid hg5
    have HBA := Lib.hid hba
    clear hrow5 hg5 hblk5 hob5 HROW hba
    gi_wp2
    have yn5 : NonCells W w5 := fun b o hb ho => by
      rw [HBLK5.out b (heap_lt hb) (by intro e; subst e; rw [HGC.out] at hb; cases hb; simp [Obj.isCells] at ho)]; exact hb
    have yn6 : NonCells W (w5.setCell ⟨w.heap.size + 1, 0, none⟩ (.slice (some ⟨w.heap.size, 0, none⟩) (k + 1) N)) := yn5.trans (NonCells.set HOB5.out _)
    refine ⟨⟨yn6.same HREC.out, yn6.same' HDF.out⟩, ⟨?_, ?_, ?_, ?_⟩, yn6.iters⟩
    · rw [Joins.block_setCell HOB5.out _]; rfl
    · rw [HTK.out, strs_app]
      obtain ⟨z1, z2⟩ := HROW5.out
      refine ⟨z1, ?_⟩
      rcases z2 with ⟨z3, _⟩ | ⟨g, cp, cu, z3, z4, z5, z6⟩
      · cases z3
      · simp only [Value.slice.injEq, Option.some.injEq, Addr.mk.injEq] at z3
        obtain ⟨⟨rfl, -, -⟩, -, rfl⟩ := z3
        refine .inr ⟨w.heap.size, N, cu, rfl, Nat.le_refl _, ?_, z6⟩
        rw [Below.heap_setCell _ _ _ _ (by show w.heap.size ≠ w.heap.size + 1; omega)]
        exact z5
    · rw [Below.heap_setCell _ _ _ _ (by show w.heap.size + 2 ≠ w.heap.size + 1; omega), HBLK5.out _ htblt (by omega)]; exact HTB.out
    · refine Below.setCell ?_ (by show w.heap.size ≤ w.heap.size + 1; omega) _
      exact Below.grown (w := W.alloc (.cells #[.string (mk p)] 9)) (HBEL.out.trans (HBA.out.mono (by omega))) HG5.out (by simp; omega) (fun g hg => by injection hg with hg; omega)
  case done =>
    rintro W ⟨hob, hrow, htb, hbel⟩ hD hlt
    rw [← HNL.out] at hob hrow
    have hc0 := cell1 hob
    have hpl := List.take_of_length_le (Nat.le_refl (parts l).length)
    rw [HNL.out, hpl, ← HNL.out] at hrow
    gi_wp2
    refine ⟨by simp, .inl ⟨_, _, rfl, run_takeDeferred hD, ?_⟩⟩
    refine ⟨_, results_tmp rfl _ _ _, _, rfl, ?_, hbel.trans (below_put _ (by omega))⟩
    obtain ⟨z1, z2⟩ := hrow
    show World.ownsRow _ _ _ _ _ (parts l).length _
    rw [← HNL.out]
    refine ⟨z1, ?_⟩
    rcases z2 with ⟨z3, _⟩ | ⟨g, cp, cu, z3, z4, z5, z6⟩
    · cases z3
    · refine .inr ⟨g, cp, cu, z3, z4, ?_, z6⟩
      have hne : g ≠ w3.heap.size := by intro e; subst e; rw [hD] at z5; cases z5
      rw [World.putObj_heap_other hne]; exact z5
  case stop => intro c k W _ h; exact h.elim
end Go.Proofs.Yteimbdbnipfmkaa.Pa
