/- A window of roll: Push, and what it does to memory. -/
import Derived.Test.YtbkdimdnpekgpabWin
import Derived.Lib.SmallJoins
import Derived.Deep.DeepCutAuto
import Derived.Deep.RegionWith
import Derived.Test.YtbkdimdnpekgpabCopyW
namespace Go.Proofs.Ytbkdimdnpekgpab
open Go.RowKit Go.Proofs.RollMath Go.Proofs.CopyW
set_option linter.unusedVariables false

/-- only the window's block, its room and new blocks may differ -/
def Fr (W w' : World) (g : Nat) (v v' : Value) : Prop :=
  Below g W w' ∧ (∀ k, k < W.heap.size → k ≠ g → some k ≠ v.ownBlock → w'.heap[k]? = W.heap[k]?) ∧ (v'.ownBlock = v.ownBlock ∨ ∀ k, v'.ownBlock = some k → W.heap.size ≤ k)
theorem Fr.trans {a b c : World} {g : Nat} {x y z : Value} (h : Fr a b g x y) (k : Fr b c g y z) : Fr a c g x z := by
  obtain ⟨h1, h2, h3⟩ := h
  obtain ⟨k1, k2, k3⟩ := k
  refine ⟨h1.trans k1, fun i hi hg hv => ?_, ?_⟩
  · rw [k2 i (Nat.lt_of_lt_of_le hi h1.size) hg ?_, h2 i hi hg hv]
    intro e
    rcases h3 with h3 | h3
    · rw [h3] at e; exact hv e
    · have := h3 i e.symm; omega
  · rcases k3 with k3 | k3
    · rcases h3 with h3 | h3
      · exact .inl (k3.trans h3)
      · exact .inr (fun i hi => h3 i (k3 ▸ hi))
    · exact .inr (fun i hi => Nat.le_trans h1.size (k3 i hi))
theorem Fr.quiet {W w' : World} {g : Nat} {v : Value} (h : Qt W w') (hg : g ≤ W.heap.size) : Fr W w' g v v :=
  ⟨h.1.mono hg, fun k _ _ _ => by rw [h.2], .inl rfl⟩

theorem heap4_set1 {W : World} {g : Nat} {a b c d u : Value} {t : TypeId} (h : W.heap[g]? = some (.cells #[a, b, c, d] t)) : (W.setCell ⟨g, 1, none⟩ u).heap[g]? = some (.cells #[a, u, c, d] t) := by
  simpa using Joins.block_setCell (i := 1) h u
theorem heap4_set2 {W : World} {g : Nat} {a b c d u : Value} {t : TypeId} (h : W.heap[g]? = some (.cells #[a, b, c, d] t)) : (W.setCell ⟨g, 2, none⟩ u).heap[g]? = some (.cells #[a, b, u, d] t) := by
  simpa using Joins.block_setCell (i := 2) h u
theorem heap4_set3 {W : World} {g : Nat} {a b c d u : Value} {t : TypeId} (h : W.heap[g]? = some (.cells #[a, b, c, d] t)) : (W.setCell ⟨g, 3, none⟩ u).heap[g]? = some (.cells #[a, b, c, u] t) := by
  simpa using Joins.block_setCell (i := 3) h u
theorem heap_lt {W : World} {g : Nat} {o : Obj} (h : W.heap[g]? = some o) : g < W.heap.size := by
  rcases Nat.lt_or_ge g W.heap.size with h' | h'
  · exact h'
  · rw [Array.getElem?_eq_none h'] at h; cases h
theorem unfrozen4 {W : World} {g i : Nat} {cs : Array Value} {t : TypeId} (h : W.heap[g]? = some (.cells cs t)) : W.frozen? ⟨g, i, none⟩ = false := by
  simp [World.frozen?, h]

theorem Fr.set {W : World} {g i : Nat} {u v : Value} (hg : g < W.heap.size) : Fr W (W.setCell ⟨g, i, none⟩ u) g v v :=
  ⟨Below.setCell (p := ⟨g, i, none⟩) (Below.refl _ _) (Nat.le_refl _) u, fun k _ hk _ => Below.heap_setCell _ _ _ _ hk, .inl rfl⟩

set_option maxHeartbeats 1000000 in
/-- makeRoom, while there is room -/
theorem makeroom_few (W : World) (g n f : Nat) (v s : Value) (h : W.heap[g]? = some (.cells #[.int .i64 n, v, .int .i64 f, s] 56)) (hf : f < n) :
    Calls Try.prog 41 #[.pointer (some ⟨g, 0, none⟩)] W fun e w' => (∃ u, e = .returned u) ∧ Qt W w' := by
  obtain ⟨c0, c1, c2, c3⟩ := cells4 h
  have hfi : (f : Int) < (n : Int) := by omega
  clear h
  go_enter Try.func41, Try.ntmps41
  go_wp2
  go_still_tail 8, (by kernel_rfl)
  change wpList _ _ _ _ _ W.drew
  go_wp2
  refine bodyPost_ret (results_none rfl _ _ _) rfl ?_
  exact ⟨⟨_, rfl⟩, Qt.drew _⟩

set_option maxHeartbeats 1000000 in
/-- makeRoom, when as many bytes went as the window holds -/
theorem makeroom_all (W : World) (g n f : Nat) (v s : Value) (R : List Int) (h : W.heap[g]? = some (.cells #[.int .i64 n, v, .int .i64 f, s] 56)) (hown : Own W (g + 1) v R) (hoct : Oct R) (hf : f = n) (hn1 : 1 ≤ n) (hn6 : n ≤ 65536) (hl : f ≤ R.length) (hl2 : R.length ≤ f + n) :
    Calls Try.prog 41 #[.pointer (some ⟨g, 0, none⟩)] W fun e w' => (∃ u, e = .returned u) ∧ ∃ v', w'.heap[g]? = some (.cells #[.int .i64 n, v', .int .i64 0, s] 56) ∧ Own w' (g + 1) v' (R.drop f) ∧ Fr W w' g v v' := by
  subst hf
  obtain ⟨c0, c1, c2, c3⟩ := cells4 h
  have hglt := heap_lt h
  have hfr1 := unfrozen4 (i := 1) h
  have hfr2 := unfrozen4 (i := 2) h
  have hS := hown.sl hoct
  have hs1 : (Try.prog.info? 5).map (·.size) = some 1 := by
    obtain ⟨i0, hi, hz0, hz1, hz2⟩ := info_parts Try.info5
    rw [hi]; simp [hz1]
  obtain ⟨hol, ho2⟩ := hown
  rcases ho2 with ⟨_, h0⟩ | ⟨gb, cap, cur, rfl, hgb, hheap, hcap, hmax, hsz, htake⟩
  · exfalso; omega
  obtain ⟨len, hlen⟩ : ∃ len, len = R.length := ⟨_, rfl⟩
  obtain ⟨m, hm⟩ : ∃ m, len = f + m := ⟨len - f, by omega⟩
  rw [← hlen] at c1 hl hl2 hcap hS
  obtain ⟨a', cap', e', hB, hnil, hcap'⟩ := hS
  simp only [Value.slice.injEq] at e'
  obtain ⟨rfl, -, rfl⟩ := e'
  obtain ⟨x, hcut, hSx⟩ := run_from hB cap len hlen (by omega) (fun h => by cases h) f m f rfl (by omega)
  obtain ⟨ax, cx, ex, hBx, _, _⟩ := hSx
  simp only [Value.slice.injEq] at ex
  obtain ⟨rfl, hml, rfl⟩ := ex
  obtain ⟨D, hD⟩ : ∃ D, D = R.drop f := ⟨_, rfl⟩
  rw [← hD] at hml hBx
  have HML := Lib.hid hml
  have HBX := Lib.hid hBx
  have HD := Lib.hid hD
  have HR := Lib.hid hheap
  have HSZ := Lib.hid hsz
  have hmc : m ≤ cap := by omega
  have hmn : m ≤ len := by omega
  have HG := Lib.hid hgb
  have HMAX := Lib.hid hmax
  rw [← hlen] at h
  have HH := Lib.hid h
  clear hm hml hBx hD hlen hol hB hnil hcap hheap hsz htake hoct h hl hl2 hcap' hmax
  go_enter Try.func41, Try.ntmps41
  go_wp2
  go_still_tail 8, (by kernel_rfl)
  change wpList _ _ _ _ _ W.drew
  go_wp2
  have d0 : W.drew.cell? ⟨g, 0, none⟩ = _ := c0
  have d1 : W.drew.cell? ⟨g, 1, none⟩ = _ := c1
  have d2 : W.drew.cell? ⟨g, 2, none⟩ = _ := c2
  have HBX1 : Hid (Bytes W.drew x D) := HBX.out
  have HR1 : Hid (W.drew.heap[gb]? = some (.cells cur 5)) := HR.out
  have HH1 : Hid (W.drew.heap[g]? = some (.cells #[.int .i64 f, .slice (some ⟨gb, 0, none⟩) len cap, .int .i64 f, s] 56)) := HH.out
  have HQ := Lib.hid (Qt.drew W)
  generalize W.drew = W1 at d0 d1 d2 HBX1 HR1 HH1 HQ ⊢
  go_still_tail 13, (by kernel_rfl)
  change wpList _ _ _ _ _ W1.drew
  have HK3 : Hid (0 < (D.map (Value.int .u8)).length → (some (⟨gb, 0, none⟩ : Addr)) = some ⟨gb, 0, none⟩ ∧ ∃ ad, x = some ad ∧ ∀ j v, (D.map (Value.int .u8))[j]? = some v → W1.drew.cell? (ad.add j) = some v) := by
    intro hpos
    refine ⟨rfl, ?_⟩
    have hne : D ≠ [] := by intro e; subst e; simp at hpos
    obtain ⟨b, off, rfl, hc⟩ := HBX1.out.2 hne
    exact ⟨_, rfl, Bytes.at hc⟩
  have HK2 : Hid ((D.map (Value.int .u8)).length = Nat.min m len) := by show _ = _; rw [List.length_map, ← HML.out]; exact (Nat.min_eq_left hmn).symm
  have HK1 : Hid (W1.drew.heap[gb]? = some (.cells cur.toList.toArray 5)) := by show _ = _; rw [Array.toArray_toList]; exact HR1.out
  have HK4 : Hid (0 + (D.map (Value.int .u8)).length ≤ cur.toList.length) := by
    show _ ≤ _
    rw [List.length_map, ← HML.out, Array.length_toList, HSZ.out]; omega
  have HK5 := Lib.hid (oneCells D)
  refine copy_row rfl (.tmp 15) (.tmp 24) 22 22 rfl 5 Try.underlying22 hs1 (some ⟨gb, 0, none⟩) x len cap m (cap - f) rfl rfl gb 0 cur.toList 5 HK1.out (D.map (Value.int .u8)) HK2.out HK3.out HK4.out HK5.out ?_
  intro w2 hg2 ho2
  have hne : g ≠ gb := by have := HG.out; omega
  have HH2 : Hid (w2.heap[g]? = some (.cells #[.int .i64 f, .slice (some ⟨gb, 0, none⟩) len cap, .int .i64 f, s] 56)) := by
    show _ = _
    rw [ho2.out.2.2.2.2 g hne]; exact HH1.out
  obtain ⟨e0, e1, e2, e3⟩ := cells4 HH2.out
  have hfz1 := unfrozen4 (i := 1) HH2.out
  have hfz2 := unfrozen4 (i := 2) HH2.out
  have hml : (D.map (Value.int .u8)).length = m := by rw [List.length_map]; exact HML.out.symm
  rw [hml]
  have hfirst : ∀ W', (Instr.slice 22 (.slice (some ⟨gb, 0, none⟩) len cap) none (some (.int .i64 (m : Int))) none).run Try.prog W' = .ok (.slice (some ⟨gb, 0, none⟩) m cap) W' := by
    intro W'
    have hr := run_slice_h (P := Try.prog) (w := W') 22 (some ⟨gb, 0, none⟩) len cap (by rw [hel]; exact Try.underlying22) .i64 m (by omega) (by omega)
    have hsz : (sizeOf (Try.prog.elem 22)).run Try.prog W' = .ok 1 W' := by rw [hel]; rfl
    rw [hsz] at hr
    simpa [Result.andThen, sliced, Addr.add] using hr
  clear hml
  go_wp2
  refine bodyPost_end (results_none rfl _ _ _) rfl ?_
  have ho : Own w2 (g + 1) (.slice (some ⟨gb, 0, none⟩) m cap) D := by
    have hml := HML.out
    refine ⟨by simp, .inr ⟨gb, cap, _, by rw [hml], HG.out, hg2.out, by omega, HMAX.out, ?_, ?_⟩⟩
    · have h4 := HK4.out
      simp only [List.size_toArray, Nat.mul_one]
      rw [length_splice _ _ _ h4, Array.length_toList, HSZ.out]; omega
    · simp only [splice, List.take_zero, List.nil_append, Nat.mul_one]
      rw [List.take_append_of_le_length (by simp)]
      exact List.take_of_length_le (by simp)
  have hg1 : g < W1.drew.heap.size := by rw [← ho2.out.2.2.2.1]; exact heap_lt HH2.out
  have hg1' : g < w2.heap.size := heap_lt HH2.out
  refine ⟨⟨_, rfl⟩, .slice (some ⟨gb, 0, none⟩) m cap, heap4_set2 (heap4_set1 HH2.out), ?_, ?_⟩
  · rw [← HD.out]
    exact ownsRow_setCell_below (ownsRow_setCell_below ho (by simp) _) (by simp) _
  · have hq : Qt W W1.drew := HQ.out.trans (Qt.drew _)
    have f1 : Fr W W1.drew g (.slice (some ⟨gb, 0, none⟩) R.length cap) (.slice (some ⟨gb, 0, none⟩) R.length cap) := Fr.quiet hq (Nat.le_of_lt hglt)
    have f2 : Fr W1.drew w2 g (.slice (some ⟨gb, 0, none⟩) R.length cap) (.slice (some ⟨gb, 0, none⟩) m cap) :=
      ⟨ho2.out.below (by have := HG.out; omega), fun k _ _ hv => ho2.out.2.2.2.2 k (by intro e; subst e; exact hv rfl), .inl rfl⟩
    exact (f1.trans f2).trans ((Fr.set hg1').trans (Fr.set (by simpa using hg1')))

/-- makeRoom -/
theorem makeroom_win (W : World) (g n f : Nat) (v s : Value) (R : List Int) (h : W.heap[g]? = some (.cells #[.int .i64 n, v, .int .i64 f, s] 56)) (hown : Own W (g + 1) v R) (hoct : Oct R) (hf : f ≤ n) (hn1 : 1 ≤ n) (hn6 : n ≤ 65536) (hl : f ≤ R.length) (hl2 : R.length ≤ f + n) :
    Calls Try.prog 41 #[.pointer (some ⟨g, 0, none⟩)] W fun e w' => (∃ u, e = .returned u) ∧ ∃ v' R' f', w'.heap[g]? = some (.cells #[.int .i64 n, v', .int .i64 ((f' : Nat) : Int), s] 56) ∧ Own w' (g + 1) v' R' ∧ R'.drop f' = R.drop f ∧ f' < n ∧ f' ≤ R'.length ∧ Oct R' ∧ Fr W w' g v v' := by
  by_cases hlt : f < n
  · refine (makeroom_few W g n f v s h hlt).mono ?_
    rintro e w' ⟨hu, hq⟩
    exact ⟨hu, v, R, f, by rw [hq.2]; exact h, Own.below hown hq.1, rfl, hlt, hl, hoct, Fr.quiet hq (Nat.le_of_lt (heap_lt h))⟩
  · have he : f = n := by omega
    refine (makeroom_all W g n f v s R h hown hoct he hn1 hn6 hl hl2).mono ?_
    rintro e w' ⟨hu, v', h1, h2, h3⟩
    exact ⟨hu, v', R.drop f, 0, h1, h2, by simp, by omega, by simp, hoct.drop f, h3⟩

/-- what an append leaves as it was; its room is the same, or new -/
def AppFr (w w' : World) (v v' : Value) : Prop := w.grownBy w' v.ownBlock ∧ (v'.ownBlock = v.ownBlock ∨ ∀ k, v'.ownBlock = some k → w.heap.size ≤ k)

/-- an append to what is owned, and all that stays -/
theorem append_fr {w : World} {ops : Array Oper} {rest : List Oper} {o : Oper} {a : Act} {Q : Exit → Act → World → Prop} (hgd : o.guard = none)
    (s x : Operand) (ho : o.op = Op.call { callee := Callee.builtin Builtin.append, args := #[s, x], argTypes := #[22, 22] }) (base : Nat) (v : Value) (ad : Addr) (cp : Nat) (l m : List Int) (n : Nat) (hn : n = m.length) (hs : a.eval s = v) (hown : Own w base v l)
    (hx : a.eval x = .slice (some ad) n cp) (hB : Bytes w (some ad) m) (hlen : l.length + m.length ≤ 140737488355328) (hbase : base ≤ w.heap.size)
    (h : ∀ (v' : Value) (w' : World), Hid (Own w' base v' (l ++ m)) → Hid (AppFr w w' v v') → wpList Try.prog ops Q rest (a.put o.dst v') w') : wpList Try.prog ops Q (o :: rest) a w := by
  subst hn
  obtain ⟨i0, hi, hz0, hz1, hz2⟩ := info_parts Try.info5
  refine wpList_plain hgd fun K hK => ?_
  obtain ⟨v', w', hr, h2, h3, h4⟩ := run_append_own (P := Try.prog) w base 22 o.type 5 i0 (.int .u8 0) 1 1 Try.underlying22 hi hz0 hz1 hz2 rfl (by decide) v _ _ hown ad m.length cp (m.map (Value.int .u8)) (by simp) (Bytes.src hB) (oneCells m) (by unfold maxLen; omega) (by omega) hbase
  have hblk : v'.ownBlock = v.ownBlock ∨ ∀ k, v'.ownBlock = some k → w.heap.size ≤ k := by
    obtain ⟨hol, ho2⟩ := id hown
    rcases ho2 with ⟨rfl, h0⟩ | ⟨g, cap, cur, rfl, hbg, hg, hnc, hcm, hcs, htake⟩
    · by_cases hm : m.length = 0
      · left
        have := h4.2 ⟨rfl, hm⟩
        rw [this]
      · right
        have hr2 := run_append_nil (P := Try.prog) w 22 o.type 5 i0 (.int .u8 0) Try.underlying22 hi hz0 ad m.length cp (m.map (Value.int .u8)) (by rw [hz1]; simp) (Bytes.src hB) (by omega) (by omega) (by rw [hz2]; omega)
        rw [hr2] at hr
        simp only [Result.ok.injEq] at hr
        rw [← hr.1]
        intro k hk
        simp [Value.ownBlock] at hk
        omega
    · by_cases hroom : l.length + m.length ≤ cap
      · left
        have hr2 := run_append_room (P := Try.prog) w 22 o.type 5 i0 Try.underlying22 hi g l.length cap cur hg ad m.length cp (m.map (Value.int .u8)) (by rw [hz1]; simp) (Bytes.src hB) (oneCells m) hroom (by rw [hz1, hcs]; simp; omega)
        rw [hr2] at hr
        simp only [Result.ok.injEq] at hr
        rw [← hr.1]; rfl
      · right
        have holds := World.ownsRow.cells hown (g := g) rfl
        have hr2 := run_append_grow (P := Try.prog) w 22 o.type 5 i0 (.int .u8 0) Try.underlying22 hi hz0 ⟨g, 0, none⟩ l.length cap (l.map (Value.int .u8)) (by rw [hz1]; exact hol) holds ad m.length cp (m.map (Value.int .u8)) (by rw [hz1]; simp) (Bytes.src hB) (by omega) (by omega) (growslice_fits (by omega) (by rw [hz2]; omega))
        rw [hr2] at hr
        simp only [Result.ok.injEq] at hr
        rw [← hr.1]
        intro k hk
        simp [Value.ownBlock] at hk
        omega
  unfold Oper.wp execOp
  simp only [ho, resolve, invoke, builtin, Sem.run_bind, Sem.run_pure, Result.andThen_ok, List.map_toArray, List.map_cons, List.map_nil, hs, hx, hr]
  have hm' := own_more (m := m) hown hbase (by simpa using h2) h3
  exact hK _ _ (h v' w' hm'.1 ⟨h3, hblk⟩)

theorem own_fr {w w' : World} {g : Nat} {v v' : Value} {l : List Int} (hown : Own w (g + 1) v l) (h : AppFr w w' v v') (hg : g + 1 ≤ w.heap.size) : Fr w w' g v v' :=
  ⟨(Below.refl _ _).grown h.1 (by omega) (fun k hk => by have := hown.base_le k hk; omega), fun k hk _ hv => h.1.block k hk hv, h.2⟩

/-- what is in a window behind a push -/
def pushed (n : Nat) (L : List Int) (c : Int) : List Int := (if L.length = n then L.drop 1 else L) ++ [c]

set_option maxHeartbeats 4000000 in
set_option maxRecDepth 1000000 in
theorem push_win (W : World) (g n : Nat) (v : Value) (R : List Int) (f : Nat) (c : Int) (hw : Win W g n v R f) (hc0 : 0 ≤ c) (hc1 : c ≤ 255) :
    Calls Try.prog 28 #[.pointer (some ⟨g, 0, none⟩), .int .u8 c] W fun e w' => e = .returned (.int .u32 (sumOf (pushed n (R.drop f) c))) ∧ ∃ v' R' f', Win w' g n v' R' f' ∧ R'.drop f' = pushed n (R.drop f) c ∧ Fr W w' g v v' := by
  obtain ⟨a, cap, rfl, hS, c0, c1, c2, c3⟩ := hw.cells
  obtain ⟨hheap, hown, hoct, hf, hn, hfn, hn6⟩ := hw
  have hglt := heap_lt hheap
  obtain ⟨len, hlen⟩ : ∃ len, len = R.length := ⟨_, rfl⟩
  rw [← hlen] at c1 hf hn hheap hown ⊢
  have hfull := Lib.hid (fun W' (h0 : W'.cell? ⟨g, 0, none⟩ = some (.int .i64 n)) (h1 : W'.cell? ⟨g, 1, none⟩ = some (.slice a len cap)) (h2 : W'.cell? ⟨g, 2, none⟩ = some (.int .i64 f)) => full_win W' g n a len cap f h0 h1 h2 (by omega) hf)
  have hn0 : ((n : Int) == 0) = false := by simp; omega
  obtain ⟨P', hP'⟩ : ∃ P', P' = pushed n (R.drop f) c := ⟨_, rfl⟩
  rw [← hP']
  have hdl : (R.drop f).length = len - f := by rw [List.length_drop, ← hlen]
  by_cases hfl : len = f + n
  · have hdec : decide (len = f + n) = true := by simp [hfl]
    rw [hdec] at hfull
    have hP : P' = R.drop (f + 1) ++ [c] := by rw [hP', pushed, if_pos (by omega), List.drop_drop]
    obtain ⟨x, hx⟩ : ∃ x, R.drop f = x :: R.drop (f + 1) := ⟨R.getD f 0, by
      rw [List.drop_eq_getElem_cons (by omega), List.getD_eq_getElem?_getD, List.getElem?_eq_getElem (by omega)]; rfl⟩
    have hx8 : 0 ≤ x ∧ x ≤ 255 := hoct x (List.mem_of_mem_drop (i := f) (by rw [hx]; simp))
    have hcx : W.cell? ⟨g, 0, none⟩ = W.cell? ⟨g, 0, none⟩ := rfl
    obtain ⟨a', cap', e', hB, hnil, hcap⟩ := hS
    simp only [Value.slice.injEq] at e'
    obtain ⟨rfl, -, rfl⟩ := e'
    obtain ⟨b, off, rfl, hcb⟩ := hB.2 (by intro e; rw [e] at hlen; simp at hlen; omega)
    have hcf := hcb f (by omega)
    have hxe : R.getD f 0 = x := by
      have := congrArg (fun l => l.getD 0 0) hx
      simpa [List.getD_eq_getElem?_getD] using this
    rw [hxe] at hcf
    have HROLL := Lib.hid (fun W' => roll_eq (R.drop f) (R.drop (f + 1)) n x c W' hx (by rw [hdl]; omega) hx8.1 hx8.2 hc0 hc1)
    rw [← hP] at HROLL
    have HP := Lib.hid hP
    have HP2 : Hid (R.drop (f + 1) ++ [c] = P') := hP.symm
    have HLEN := Lib.hid hlen
    have HH := Lib.hid hheap
    have HOWN := Lib.hid hown
    have hfi : (0 : Int) ≤ (f : Int) := by omega
    have hfi2 : (f : Int) < (len : Int) := by omega
    have hfi3 : f < len := by omega
    clear hP hx hcx hlen hheap hown hcb hxe hP' hdl hB hnil hcap hfl
    go_enter Try.func28, Try.ntmps28
    go_wp2_with (go_at_call 27; refine (hfull.out _ c0 c1 c2).mono ?_; rintro e w1 ⟨rfl, hq1⟩)
    have HQ1 := Lib.hid hq1
    have HH1 : Hid (w1.heap[g]? = some (.cells #[.int .i64 n, .slice (some ⟨b, off, none⟩) len cap, .int .i64 f, .int .u32 (sumOf (R.drop f))] 56)) := by show _ = _; rw [hq1.2]; exact HH.out
    obtain ⟨d0, d1, d2, d3⟩ := cells4 HH1.out
    have dcf : w1.cell? ⟨b, off + f, none⟩ = some (.int .u8 x) := cell_later hq1.1 hcf
    have hfz := unfrozen4 (i := 3) HH1.out
    clear hq1 c0 c1 c2 c3 hcf
    go_still_tail 23, (by kernel_rfl)
    still_call ((HROLL.out _).mono (fun _ _ h => ⟨h.1, h.2.symm⟩))
    repeat still_step
    refine wpStill_nil ?_
    change wpList _ _ _ _ _ w1.drew
    have HH2 : Hid (w1.drew.heap[g]? = some (.cells #[.int .i64 n, .slice (some ⟨b, off, none⟩) len cap, .int .i64 f, .int .u32 (sumOf (R.drop f))] 56)) := HH1.out
    have HQ2 := Lib.hid (HQ1.out.trans (Qt.drew w1))
    generalize w1.drew = w2 at HH2 HQ2 ⊢
    clear d0 d1 d2 d3 dcf hfz HH1 HQ1
    obtain ⟨q0, q1, q2, q3⟩ := cells4 HH2.out
    have hfz3 := unfrozen4 (i := 3) HH2.out
    have hfz2 := unfrozen4 (i := 2) HH2.out
    go_wp2_with fail
    have hs3 : Fr W ((w2.setCell ⟨g, 3, none⟩ (.int .u32 (sumOf P'))).setCell ⟨g, 2, none⟩ (.int .i64 ((f : Int) + 1))) g (.slice (some ⟨b, off, none⟩) len cap) (.slice (some ⟨b, off, none⟩) len cap) :=
      ((Fr.quiet HQ2.out (Nat.le_of_lt hglt)).trans (Fr.set (heap_lt HH2.out))).trans (Fr.set (by have := heap_lt HH2.out; simpa using this))
    have HH3 : Hid (((w2.setCell ⟨g, 3, none⟩ (.int .u32 (sumOf P'))).setCell ⟨g, 2, none⟩ (.int .i64 ((f : Int) + 1))).heap[g]? = some (.cells #[.int .i64 n, .slice (some ⟨b, off, none⟩) len cap, .int .i64 ((f + 1 : Nat) : Int), .int .u32 (sumOf P')] 56)) := heap4_set2 (heap4_set3 HH2.out)
    have HO3 : Hid (Own ((w2.setCell ⟨g, 3, none⟩ (.int .u32 (sumOf P'))).setCell ⟨g, 2, none⟩ (.int .i64 ((f : Int) + 1))) (g + 1) (.slice (some ⟨b, off, none⟩) len cap) R) := ownsRow_setCell_below (ownsRow_setCell_below (Own.below HOWN.out HQ2.out.1) (by simp) _) (by simp) _
    generalize (w2.setCell ⟨g, 3, none⟩ (.int .u32 (sumOf P'))).setCell ⟨g, 2, none⟩ (.int .i64 ((f : Int) + 1)) = w3 at hs3 HH3 HO3 ⊢
    have hF2n : f + 1 ≤ n := by omega
    have hF2l : f + 1 ≤ R.length := by have := HLEN.out; omega
    have hF2m : R.length ≤ f + 1 + n := by have := HLEN.out; omega
    have HFC : Hid (R.length < f + 1 + n) := by show _ < _; have := HLEN.out; omega
    have HS3 := Lib.hid hs3
    have HM3 := Lib.hid (makeroom_win w3 g n (f + 1) (.slice (some ⟨b, off, none⟩) len cap) (.int .u32 (sumOf P')) R HH3.out HO3.out hoct hF2n (by omega) hn6 hF2l hF2m)
    clear hs3
    refine HM3.out.mono ?_
    rintro e w4 ⟨⟨u4, rfl⟩, v4, R4, f4, h4, o4, e4, hf4, hf4', oc4, fr4⟩
    have HH4 := Lib.hid h4
    have HO4 := Lib.hid o4
    have HE4 := Lib.hid e4
    have HF4 := Lib.hid fr4
    obtain ⟨a4, cap4, ev4, -⟩ := o4.sl oc4
    subst ev4
    obtain ⟨g0, g1, g2, g3⟩ := cells4 h4
    have hglt4 := heap_lt h4
    have hlen4 : R4.length ≤ 131072 := by
      have h5 : (R4.drop f4).length = (R.drop (f + 1)).length := by rw [e4]
      rw [List.length_drop, List.length_drop] at h5
      have := HLEN.out; omega
    have HL4 := Lib.hid hlen4
    clear h4 o4 e4 fr4 hlen4
    have H1 := Lib.hid (lit_bytes w4 [c] (0, 0) (by intro x hx; simp at hx; omega))
    have k0 := cell_later ((Below.refl w4.heap.size w4).alloc (Nat.le_refl _) (.cells #[.int .u8 c] 5)) g0
    have k1 := cell_later ((Below.refl w4.heap.size w4).alloc (Nat.le_refl _) (.cells #[.int .u8 c] 5)) g1
    have HO4' : Hid (Own (w4.alloc (.cells #[.int .u8 c] 5)) (g + 1) (.slice a4 R4.length cap4) R4) := World.ownsRow.alloc HO4.out _
    go_wp2_with (at_builtin; refine append_fr rfl (.tmp 65) (.tmp 67) rfl (g + 1) _ ⟨w4.heap.size, 0, none⟩ 1 _ [c] 1 rfl rfl HO4'.out rfl H1.out (by have := HL4.out; simp; omega) (by simp; omega) ?_)
    intro v5 w5 HO5 HG5
    obtain ⟨a5, cap5, ev5, -⟩ := HO5.out.sl (oc4.append (by intro x hx; simp at hx; omega))
    rw [show (R4 ++ [c]).length = R4.length + 1 from by simp] at ev5
    subst ev5
    have HH5 : Hid (w5.heap[g]? = some (.cells #[.int .i64 n, .slice a4 R4.length cap4, .int .i64 f4, .int .u32 (sumOf P')] 56)) := by
      show _ = _
      rw [HG5.out.1.block g (by simp; omega) (fun e => by have := HO4.out.base_le g e.symm; omega), Below.heap_alloc _ _ _ hglt4]
      exact HH4.out
    obtain ⟨m0, m1, m2, m3⟩ := cells4 HH5.out
    have hfz5 := unfrozen4 (i := 1) HH5.out
    clear g0 g1 g2 g3 k0 k1
    go_wp2
    go_ret
    refine ⟨rfl, .slice a5 (R4.length + 1) cap5, R4 ++ [c], f4, ⟨?_, ?_, oc4.append (by intro x hx; simp at hx; omega), by simp; omega, ?_, hf4, hn6⟩, ?_, ?_⟩
    · rw [heap4_set1 HH5.out, List.drop_append_of_le_length hf4', HE4.out, HP.out]
    · exact ownsRow_setCell_below (a := ⟨g, 1, none⟩) HO5.out (Nat.lt_succ_self g) _
    · have h5 : (R4.drop f4).length = (R.drop (f + 1)).length := by rw [HE4.out]
      rw [List.length_drop, List.length_drop] at h5
      have := HFC.out; simp; omega
    · rw [List.drop_append_of_le_length hf4', HE4.out, HP2.out]
    · have hg4 : g < w4.heap.size := hglt4
      have fa : Fr w4 (w4.alloc (.cells #[.int .u8 c] 5)) g (.slice a4 R4.length cap4) (.slice a4 R4.length cap4) :=
        ⟨(Below.refl _ _).alloc (by omega) _, fun k hk _ _ => Below.heap_alloc _ _ _ hk, .inl rfl⟩
      have fb : Fr (w4.alloc (.cells #[.int .u8 c] 5)) w5 g (.slice a4 R4.length cap4) (.slice a5 (R4.length + 1) cap5) := own_fr HO4'.out HG5.out (by simp; omega)
      have hg5 : g < w5.heap.size := heap_lt HH5.out
      exact ((HS3.out.trans HF4.out).trans (fa.trans fb)).trans (Fr.set hg5)
  · have hdec : decide (len = f + n) = false := by simp [hfl]
    rw [hdec] at hfull
    have hP : P' = R.drop f ++ [c] := by rw [hP', pushed, if_neg (by omega)]
    have HP := Lib.hid hP
    have HP2 : Hid (R.drop f ++ [c] = P') := hP.symm
    have HLEN := Lib.hid hlen
    have HH := Lib.hid hheap
    have HOWN := Lib.hid hown
    have hlf : len < f + n := by omega
    have HIN := Lib.hid (fun W' => in_eq (R.drop f) P' ((len : Int) - (f : Int)) c W' hP.symm hc0 hc1)
    clear hP hlen hheap hown hS hP' hdl hfl
    go_enter Try.func28, Try.ntmps28
    go_wp2_with (go_at_call 27; refine (hfull.out _ c0 c1 c2).mono ?_; rintro e w1 ⟨rfl, hq1⟩)
    have HQ1 := Lib.hid hq1
    have HH1 : Hid (w1.heap[g]? = some (.cells #[.int .i64 n, .slice a len cap, .int .i64 f, .int .u32 (sumOf (R.drop f))] 56)) := by show _ = _; rw [hq1.2]; exact HH.out
    obtain ⟨d0, d1, d2, d3⟩ := cells4 HH1.out
    have hfz := unfrozen4 (i := 3) HH1.out
    have hbs := sumOf_bd (R.drop f)
    have HLN := Lib.hid (fun W' (h1 : W'.cell? ⟨g, 1, none⟩ = some (.slice a len cap)) (h2 : W'.cell? ⟨g, 2, none⟩ = some (.int .i64 f)) => len_win W' g n a len cap f h1 h2 (by omega) hf)
    clear hq1 c0 c1 c2 c3
    go_region_with (first | (go_at_call 25; refine (HLN.out _ (by exact d1) (by exact d2)).mono ?_; rintro e w' ⟨rfl, rfl⟩) | (go_at_call 12; refine (HIN.out _).mono ?_; rintro e w' ⟨rfl, rfl⟩))
    all_goals (
    have hs3 : Fr W (w1.setCell ⟨g, 3, none⟩ (.int .u32 (sumOf P'))).drew.drew g (.slice a len cap) (.slice a len cap) :=
      ((Fr.quiet HQ1.out (Nat.le_of_lt hglt)).trans (Fr.set (heap_lt HH1.out))).trans (Fr.quiet ((Qt.drew _).trans (Qt.drew _)) (by have := heap_lt HH1.out; simp; omega))
    have HH3 : Hid ((w1.setCell ⟨g, 3, none⟩ (.int .u32 (sumOf P'))).drew.drew.heap[g]? = some (.cells #[.int .i64 n, .slice a len cap, .int .i64 f, .int .u32 (sumOf P')] 56)) := heap4_set3 HH1.out
    have HO3 : Hid (Own (w1.setCell ⟨g, 3, none⟩ (.int .u32 (sumOf P'))).drew.drew (g + 1) (.slice a len cap) R) := ownsRow_setCell_below (Own.below HOWN.out HQ1.out.1) (by simp) _
    generalize (w1.setCell ⟨g, 3, none⟩ (.int .u32 (sumOf P'))).drew.drew = w3 at hs3 HH3 HO3 ⊢
    have hF2n : f ≤ n := by omega
    have hF2l : f ≤ R.length := by have := HLEN.out; omega
    have hF2m : R.length ≤ f + n := by have := HLEN.out; omega
    have HFC : Hid (R.length < f + n) := by show _ < _; have := HLEN.out; omega
    have HS3 := Lib.hid hs3
    have HM3 := Lib.hid (makeroom_win w3 g n f (.slice a len cap) (.int .u32 (sumOf P')) R HH3.out HO3.out hoct hF2n (by omega) hn6 hF2l hF2m)
    clear hs3
    go_wp2_with fail
    refine HM3.out.mono ?_
    rintro e w4 ⟨⟨u4, rfl⟩, v4, R4, f4, h4, o4, e4, hf4, hf4', oc4, fr4⟩
    have HH4 := Lib.hid h4
    have HO4 := Lib.hid o4
    have HE4 := Lib.hid e4
    have HF4 := Lib.hid fr4
    obtain ⟨a4, cap4, ev4, -⟩ := o4.sl oc4
    subst ev4
    obtain ⟨g0, g1, g2, g3⟩ := cells4 h4
    have hglt4 := heap_lt h4
    have hlen4 : R4.length ≤ 131072 := by
      have h5 : (R4.drop f4).length = (R.drop f).length := by rw [e4]
      rw [List.length_drop, List.length_drop] at h5
      have := HLEN.out; omega
    have HL4 := Lib.hid hlen4
    clear h4 o4 e4 fr4 hlen4
    have H1 := Lib.hid (lit_bytes w4 [c] (0, 0) (by intro x hx; simp at hx; omega))
    have k0 := cell_later ((Below.refl w4.heap.size w4).alloc (Nat.le_refl _) (.cells #[.int .u8 c] 5)) g0
    have k1 := cell_later ((Below.refl w4.heap.size w4).alloc (Nat.le_refl _) (.cells #[.int .u8 c] 5)) g1
    have HO4' : Hid (Own (w4.alloc (.cells #[.int .u8 c] 5)) (g + 1) (.slice a4 R4.length cap4) R4) := World.ownsRow.alloc HO4.out _
    go_wp2_with (at_builtin; refine append_fr rfl (.tmp 65) (.tmp 67) rfl (g + 1) _ ⟨w4.heap.size, 0, none⟩ 1 _ [c] 1 rfl rfl HO4'.out rfl H1.out (by have := HL4.out; simp; omega) (by simp; omega) ?_)
    intro v5 w5 HO5 HG5
    obtain ⟨a5, cap5, ev5, -⟩ := HO5.out.sl (oc4.append (by intro x hx; simp at hx; omega))
    rw [show (R4 ++ [c]).length = R4.length + 1 from by simp] at ev5
    subst ev5
    have HH5 : Hid (w5.heap[g]? = some (.cells #[.int .i64 n, .slice a4 R4.length cap4, .int .i64 f4, .int .u32 (sumOf P')] 56)) := by
      show _ = _
      rw [HG5.out.1.block g (by simp; omega) (fun e => by have := HO4.out.base_le g e.symm; omega), Below.heap_alloc _ _ _ hglt4]
      exact HH4.out
    obtain ⟨m0, m1, m2, m3⟩ := cells4 HH5.out
    have hfz5 := unfrozen4 (i := 1) HH5.out
    clear g0 g1 g2 g3 k0 k1
    go_wp2
    go_ret
    refine ⟨rfl, .slice a5 (R4.length + 1) cap5, R4 ++ [c], f4, ⟨?_, ?_, oc4.append (by intro x hx; simp at hx; omega), by simp; omega, ?_, hf4, hn6⟩, ?_, ?_⟩
    · rw [heap4_set1 HH5.out, List.drop_append_of_le_length hf4', HE4.out, HP.out]
    · exact ownsRow_setCell_below (a := ⟨g, 1, none⟩) HO5.out (Nat.lt_succ_self g) _
    · have h5 : (R4.drop f4).length = (R.drop f).length := by rw [HE4.out]
      rw [List.length_drop, List.length_drop] at h5
      have := HFC.out; simp; omega
    · rw [List.drop_append_of_le_length hf4', HE4.out, HP2.out]
    · have hg4 : g < w4.heap.size := hglt4
      have fa : Fr w4 (w4.alloc (.cells #[.int .u8 c] 5)) g (.slice a4 R4.length cap4) (.slice a4 R4.length cap4) :=
        ⟨(Below.refl _ _).alloc (by omega) _, fun k hk _ _ => Below.heap_alloc _ _ _ hk, .inl rfl⟩
      have fb : Fr (w4.alloc (.cells #[.int .u8 c] 5)) w5 g (.slice a4 R4.length cap4) (.slice a5 (R4.length + 1) cap5) := own_fr HO4'.out HG5.out (by simp; omega)
      have hg5 : g < w5.heap.size := heap_lt HH5.out
      exact ((HS3.out.trans HF4.out).trans (fa.trans fb)).trans (Fr.set hg5)
    )
end Go.Proofs.Ytbkdimdnpekgpab
