/- rules: Lines. (A template.) -/
import Derived.Test.YtokocfoeohddfaaDoorRuRow
import Derived.BigRegionIn
namespace Go.Proofs.YtokocfoeohddfaaDoor.Pa
open Go.RowKit Go.Shelf Go.Proofs.RangeCap Go.Proofs.YtokocfoeohddfaaDoor.Me
set_option linter.unusedVariables false
set_option linter.unusedSimpArgs false
set_option maxRecDepth 1000000
attribute [local go_sem] Oper.semAt_some

/-- blocks of cells stay, but for one -/
def KeepX (tb : Nat) (W W' : World) : Prop := ∀ (k : Nat) (c : Array Value) (t : TypeId), k ≠ tb → W.heap[k]? = some (.cells c t) → W'.heap[k]? = some (.cells c t)
theorem KeepX.still {tb : Nat} {W W' : World} (h : Still tb W W') : KeepX tb W W' := fun k c t hk hc => h.2.2.2.2 k _ hc hk
theorem KeepX.below {tb : Nat} {W W' : World} (h : Below W.heap.size W W') : KeepX tb W W' := fun k c t hk hc => (h.block k (Array.getElem?_eq_some_iff.1 hc).1).trans hc
theorem KeepX.rec {tb : Nat} {W : World} {l : Nat} (o : Loop) (h : Rec W l) : KeepX tb W (W.putObj l (.loop o)) := by
  obtain ⟨r, hr⟩ := h
  intro k c t hk hc
  have hne : k ≠ l := by intro e; subst e; rw [hr] at hc; cases hc
  rw [World.putObj_heap_other hne]; exact hc
theorem KeepX.row {tb : Nat} {W W' : World} (h : KeepX tb W W') {base : Nat} {v : Value} {L : List Ru} (ho : RuOwn W base v L) (hb : tb < base) : RuOwn W' base v L := by
  obtain ⟨h1, h2⟩ := ho
  refine ⟨h1, ?_⟩
  rcases h2 with h2 | ⟨g, cap, cur, h3, h4, h5, h6⟩
  · exact .inl h2
  · exact .inr ⟨g, cap, cur, h3, h4, h _ _ _ (by omega) h5, h6⟩
/-- what holds between two lines: k of them are gone through -/
structure LJ (w : World) (acc : List Ru) (k : Nat) (W : World) : Prop where
  r0 : W.heap[w.heap.size]? = some (.cells #[.slice none 0 0] 37)
  r1 : W.heap[w.heap.size + 1]? = some (.cells #[.int .i64 0] 3)
  r2 : W.heap[w.heap.size + 2]? = some (.cells #[.int .i64 0] 23)
  out : ∃ v, W.heap[w.heap.size + 3]? = some (.cells #[v] 37) ∧ RuOwn W (w.heap.size + 8) v acc
  num : W.heap[w.heap.size + 4]? = some (.cells #[.int .i64 (k : Int)] 3)
  sep : W.heap[w.heap.size + 6]? = some (.cells #[.string ⟨#[10]⟩] 9)
  sav : W.heap[w.heap.size + 7]? = some (.cells #[.int .i64 0] 3)
  bel : Below w.heap.size w W
  big : w.heap.size + 8 ≤ W.heap.size
theorem LJ.keep {w W W' : World} {acc : List Ru} {k : Nat} (h : LJ w acc k W) (hk : KeepX (w.heap.size + 5) W W') (hb : Below w.heap.size W W') : LJ w acc k W' := by
  obtain ⟨v, h1, h2⟩ := h.out
  exact ⟨hk _ _ _ (by omega) h.r0, hk _ _ _ (by omega) h.r1, hk _ _ _ (by omega) h.r2, ⟨v, hk _ _ _ (by omega) h1, hk.row h2 (by omega)⟩, hk _ _ _ (by omega) h.num, hk _ _ _ (by omega) h.sep, hk _ _ _ (by omega) h.sav, h.bel.trans hb, Nat.le_trans h.big hb.size⟩
/-- what lies there where a line is wrong -/
structure LX (w : World) (n er : Int) (W : World) : Prop where
  r0 : W.heap[w.heap.size]? = some (.cells #[.slice none 0 0] 37)
  r1 : W.heap[w.heap.size + 1]? = some (.cells #[.int .i64 n] 3)
  r2 : W.heap[w.heap.size + 2]? = some (.cells #[.int .i64 er] 23)
  bel : Below w.heap.size w W
theorem LX.keep {w W W' : World} {n er : Int} (h : LX w n er W) (hk : KeepX (w.heap.size + 5) W W') (hb : Below w.heap.size W W') : LX w n er W' :=
  ⟨hk _ _ _ (by omega) h.r0, hk _ _ _ (by omega) h.r1, hk _ _ _ (by omega) h.r2, h.bel.trans hb⟩
/-- so much is gone through: what the rest comes to -/
def LG (l : L8) (acc : List Ru) (k : Nat) : Prop := linesR l = linesGo acc k ((cutc 10 l).drop k)
theorem cellOne {W : World} {g : Nat} {v : Value} {t : TypeId} (h : W.heap[g]? = some (.cells #[v] t)) : W.cell? ⟨g, 0, none⟩ = some v := by rw [cell_of_row _ _ 0 _ _ (0, 0) h]; rfl
theorem setOne {W : World} {g : Nat} {v u : Value} {t : TypeId} (h : W.heap[g]? = some (.cells #[v] t)) : (W.setCell ⟨g, 0, none⟩ u).heap[g]? = some (.cells #[u] t) := by simpa using row_set h 0 u
theorem setOther {W : World} {g k : Nat} (u : Value) (h : k ≠ g) : (W.setCell ⟨g, 0, none⟩ u).heap[k]? = W.heap[k]? := Below.heap_setCell W _ u k h
theorem LJ.count {w W : World} {acc : List Ru} {k : Nat} (h : LJ w acc k W) : LJ w acc (k + 1) (W.setCell ⟨w.heap.size + 4, 0, none⟩ (.int .i64 ((k : Int) + 1))) := by
  obtain ⟨v, h1, h2⟩ := h.out
  have hb : Below w.heap.size W (W.setCell ⟨w.heap.size + 4, 0, none⟩ (.int .i64 ((k : Int) + 1))) := (Below.refl _ _).setCell (by show w.heap.size ≤ w.heap.size + 4; omega) _
  refine ⟨(setOther _ (by omega)).trans h.r0, (setOther _ (by omega)).trans h.r1, (setOther _ (by omega)).trans h.r2, ⟨v, (setOther _ (by omega)).trans h1, ?_⟩, ?_, (setOther _ (by omega)).trans h.sep, (setOther _ (by omega)).trans h.sav, h.bel.trans hb, ?_⟩
  · obtain ⟨q1, q2⟩ := h2
    refine ⟨q1, ?_⟩
    rcases q2 with q2 | ⟨g, cap, cur, h3, h4, h5, h6⟩
    · exact .inl q2
    · exact .inr ⟨g, cap, cur, h3, h4, (setOther _ (by omega)).trans h5, h6⟩
  · rw [setOne h.num]; rfl
  · simpa using h.big
theorem LX.of {w W : World} {acc : List Ru} {k : Nat} (h : LJ w acc k W) (n er : Int) : LX w n er (((W.setCell ⟨w.heap.size, 0, none⟩ (.slice none 0 0)).setCell ⟨w.heap.size + 1, 0, none⟩ (.int .i64 n)).setCell ⟨w.heap.size + 2, 0, none⟩ (.int .i64 er)) := by
  refine ⟨?_, ?_, ?_, ?_⟩
  · rw [setOther _ (by omega), setOther _ (by omega)]; exact setOne h.r0
  · rw [setOther _ (by omega)]; exact setOne ((setOther _ (by omega)).trans h.r1)
  · exact setOne ((setOther _ (by omega)).trans ((setOther _ (by omega)).trans h.r2))
  · exact ((h.bel.setCell (Nat.le_refl _) _).setCell (by show _ ≤ w.heap.size + 1; omega) _).setCell (by show _ ≤ w.heap.size + 2; omega) _
theorem LJ.drew {w W : World} {acc : List Ru} {k : Nat} (h : LJ w acc k W) : LJ w acc k W.drew := h.keep (fun _ _ _ _ hc => hc) ((Below.refl _ _).drew)
theorem LJ.grow {w W w5 : World} {acc : List Ru} {k : Nat} {v v5 : Value} {ru : Ru} (h : LJ w acc k W) (ho : RuOwn W (w.heap.size + 8) v acc) (hn : RuOwn w5 (w.heap.size + 8) v5 (acc ++ [ru])) (hg : W.grownBy w5 v.ownBlock) :
    LJ w (acc ++ [ru]) k (w5.setCell ⟨w.heap.size + 3, 0, none⟩ v5) := by
  have hb : ∀ b, b < w.heap.size + 8 → w5.heap[b]? = W.heap[b]? := fun b hb => hg.block b (by have := h.big; omega) (fun e => by have := (World.ownsRow.lt ho b e.symm).1; omega)
  obtain ⟨v0, h3, -⟩ := h.out
  have h53 := (hb (w.heap.size + 3) (by omega)).trans h3
  refine ⟨?_, ?_, ?_, ⟨v5, setOne h53, ?_⟩, ?_, ?_, ?_, ?_, ?_⟩
  · rw [setOther _ (by omega), hb _ (by omega)]; exact h.r0
  · rw [setOther _ (by omega), hb _ (by omega)]; exact h.r1
  · rw [setOther _ (by omega), hb _ (by omega)]; exact h.r2
  · obtain ⟨q1, q2⟩ := hn
    refine ⟨q1, ?_⟩
    rcases q2 with q2 | ⟨g, cap, cur, e3, e4, e5, e6⟩
    · exact .inl q2
    · exact .inr ⟨g, cap, cur, e3, e4, (setOther _ (by omega)).trans e5, e6⟩
  · rw [setOther _ (by omega), hb _ (by omega)]; exact h.num
  · rw [setOther _ (by omega), hb _ (by omega)]; exact h.sep
  · rw [setOther _ (by omega), hb _ (by omega)]; exact h.sav
  · exact (Below.grown h.bel hg (by have := h.big; omega) (fun j hj => by have := (World.ownsRow.lt ho j hj).1; omega)).setCell (by show _ ≤ w.heap.size + 3; omega) _
  · have := h.big; have := hg.size; simp [World.setCell]; omega
theorem LG.next {l : L8} {acc : List Ru} {k : Nat} {p : L8} (h : LG l acc k) (hp : (cutc 10 l)[k]? = some p) : linesR l = linesGo acc k (p :: (cutc 10 l).drop (k + 1)) := by
  obtain ⟨h1, h2⟩ := List.getElem?_eq_some_iff.1 hp
  unfold LG at h
  rw [h, List.drop_eq_getElem_cons h1, h2]
theorem cutc_mem (c : UInt8) (l : L8) : ∀ p ∈ cutc c l, p.length ≤ l.length := by
  induction l with
  | nil => intro p hp; simp [cutc] at hp; subst hp; simp
  | cons x l ih =>
    intro p hp
    rw [cutc] at hp
    have hne := cutc_ne c l
    obtain ⟨a, b, hab⟩ := List.exists_cons_of_ne_nil hne
    rw [hab] at hp ih
    split at hp
    · rcases List.mem_cons.1 hp with h | h
      · subst h; simp
      · have := ih p h; rw [List.length_cons]; omega
    · rcases List.mem_cons.1 hp with h | h
      · subst h
        have := ih a (by simp)
        simp only [List.headD_cons, List.length_cons]; omega
      · have := ih p (by simp only [List.tail_cons] at h; exact List.mem_cons_of_mem _ h)
        rw [List.length_cons]; omega
set_option maxHeartbeats 16000000 in
theorem lines_any (l : L8) (w : World) (hl : l.length ≤ 1000000) :
    Calls Tryd.prog 32 #[.string (mk l)] w fun e w' => ∃ v, e = .returned (.tuple #[v, .int .i64 (linesR l).2.1, .int .i64 (linesR l).2.2]) ∧ RuOwn w' (w.heap.size + 8) v (linesR l).1 ∧ Below w.heap.size w w' := by
  obtain ⟨w5, hw5⟩ : ∃ w5, w5 = ((((w.alloc (.cells #[.slice none 0 0] 37)).alloc (.cells #[.int .i64 0] 3)).alloc (.cells #[.int .i64 0] 23)).alloc (.cells #[.slice none 0 0] 37)).alloc (.cells #[.int .i64 0] 3) := ⟨_, rfl⟩
  have hz5 : w5.heap.size = w.heap.size + 5 := by rw [hw5]; simp
  obtain ⟨w8, hw8⟩ : ∃ w8, w8 = ((w5.alloc (.cells #[.string (mk l)] 9)).alloc (.cells #[.string ⟨#[10]⟩] 9)).alloc (.cells #[.int .i64 0] 3) := ⟨_, rfl⟩
  have hz8 : w8.heap.size = w.heap.size + 8 := by rw [hw8]; simp [hz5]
  have HSP : Hid (Calls Tryd.prog 53 #[.string (mk l), .string { data := #[10] }] w5 fun e w' => e = .returned (.func (.func 90) #[] #[.pointer (some ⟨w.heap.size + 6, 0, none⟩), .pointer (some ⟨w.heap.size + 5, 0, none⟩), .pointer (some ⟨w.heap.size + 7, 0, none⟩)]) ∧ w8 = w') := by
    have h := split_any 10 l w5
    rw [← hw8, hz5] at h
    exact Calls.mono h (by rintro e w' ⟨h1, h2⟩; exact ⟨h1, h2.symm⟩)
  have hb8 : Below w.heap.size w w8 := by
    rw [hw8, hw5]
    exact ((((((((Below.refl _ _).alloc (Nat.le_refl _) _).alloc (by simp) _).alloc (by simp; omega) _).alloc (by simp; omega) _).alloc (by simp; omega) _).alloc (by simp; omega) _).alloc (by simp; omega) _).alloc (by simp; omega) _
  have hrows : w8.heap[w.heap.size]? = some (.cells #[.slice none 0 0] 37) ∧ w8.heap[w.heap.size + 1]? = some (.cells #[.int .i64 0] 3) ∧ w8.heap[w.heap.size + 2]? = some (.cells #[.int .i64 0] 23) ∧ w8.heap[w.heap.size + 3]? = some (.cells #[.slice none 0 0] 37) ∧ w8.heap[w.heap.size + 4]? = some (.cells #[.int .i64 0] 3) ∧ w8.heap[w.heap.size + 5]? = some (.cells #[.string (mk l)] 9) ∧ w8.heap[w.heap.size + 6]? = some (.cells #[.string ⟨#[10]⟩] 9) ∧ w8.heap[w.heap.size + 7]? = some (.cells #[.int .i64 0] 3) := by
    rw [hw8, hw5]
    have e8 : ∀ {W : World} {k : Nat} {x y : Obj}, W.heap[k]? = some x → (W.alloc y).heap[k]? = some x := fun {W k x y} h => (Below.heap_alloc _ _ _ (Array.getElem?_eq_some_iff.1 h).1).trans h
    have n8 : ∀ (W : World) (y : Obj) (k : Nat), k = W.heap.size → (W.alloc y).heap[k]? = some y := fun W y k h => by subst h; exact heap_new _ _
    refine ⟨?_, ?_, ?_, ?_, ?_, ?_, ?_, ?_⟩
    · exact e8 (e8 (e8 (e8 (e8 (e8 (e8 (n8 _ _ _ (by simp))))))))
    · exact e8 (e8 (e8 (e8 (e8 (e8 (n8 _ _ _ (by simp)))))))
    · exact e8 (e8 (e8 (e8 (e8 (n8 _ _ _ (by simp))))))
    · exact e8 (e8 (e8 (e8 (n8 _ _ _ (by simp)))))
    · exact e8 (e8 (e8 (n8 _ _ _ (by simp))))
    · exact e8 (e8 (n8 _ _ _ (by simp)))
    · exact e8 (n8 _ _ _ (by simp))
    · exact n8 _ _ _ (by simp)
  have HJ8 : Hid (LJ w [] 0 w8) := ⟨hrows.1, hrows.2.1, hrows.2.2.1, ⟨_, hrows.2.2.2.1, World.ownsRow_nil _ _ _ _⟩, hrows.2.2.2.2.1, hrows.2.2.2.2.2.2.1, hrows.2.2.2.2.2.2.2, hb8, by omega⟩
  have HT8 : Hid (SrcAt (w.heap.size + 5) l w8) := ⟨cellOne hrows.2.2.2.2.2.1, unfrozen hrows.2.2.2.2.2.1⟩
  have HG0 : Hid (LG l [] 0) := rfl
  have HW5 := Lib.hid hw5
  have HLL := Lib.hid hl
  rw [hw5] at HSP
  clear hw5 hw8 hb8 hrows hz5
  obtain ⟨R0, hR0⟩ : ∃ x, x = (linesR l).1 := ⟨_, rfl⟩
  obtain ⟨R1, hR1⟩ : ∃ x, x = (linesR l).2.1 := ⟨_, rfl⟩
  obtain ⟨R2, hR2⟩ : ∃ x, x = (linesR l).2.2 := ⟨_, rfl⟩
  rw [← hR0, ← hR1, ← hR2]
  have HRR : Hid (linesR l = (R0, R1, R2)) := by show _ = _; rw [hR0, hR1, hR2]
  clear hR0 hR1 hR2
  refine callsIn_wide (n := 5).1 ?_
  refine callsIn_of_wp_marks Tryd.func32 rfl trivial ?_ rfl
  simp only [Tryd.ntmps32, List.size_toArray, List.length_cons, List.length_nil, Nat.reduceAdd, Nat.reduceSub, Array.replicate_succ, Array.replicate_zero, List.push_toArray, List.append_toArray, List.nil_append, List.cons_append]
  gi_wp2_with (refine ⟨trivial, ?_⟩; gi_at_call 53; refine (callsIn_wide.2 HSP.out).mono ?_; rintro e w' ⟨rfl, hw'⟩; rw [← hw']; clear hw' w')
  clear HSP
  refine range_seen (gf := 90) (lb := #[.pointer (some ⟨w.heap.size + 6, 0, none⟩), .pointer (some ⟨w.heap.size + 5, 0, none⟩), .pointer (some ⟨w.heap.size + 7, 0, none⟩)]) rfl (enters_of Tryd.func90 (by kernel_rfl) rfl)
    (seq1_hands 4 10 l (w.heap.size + 5) (w.heap.size + 6) (w.heap.size + 7) w8 (by omega) (by omega) (by omega)) (Below.refl _ _) w.heap.size (by omega) (by omega)
    (fun k W => ∃ acc, LJ w acc k W ∧ LG l acc k ∧ acc.length ≤ 64) (fun c k W => c = .ret ∧ ∃ n er, LX w n er W ∧ linesR l = ([], n, er))
    ?hX ?hXp ?hJp ?hJxp ?hJs ?hC HT8.out ?hTb ?hJ0
    (fun k vs => { tmps := #[.string (mk l), undef, .pointer (some ⟨w.heap.size, 0, none⟩), .pointer (some ⟨w.heap.size + 1, 0, none⟩), .pointer (some ⟨w.heap.size + 1 + 1, 0, none⟩), .pointer (some ⟨w.heap.size + 1 + 1 + 1, 0, none⟩), .pointer (some ⟨w.heap.size + 1 + 1 + 1 + 1, 0, none⟩), vs.getD 0 undef, undef, undef, .string (mk l), .func (.func 90) #[] #[.pointer (some ⟨w.heap.size + 6, 0, none⟩), .pointer (some ⟨w.heap.size + 5, 0, none⟩), .pointer (some ⟨w.heap.size + 7, 0, none⟩)], vs.getD 0 undef, undef, undef, undef, undef, undef, undef, undef, undef, undef, undef, undef, undef, undef, undef, undef, undef, undef, undef, undef, undef, undef, undef, undef, undef, undef, undef, undef, undef, undef], defers := [] })
    ?assign ?body ?done ?stop
  case hX => rintro k vs W hv; unfold PieceC at hv; subst hv; rfl
  case hXp => rintro k vs W o hv hr; exact hv
  case hJp =>
    rintro k W o ⟨acc, h1, h2⟩ hr
    exact ⟨acc, h1.keep (KeepX.rec o hr) (below_put _ (by omega)), h2⟩
  case hJxp =>
    rintro c k W o ⟨h0, n, er, h1, h2⟩ hr
    exact ⟨h0, n, er, h1.keep (KeepX.rec o hr) (below_put _ (by omega)), h2⟩
  case hJs =>
    rintro k W W' ⟨acc, h1, h2⟩ hs hb
    exact ⟨acc, h1.keep (KeepX.still hs) hb, h2⟩
  case hC =>
    rintro k W ⟨acc, h1, h2⟩
    exact ⟨cellOne h1.sep, cellOne h1.sav⟩
  case hTb =>
    rintro W ⟨h1, h2⟩ hb
    exact ⟨by rw [hb.cell (p := ⟨w.heap.size + 5, 0, none⟩) (by show w.heap.size + 5 < _; omega)]; exact h1, by rw [hb.frozen (p := ⟨w.heap.size + 5, 0, none⟩) (by show w.heap.size + 5 < _; omega)]; exact h2⟩
  case hJ0 =>
    intro r
    have hbb : Below w8.heap.size w8 ((w8.alloc (.deferred (some []))).alloc (.loop r)) := ((Below.refl _ _).alloc (Nat.le_refl _) _).alloc (by simp) _
    exact ⟨[], HJ8.out.keep (KeepX.below hbb) (hbb.mono (by omega)), HG0.out, by simp⟩
  case assign =>
    rintro l' k vs W K hv hK
    unfold PieceC at hv
    subst hv
    gi_wp2
    exact hK
  case body =>
    rintro k vs W hk ⟨acc, h1, h2, h3⟩ hv hlt hrec hdf
    obtain ⟨p, hp⟩ : ∃ p, (cutc 10 l)[k]? = some p := ⟨_, List.getElem?_eq_getElem hk⟩
    unfold PieceC at hv
    rw [List.getD_eq_getElem?_getD, hp] at hv
    simp only [Option.getD_some] at hv
    subst hv
    have HNX := Lib.hid (h2.next hp)
    have hlen := cutc_len 10 l
    have hw1 : IntKind.i64.wrap ((k : Int) + 1) = (k : Int) + 1 := IntWalk.i64_in _ (by omega)
    have hpl := cutc_mem 10 l p (List.mem_of_getElem? hp)
    obtain ⟨W1, hW1⟩ : ∃ W1, W1 = W.setCell ⟨w.heap.size + 4, 0, none⟩ (.int .i64 ((k : Int) + 1)) := ⟨_, rfl⟩
    have HJ1 : Hid (LJ w acc (k + 1) W1) := by show LJ _ _ _ _; rw [hW1]; exact h1.count
    have HO1 : Hid (∀ b, b ≠ w.heap.size + 4 → W1.heap[b]? = W.heap[b]?) := fun b hb => by rw [hW1]; exact setOther _ hb
    have HS1 : Hid (W1.heap.size = W.heap.size) := by show _ = _; rw [hW1]; simp [World.setCell]
    have c4 : W.cell? ⟨w.heap.size + 1 + 1 + 1 + 1, 0, none⟩ = some (.int .i64 (k : Int)) := cellOne h1.num
    have f4 : W.frozen? ⟨w.heap.size + 1 + 1 + 1 + 1, 0, none⟩ = false := unfrozen h1.num
    have HW1 : Hid (W1 = W.setCell ⟨w.heap.size + 1 + 1 + 1 + 1, 0, none⟩ (.int .i64 ((k : Int) + 1))) := hW1
    have HL3 := Lib.hid h3
    have HBIG := Lib.hid h1.big
    have HREC := Lib.hid hrec
    have HDF := Lib.hid hdf
    clear h1 h2 h3 hW1 hlen hrec hdf hk
    by_cases hps : passed p = true
    · have HEND : Hid (LG l acc (k + 1)) := by
        show _ = _
        rw [HNX.out, linesGo, if_pos hps]
      have hor : p = [] ∨ (p ≠ [] ∧ nb p 0 = 35) := by
        by_cases e : p = []
        · exact .inl e
        · exact .inr ⟨e, (of_decide_eq_true hps).resolve_left e⟩
      clear hps HNX
      have fin : RangeCap.Left (w.heap.size + 5) (w8.heap.size + 1) w8.heap.size (fun k W => ∃ acc, LJ w acc k W ∧ LG l acc k ∧ acc.length ≤ 64) (fun c k W => c = Code.ret ∧ ∃ n er, LX w n er W ∧ linesR l = ([], n, er)) (k + 1) W .normal { tmps := #[], defers := [] } W1 :=
        ⟨⟨HO1.out _ (by omega), HO1.out _ (by omega)⟩, ⟨acc, HJ1.out, HEND.out, HL3.out⟩, HO1.out _ (by omega), Nat.le_of_eq HS1.out.symm⟩
      have FIN := Lib.hid fin
      clear fin
      rw [HW1.out] at FIN
      clear HJ1 HO1 HS1 HW1 HEND
      rcases hor with h | ⟨h, h35⟩
      · have he := emptyT h
        clear h
        generalize mk p = s at *
        gi_wp2
        exact FIN.out
      · have he := emptyF h
        have hx0 := run_at p 0 (by cases p with | nil => exact absurd rfl h | cons a b => simp)
        simp only [Int.cast_ofNat_Int] at hx0
        rw [bt_nb, h35] at hx0
        clear h h35
        generalize mk p = s at *
        gi_wp2
        exact FIN.out
    · have hnp : ¬ (p = [] ∨ nb p 0 = 35) := fun h => hps (decide_eq_true h)
      have hp0 : p ≠ [] := fun h => hnp (.inl h)
      have he := emptyF hp0
      have hx0 := run_at p 0 (by cases p with | nil => exact absurd rfl hp0 | cons a b => simp)
      simp only [Int.cast_ofNat_Int] at hx0
      rw [bt_nb] at hx0
      have hq : (((nb p 0 : Nat) : Int) == 35) = false := by
        have : ¬ ((nb p 0 : Int) = 35) := fun h => hnp (.inr (by omega))
        simpa using this
      have HPA : Hid (Calls Tryd.prog 30 #[.string (mk p)] W1 fun e w' => e = .returned (.tuple #[(parseR p).1.val, .int .i64 (parseR p).2]) ∧ Below W1.heap.size W1 w') := parse_ru p W1 (by have := HLL.out; omega)
      obtain ⟨er, her⟩ : ∃ er, er = (parseR p).2 := ⟨_, rfl⟩
      obtain ⟨ru, hru⟩ : ∃ ru, ru = (parseR p).1 := ⟨_, rfl⟩
      have HNX2 : Hid (linesR l = if er ≠ 0 then ([], (k : Int) + 1, er) else if acc.length = 64 then ([], (k : Int) + 1, 7) else linesGo (acc ++ [ru]) (k + 1) ((cutc 10 l).drop (k + 1))) := by
        show _ = _
        rw [HNX.out, linesGo, if_neg hps, ← her, ← hru]
      rw [← her, ← hru] at HPA
      obtain ⟨act, pat, di, an⟩ := ru
      unfold Ru.val at HPA
      simp only at HPA
      obtain ⟨v, hvr, hvo⟩ := HJ1.out.out
      obtain ⟨av, cv, ev⟩ := hvo.slice
      obtain ⟨na, hna⟩ : ∃ n, n = acc.length := ⟨_, rfl⟩
      rw [← hna] at ev
      subst ev
      have HVR := Lib.hid hvr
      have HVO := Lib.hid hvo
      have HNA := Lib.hid hna
      clear hps hnp hp0 her hru HNX hpl hvr hvo hna
      have pc : ∀ w2 : World, Below W1.heap.size W1 w2 → LJ w acc (k + 1) (w2.alloc (.cells #[.int .i64 act, .string (mk pat), .bool di, .bool an] 42)) ∧ Below W1.heap.size W1 (w2.alloc (.cells #[.int .i64 act, .string (mk pat), .bool di, .bool an] 42)) := by
        intro w2 hb
        have hb3 : Below W1.heap.size W1 (w2.alloc (.cells #[.int .i64 act, .string (mk pat), .bool di, .bool an] 42)) := hb.trans ((Below.refl _ _).alloc hb.size _)
        exact ⟨HJ1.out.keep (KeepX.below hb3) (hb3.mono (by have := HS1.out; omega)), hb3⟩
      have PC := Lib.hid pc
      have pv : ∀ w2 : World, Below W1.heap.size W1 w2 → (w2.alloc (.cells #[.int .i64 act, .string (mk pat), .bool di, .bool an] 42)).heap[w.heap.size + 3]? = some (.cells #[.slice av na cv] 37) := by
        intro w2 hb
        rw [(pc w2 hb).2.block _ (by have := HS1.out; omega)]; exact HVR.out
      have PV := Lib.hid pv
      have pr : ∀ w2 : World, Below W1.heap.size W1 w2 → ∀ n er : Int, linesR l = ([], n, er) → RangeCap.Left (w.heap.size + 5) (w8.heap.size + 1) w8.heap.size (fun k W => ∃ acc, LJ w acc k W ∧ LG l acc k ∧ acc.length ≤ 64) (fun c k W => c = Code.ret ∧ ∃ n er, LX w n er W ∧ linesR l = ([], n, er)) (k + 1) W .ret { tmps := #[], defers := [] } ((((w2.alloc (.cells #[.int .i64 act, .string (mk pat), .bool di, .bool an] 42)).drew.setCell ⟨w.heap.size, 0, none⟩ (.slice none 0 0)).setCell ⟨w.heap.size + 1, 0, none⟩ (.int .i64 n)).setCell ⟨w.heap.size + 2, 0, none⟩ (.int .i64 er)) := by
        intro w2 hb n er hh
        obtain ⟨q1, q2⟩ := pc w2 hb
        have hsz := HS1.out
        have q3 := q2.drew
        refine ⟨⟨?_, ?_⟩, rfl, n, er, LX.of q1.drew n er, hh⟩
        · rw [setOther _ (by omega), setOther _ (by omega), setOther _ (by omega), q3.block _ (by omega), HO1.out _ (by omega)]
        · rw [setOther _ (by omega), setOther _ (by omega), setOther _ (by omega), q3.block _ (by omega), HO1.out _ (by omega)]
      have PR := Lib.hid pr
      clear pc pv pr
      generalize hmp : mk p = s at *
      generalize hsp : mk pat = sp at *
      have HSP := Lib.hid hsp
      clear hmp hsp
      generalize nb p 0 = c0 at *
      rw [HW1.out] at HPA
      by_cases hz : er = 0
      · subst hz
        by_cases h64 : acc.length = 64
        · have hD : ((na : Int) == 64) = true := by have := HNA.out; simp; omega
          have HFN : Hid (linesR l = ([], (k : Int) + 1, 7)) := by show _ = _; rw [HNX2.out, if_neg (by simp), if_pos h64]
          clear h64 HNX2
          gi_wp2_with (refine ⟨trivial, ?_⟩; gi_at_call 30; refine (CallsIn.inRound _ (callsIn_wide.2 HPA.out)).mono ?_; rintro e w2 ⟨rfl, hb⟩; rw [← HW1.out] at hb; have HB := Lib.hid hb; clear hb; obtain ⟨a1, a2⟩ := PC.out w2 HB.out; have d4 : World.cell? _ ⟨w.heap.size + 1 + 1 + 1 + 1, 0, none⟩ = some (.int .i64 ((k : Int) + 1)) := cellOne a1.num; have d3 : World.cell? _ ⟨w.heap.size + 1 + 1 + 1, 0, none⟩ = _ := cellOne (PV.out w2 HB.out); have g0 := unfrozen (i := 0) a1.r0; have g1 : World.frozen? _ ⟨w.heap.size + 1, 0, none⟩ = false := unfrozen a1.r1; have g2 : World.frozen? _ ⟨w.heap.size + 1 + 1, 0, none⟩ = false := unfrozen a1.r2; have o0 := cellOne a1.r0; have o1 : World.cell? _ ⟨w.heap.size + 1, 0, none⟩ = _ := cellOne a1.r1; have o2 : World.cell? _ ⟨w.heap.size + 1 + 1, 0, none⟩ = _ := cellOne a1.r2; clear a1 a2)
          gi_region
          all_goals (first | exact PR.out _ HB.out _ _ HFN.out | (gi_wp2; exact PR.out _ HB.out _ _ HFN.out))
        · have hD : ((na : Int) == 64) = false := by
            have h1 : ¬ (na : Int) = 64 := by have := HNA.out; omega
            simpa using h1
          have HFN : Hid (LG l (acc ++ [⟨act, pat, di, an⟩]) (k + 1)) := by show linesR l = _; rw [HNX2.out, if_neg (by simp), if_neg h64]
          have HLT : Hid ((acc ++ [(⟨act, pat, di, an⟩ : Ru)]).length ≤ 64) := by show _ ≤ _; have := HL3.out; rw [List.length_append]; simp only [List.length_cons, List.length_nil]; omega
          have p4 : ∀ w2 : World, Below W1.heap.size W1 w2 → Below W1.heap.size W1 ((w2.alloc (.cells #[.int .i64 act, .string sp, .bool di, .bool an] 42)).alloc (.cells #[.int .i64 act, .string sp, .bool di, .bool an] 42)) :=
            fun w2 hb => (hb.trans ((Below.refl _ _).alloc hb.size _)).alloc (by rw [World.size_alloc]; have := hb.size; omega) _
          have P4 := Lib.hid p4
          have po : ∀ w2 : World, Below W1.heap.size W1 w2 → RuOwn ((w2.alloc (.cells #[.int .i64 act, .string sp, .bool di, .bool an] 42)).alloc (.cells #[.int .i64 act, .string sp, .bool di, .bool an] 42)) (w.heap.size + 8) (.slice av na cv) acc :=
            fun w2 hb => (KeepX.below (tb := w.heap.size + 5) (p4 w2 hb)).row HVO.out (by omega)
          have PO := Lib.hid po
          have pcs : ∀ (w2 : World) (j : Nat) (u : Value), (Ru.cs ⟨act, pat, di, an⟩)[j]? = some u → ((w2.alloc (.cells #[.int .i64 act, .string sp, .bool di, .bool an] 42)).alloc (.cells #[.int .i64 act, .string sp, .bool di, .bool an] 42)).cell? ⟨w2.heap.size + 1, j, none⟩ = some u := by
            intro w2 j u hj
            have hr := heap_new (w2.alloc (.cells #[.int .i64 act, .string sp, .bool di, .bool an] 42)) (.cells #[.int .i64 act, .string sp, .bool di, .bool an] 42)
            rw [World.size_alloc] at hr
            rw [cell_of_row _ _ j _ _ (0, 0) hr]
            unfold Ru.cs at hj
            rw [HSP.out] at hj
            simpa using hj
          have PCS := Lib.hid pcs
          clear h64 HNX2 p4 po pcs
          gi_wp2_with (first
            | (refine ⟨trivial, ?_⟩; gi_at_call 30; refine (CallsIn.inRound _ (callsIn_wide.2 HPA.out)).mono ?_; rintro e w2 ⟨rfl, hb⟩; rw [← HW1.out] at hb; have HB := Lib.hid hb; clear hb; obtain ⟨a1, a2⟩ := PC.out w2 HB.out; have d3 : World.cell? _ ⟨w.heap.size + 1 + 1 + 1, 0, none⟩ = _ := cellOne (PV.out w2 HB.out); clear a1 a2)
            | (gi_at_builtin; go_must (refine appendIn_ru _ rfl (.tmp 37) (.tmp 39) rfl (w.heap.size + 8) (.slice av na cv) acc ⟨act, pat, di, an⟩ rfl (PO.out _ HB.out) _ 1 rfl (PCS.out _) (by have := HL3.out; omega) (by have := (P4.out _ HB.out).size; have := HS1.out; have := HBIG.out; omega) ?_)))
          intro v5 w5 hown5 hg5 hblk5
          have hj5 : LJ w (acc ++ [⟨act, pat, di, an⟩]) (k + 1) (w5.setCell ⟨w.heap.size + 3, 0, none⟩ v5) := LJ.grow (HJ1.out.keep (KeepX.below (P4.out _ HB.out)) ((P4.out _ HB.out).mono (by have := HS1.out; have := HBIG.out; omega))) (PO.out _ HB.out) hown5 hg5
          have h5o : ∀ g, g < W.heap.size → (Value.slice av na cv).ownBlock ≠ some g → g ≠ w.heap.size + 4 → w5.heap[g]? = W.heap[g]? := by
            intro g hgl hne hn4
            have h1 := HS1.out
            rw [hg5.block g (by have := (P4.out _ HB.out).size; omega) (fun e => hne e.symm), (P4.out _ HB.out).block g (by omega), HO1.out g hn4]
          have hob : ∀ g, (Value.slice av na cv).ownBlock = some g → w.heap.size + 8 ≤ g ∧ ∃ cs t, W1.heap[g]? = some (.cells cs t) := by
            intro g hgo
            have h1 := HVO.out
            refine ⟨(World.ownsRow.lt h1 g hgo).1, ?_⟩
            obtain ⟨q1, q2⟩ := h1
            rcases q2 with ⟨q2, -⟩ | ⟨b, cap, cur, e3, e4, e5, e6⟩
            · rw [q2] at hgo; cases hgo
            · rw [e3] at hgo
              injection hgo with hgo
              subst hgo
              exact ⟨_, _, e5⟩
          have hd5 : w5.heap[w8.heap.size]? = W.heap[w8.heap.size]? := by
            refine h5o _ (by omega) (fun e => ?_) (by omega)
            obtain ⟨-, cs, t, h⟩ := hob _ e
            rw [HO1.out _ (by omega), HDF.out] at h; cases h
          have hl5 : w5.heap[w8.heap.size + 1]? = W.heap[w8.heap.size + 1]? := by
            refine h5o _ (by omega) (fun e => ?_) (by omega)
            obtain ⟨-, cs, t, h⟩ := hob _ e
            obtain ⟨r, hr⟩ := HREC.out
            rw [HO1.out _ (by omega), hr] at h; cases h
          have ht5 : w5.heap[w.heap.size + 5]? = W.heap[w.heap.size + 5]? := h5o _ (by omega) (fun e => by have := (hob _ e).1; omega) (by omega)
          have h35 : w5.heap[w.heap.size + 3]? = some (.cells #[.slice av na cv] 37) := by
            rw [h5o _ (by omega) (fun e => by have := (hob _ e).1; omega) (by omega), ← HO1.out _ (by omega)]; exact HVR.out
          have hs5 : W.heap.size ≤ w5.heap.size := by have h1 := hg5.size; have h2 := (P4.out _ HB.out).size; have := HS1.out; omega
          have fin : RangeCap.Left (w.heap.size + 5) (w8.heap.size + 1) w8.heap.size (fun k W => ∃ acc, LJ w acc k W ∧ LG l acc k ∧ acc.length ≤ 64) (fun c k W => c = Code.ret ∧ ∃ n er, LX w n er W ∧ linesR l = ([], n, er)) (k + 1) W .normal { tmps := #[], defers := [] } (w5.setCell ⟨w.heap.size + 3, 0, none⟩ v5) :=
            ⟨⟨(setOther _ (by omega)).trans hl5, (setOther _ (by omega)).trans hd5⟩, ⟨_, hj5, HFN.out, HLT.out⟩, (setOther _ (by omega)).trans ht5, by simp [World.setCell]; omega⟩
          have FIN := Lib.hid fin
          obtain ⟨a5, c5, e5⟩ := hown5.slice
          generalize (acc ++ [(⟨act, pat, di, an⟩ : Ru)]).length = n5 at e5
          have e3 : w5.cell? ⟨w.heap.size + 1 + 1 + 1, 0, none⟩ = _ := cellOne h35
          have e3f : w5.frozen? ⟨w.heap.size + 1 + 1 + 1, 0, none⟩ = false := unfrozen h35
          clear hj5 h5o hob hd5 hl5 ht5 h35 hs5 fin hown5 hg5 hblk5
          subst e5
          gi_wp2
          exact FIN.out
      · have hD : (er == 0) = false := by simpa using hz
        have HFN : Hid (linesR l = ([], (k : Int) + 1, er)) := by show _ = _; rw [HNX2.out, if_pos hz]
        clear hz HNX2
        gi_wp2_with (refine ⟨trivial, ?_⟩; gi_at_call 30; refine (CallsIn.inRound _ (callsIn_wide.2 HPA.out)).mono ?_; rintro e w2 ⟨rfl, hb⟩; rw [← HW1.out] at hb; have HB := Lib.hid hb; clear hb; obtain ⟨a1, a2⟩ := PC.out w2 HB.out; have d4 : World.cell? _ ⟨w.heap.size + 1 + 1 + 1 + 1, 0, none⟩ = some (.int .i64 ((k : Int) + 1)) := cellOne a1.num; have d3 : World.cell? _ ⟨w.heap.size + 1 + 1 + 1, 0, none⟩ = _ := cellOne (PV.out w2 HB.out); have g0 := unfrozen (i := 0) a1.r0; have g1 : World.frozen? _ ⟨w.heap.size + 1, 0, none⟩ = false := unfrozen a1.r1; have g2 : World.frozen? _ ⟨w.heap.size + 1 + 1, 0, none⟩ = false := unfrozen a1.r2; have o0 := cellOne a1.r0; have o1 : World.cell? _ ⟨w.heap.size + 1, 0, none⟩ = _ := cellOne a1.r1; have o2 : World.cell? _ ⟨w.heap.size + 1 + 1, 0, none⟩ = _ := cellOne a1.r2; clear a1 a2)
        gi_region
        all_goals (first | exact PR.out _ HB.out _ _ HFN.out | (gi_wp2; exact PR.out _ HB.out _ _ HFN.out))
  case done =>
    rintro W ⟨acc, h1, h2, h3⟩ hdf hlt
    have HLR : Hid (linesR l = (acc, 0, 0)) := by
      show _ = _
      unfold LG at h2
      rw [h2, List.drop_length]; rfl
    obtain ⟨v, h4, h5⟩ := h1.out
    obtain ⟨av, cv, ev⟩ := h5.slice
    generalize hna : acc.length = na at ev
    subst ev
    have c3 : W.cell? ⟨w.heap.size + 1 + 1 + 1, 0, none⟩ = some (.slice av na cv) := cellOne h4
    have f0 := unfrozen (i := 0) h1.r0
    have f1 : W.frozen? ⟨w.heap.size + 1, 0, none⟩ = false := unfrozen h1.r1
    have f2 : W.frozen? ⟨w.heap.size + 1 + 1, 0, none⟩ = false := unfrozen h1.r2
    obtain ⟨W3, hW3⟩ : ∃ W3, W3 = ((W.setCell ⟨w.heap.size, 0, none⟩ (.slice av na cv)).setCell ⟨w.heap.size + 1, 0, none⟩ (.int .i64 0)).setCell ⟨w.heap.size + 2, 0, none⟩ (.int .i64 0) := ⟨_, rfl⟩
    have x0 : W3.heap[w.heap.size]? = some (.cells #[.slice av na cv] 37) := by rw [hW3, setOther _ (by omega), setOther _ (by omega)]; exact setOne h1.r0
    have x1 : W3.heap[w.heap.size + 1]? = some (.cells #[.int .i64 0] 3) := by rw [hW3, setOther _ (by omega)]; exact setOne ((setOther _ (by omega)).trans h1.r1)
    have x2 : W3.heap[w.heap.size + 2]? = some (.cells #[.int .i64 0] 23) := by rw [hW3]; exact setOne ((setOther _ (by omega)).trans ((setOther _ (by omega)).trans h1.r2))
    have xo : ∀ g, w.heap.size + 3 ≤ g → W3.heap[g]? = W.heap[g]? := fun g hg => by rw [hW3, setOther _ (by omega), setOther _ (by omega), setOther _ (by omega)]
    have xb : Below w.heap.size w W3 := by rw [hW3]; exact ((h1.bel.setCell (Nat.le_refl _) _).setCell (by show _ ≤ w.heap.size + 1; omega) _).setCell (by show _ ≤ w.heap.size + 2; omega) _
    have xd : W3.heap[w8.heap.size]? = some (.deferred (some [])) := (xo _ (by omega)).trans hdf
    have xv : RuOwn (W3.putObj w8.heap.size (.deferred none)) (w.heap.size + 8) (.slice av na cv) acc := by
      obtain ⟨z1, z2⟩ := h5
      refine ⟨z1, ?_⟩
      rcases z2 with z2 | ⟨g, cp, cu, z3, z4, z5, z6⟩
      · exact .inl z2
      · refine .inr ⟨g, cp, cu, z3, z4, ?_, z6⟩
        have hne : g ≠ w8.heap.size := by intro e; subst e; rw [hdf] at z5; cases z5
        rw [World.putObj_heap_other hne, xo _ (by omega)]; exact z5
    have y0 : (W3.putObj w8.heap.size (.deferred none)).cell? ⟨w.heap.size, 0, none⟩ = some (.slice av na cv) := cellOne ((World.putObj_heap_other (by omega)).trans x0)
    have y1 : (W3.putObj w8.heap.size (.deferred none)).cell? ⟨w.heap.size + 1, 0, none⟩ = some (.int .i64 0) := cellOne ((World.putObj_heap_other (by omega)).trans x1)
    have y2 : (W3.putObj w8.heap.size (.deferred none)).cell? ⟨w.heap.size + 1 + 1, 0, none⟩ = some (.int .i64 0) := cellOne ((World.putObj_heap_other (by omega)).trans x2)
    have HB3 := Lib.hid xb
    have HXD := Lib.hid xd
    have HXV := Lib.hid xv
    have HY0 := Lib.hid y0
    have HY1 := Lib.hid y1
    have HY2 := Lib.hid y2
    have HW3 : Hid (W3 = ((W.setCell ⟨w.heap.size, 0, none⟩ (.slice av na cv)).setCell ⟨w.heap.size + 1, 0, none⟩ (.int .i64 0)).setCell ⟨w.heap.size + 1 + 1, 0, none⟩ (.int .i64 0)) := hW3
    have hRR := HRR.out
    rw [HLR.out] at hRR
    injection hRR with e0 hRR
    injection hRR with e1 e2
    have k0 := cellOne h1.r0
    have k1 : W.cell? ⟨w.heap.size + 1, 0, none⟩ = _ := cellOne h1.r1
    have k2 : W.cell? ⟨w.heap.size + 1 + 1, 0, none⟩ = _ := cellOne h1.r2
    clear h1 h2 h3 h4 h5 hdf hna hW3 x0 x1 x2 xo xb xd xv y0 y1 y2
    subst e0 e1 e2
    gi_wp2
    rw [← HW3.out]
    refine ⟨by simp, .inl ⟨_, _, rfl, run_takeDeferred HXD.out, ?_⟩⟩
    have y0 := HY0.out
    have y1 := HY1.out
    have y2 := HY2.out
    refine ⟨.tuple #[.slice av na cv, .int .i64 0, .int .i64 0], ?_, _, rfl, HXV.out, HB3.out.trans (below_put _ (by omega))⟩
    simp [results, loadVar, asAddr, go_sem, y0, y1, y2]
  case stop =>
    rintro c k W hk ⟨rfl, n, er, h1, h2⟩ hdf hlt
    have y0 : (W.putObj w8.heap.size (.deferred none)).cell? ⟨w.heap.size, 0, none⟩ = some (.slice none 0 0) := cellOne ((World.putObj_heap_other (by omega)).trans h1.r0)
    have y1 : (W.putObj w8.heap.size (.deferred none)).cell? ⟨w.heap.size + 1, 0, none⟩ = some (.int .i64 n) := cellOne ((World.putObj_heap_other (by omega)).trans h1.r1)
    have y2 : (W.putObj w8.heap.size (.deferred none)).cell? ⟨w.heap.size + 1 + 1, 0, none⟩ = some (.int .i64 er) := cellOne ((World.putObj_heap_other (by omega)).trans h1.r2)
    have HY0 := Lib.hid y0
    have HY1 := Lib.hid y1
    have HY2 := Lib.hid y2
    have HB3 := Lib.hid h1.bel
    have HXD := Lib.hid hdf
    have HLR := Lib.hid h2
    have hRR := HRR.out
    rw [HLR.out] at hRR
    injection hRR with e0 hRR
    injection hRR with e1 e2
    clear h1 h2 hdf y0 y1 y2
    subst e0 e1 e2
    gi_wp2
    refine ⟨by simp, .inl ⟨_, _, rfl, run_takeDeferred HXD.out, ?_⟩⟩
    have y0 := HY0.out
    have y1 := HY1.out
    have y2 := HY2.out
    refine ⟨.tuple #[.slice none 0 0, .int .i64 n, .int .i64 er], ?_, _, rfl, World.ownsRow_nil _ _ _ _, HB3.out.trans (below_put _ (by omega))⟩
    simp [results, loadVar, asAddr, go_sem, y0, y1, y2]
end Go.Proofs.YtokocfoeohddfaaDoor.Pa
