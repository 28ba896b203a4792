/- path: rows of texts that a call made; what stays. (A template.) -/
import Derived.Test.YtokocfoeohddfaaGreatDoorPaRef
import Derived.Test.YtokocfoeohddfaaGreatDoorPaEach
import Derived.Maps.AppendAt
namespace Go.Proofs.YtokocfoeohddfaaGreatDoor.Pa
open Go.RowKit Go.Shelf Go.Proofs.RangeStr
set_option linter.unusedVariables false
set_option linter.unusedSimpArgs false
set_option maxRecDepth 100000

def strs (ps : List L8) : List Value := ps.map (fun p => .string (mk p))
theorem strs_length (ps : List L8) : (strs ps).length = ps.length := by simp [strs]
theorem strs_app (a b : List L8) : strs (a ++ b) = strs a ++ strs b := by simp [strs]
theorem strs_one (ps : List L8) : ∀ u ∈ strs ps, u.oneCell' = true := by
  intro u hu
  obtain ⟨p, _, rfl⟩ := List.mem_map.1 hu
  rfl
theorem Tryz.infoStr : (Tryz.prog.info? 9).map (fun i => (i.zero, i.size, i.bytes)) = some (some (.string ⟨#[]⟩), 1, 16) := by kernel_rfl

/-- a row of texts that this call made -/
def SOwn (w : World) (base : Nat) (v : Value) (ps : List L8) : Prop := w.ownsRow base 9 1 v ps.length (strs ps)
theorem SOwn.form {w : World} {base : Nat} {v : Value} {ps : List L8} (h : SOwn w base v ps) : (ps = [] ∧ v = .slice none 0 0) ∨ ∃ g cap, v = .slice (some ⟨g, 0, none⟩) ps.length cap ∧ base ≤ g ∧ g < w.heap.size ∧ ps.length ≤ cap ∧ (∃ cur, w.heap[g]? = some (.cells cur 9)) ∧ ∀ j x, ps[j]? = some x → w.cell? ⟨g, 0 + j, none⟩ = some (.string (mk x)) := by
  obtain ⟨h1, h2⟩ := id h
  rcases h2 with ⟨rfl, h0⟩ | ⟨g, cap, cur, rfl, h4, h5, h6, h7, h8, h9⟩
  · exact .inl ⟨List.eq_nil_of_length_eq_zero h0, rfl⟩
  · refine .inr ⟨g, cap, rfl, h4, (Array.getElem?_eq_some_iff.1 h5).1, h6, ⟨cur, h5⟩, fun j x hj => ?_⟩
    have hlt : j < ps.length := by
      rcases Nat.lt_or_ge j ps.length with h | h
      · exact h
      · rw [List.getElem?_eq_none h] at hj; cases hj
    have := World.ownsRow.cellAt h j (by omega)
    rw [Nat.zero_add, this]
    simp [strs, hj]

theorem SOwn.slice {w : World} {base : Nat} {v : Value} {ps : List L8} (h : SOwn w base v ps) : ∃ a c, v = .slice a ps.length c := by
  rcases h.form with ⟨rfl, rfl⟩ | ⟨g, cap, rfl, _⟩
  · exact ⟨none, 0, rfl⟩
  · exact ⟨_, cap, rfl⟩
theorem SOwn.base_le {w : World} {base : Nat} {v : Value} {ps : List L8} (h : SOwn w base v ps) : ∀ k, v.ownBlock = some k → base ≤ k ∧ k < w.heap.size := fun k hk => World.ownsRow.lt h k hk
/-- an append of one text to such a row, inside a fence -/
theorem appendIn_str {F : Fence} {n : Nat} (w : World) {ops : Array Oper} {rest : List Oper} {o : Oper} {a : Act} {Q : Exit → Act → World → Prop}
    (hg : o.guard = none) (s x : Operand) (hop : o.op = Op.call { callee := Callee.builtin Builtin.append, args := #[s, x], argTypes := #[48, 48] })
    (base : Nat) (v : Value) (ps : List L8) (p : L8) (hs : a.eval s = v) (hown : SOwn w base v ps) (ad : Addr) (c : Nat) (hx : a.eval x = .slice (some ad) 1 c)
    (hc : w.cell? ad = some (.string (mk p))) (hl : ps.length ≤ 1000000) (b3 : base ≤ w.heap.size)
    (hK : ∀ v' w', SOwn w' base v' (ps ++ [p]) → w.grownBy w' v.ownBlock → (v'.ownBlock = v.ownBlock ∨ v'.ownBlock = some w.heap.size) → wpListIn F n Tryz.prog ops Q rest (a.put o.dst v') w') :
    wpListIn F n Tryz.prog ops Q (o :: rest) a w := by
  obtain ⟨i0, hi, hz0, hz1, hz2⟩ := info_parts Tryz.infoStr
  refine wpListIn_plain hg fun K hK' => ?_
  obtain ⟨v', w', hrun, r1, r2, r3, r4⟩ := run_append_own_at (P := Tryz.prog) w base 48 o.type 9 i0 (.string ⟨#[]⟩) 1 16 Tryz.underlying48 hi hz0 hz1 hz2 rfl (by decide) v ps.length (strs ps) hown ad 1 c (strs [p]) rfl
    (by intro j u hj
        cases j with
        | zero => simp [strs] at hj; subst hj; simpa [Addr.add] using hc
        | succ j => simp [strs] at hj) (strs_one _) (by unfold maxLen; omega) (by omega) b3
  unfold Oper.wpIn
  refine ⟨?_, ?_⟩
  · simp [Oper.about, hop, resolve, Target.leads, Sem.run_pure]
  · rw [Oper.semAt_plain F _ _ (by rw [hop]; intro c hc'; cases hc')]
    simp [execOp, hop, resolve, invoke, builtin, hs, hx, hrun, Result.andThen]
    refine hK' _ _ (hK v' w' ?_ r2 r4)
    show w'.ownsRow base 9 1 v' (ps ++ [p]).length (strs (ps ++ [p]))
    rw [strs_app, List.length_append]
    exact r1

/-- cells and marks stay -/
def KeepCD (W W' : World) : Prop := W.heap.size ≤ W'.heap.size ∧ ∀ (b : Nat) (o : Obj), W.heap[b]? = some o → ((∃ c t fr, o = .cells c t fr) ∨ ∃ d, o = .deferred d) → W'.heap[b]? = some o
theorem KeepCD.still {W W' : World} (h : Still W W') : KeepCD W W' := ⟨h.2.2.2.1, fun b o hb ho => h.2.2.2.2 b o hb (fun s p e => by
  subst e
  rcases ho with ⟨_, _, _, e⟩ | ⟨_, e⟩ <;> cases e)⟩
theorem KeepCD.below {W W' : World} (h : Below W.heap.size W W') : KeepCD W W' := KeepCD.still (Still.below h)
theorem KeepCD.put {W : World} {l : Nat} {o : Obj} {r : Loop} (h : W.heap[l]? = some (.loop r)) : KeepCD W (W.putObj l o) := ⟨by simp [World.putObj], fun b x hb hx => by
  have hne : b ≠ l := by
    intro e; subst e; rw [h] at hb; cases hb
    rcases hx with ⟨_, _, _, e⟩ | ⟨_, e⟩ <;> cases e
  rw [World.putObj_heap_other hne]; exact hb⟩
theorem KeepCD.rec {W : World} {l : Nat} (o : Obj) (h : Rec W l) : KeepCD W (W.putObj l o) := by obtain ⟨r, hr⟩ := h; exact KeepCD.put hr
theorem KeepCD.drop {W W' : World} {r : Nat} (h : KeepCD W W') : True := trivial
theorem KeepCD.cells {W W' : World} (h : KeepCD W W') {b : Nat} {c : Array Value} {t : TypeId} {fr : Nat × Nat} (hb : W.heap[b]? = some (.cells c t fr)) : W'.heap[b]? = some (.cells c t fr) := h.2 b _ hb (.inl ⟨_, _, _, rfl⟩)
theorem KeepCD.def {W W' : World} (h : KeepCD W W') {b : Nat} {d : Option (List Deferred)} (hb : W.heap[b]? = some (.deferred d)) : W'.heap[b]? = some (.deferred d) := h.2 b _ hb (.inr ⟨_, rfl⟩)
theorem KeepCD.row {W W' : World} (h : KeepCD W W') {base : Nat} {e : TypeId} {size : Nat} {v : Value} {n : Nat} {xs : List Value} (ho : W.ownsRow base e size v n xs) : W'.ownsRow base e size v n xs := by
  obtain ⟨h1, h2⟩ := ho
  refine ⟨h1, ?_⟩
  rcases h2 with h2 | ⟨g, cap, cur, h3, h4, h5, h6⟩
  · exact .inl h2
  · exact .inr ⟨g, cap, cur, h3, h4, h.cells h5, h6⟩
/-- what is no cells stays -/
def NonCells (W W' : World) : Prop := ∀ (b : Nat) (o : Obj), W.heap[b]? = some o → o.isCells = false → W'.heap[b]? = some o
theorem NonCells.refl (W : World) : NonCells W W := fun _ _ h _ => h
theorem NonCells.trans {a b c : World} (h : NonCells a b) (k : NonCells b c) : NonCells a c := fun x o hx ho => k x o (h x o hx ho) ho
theorem NonCells.iters {W W' : World} (h : NonCells W W') : Iters W W' := fun b s p hb => h b _ hb rfl
theorem NonCells.below {W W' : World} (h : Below W.heap.size W W') : NonCells W W' := fun b o hb _ => by rw [h.block b (heap_lt hb)]; exact hb
theorem NonCells.set {W : World} {g i : Nat} {cs : Array Value} {t : TypeId} {fr : Nat × Nat} (h : W.heap[g]? = some (.cells cs t fr)) (v : Value) : NonCells W (W.setCell ⟨g, i, none⟩ v) := fun b o hb ho => by
  have hne : b ≠ g := by intro e; subst e; rw [h] at hb; cases hb; simp [Obj.isCells] at ho
  rw [Below.heap_setCell _ _ _ _ hne]; exact hb
theorem NonCells.grown {W W' : World} {base : Nat} {v : Value} {ps : List L8} (ho : SOwn W base v ps) (h : W.grownBy W' v.ownBlock) : NonCells W W' := fun b o hb hc => by
  rw [h.block b (heap_lt hb) ?_]; exact hb
  intro e
  rcases ho.form with ⟨_, rfl⟩ | ⟨g, cap, rfl, _, _, _, ⟨cur, hg⟩, _⟩
  · simp [Value.ownBlock] at e
  · simp [Value.ownBlock] at e
    subst e
    rw [hg] at hb; cases hb; simp [Obj.isCells] at hc

theorem NonCells.same {W W' : World} (h : NonCells W W') {l : Nat} (hl : Rec W l) : W'.heap[l]? = W.heap[l]? := by obtain ⟨r, hr⟩ := hl; rw [h l _ hr rfl, hr]
theorem NonCells.same' {W W' : World} (h : NonCells W W') {l : Nat} {d : Option (List Deferred)} (hl : W.heap[l]? = some (.deferred d)) : W'.heap[l]? = W.heap[l]? := by rw [h l _ hl rfl, hl]
/-- the mark that a range statement leaves among the deferred calls -/
abbrev mkD (r : Nat) : Deferred := { target := .collected r, args := #[] }
/-- the marks lie in blocks made since -/
def Mks (m : Nat) (rs : List Nat) (W : World) : Prop := rs.Nodup ∧ ∀ r ∈ rs, m ≤ r ∧ W.heap[r]? = some (.deferred (some []))
theorem Mks.keep {m : Nat} {rs : List Nat} {W W' : World} (h : Mks m rs W) (k : KeepCD W W') : Mks m rs W' := ⟨h.1, fun r hr => ⟨(h.2 r hr).1, k.def (h.2 r hr).2⟩⟩
theorem Mks.non {m : Nat} {rs : List Nat} {W W' : World} (h : Mks m rs W) (k : NonCells W W') : Mks m rs W' := ⟨h.1, fun r hr => ⟨(h.2 r hr).1, k r _ (h.2 r hr).2 rfl⟩⟩
theorem below_put {W : World} {n l : Nat} (o : Obj) (h : n ≤ l) : Below n W (W.putObj l o) := ⟨rfl, rfl, rfl, by simp [World.putObj], fun k hk => World.putObj_heap_other (by omega)⟩
theorem leaves_marks {n : Nat} {fn : Func} {tmps : Array Value} {R : Ending → World → Prop} {m : Nat} : ∀ (rs : List Nat) (W : World), Mks m rs W →
    (∀ W' : World, Below m W W' → (∀ (b : Nat) (c : Array Value) (t : TypeId) (fr : Nat × Nat), W.heap[b]? = some (Obj.cells c t fr) → W'.heap[b]? = some (Obj.cells c t fr)) → LeavesIn Fence.wide n Tryz.prog fn tmps R [] .returning W') → LeavesInM Fence.wide n Tryz.prog fn tmps R (rs.map mkD) .returning W := by
  intro rs
  induction rs with
  | nil => intro W _ h; exact h W (Below.refl _ _) (fun _ _ _ _ h => h)
  | cons r rs ih =>
    rintro W ⟨h2, h3⟩ h
    have hr := h3 r (by simp)
    refine ⟨by simp, .inl ⟨r, _, rfl, run_takeDeferred hr.2, ih _ ⟨(List.nodup_cons.1 h2).2, ?_⟩ ?_⟩⟩
    · intro q hq
      refine ⟨(h3 q (by simp [hq])).1, ?_⟩
      have hne : q ≠ r := by intro e; subst e; exact (List.nodup_cons.1 h2).1 hq
      rw [World.putObj_heap_other (by omega)]
      exact (h3 q (by simp [hq])).2
    · intro W' hb hc
      refine h W' ((below_put _ hr.1).trans hb) (fun b c t fr h1 => hc b c t fr ?_)
      have hne : b ≠ r := by intro e; subst e; rw [hr.2] at h1; cases h1
      rw [World.putObj_heap_other hne]; exact h1
theorem Mks.add {m : Nat} {W : World} {rs : List Nat} {r : Nat} (h : Mks m rs W) (hr : m ≤ r) (hn : r ∉ rs) (hd : W.heap[r]? = some (.deferred (some []))) : Mks m (r :: rs) W :=
  ⟨List.nodup_cons.2 ⟨hn, h.1⟩, fun q hq => by
    rcases List.mem_cons.1 hq with rfl | hq
    · exact ⟨hr, hd⟩
    · exact h.2 q hq⟩
theorem cell1 {W : World} {g : Nat} {v : Value} {t : TypeId} (h : W.heap[g]? = some (.cells #[v] t)) : W.cell? ⟨g, 0, none⟩ = some v := by rw [cell_of_row W g 0 _ _ (0, 0) h]; rfl
end Go.Proofs.YtokocfoeohddfaaGreatDoor.Pa
