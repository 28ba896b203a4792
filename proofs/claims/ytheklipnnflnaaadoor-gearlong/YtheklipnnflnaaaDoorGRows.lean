/- Rows of slices that a call made, one more; bytes.Clone. (A template: seatgen.py fills it.) -/
import Derived.Test.YtheklipnnflnaaaDoorGOwn
import Derived.Lib.SliceRun
namespace Go.Proofs.YtheklipnnflnaaaDoor.GRows
open Go.RowKit
set_option linter.unusedVariables false
set_option maxRecDepth 100000

theorem run_isnil (n cap : Nat) (W : World) : (binOp .eql 33 (.slice none n cap) (.slice none 0 0)).run Tryd.prog W = .ok (.bool true) W :=
  Lib.run_eql_slice_nil W 33 5 none n cap 0 0 Tryd.underlying33
theorem run_notnil (ad : Addr) (n cap : Nat) (W : World) : (binOp .eql 33 (.slice (some ad) n cap) (.slice none 0 0)).run Tryd.prog W = .ok (.bool false) W :=
  Lib.run_eql_slice_nil W 33 5 (some ad) n cap 0 0 Tryd.underlying33

set_option maxHeartbeats 1000000 in
theorem clone_any (u : Value) (l : List Int) (w : World) (hS : Sl w u l) (hl : l.length ≤ 140737488355328) :
    Calls Tryd.prog 27 #[u] w fun e w' => ∃ v, e = .returned v ∧ Own w' w.heap.size v l ∧ Below w.heap.size w w' := by
  obtain ⟨a, cap, rfl, hB, hnil, hcap⟩ := hS
  obtain ⟨n, hn⟩ : ∃ n, n = l.length := ⟨_, rfl⟩
  rcases a with _ | ad
  · have hc := hnil rfl
    have e : l = [] := List.eq_nil_of_length_eq_zero (by omega)
    subst e
    subst hc
    have hq := fun n c W => run_isnil n c W
    go_enter Tryd.func27, Tryd.ntmps27
    go_wp2
    go_ret
    exact ⟨_, rfl, Own.nil _ _, Below.refl _ _⟩
  · have hbel : Below w.heap.size w (w.alloc (.cells #[] 5)) := (Below.refl _ _).alloc (Nat.le_refl _) _
    have HSS : Hid (Sl (w.alloc (.cells #[] 5)) (.slice (some ad) l.length cap) l) := ⟨_, _, rfl, hB.later hbel, (fun h => by cases h), hcap⟩
    have HE := Lib.hid (empty_own w)
    have HBL := Lib.hid hbel
    have hl2 : ([] : List Int).length + l.length ≤ 140737488355328 := by simpa using hl
    clear hB hnil hcap hbel
    rw [← hn] at HSS ⊢
    have hq := fun n c W => run_notnil ad n c W
    go_enter Tryd.func27, Tryd.ntmps27
    go_wp2_with (at_builtin; go_must (refine append_sl rfl (.tmp 5) (.tmp 6) rfl w.heap.size _ _ [] l rfl HE.out rfl HSS.out hl2 (by simp) ?_))
    intro v w2 HV hb2
    go_wp2
    go_ret
    exact ⟨v, rfl, by simpa using HV.out, HBL.out.trans hb2⟩

theorem Tryd.infoS : (Tryd.prog.info? 33).map (fun i => (i.zero, i.size, i.bytes)) = some (some (.slice none 0 0), 1, 24) := by kernel_rfl
theorem row_form {w : World} {base : Nat} {e : TypeId} {size : Nat} {v : Value} {n : Nat} {xs : List Value} (h : w.ownsRow base e size v n xs) : ∃ a c, v = .slice a n c := by
  obtain ⟨h1, h2⟩ := h
  rcases h2 with ⟨rfl, h0⟩ | ⟨g, cap, cur, rfl, _⟩
  · exact ⟨_, 0, by rw [h0]⟩
  · exact ⟨_, cap, rfl⟩
theorem row_ne {w : World} {b b' : Nat} {e e' : TypeId} {s s' : Nat} {v v' : Value} {n n' : Nat} {xs xs' : List Value} (h : w.ownsRow b e s v n xs) (h' : w.ownsRow b' e' s' v' n' xs') (he : e ≠ e') :
    v.ownBlock = none ∨ v.ownBlock ≠ v'.ownBlock := by
  rcases h.2 with ⟨rfl, h0⟩ | ⟨g, cap, cur, rfl, _, q, _⟩
  · exact .inl rfl
  · rcases h'.2 with ⟨rfl, h0⟩ | ⟨g', cap', cur', rfl, _, q', _⟩
    · exact .inr (by simp [Value.ownBlock])
    · refine .inr (fun hg => ?_)
      simp only [Value.ownBlock, Option.some.injEq] at hg
      subst hg
      rw [q] at q'
      injection q' with q'
      injection q' with _ q'
      exact he q'
theorem row_below {w w' : World} {base : Nat} {e : TypeId} {size : Nat} {v : Value} {n : Nat} {xs : List Value} (h : w.ownsRow base e size v n xs) (hb : Below w.heap.size w w') : w'.ownsRow base e size v n xs := by
  obtain ⟨h1, h2⟩ := h
  refine ⟨h1, ?_⟩
  rcases h2 with h2 | ⟨g, cap, cur, h3, h4, h5, h6⟩
  · exact .inl h2
  · refine .inr ⟨g, cap, cur, h3, h4, ?_, h6⟩
    rw [hb.block g (heap_lt h5)]; exact h5
theorem row_lower {w : World} {base base' : Nat} {e : TypeId} {size : Nat} {v : Value} {n : Nat} {xs : List Value} (h : w.ownsRow base e size v n xs) (hb : base' ≤ base) : w.ownsRow base' e size v n xs := by
  obtain ⟨h1, h2⟩ := h
  refine ⟨h1, ?_⟩
  rcases h2 with h2 | ⟨g, cap, cur, h3, h4, h5⟩
  · exact .inl h2
  · exact .inr ⟨g, cap, cur, h3, by omega, h5⟩

/-- slices, each of its own bytes, all in memory made since -/
def MadeR (w : World) (n0 : Nat) (v : Value) (ps : List (List Int)) : Prop :=
  ∃ vs : List Value, vs.length = ps.length ∧ w.ownsRow n0 33 1 v ps.length vs ∧ ∀ j, j < ps.length → Own w n0 (vs.getD j undef) (ps.getD j [])
theorem MadeR.below {w w' : World} {n0 : Nat} {v : Value} {ps : List (List Int)} (h : MadeR w n0 v ps) (hb : Below w.heap.size w w') : MadeR w' n0 v ps := by
  obtain ⟨vs, h1, h2, h3⟩ := h
  exact ⟨vs, h1, row_below h2 hb, fun j hj => (h3 j hj).below hb⟩
theorem MadeR.lower {w : World} {n0 n1 : Nat} {v : Value} {ps : List (List Int)} (h : MadeR w n0 v ps) (hn : n1 ≤ n0) : MadeR w n1 v ps := by
  obtain ⟨vs, h1, h2, h3⟩ := h
  exact ⟨vs, h1, row_lower h2 hn, fun j hj => (h3 j hj).lower hn⟩
theorem madeR_none (w : World) (n0 : Nat) : MadeR w n0 (.slice none 0 0) [] := ⟨[], rfl, World.ownsRow_nil _ _ _ _, fun j hj => by simp at hj⟩
theorem MadeR.form {w : World} {n0 : Nat} {v : Value} {ps : List (List Int)} (h : MadeR w n0 v ps) : ∃ a c, v = .slice a ps.length c := row_form h.choose_spec.2.1
theorem MadeR.at {w : World} {n0 : Nat} {a : Option Addr} {c N : Nat} {ps : List (List Int)} (h : MadeR w n0 (.slice a N c) ps) (ho : ∀ j, Oct (ps.getD j [])) (j : Nat) (hj : j < ps.length) :
    ∃ g pa pc, a = some ⟨g, 0, none⟩ ∧ w.cell? ⟨g, j, none⟩ = some (.slice pa (ps.getD j []).length pc) ∧ Sl w (.slice pa (ps.getD j []).length pc) (ps.getD j []) := by
  obtain ⟨vs, h1, h2, h3⟩ := h
  have hf := h2
  obtain ⟨q1, q2⟩ := h2
  rcases q2 with ⟨_, h0⟩ | ⟨g, cap, cur, q3, q4⟩
  · omega
  · simp only [Value.slice.injEq] at q3
    obtain ⟨rfl, rfl, rfl⟩ := q3
    have ho3 := h3 j hj
    obtain ⟨pa, pc, e⟩ := own_form ho3
    have hs := ho3.sl (ho j)
    rw [e] at hs
    refine ⟨g, pa, pc, rfl, ?_, hs⟩
    rw [hf.cellAt j (by omega), ← e, List.getD_eq_getElem?_getD, List.getElem?_eq_getElem (by omega)]
    rfl
/-- one slice more -/
theorem append_made {w : World} {ops : Array Oper} {rest : List Oper} {o : Oper} {a : Act} {Q : Exit → Act → World → Prop} (hgd : o.guard = none)
    (s x : Operand) (ho : o.op = Op.call { callee := Callee.builtin Builtin.append, args := #[s, x], argTypes := #[41, 41] }) (base g : Nat) (v pv : Value) (ps : List (List Int)) (p : List Int) (hs : a.eval s = v) (hM : MadeR w base v ps)
    (hx : a.eval x = .slice (some ⟨g, 0, none⟩) 1 1) (hc : w.cell? ⟨g, 0, none⟩ = some pv) (hown : Own w base pv p) (hlen : ps.length ≤ 200000) (hbase : base ≤ w.heap.size)
    (h : ∀ (v' : Value) (w' : World), Hid (MadeR w' base v' (ps ++ [p])) → Below base w w' → wpList Tryd.prog ops Q rest (a.put o.dst v') w') : wpList Tryd.prog ops Q (o :: rest) a w := by
  obtain ⟨i0, hi, hz0, hz1, hz2⟩ := info_parts Tryd.infoS
  obtain ⟨vs, hv1, hv2, hv3⟩ := hM
  have hone : pv.oneCell' = true := by
    obtain ⟨pa, pc, e⟩ := own_form hown
    rw [e]; rfl
  refine wpList_append_own w hgd s x 41 ho base 33 i0 (.slice none 0 0) 1 24 Tryd.underlying41 hi hz0 hz1 hz2 rfl (by decide) v _ _ hs hv2 ⟨g, 0, none⟩ 1 1 [pv] hx (by simp) ?_ (by simpa using hone) (by unfold maxLen; omega) (by omega) hbase ?_
  · intro j u hj
    rcases j with _ | j
    · simp at hj; subst hj; simpa [Addr.add] using hc
    · simp at hj
  · intro v' w' hown' hg _
    refine h v' w' ⟨vs ++ [pv], by simp [hv1], ?_, fun j hj => ?_⟩ ((Below.refl _ _).grown hg (by omega) (fun j hj => (World.ownsRow.lt hv2 j hj).1))
    · simpa using hown'
    · rw [List.length_append, List.length_singleton] at hj
      by_cases hjk : j < ps.length
      · rw [List.getD_eq_getElem?_getD, List.getElem?_append_left (by omega), ← List.getD_eq_getElem?_getD, List.getD_eq_getElem?_getD (l := ps ++ [p]), List.getElem?_append_left hjk, ← List.getD_eq_getElem?_getD]
        exact World.ownsRow.kept (hv3 j hjk) hg (row_ne (hv3 j hjk) hv2 (by decide))
      · have ej : j = ps.length := by omega
        subst ej
        rw [List.getD_eq_getElem?_getD, List.getElem?_append_right (by omega), hv1, Nat.sub_self, List.getD_eq_getElem?_getD, List.getElem?_append_right (by omega), Nat.sub_self]
        exact World.ownsRow.kept hown hg (row_ne hown hv2 (by decide))

theorem run_cut2 {w : World} {a : Option Addr} {l : List Int} (h : Bytes w a l) (cap n : Nat) (hn : n = l.length) (hcap : n ≤ cap) (hnil : a = none → cap = 0) (p E : Nat) (h1 : p ≤ E) (h2 : E ≤ n) :
    ∃ a', (∀ W, (Instr.slice 33 (.slice a n cap) (some (.int .i64 (p : Int))) (some (.int .i64 (E : Int))) none).run Tryd.prog W = .ok (.slice a' (E - p) (cap - p)) W) ∧ Sl w (.slice a' (E - p) (cap - p)) ((l.drop p).take (E - p)) := by
  have h := run_cut h cap n hn hcap hnil p (E - p) (by omega)
  rw [show ((p : Int) + ((E - p : Nat) : Int)) = (E : Int) from by omega] at h
  exact h
theorem cell_new1 (w : World) (x : Value) (t : TypeId) : (w.alloc (.cells #[x] t)).cell? ⟨w.heap.size, 0, none⟩ = some x := by
  rw [cell_of_row _ _ 0 _ _ (0, 0) (heap_new w _)]; rfl
theorem made_row (w : World) (N : Nat) (hN : N ≤ 200000) : ∃ cs, (Instr.makeSlice 41 (.int .i64 0) (.int .i64 (N : Int))).run Tryd.prog w = .ok (.slice (some ⟨w.heap.size, 0, none⟩) 0 N) (w.alloc (.cells cs 33)) ∧ MadeR (w.alloc (.cells cs 33)) w.heap.size (.slice (some ⟨w.heap.size, 0, none⟩) 0 N) [] := by
  obtain ⟨i0, hi0, hz0, hz1, hzz⟩ := info_parts Tryd.infoS
  have hmk := run_make (P := Tryd.prog) w 41 33 i0 (.slice none 0 0) Tryd.underlying41 hi0 hz0 .i64 .i64 0 N (by omega) (by omega) (by rw [hzz]; omega) (by omega)
  rw [hz1] at hmk
  simp only [Int.toNat_natCast, Int.toNat_zero] at hmk
  refine ⟨_, hmk, [], rfl, ?_, fun j hj => by simp at hj⟩
  exact World.ownsRow_made (base := w.heap.size) (e := 33) (size := 1) w (madeCells (Value.slice none 0 0).cells (N * 1)) N (Nat.le_refl _) (by unfold maxLen; omega) (by rw [size_madeCells])
end Go.Proofs.YtheklipnnflnaaaDoor.GRows
