/- glob: rows of signs that a call made. (A template.) -/
import Derived.Test.YtokocfoeohddfaaGreatDoorGlRSg2
import Derived.Maps.AppendAt
import Derived.Laws.MakeOwn
namespace Go.Proofs.YtokocfoeohddfaaGreatDoor.Pa
open Go.RowKit
set_option linter.unusedVariables false
set_option linter.unusedSimpArgs false
set_option maxRecDepth 100000

theorem Tryz.infoSg : (Tryz.prog.info? 77).map (fun i => (i.zero, i.size, i.bytes)) = some (some (.agg #[.int .u64 0, .int .u64 0, .int .u64 0, .int .u64 0, .bool false, .bool false, .int .u8 0]), 7, 40) := by kernel_rfl
def Sg.cs (x : Sg) : List Value := [.int .u64 (wd x.S 0 : Int), .int .u64 (wd x.S 1 : Int), .int .u64 (wd x.S 2 : Int), .int .u64 (wd x.S 3 : Int), .bool x.many, .bool x.itself, .int .u8 (x.c : Int)]
theorem Sg.cs_length (x : Sg) : x.cs.length = 7 := rfl
def gsCells (L : List Sg) : List Value := L.flatMap Sg.cs
theorem gsCells_length (L : List Sg) : (gsCells L).length = L.length * 7 := by
  induction L with
  | nil => rfl
  | cons x L ih => unfold gsCells at *; rw [List.flatMap_cons, List.length_append, ih, Sg.cs_length, List.length_cons]; omega
theorem gsCells_get (L : List Sg) (i j : Nat) (hj : j < 7) : (gsCells L)[i * 7 + j]? = (L[i]?).bind fun x => x.cs[j]? := by
  induction L generalizing i with
  | nil => simp [gsCells]
  | cons x L ih =>
    unfold gsCells at *
    rw [List.flatMap_cons]
    cases i with
    | zero => rw [List.getElem?_append_left (by rw [Sg.cs_length]; omega)]; simp
    | succ i =>
      rw [List.getElem?_append_right (by rw [Sg.cs_length]; omega), Sg.cs_length, show (i + 1) * 7 + j - 7 = i * 7 + j from by omega, ih i]
      simp
/-- a row of signs that this call made -/
def GsOwn (w : World) (base : Nat) (v : Value) (L : List Sg) : Prop := w.ownsRow base 77 7 v L.length (gsCells L)
theorem GsOwn.form {w : World} {base : Nat} {v : Value} {L : List Sg} (h : GsOwn w base v L) : (L = [] ∧ v = .slice none 0 0) ∨ ∃ g cap, v = .slice (some ⟨g, 0, none⟩) L.length cap ∧ base ≤ g ∧ g < w.heap.size ∧ L.length ≤ cap ∧ (∃ cur, w.heap[g]? = some (.cells cur 77)) ∧ ∀ i x, L[i]? = some x → ∀ j, j < 7 → w.cell? ⟨g, i * 7 + j, none⟩ = x.cs[j]? := by
  obtain ⟨h1, h2⟩ := id h
  rcases h2 with ⟨rfl, h0⟩ | ⟨g, cap, cur, rfl, h4, h5, h6, h7, h8, h9⟩
  · exact .inl ⟨List.eq_nil_of_length_eq_zero h0, rfl⟩
  · refine .inr ⟨g, cap, rfl, h4, (Array.getElem?_eq_some_iff.1 h5).1, h6, ⟨cur, h5⟩, fun i x hi j hj => ?_⟩
    have hlt : i < L.length := (List.getElem?_eq_some_iff.1 hi).1
    have hg := gsCells_get L i j hj
    rw [hi] at hg
    rw [cell_of_row _ _ (i * 7 + j) _ _ (0, 0) h5]
    have h10 : cur.toList[i * 7 + j]? = (gsCells L)[i * 7 + j]? := by
      rw [← h9, List.getElem?_take]
      rw [if_pos (by omega)]
    rw [hg] at h10
    simpa using h10
theorem GsOwn.slice {w : World} {base : Nat} {v : Value} {L : List Sg} (h : GsOwn w base v L) : ∃ a c, v = .slice a L.length c := by
  rcases h.form with ⟨rfl, rfl⟩ | ⟨g, cap, rfl, _⟩
  · exact ⟨none, 0, rfl⟩
  · exact ⟨_, cap, rfl⟩
theorem GsOwn.later {w w' : World} {base : Nat} {v : Value} {L : List Sg} (h : GsOwn w base v L) (hb : Below w.heap.size w w') : GsOwn w' base v L := by
  obtain ⟨h1, h2⟩ := h
  refine ⟨h1, ?_⟩
  rcases h2 with h2 | ⟨g, cap, cur, h3, h4, h5, h6⟩
  · exact .inl h2
  · exact .inr ⟨g, cap, cur, h3, h4, (hb.block _ (Array.getElem?_eq_some_iff.1 h5).1).trans h5, h6⟩
/-- the same in a world where but one other block has turned -/
theorem GsOwn.but {w w' : World} {base k o : Nat} {v : Value} {L : List Sg} (h : GsOwn w base v L) (hb : But4 k o w w') (hk : v.ownBlock ≠ some k) : GsOwn w' base v L := by
  obtain ⟨h1, h2⟩ := h
  refine ⟨h1, ?_⟩
  rcases h2 with h2 | ⟨g, cap, cur, h3, h4, h5, h6⟩
  · exact .inl h2
  · refine .inr ⟨g, cap, cur, h3, h4, (hb.block _ ?_).trans h5, h6⟩
    intro e; subst e; subst h3; exact hk rfl
theorem GsOwn.lt {w : World} {base : Nat} {v : Value} {L : List Sg} (h : GsOwn w base v L) : ∀ k, v.ownBlock = some k → base ≤ k ∧ k < w.heap.size := fun k hk => World.ownsRow.lt h k hk
theorem made_sg (w : World) (N : Nat) (hN : N ≤ 200000) : ∃ cs, (Instr.makeSlice 63 (.int .i64 0) (.int .i64 (N : Int))).run Tryz.prog w = .ok (.slice (some ⟨w.heap.size, 0, none⟩) 0 N) (w.alloc (.cells cs 77)) ∧ GsOwn (w.alloc (.cells cs 77)) w.heap.size (.slice (some ⟨w.heap.size, 0, none⟩) 0 N) [] := by
  obtain ⟨i0, hi0, hz0, hz1, hzz⟩ := info_parts Tryz.infoSg
  have hmk := run_make (P := Tryz.prog) w 63 77 i0 _ Tryz.underlying63 hi0 hz0 .i64 .i64 0 N (by omega) (by omega) (by rw [hzz]; omega) (by omega)
  rw [hz1] at hmk
  simp only [Int.toNat_natCast, Int.toNat_zero] at hmk
  refine ⟨_, hmk, ?_⟩
  exact World.ownsRow_made (base := w.heap.size) (e := 77) (size := 7) w (madeCells _ (N * 7)) N (Nat.le_refl _) (by unfold maxLen; omega) (by rw [size_madeCells])
/-- an append of one sign to such a row -/
theorem append_sg {w : World} {ops : Array Oper} {rest : List Oper} {o : Oper} {a : Act} {Q : Exit → Act → World → Prop}
    (hg : o.guard = none) (s x : Operand) (hop : o.op = Op.call { callee := Callee.builtin Builtin.append, args := #[s, x], argTypes := #[63, 63] })
    (base : Nat) (v : Value) (L : List Sg) (p : Sg) (hs : a.eval s = v) (hown : GsOwn w base v L) (g c : Nat) (hx : a.eval x = .slice (some ⟨g, 0, none⟩) 1 c)
    (hc : ∀ j u, p.cs[j]? = some u → w.cell? ⟨g, j, none⟩ = some u) (hl : L.length ≤ 1000000) (b3 : base ≤ w.heap.size)
    (hK : ∀ v' w', GsOwn w' base v' (L ++ [p]) → w.grownBy w' v.ownBlock → (v'.ownBlock = v.ownBlock ∨ v'.ownBlock = some w.heap.size) → wpList Tryz.prog ops Q rest (a.put o.dst v') w') :
    wpList Tryz.prog ops Q (o :: rest) a w := by
  obtain ⟨i0, hi, hz0, hz1, hz2⟩ := info_parts Tryz.infoSg
  refine wpList_append_own_at (P := Tryz.prog) w hg s x 63 hop base 77 i0 _ 7 40 Tryz.underlying63 hi hz0 hz1 hz2 rfl (by decide) v L.length (gsCells L) hs hown ⟨g, 0, none⟩ 1 c p.cs hx rfl
    (by intro j u hj; have := hc j u hj; cases j <;> simpa [Addr.add] using this) (by intro u hu; simp [Sg.cs] at hu; rcases hu with rfl | rfl | rfl | rfl | rfl | rfl | rfl <;> rfl) (by unfold maxLen; omega) (by omega) b3 ?_
  intro v' w' r1 r2 r3 r4
  refine hK v' w' ?_ r2 r4
  show w'.ownsRow base 77 7 v' (L ++ [p]).length (gsCells (L ++ [p]))
  rw [List.length_append]
  have : gsCells (L ++ [p]) = gsCells L ++ p.cs := by simp [gsCells]
  rw [this]
  exact r1
end Go.Proofs.YtokocfoeohddfaaGreatDoor.Pa
