/- glob: rows of the document's signs that a call made. (A template.) -/
import Derived.Test.YtokocfoeohddfaaDoorGlRSgn
import Derived.Test.YtokocfoeohddfaaDoorGlLawM
import Derived.Maps.AppendAt
import Derived.Laws.MakeOwn
namespace Go.Proofs.YtokocfoeohddfaaDoor.Pa
open Go.RowKit
set_option linter.unusedVariables false
set_option linter.unusedSimpArgs false
set_option maxRecDepth 1000000

def Rg.cs (x : Rg) : List Value := sgC (x.kind : Int) (x.c : Int) x.nt x.S
theorem Rg.cs_length (x : Rg) : x.cs.length = 259 := sgC_length _ _ _ _
def rgCells (L : List Rg) : List Value := L.flatMap Rg.cs
theorem rgCells_length (L : List Rg) : (rgCells L).length = L.length * 259 := by
  induction L with
  | nil => rfl
  | cons x L ih => unfold rgCells at *; rw [List.flatMap_cons, List.length_append, ih, Rg.cs_length, List.length_cons]; omega
theorem rgCells_get (L : List Rg) (i j : Nat) (hj : j < 259) : (rgCells L)[i * 259 + j]? = (L[i]?).bind fun x => x.cs[j]? := by
  induction L generalizing i with
  | nil => simp [rgCells]
  | cons x L ih =>
    unfold rgCells at *
    rw [List.flatMap_cons]
    cases i with
    | zero => rw [List.getElem?_append_left (by rw [Rg.cs_length]; omega)]; simp
    | succ i =>
      rw [List.getElem?_append_right (by rw [Rg.cs_length]; omega), Rg.cs_length, show (i + 1) * 259 + j - 259 = i * 259 + j from by omega, ih i]
      simp
/-- a row of signs that this call made -/
def RgOwn (w : World) (base : Nat) (v : Value) (L : List Rg) : Prop := w.ownsRow base 35 259 v L.length (rgCells L)
theorem RgOwn.form {w : World} {base : Nat} {v : Value} {L : List Rg} (h : RgOwn w base v L) : (L = [] ∧ v = .slice none 0 0) ∨ ∃ g cap, v = .slice (some ⟨g, 0, none⟩) L.length cap ∧ base ≤ g ∧ g < w.heap.size ∧ L.length ≤ cap ∧ ∀ i x, L[i]? = some x → ∀ j, j < 259 → w.cell? ⟨g, i * 259 + j, none⟩ = x.cs[j]? := by
  obtain ⟨h1, h2⟩ := id h
  rcases h2 with ⟨rfl, h0⟩ | ⟨g, cap, cur, rfl, h4, h5, h6, h7, h8, h9⟩
  · exact .inl ⟨List.eq_nil_of_length_eq_zero h0, rfl⟩
  · refine .inr ⟨g, cap, rfl, h4, (Array.getElem?_eq_some_iff.1 h5).1, h6, fun i x hi j hj => ?_⟩
    have hlt : i < L.length := (List.getElem?_eq_some_iff.1 hi).1
    have hg := rgCells_get L i j hj
    rw [hi] at hg
    rw [cell_of_row _ _ (i * 259 + j) _ _ (0, 0) h5]
    have h10 : cur.toList[i * 259 + j]? = (rgCells L)[i * 259 + j]? := by
      rw [← h9, List.getElem?_take]
      rw [if_pos (by omega)]
    rw [hg] at h10
    simpa using h10
theorem RgOwn.slice {w : World} {base : Nat} {v : Value} {L : List Rg} (h : RgOwn w base v L) : ∃ a c, v = .slice a L.length c := by
  rcases h.form with ⟨rfl, rfl⟩ | ⟨g, cap, rfl, _⟩
  · exact ⟨none, 0, rfl⟩
  · exact ⟨_, cap, rfl⟩
theorem RgOwn.later {w w' : World} {base : Nat} {v : Value} {L : List Rg} (h : RgOwn w base v L) (hb : Below w.heap.size w w') : RgOwn w' base v L := by
  obtain ⟨h1, h2⟩ := h
  refine ⟨h1, ?_⟩
  rcases h2 with h2 | ⟨g, cap, cur, h3, h4, h5, h6⟩
  · exact .inl h2
  · exact .inr ⟨g, cap, cur, h3, h4, (hb.block _ (Array.getElem?_eq_some_iff.1 h5).1).trans h5, h6⟩
theorem RgOwn.lt {w : World} {base : Nat} {v : Value} {L : List Rg} (h : RgOwn w base v L) : ∀ k, v.ownBlock = some k → base ≤ k ∧ k < w.heap.size := fun k hk => World.ownsRow.lt h k hk
theorem RgOwn.none (w : World) (base : Nat) : RgOwn w base (.slice none 0 0) [] := ⟨rfl, .inl ⟨rfl, rfl⟩⟩
/-- an append of one sign to such a row -/
theorem append_rg {w : World} {ops : Array Oper} {rest : List Oper} {o : Oper} {a : Act} {Q : Exit → Act → World → Prop}
    (hg : o.guard = none) (s x : Operand) (hop : o.op = Op.call { callee := Callee.builtin Builtin.append, args := #[s, x], argTypes := #[30, 30] })
    (base : Nat) (v : Value) (L : List Rg) (p : Rg) (hs : a.eval s = v) (hown : RgOwn w base v L) (g c : Nat) (hx : a.eval x = .slice (some ⟨g, 0, none⟩) 1 c)
    (hc : ∀ j u, p.cs[j]? = some u → w.cell? ⟨g, j, none⟩ = some u) (hl : L.length ≤ 100000) (b3 : base ≤ w.heap.size)
    (hK : ∀ v' w', RgOwn w' base v' (L ++ [p]) → w.grownBy w' v.ownBlock → (v'.ownBlock = v.ownBlock ∨ v'.ownBlock = some w.heap.size) → wpList Tryd.prog ops Q rest (a.put o.dst v') w') :
    wpList Tryd.prog ops Q (o :: rest) a w := by
  obtain ⟨i0, hi, hz0, hz1, hz2⟩ := info_parts Tryd.infoRg
  refine wpList_append_own_at (P := Tryd.prog) w hg s x 30 hop base 35 i0 _ 259 272 Tryd.underlying30 hi hz0 hz1 hz2 (by simp [Value.cells, sgC_length]) (by decide) v L.length (rgCells L) hs hown ⟨g, 0, none⟩ 1 c p.cs hx (by rw [Rg.cs_length])
    (by intro j u hj; have := hc j u hj; cases j <;> simpa [Addr.add] using this) (fun u hu => sgC_one _ _ _ _ u hu) (by unfold maxLen; omega) (by omega) b3 ?_
  intro v' w' r1 r2 r3 r4
  refine hK v' w' ?_ r2 r4
  show w'.ownsRow base 35 259 v' (L ++ [p]).length (rgCells (L ++ [p]))
  rw [List.length_append]
  have : rgCells (L ++ [p]) = rgCells L ++ p.cs := by simp [rgCells]
  rw [this]
  exact r1
theorem fill_rg (X : List Value) (h : X.length = 259) (z : Value) : Instr.fill (fun i => some (i * 259, 259)) ((Array.range (1 * 259)).map (z.cells[· % z.cells.size]!)) [(0, .agg X.toArray)] = some X.toArray := by
  have := Great.fill_whole (s := 259) (by decide) [.agg X.toArray] ((Array.range (1 * 259)).map (z.cells[· % z.cells.size]!)) (by intro v hv; simp at hv; subst hv; simp [Value.cells, h]) (by simp)
  simpa [Value.cells] using this

theorem sgnsR_eq (l : L8) (n a : Nat) : sgnsR l (n + 1) a = if a < l.length then (match sgnR l a with | none => none | some (x, b) => (sgnsR l n b).map (x :: ·)) else some [] := by rw [sgnsR]; rfl
/-- the rest of the signs, behind those that have come -/
def RestR (l : L8) (R : Option (List Rg)) (L : List Rg) (a : Nat) : Prop := R = (sgnsR l (l.length + 1) a).map (L ++ ·)
theorem restR_stop {l : L8} {R : Option (List Rg)} {L : List Rg} {a : Nat} (h : RestR l R L a) (ha : ¬ a < l.length) : R = some L := by
  unfold RestR at h; rw [sgnsR_eq, if_neg ha] at h; simpa using h
theorem restR_none {l : L8} {R : Option (List Rg)} {L : List Rg} {a : Nat} (h : RestR l R L a) (ha : a < l.length) (hs : sgnR l a = none) : R = none := by
  unfold RestR at h; rw [sgnsR_eq, if_pos ha, hs] at h; simpa using h
theorem restR_next {l : L8} {R : Option (List Rg)} {L : List Rg} {a b : Nat} {x : Rg} (h : RestR l R L a) (ha : a < l.length) (hs : sgnR l a = some (x, b)) : RestR l R (L ++ [x]) b := by
  have hb := sgnR_bd ha hs
  unfold RestR at h ⊢
  rw [sgnsR_eq, if_pos ha, hs] at h
  simp only at h
  rw [sgnsR_fuel l.length (l.length + 1) b (by omega) (by omega) (by omega)] at h
  rw [h]
  cases sgnsR l (l.length + 1) b <;> simp
theorem tw_in : ∀ (m : L8) (k : Nat), k < (m.takeWhile (· == 42)).length → k < m.length ∧ m.getD k 0 = 42 := by
  intro m
  induction m with
  | nil => intro k h; simp at h
  | cons c m ih =>
    intro k h
    rw [List.takeWhile_cons] at h
    by_cases hc : (c == 42) = true
    · rw [if_pos hc] at h
      cases k with
      | zero => exact ⟨by simp, by simpa using hc⟩
      | succ k =>
        have := ih k (by simpa using h)
        exact ⟨by simp; exact this.1, by simpa using this.2⟩
    · rw [if_neg hc] at h; simp at h
theorem stars_in {l : L8} {a j : Nat} (h1 : a ≤ j) (h2 : j < a + stars l a) : j < l.length ∧ nb l j = 42 := by
  have := tw_in (l.drop a) (j - a) (by unfold stars at h2; omega)
  rw [List.length_drop] at this
  refine ⟨by omega, ?_⟩
  have h3 := this.2
  rw [List.getD_eq_getElem?_getD, List.getElem?_drop, show a + (j - a) = j from by omega] at h3
  unfold nb
  rw [List.getD_eq_getElem?_getD, h3]
  rfl
theorem stars_more {l : L8} {a j : Nat} (h1 : a ≤ j) (h2 : j ≤ a + stars l a) (h3 : j < l.length) (h4 : nb l j = 42) : j < a + stars l a := by
  rcases Nat.lt_or_ge j (a + stars l a) with h | h
  · exact h
  · have e : j = a + stars l a := by omega
    subst e
    exact absurd h4 (stars_end h3)
theorem sgnR_91 {l : L8} {a : Nat} (h : nb l a = 91) : sgnR l a = match clsR l (l.length + 1) (if bang l a then a + 2 else a + 1) noneS 0 with | none => none | some (S, b) => some (⟨4, 0, bang l a, S⟩, b) := by unfold sgnR; rw [if_pos h]; rfl
theorem sgnR_63 {l : L8} {a : Nat} (h : nb l a = 63) : sgnR l a = some (⟨1, 63, false, noneS⟩, a + 1) := by unfold sgnR; rw [if_neg (by omega), if_pos h]
theorem sgnR_42 {l : L8} {a : Nat} (h : nb l a = 42) : sgnR l a = some (⟨if stars l a > 1 then 3 else 2, 42, false, noneS⟩, a + stars l a) := by unfold sgnR; rw [if_neg (by omega), if_neg (by omega), if_pos h]
theorem sgnR_own {l : L8} {a : Nat} (h1 : nb l a ≠ 91) (h2 : nb l a ≠ 63) (h3 : nb l a ≠ 42) : sgnR l a = match rbN l a with | none => none | some (c, b) => some (⟨0, c, false, noneS⟩, b) := by unfold sgnR; rw [if_neg h1, if_neg h2, if_neg h3]; rfl
theorem rbN_92 {l : L8} {a : Nat} (h0 : a < l.length) (h : nb l a = 92) : rbN l a = if a + 1 < l.length then some (nb l (a + 1), a + 1 + 1) else none := by
  have e : rbAt l a = a + 1 := if_pos ⟨h0, by rw [bt_nb, h]; rfl⟩
  unfold rbN; rw [e]
theorem rbN_other {l : L8} {a : Nat} (h0 : a < l.length) (h : nb l a ≠ 92) : rbN l a = some (nb l a, a + 1) := by
  have e : rbAt l a = a := if_neg (fun q => h (by have := q.2; rw [bt_nb] at this; omega))
  unfold rbN; rw [e, if_pos h0]
/-- what Signs answers -/
def RDR (l : L8) (base : Nat) (v : Value) (w : World) : Prop := match readR l with
  | none => v = .tuple #[.slice none 0 0, .bool false]
  | some L => ∃ a c, v = .tuple #[.slice a L.length c, .bool true] ∧ RgOwn w base (.slice a L.length c) L
end Go.Proofs.YtokocfoeohddfaaDoor.Pa
