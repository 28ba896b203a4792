/- rules: rows of rules that a call made; the rules of lines. (A template.) -/
import Derived.Test.YtokocfoeohddfaaDoorRuHid
import Derived.Test.YtokocfoeohddfaaDoorRuParse2
import Derived.Test.YtokocfoeohddfaaDoorSplitIt
namespace Go.Proofs.YtokocfoeohddfaaDoor.Pa
open Go.RowKit Go.Proofs.YtokocfoeohddfaaDoor.Me
set_option linter.unusedVariables false
set_option linter.unusedSimpArgs false
set_option maxRecDepth 100000

theorem Tryd.infoRu : (Tryd.prog.info? 42).map (fun i => (i.zero, i.size, i.bytes)) = some (some (.agg #[.int .i64 0, .string ⟨#[]⟩, .bool false, .bool false]), 4, 32) := by kernel_rfl
def Ru.cs (r : Ru) : List Value := [.int .i64 r.act, .string (Pa.mk r.pat), .bool r.dir, .bool r.anch]
def ruCells (L : List Ru) : List Value := L.flatMap Ru.cs
theorem ruCells_length (L : List Ru) : (ruCells L).length = L.length * 4 := by
  induction L with
  | nil => rfl
  | cons x L ih => unfold ruCells at *; rw [List.flatMap_cons, List.length_append, ih, List.length_cons]; show 4 + _ = _; omega
theorem ruCells_get (L : List Ru) (i j : Nat) (hj : j < 4) : (ruCells L)[i * 4 + j]? = (L[i]?).bind fun x => x.cs[j]? := by
  induction L generalizing i with
  | nil => simp [ruCells]
  | cons x L ih =>
    unfold ruCells at *
    rw [List.flatMap_cons]
    have hx : x.cs.length = 4 := rfl
    cases i with
    | zero => rw [List.getElem?_append_left (by rw [hx]; omega)]; simp
    | succ i =>
      rw [List.getElem?_append_right (by rw [hx]; omega), hx, show (i + 1) * 4 + j - 4 = i * 4 + j from by omega, ih i]
      simp
def RuOwn (w : World) (base : Nat) (v : Value) (L : List Ru) : Prop := w.ownsRow base 42 4 v L.length (ruCells L)
theorem RuOwn.form {w : World} {base : Nat} {v : Value} {L : List Ru} (h : RuOwn w base v L) : (L = [] ∧ v = .slice none 0 0) ∨ ∃ g cap, v = .slice (some ⟨g, 0, none⟩) L.length cap ∧ base ≤ g ∧ g < w.heap.size ∧ ∀ i x, L[i]? = some x → ∀ j, j < 4 → w.cell? ⟨g, i * 4 + j, none⟩ = x.cs[j]? := by
  obtain ⟨h1, h2⟩ := id h
  rcases h2 with ⟨rfl, h0⟩ | ⟨g, cap, cur, rfl, h4, h5, h6, h7, h8, h9⟩
  · exact .inl ⟨List.eq_nil_of_length_eq_zero h0, rfl⟩
  · refine .inr ⟨g, cap, rfl, h4, (Array.getElem?_eq_some_iff.1 h5).1, fun i x hi j hj => ?_⟩
    have hlt : i < L.length := (List.getElem?_eq_some_iff.1 hi).1
    have hg := ruCells_get L i j hj
    rw [hi] at hg
    rw [cell_of_row _ _ (i * 4 + j) _ _ (0, 0) h5]
    have h10 : cur.toList[i * 4 + j]? = (ruCells L)[i * 4 + j]? := by
      rw [← h9, List.getElem?_take, if_pos (by omega)]
    rw [hg] at h10
    simpa using h10
theorem RuOwn.at {w : World} {base : Nat} {v : Value} {L : List Ru} (h : RuOwn w base v L) : RuAt w v L := by
  rcases h.form with ⟨rfl, rfl⟩ | ⟨g, cap, rfl, h1, h2, h3⟩
  · exact ⟨none, 0, rfl, fun h => absurd rfl h⟩
  · refine ⟨_, cap, rfl, fun _ => ⟨g, 0, rfl, h2, fun i r hr => ?_⟩⟩
    simp only [Nat.zero_add]
    exact ⟨h3 i r hr 0 (by omega), h3 i r hr 1 (by omega), h3 i r hr 2 (by omega), h3 i r hr 3 (by omega)⟩
theorem RuOwn.slice {w : World} {base : Nat} {v : Value} {L : List Ru} (h : RuOwn w base v L) : ∃ a c, v = .slice a L.length c := by
  rcases h.form with ⟨rfl, rfl⟩ | ⟨g, cap, rfl, _⟩
  · exact ⟨none, 0, rfl⟩
  · exact ⟨_, cap, rfl⟩
theorem appendIn_ru {F : Fence} {n : Nat} (w : World) {ops : Array Oper} {rest : List Oper} {o : Oper} {a : Act} {Q : Exit → Act → World → Prop}
    (hg : o.guard = none) (s x : Operand) (hop : o.op = Op.call { callee := Callee.builtin Builtin.append, args := #[s, x], argTypes := #[37, 37] })
    (base : Nat) (v : Value) (L : List Ru) (p : Ru) (hs : a.eval s = v) (hown : RuOwn w base v L) (g c : Nat) (hx : a.eval x = .slice (some ⟨g, 0, none⟩) 1 c)
    (hc : ∀ j u, p.cs[j]? = some u → w.cell? ⟨g, j, none⟩ = some u) (hl : L.length ≤ 1000000) (b3 : base ≤ w.heap.size)
    (hK : ∀ v' w', RuOwn w' base v' (L ++ [p]) → w.grownBy w' v.ownBlock → (v'.ownBlock = v.ownBlock ∨ v'.ownBlock = some w.heap.size) → wpListIn F n Tryd.prog ops Q rest (a.put o.dst v') w') :
    wpListIn F n Tryd.prog ops Q (o :: rest) a w := by
  obtain ⟨i0, hi, hz0, hz1, hz2⟩ := info_parts Tryd.infoRu
  refine wpListIn_plain hg fun K hK' => ?_
  obtain ⟨v', w', hrun, r1, r2, r3, r4⟩ := run_append_own_at (P := Tryd.prog) w base 37 o.type 42 i0 _ 4 32 Tryd.underlying37 hi hz0 hz1 hz2 rfl (by decide) v L.length (ruCells L) hown ⟨g, 0, none⟩ 1 c p.cs rfl
    (by intro j u hj; have := hc j u hj; cases j <;> simpa [Addr.add] using this) (by intro u hu; simp [Ru.cs] at hu; rcases hu with rfl | rfl | rfl | rfl <;> rfl) (by unfold maxLen; omega) (by omega) b3
  unfold Oper.wpIn
  refine ⟨?_, ?_⟩
  · simp [Oper.about, hop, resolve, Target.leads, Sem.run_pure]
  · rw [Oper.semAt_plain F _ _ (by rw [hop]; intro c hc'; cases hc')]
    simp [execOp, hop, resolve, invoke, builtin, hs, hx, hrun, Result.andThen]
    refine hK' _ _ (hK v' w' ?_ r2 r4)
    show w'.ownsRow base 42 4 v' (L ++ [p]).length (ruCells (L ++ [p]))
    rw [List.length_append]
    have : ruCells (L ++ [p]) = ruCells L ++ p.cs := by simp [ruCells]
    rw [this]
    exact r1

/-! the rules of lines -/
def passed (p : L8) : Bool := decide (p = [] ∨ nb p 0 = 35)
/-- what the lines come to: those so far, or what is wrong first, and its number -/
def linesGo : List Ru → Nat → List L8 → List Ru × Int × Int
  | acc, _, [] => (acc, 0, 0)
  | acc, n, p :: ps =>
    if passed p = true then linesGo acc (n + 1) ps
    else if (parseR p).2 ≠ 0 then ([], (n : Int) + 1, (parseR p).2)
    else if acc.length = 64 then ([], (n : Int) + 1, 7)
    else linesGo (acc ++ [(parseR p).1]) (n + 1) ps
def linesR (l : L8) : List Ru × Int × Int := linesGo [] 0 (cutc 10 l)
end Go.Proofs.YtokocfoeohddfaaDoor.Pa
