/- A copy into one block, with all that stays as it was. -/
import Derived.Laws.CopyOwn
import Derived.Laws.Tables
import Derived.RowKit
namespace Go.Proofs.CopyW
open Go.RowKit
set_option linter.unusedVariables false
set_option maxRecDepth 100000

/-- one block may differ -/
def Only (w w' : World) (g : Nat) : Prop :=
  w'.os = w.os ∧ w'.tape = w.tape ∧ w'.output = w.output ∧ w'.heap.size = w.heap.size ∧ ∀ k, k ≠ g → w'.heap[k]? = w.heap[k]?
theorem Only.refl (w : World) (g : Nat) : Only w w g := ⟨rfl, rfl, rfl, rfl, fun _ _ => rfl⟩
theorem Only.below {w w' : World} {g B : Nat} (h : Only w w' g) (hB : B ≤ g) : Below B w w' :=
  ⟨h.1, h.2.1, h.2.2.1, by rw [h.2.2.2.1]; exact Nat.le_refl _, fun k hk => h.2.2.2.2 k (by omega)⟩

theorem copy_row {P : Program} {w : World} {ops : Array Oper} {rest : List Oper} {o : Oper} {a : Act} {Q : Exit → Act → World → Prop} (hgd : o.guard = none)
    (d s : Operand) (dT sT : TypeId) (ho : o.op = Op.call { callee := Callee.builtin Builtin.copy, args := #[d, s], argTypes := #[dT, sT] }) (elem : TypeId)
    (hu : P.underlying dT = some (TypeDesc.slice elem)) (hsz : Option.map (fun x => x.size) (P.info? elem) = some 1) (dp sp : Option Addr) (dLen dCap sLen sCap : Nat)
    (hd : a.eval d = Value.slice dp dLen dCap) (hs : a.eval s = Value.slice sp sLen sCap) (g off : Nat) (cur : List Value) (t : TypeId) (hg : w.heap[g]? = some (Obj.cells cur.toArray t))
    (cs : List Value) (hn : cs.length = sLen.min dLen)
    (hpos : 0 < cs.length → dp = some { block := g, off := off } ∧ ∃ ad, sp = some ad ∧ ∀ (j : Nat) (v : Value), cs[j]? = some v → w.cell? (ad.add j) = some v) (hfit : off + cs.length ≤ cur.length)
    (h1 : ∀ (v : Value), v ∈ cs → v.oneCell' = true)
    (h : ∀ (w' : World), Hid (w'.heap[g]? = some (Obj.cells (splice cur off cs).toArray t)) → Hid (Only w w' g) → wpList P ops Q rest (a.put o.dst (goInt ↑cs.length)) w') :
    wpList P ops Q (o :: rest) a w := by
  rcases Nat.eq_zero_or_pos cs.length with h0 | h0
  · have e : cs = [] := List.eq_nil_of_length_eq_zero h0
    subst e
    refine wpList_copy_nothing hgd d s dT sT ho elem hu hsz dp sp dLen dCap sLen sCap hd hs (by simpa using hn.symm) (h w ?_ (Only.refl _ _))
    show _ = _
    rw [hg]
    simp [splice]
  · obtain ⟨e, ad, e2, hc⟩ := hpos h0
    subst e e2
    refine wpList_copy_own hgd d s dT sT ho elem hu hsz g off dLen dCap ad sLen sCap hd hs cur.toArray t hg cs hn hc (by simpa using hfit) h1 (h _ ?_ ?_)
    · exact setRow_heap w g _ _ t _ hg
    · exact ⟨rfl, rfl, rfl, by simp, fun k hk => setRow_other w g k _ hk⟩
end Go.Proofs.CopyW
