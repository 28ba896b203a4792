/- What came in, as the walks read it; a table that the row lists. -/
import Derived.Test.YtbkdimdnpekgpaaDoorSCut
import Derived.ProofKit
import Derived.OpenShut
import Derived.ShutString
import Derived.ChangeOld
import Derived.Below
import Derived.Lib.LaidTab
namespace Go.Proofs.YtbkdimdnpekgpaaDoor
open Go.ChangeShapes Go.WideShapes Go.ChangeAt Go.RowKit Go.Proofs.ShaMath
set_option linter.unusedVariables false

/-- WHAT THE WALK IS TOLD OF A SLICE OF INTEGERS THAT CAME IN: it is nil; or it leads to a row of 'cap' cells, the numbers 'zs' (the first 'len' are its elements, the rest its spare room), each fitting its kind. -/
def IsRow (k : IntKind) (w : World) (a : Option Addr) (len cap : Nat) (zs : List Int) : Prop :=
  (a = none ∧ len = 0 ∧ cap = 0 ∧ zs = []) ∨
  ∃ x, a = some x ∧ len ≤ cap ∧ cap ≤ maxLen ∧ zs.length = cap ∧ (∀ i, i < zs.length → w.cell? (x.add i) = some (.int k (zs.getD i 0))) ∧ ∀ n ∈ zs, (Lit.int k n).wf = true

/-- a row that came in, as the walks read it -/
theorem bytes_of {w : World} {a : Option Addr} {len cap : Nat} {zs : List Int} (h : IsRow .u8 w a len cap zs) : len = (zs.take len).length ∧ Bytes w a (zs.take len) ∧ (a = none → cap = 0) ∧ len ≤ cap ∧ cap ≤ 9223372036854775807 := by
  rcases h with ⟨rfl, rfl, rfl, rfl⟩ | ⟨x, rfl, hl, hm, hz, hcell, hwz⟩
  · exact ⟨by simp, ⟨fun i => by simp, fun h => absurd rfl h⟩, fun _ => rfl, by omega, by omega⟩
  · unfold maxLen at hm
    have hlen : (zs.take len).length = len := by rw [List.length_take]; omega
    refine ⟨hlen.symm, ⟨fun c hc => ?_, fun hne => ?_⟩, (fun h => by cases h), hl, hm⟩
    · have hb := bounds_u8 (hwz c (List.mem_of_mem_take hc))
      exact ⟨hb.1, hb.2⟩
    · have hpos : 0 < len := by
        rcases Nat.eq_zero_or_pos len with h | h
        · subst h; simp at hne
        · exact h
      obtain ⟨b, off, spot⟩ := x
      have hc := hcell 0 (by omega)
      have hspot : spot = none := by simpa [Addr.add] using World.cell?_spot hc
      subst hspot
      refine ⟨b, off, rfl, fun i hi => ?_⟩
      rw [hlen] at hi
      have hci := hcell i (by omega)
      rw [List.getD_eq_getElem?_getD, List.getElem?_take, if_pos hi, ← List.getD_eq_getElem?_getD]
      by_cases h0 : i = 0
      · subst h0; simpa [Addr.add] using hci
      · simpa [Addr.add, h0] using hci

theorem tab_is {W : World} {name : String} {g : Nat} (h : Lib.TabIs Tryd.prog W name .u32 Ks) (hg : Tryd.prog.globalNamed name = some g) : Tab W g Ks := by
  have hc : ∀ j, j < 64 → W.cell? ⟨g, j, none⟩ = some (.int .u32 (Ks.getD j 0)) := fun j hj => h.cell hg j hj
  refine ⟨World.block_lt_of_cell? _ _ (hc 0 (by omega)), rfl, ?_, hc⟩
  unfold U32
  decide
end Go.Proofs.YtbkdimdnpekgpaaDoor
