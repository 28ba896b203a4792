/- Marks and signatures as values; sig.markOf. -/
import Derived.Test.YtkppnbehkmpogaaDoorSgCheck
import Derived.Test.YtkppnbehkmpogaaDoorSSum2
import Derived.Test.YtkppnbehkmpogaaDoorRSum
import Derived.Test.YtkppnbehkmpogaaDoorRollAll
import Derived.Test.YtkppnbehkmpogaaDoorHeldRound
import Derived.Deep.MidRow
namespace Go.Proofs.YtkppnbehkmpogaaDoor
open Go.RowKit Go.Shelf Go.Proofs.BlkMath Go.Proofs.RangeLaw
open Go.Proofs.ShaMath (sumB)
open Go.Proofs.RollMath (sumOf sumOf_bd)
set_option linter.unusedVariables false
set_option maxRecDepth 100000

/-- the table of the strong sum's rounds, and the document's -/
def TabR (w : World) (K : List Int) : Prop := Sha.Tab w 2 K
def TabD (w : World) (K : List Int) : Prop := Sha.Tab w 1 K
theorem TabR.later {w w' : World} {K : List Int} (h : TabR w K) (hb : Below w.heap.size w w') : TabR w' K := Sha.Tab.later h hb
theorem TabD.later {w w' : World} {K : List Int} (h : TabD w K) (hb : Below w.heap.size w w') : TabD w' K := Sha.Tab.later h hb

/-- the first bytes of the strong sum -/
def strong (K l : List Int) (st : Nat) : ByteArray := (strOfNums (sumB K l)).extract 0 st
/-- a mark, as its two cells -/
def mk2 (x : Int) (s : ByteArray) : List Value := [.int .u32 x, .string s]
def mkV (x : Int) (s : ByteArray) : Value := .agg #[.int .u32 x, .string s]
theorem sum_size (K l : List Int) : (strOfNums (sumB K l)).size = 32 := by rw [strOfNums_size]; rfl
theorem strong_size (K l : List Int) (st : Nat) (h : st ≤ 32) : (strong K l st).size = st := by
  unfold strong; rw [ByteArray.size_extract, sum_size]; omega

theorem first_str (A : ByteArray) (n : Nat) (W : World) (h1 : n ≤ 32) (hA : A.size = 32) : (Instr.slice 9 (.string A) none (some (.int .i64 (n : Int))) none).run Tryd.prog W = .ok (.string (A.extract 0 n)) W := by
  have hu := Tryd.underlying9
  have h2 : (n : Int) ≤ 32 := by omega
  simp [go_sem, hu, hA, h2]

set_option maxHeartbeats 1000000 in
theorem markOf_any (a : Option Addr) (cap st : Nat) (K l : List Int) (w : World) (hB : Bytes w a l) (hT : TabR w K) (hnil : a = none → cap = 0) (hcap : l.length ≤ cap) (hcb : cap ≤ 9223372036854775807) (hl : l.length ≤ 900000000000) (hs : st ≤ 32) :
    Calls Tryd.prog 34 #[.slice a l.length cap, .int .i64 (st : Int)] w fun e w' => e = .returned (mkV (sumOf l) (strong K l st)) ∧ Below w.heap.size w w' := by
  have HR : Hid (∀ W, Below w.heap.size w W → Calls Tryd.prog 27 #[.slice a l.length cap] W fun e w' => e = .returned (.int .u32 (sumOf l)) ∧ W = w') :=
    fun W hb => Roll.of_any a l.length cap l W rfl (by omega) (hB.later hb)
  have HS : Hid (∀ W, Below w.heap.size w W → Calls Tryd.prog 57 #[.slice a l.length cap] W fun e w' => e = .returned (.string (strOfNums (sumB K l))) ∧ Below W.heap.size W w') :=
    fun W hb => Sha.sumof_walk a cap K l W (hB.later hb) (hT.later hb) hnil hcap hcb hl
  have hf := fun W => first_str (strOfNums (sumB K l)) st W hs (sum_size K l)
  have hE : (strOfNums (sumB K l)).extract 0 st = strong K l st := rfl
  rw [hE] at hf
  generalize strOfNums (sumB K l) = A at HS hf
  generalize strong K l st = B at hf ⊢
  generalize sumOf l = x at HR ⊢
  generalize l.length = n at HR HS ⊢
  clear hE hB hT hnil hcap hcb hl
  go_enter Tryd.func34, Tryd.ntmps34
  go_wp2_with (go_at_call 27; refine (HR.out _ ((Below.refl _ _).alloc (Nat.le_refl _) _)).mono ?_; rintro e w' ⟨rfl, rfl⟩)
  refine (HS.out _ ((Below.refl _ _).alloc (Nat.le_refl _) _)).mono ?_
  rintro e w2 ⟨rfl, hb2⟩
  have hh := (hb2.block w.heap.size (by simp)).trans (heap_new w _)
  have c0 : w2.cell? ⟨w.heap.size, 0, none⟩ = some (.int .u32 0) := by rw [cell_of_row w2 _ 0 _ _ (0, 0) hh]; rfl
  have c1 : w2.cell? ⟨w.heap.size, 1, none⟩ = some (.string { data := #[] }) := by rw [cell_of_row w2 _ 1 _ _ (0, 0) hh]; rfl
  have f0 : w2.frozen? ⟨w.heap.size, 0, none⟩ = false := unfrozen hh
  have f1 : w2.frozen? ⟨w.heap.size, 1, none⟩ = false := unfrozen hh
  have HB2 : Hid (Below w.heap.size w w2) := ((Below.refl _ _).alloc (Nat.le_refl _) _).trans (hb2.mono (by simp))
  have h3 := Joins.block_setCell (i := 1) (Joins.block_setCell (i := 0) hh (.int .u32 x)) (.string B)
  have e0 : ((w2.setCell ⟨w.heap.size, 0, none⟩ (.int .u32 x)).setCell ⟨w.heap.size, 1, none⟩ (.string B)).cell? ⟨w.heap.size, 0, none⟩ = some (.int .u32 x) := by rw [cell_of_row _ _ 0 _ _ (0, 0) h3]; rfl
  have e1 : ((w2.setCell ⟨w.heap.size, 0, none⟩ (.int .u32 x)).setCell ⟨w.heap.size, 1, none⟩ (.string B)).cell? ⟨w.heap.size, 1, none⟩ = some (.string B) := by rw [cell_of_row _ _ 1 _ _ (0, 0) h3]; rfl
  have HE0 := Lib.hid e0
  have HE1 := Lib.hid e1
  clear hb2 hh e0 e1 h3
  go_wp2
  have e0 := HE0.out
  have e1 := HE1.out
  refine bodyPost_ret (v := mkV x B) (by simp [results, go_sem, e0, e1]; rfl) rfl ⟨rfl, ?_⟩
  exact (HB2.out.setCell (p := ⟨w.heap.size, 0, none⟩) (Nat.le_refl _) _).setCell (p := ⟨w.heap.size, 1, none⟩) (Nat.le_refl _) _
end Go.Proofs.YtkppnbehkmpogaaDoor
