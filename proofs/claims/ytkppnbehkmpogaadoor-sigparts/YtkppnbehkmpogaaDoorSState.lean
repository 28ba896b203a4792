/- A state's block: eight words, 64 bytes, a number. -/
import Derived.Test.YtkppnbehkmpogaaDoorFilled
import Derived.Test.YtkppnbehkmpogaaDoorMixed
import Derived.Test.YtkppnbehkmpogaaDoorCopyW
import Derived.BigRegion
import Derived.Deep.RegionLaw
import Derived.Deep.RegionWith
namespace Go.Proofs.YtkppnbehkmpogaaDoor.Sha
open Go.RowKit Go.Proofs.ShaMath Go.Proofs.CopyW
set_option linter.unusedVariables false
set_option maxRecDepth 100000

/-- one block may differ, and new ones may be there -/
def But (w w' : World) (g : Nat) : Prop :=
  w'.os = w.os ∧ w'.tape = w.tape ∧ w'.output = w.output ∧ w.heap.size ≤ w'.heap.size ∧ ∀ k, k < w.heap.size → k ≠ g → w'.heap[k]? = w.heap[k]?
theorem But.refl (w : World) (g : Nat) : But w w g := ⟨rfl, rfl, rfl, Nat.le_refl _, fun _ _ _ => rfl⟩
theorem But.trans {a b c : World} {g : Nat} (h : But a b g) (k : But b c g) : But a c g :=
  ⟨k.1.trans h.1, k.2.1.trans h.2.1, k.2.2.1.trans h.2.2.1, Nat.le_trans h.2.2.2.1 k.2.2.2.1, fun i hi hn => (k.2.2.2.2 i (Nat.lt_of_lt_of_le hi h.2.2.2.1) hn).trans (h.2.2.2.2 i hi hn)⟩
theorem But.of_below {w w' : World} {g : Nat} (h : Below w.heap.size w w') : But w w' g := ⟨h.os, h.tape, h.output, h.size, fun k hk _ => h.block k hk⟩
theorem But.of_only {w w' : World} {g : Nat} (h : Only w w' g) : But w w' g := ⟨h.1, h.2.1, h.2.2.1, by rw [h.2.2.2.1]; exact Nat.le_refl _, fun k _ hn => h.2.2.2.2 k hn⟩
theorem But.setCell (w : World) (g i : Nat) (u : Value) : But w (w.setCell ⟨g, i, none⟩ u) g :=
  ⟨rfl, rfl, rfl, by simp [World.setCell], fun k _ hn => Below.heap_setCell _ _ _ _ hn⟩
theorem But.below {w w' : World} {g B : Nat} (h : But w w' g) (hg : B ≤ g) (hB : B ≤ w.heap.size) : Below B w w' :=
  ⟨h.1, h.2.1, h.2.2.1, h.2.2.2.1, fun k hk => h.2.2.2.2 k (by omega) (by omega)⟩
theorem But.cell {w w' : World} {g b o : Nat} {v : Value} (h : But w w' g) (hb : b ≠ g) (hc : w.cell? ⟨b, o, none⟩ = some v) : w'.cell? ⟨b, o, none⟩ = some v := by
  have hlt := World.block_lt_of_cell? w _ hc
  rw [World.cell?_of_block (w := w) (h.2.2.2.2 b hlt hb)]; exact hc

/-- bytes that lie apart from a block -/
def Src (w : World) (g : Nat) (a : Option Addr) (l : List Int) : Prop :=
  Oct l ∧ (l ≠ [] → ∃ b off, a = some ⟨b, off, none⟩ ∧ b ≠ g ∧ ∀ i, i < l.length → w.cell? ⟨b, off + i, none⟩ = some (.int .u8 (l.getD i 0)))
theorem Src.but {w w' : World} {g : Nat} {a : Option Addr} {l : List Int} (h : Src w g a l) (hb : But w w' g) : Src w' g a l :=
  ⟨h.1, fun hne => by
    obtain ⟨b, off, e, hn, hc⟩ := h.2 hne
    exact ⟨b, off, e, hn, fun i hi => hb.cell hn (hc i hi)⟩⟩
theorem Src.bytes {w : World} {g : Nat} {a : Option Addr} {l : List Int} (h : Src w g a l) : Bytes w a l :=
  ⟨h.1, fun hne => by obtain ⟨b, off, e, _, hc⟩ := h.2 hne; exact ⟨b, off, e, hc⟩⟩
theorem Bytes.src_lt {w : World} {g : Nat} {a : Option Addr} {l : List Int} (h : Bytes w a l) (hg : ∀ b off, a = some ⟨b, off, none⟩ → b ≠ g) : Src w g a l :=
  ⟨h.1, fun hne => by obtain ⟨b, off, e, hc⟩ := h.2 hne; exact ⟨b, off, e, hg b off e, hc⟩⟩

/-- the cells of a state -/
def stc (s : St) (R : List Int) (n : Nat) : List Value := s.list.map (Value.int .u32) ++ (R.map (Value.int .u8) ++ [.int .i64 n])
def StC (w : World) (g : Nat) (s : St) (R : List Int) (n : Nat) : Prop := w.heap[g]? = some (.cells (stc s R n).toArray 104)
theorem StC.cell {w : World} {g : Nat} {s : St} {R : List Int} {n : Nat} (h : StC w g s R n) (i : Nat) : w.cell? ⟨g, i, none⟩ = (stc s R n)[i]? := by
  rw [cell_of_row w g i _ 104 (0, 0) h, List.getElem?_toArray]
theorem StC.words {w : World} {g : Nat} {s : St} {R : List Int} {n : Nat} (h : StC w g s R n) :
    w.cell? ⟨g, 0, none⟩ = some (.int .u32 s.a) ∧ w.cell? ⟨g, 1, none⟩ = some (.int .u32 s.b) ∧ w.cell? ⟨g, 2, none⟩ = some (.int .u32 s.c) ∧ w.cell? ⟨g, 3, none⟩ = some (.int .u32 s.d) ∧ w.cell? ⟨g, 4, none⟩ = some (.int .u32 s.e) ∧ w.cell? ⟨g, 5, none⟩ = some (.int .u32 s.f) ∧ w.cell? ⟨g, 6, none⟩ = some (.int .u32 s.g) ∧ w.cell? ⟨g, 7, none⟩ = some (.int .u32 s.h) := by
  refine ⟨?_, ?_, ?_, ?_, ?_, ?_, ?_, ?_⟩ <;> rw [h.cell] <;> rfl
theorem StC.rest {w : World} {g : Nat} {s : St} {R : List Int} {n : Nat} (h : StC w g s R n) (i : Nat) (hi : i < R.length) : w.cell? ⟨g, 8 + i, none⟩ = some (.int .u8 (R.getD i 0)) := by
  rw [h.cell, stc, List.getElem?_append_right (by simp [St.list]), List.getElem?_append_left (by simp [St.list]; omega), List.getElem?_map]
  simp [St.list, List.getElem?_eq_getElem hi]
theorem StC.size {w : World} {g : Nat} {s : St} {R : List Int} {n : Nat} (h : StC w g s R n) (hR : R.length = 64) : w.cell? ⟨g, 72, none⟩ = some (.int .i64 n) := by
  rw [h.cell, stc, List.getElem?_append_right (by simp [St.list]), List.getElem?_append_right (by simp [St.list, hR])]
  simp [St.list, hR]
theorem StC.free {w : World} {g : Nat} {s : St} {R : List Int} {n : Nat} (h : StC w g s R n) (i : Nat) : w.frozen? ⟨g, i, none⟩ = false := unfrozen h
theorem StC.lt {w : World} {g : Nat} {s : St} {R : List Int} {n : Nat} (h : StC w g s R n) : g < w.heap.size := heap_lt h
theorem StC.later {w w' : World} {g : Nat} {s : St} {R : List Int} {n : Nat} (h : StC w g s R n) (hb : Below w.heap.size w w') : StC w' g s R n := by
  unfold StC; rw [hb.block g h.lt]; exact h
theorem StC.apart {w w' : World} {g k : Nat} {s : St} {R : List Int} {n : Nat} (h : StC w g s R n) (hb : But w w' k) (hk : g ≠ k) : StC w' g s R n := by
  unfold StC; rw [hb.2.2.2.2 g h.lt hk]; exact h
theorem StC.setSize {w : World} {g : Nat} {s : St} {R : List Int} {n : Nat} (h : StC w g s R n) (hR : R.length = 64) (m : Nat) : StC (w.setCell ⟨g, 72, none⟩ (.int .i64 m)) g s R m := by
  unfold StC
  rw [Joins.block_setCell h _]
  congr 2
  rw [List.setIfInBounds_toArray]
  congr 1
  unfold stc
  rw [List.set_append, if_neg (by simp [St.list]), List.set_append, if_neg (by simp [St.list, hR])]
  simp [St.list, hR]
/-- the eight words stored -/
def put8 (w : World) (g : Nat) (s : St) : World := (((((((w.setCell ⟨g, 0, none⟩ (.int .u32 s.a)).setCell ⟨g, 1, none⟩ (.int .u32 s.b)).setCell ⟨g, 2, none⟩ (.int .u32 s.c)).setCell ⟨g, 3, none⟩ (.int .u32 s.d)).setCell ⟨g, 4, none⟩ (.int .u32 s.e)).setCell ⟨g, 5, none⟩ (.int .u32 s.f)).setCell ⟨g, 6, none⟩ (.int .u32 s.g)).setCell ⟨g, 7, none⟩ (.int .u32 s.h)
theorem StC.with8 {w : World} {g : Nat} {s : St} {R : List Int} {n : Nat} (h : StC w g s R n) (s' : St) : StC (put8 w g s') g s' R n := by
  unfold StC put8
  have h0 := Joins.block_setCell (i := 0) h (.int .u32 s'.a)
  have h1 := Joins.block_setCell (i := 1) h0 (.int .u32 s'.b)
  have h2 := Joins.block_setCell (i := 2) h1 (.int .u32 s'.c)
  have h3 := Joins.block_setCell (i := 3) h2 (.int .u32 s'.d)
  have h4 := Joins.block_setCell (i := 4) h3 (.int .u32 s'.e)
  have h5 := Joins.block_setCell (i := 5) h4 (.int .u32 s'.f)
  have h6 := Joins.block_setCell (i := 6) h5 (.int .u32 s'.g)
  have h7 := Joins.block_setCell (i := 7) h6 (.int .u32 s'.h)
  rw [h7]
  simp only [List.setIfInBounds_toArray]
  rfl
theorem But.with8 (w : World) (g : Nat) (s : St) : But w (put8 w g s) g :=
  (((((((But.setCell _ _ _ _).trans (But.setCell _ _ _ _)).trans (But.setCell _ _ _ _)).trans (But.setCell _ _ _ _)).trans (But.setCell _ _ _ _)).trans (But.setCell _ _ _ _)).trans (But.setCell _ _ _ _)).trans (But.setCell _ _ _ _)
/-- bytes laid over -/
def lay (R : List Int) (p : Nat) (c : List Int) : List Int := R.take p ++ (c ++ R.drop (p + c.length))
theorem lay_length (R : List Int) (p : Nat) (c : List Int) (h : p + c.length ≤ R.length) : (lay R p c).length = R.length := by
  unfold lay; simp; omega
theorem stc_splice (s : St) (R : List Int) (n p : Nat) (c : List Int) (h : p + c.length ≤ R.length) : splice (stc s R n) (8 + p) (c.map (Value.int .u8)) = stc s (lay R p c) n := by
  unfold splice stc lay
  have hl : (s.list.map (Value.int .u32)).length = 8 := by simp [St.list]
  have e1 : List.take (8 + p) (s.list.map (Value.int .u32) ++ (R.map (Value.int .u8) ++ [Value.int .i64 n])) = s.list.map (Value.int .u32) ++ (R.take p).map (Value.int .u8) := by
    rw [List.take_append, hl, List.take_of_length_le (by omega), show 8 + p - 8 = p from by omega, List.take_append_of_le_length (by simp; omega), List.map_take]
  have e2 : List.drop (8 + p + (c.map (Value.int .u8)).length) (s.list.map (Value.int .u32) ++ (R.map (Value.int .u8) ++ [Value.int .i64 n])) = (R.drop (p + c.length)).map (Value.int .u8) ++ [Value.int .i64 n] := by
    rw [List.drop_append, hl, List.drop_of_length_le (by omega), List.length_map, show 8 + p + c.length - 8 = p + c.length from by omega, List.drop_append_of_le_length (by simp; omega), List.map_drop]
    simp
  rw [e1, e2]
  simp [List.map_append]

/-- a state to which l was written -/
def Wrote (w : World) (g : Nat) (K l : List Int) : Prop :=
  ∃ R, R.length = 64 ∧ Oct R ∧ R.take (l.length % 64) = l.drop (64 * (l.length / 64)) ∧ StC w g (run K l (l.length / 64)) R l.length
theorem Wrote.later {w w' : World} {g : Nat} {K l : List Int} (h : Wrote w g K l) (hb : Below w.heap.size w w') : Wrote w' g K l := by
  obtain ⟨R, h1, h2, h3, h4⟩ := h; exact ⟨R, h1, h2, h3, h4.later hb⟩
theorem Wrote.apart {w w' : World} {g k : Nat} {K l : List Int} (h : Wrote w g K l) (hb : But w w' k) (hk : g ≠ k) : Wrote w' g K l := by
  obtain ⟨R, h1, h2, h3, h4⟩ := h; exact ⟨R, h1, h2, h3, h4.apart hb hk⟩
/-- one whole block, where nothing is left over -/
theorem wrote_block {w : World} {g : Nat} {K l B R : List Int} (hm : l.length % 64 = 0) (hB : B.length = 64) (hR : R.length = 64) (hO : Oct R)
    (h : StC w g (mix K (run K l (l.length / 64)) B) R (l.length + 64)) : Wrote w g K (l ++ B) := by
  have hq : (l ++ B).length / 64 = l.length / 64 + 1 := by rw [List.length_append, hB]; omega
  have hr : (l ++ B).length % 64 = 0 := by rw [List.length_append, hB]; omega
  refine ⟨R, hR, hO, ?_, ?_⟩
  · rw [hr, List.take_zero, hq, List.drop_of_length_le (by rw [List.length_append, hB]; omega)]
  · rw [hq, show (l ++ B).length = l.length + 64 from by rw [List.length_append, hB]]
    rw [run, run_append _ _ _ _ (by omega), List.drop_append_of_le_length (by omega), List.drop_of_length_le (by omega), List.nil_append, List.take_of_length_le (by omega)]
    exact h
/-- some bytes more, the block not full -/
theorem wrote_some {w : World} {g : Nat} {K l c R : List Int} (hR : R.length = 64) (hO : Oct R) (hc : Oct c) (h3 : R.take (l.length % 64) = l.drop (64 * (l.length / 64))) (hlt : l.length % 64 + c.length < 64)
    (h : StC w g (run K l (l.length / 64)) (lay R (l.length % 64) c) (l.length + c.length)) : Wrote w g K (l ++ c) := by
  have hq : (l ++ c).length / 64 = l.length / 64 := by rw [List.length_append]; omega
  have hr : (l ++ c).length % 64 = l.length % 64 + c.length := by rw [List.length_append]; omega
  refine ⟨lay R (l.length % 64) c, by rw [lay_length _ _ _ (by omega), hR], ?_, ?_, ?_⟩
  · exact (hO.take _).append (hc.append (hO.drop _))
  · rw [hq, hr, List.drop_append_of_le_length (by omega), ← h3]
    unfold lay
    have e1 : (R.take (l.length % 64)).length = l.length % 64 := by rw [List.length_take]; omega
    have e2 : (c ++ R.drop (l.length % 64 + c.length)).take c.length = c := by rw [List.take_append_of_le_length (Nat.le_refl _), List.take_length]
    rw [List.take_append, e1, show l.length % 64 + c.length - l.length % 64 = c.length from by omega, e2]
    congr 1
    exact List.take_of_length_le (by omega)
  · rw [hq, run_append _ _ _ _ (by omega), List.length_append]; exact h
/-- some bytes more, the block full -/
theorem wrote_full {w : World} {g : Nat} {K l c R : List Int} (hR : R.length = 64) (hO : Oct R) (hc : Oct c) (h3 : R.take (l.length % 64) = l.drop (64 * (l.length / 64))) (hlt : l.length % 64 + c.length = 64)
    (h : StC w g (mix K (run K l (l.length / 64)) (lay R (l.length % 64) c)) (lay R (l.length % 64) c) (l.length + c.length)) : Wrote w g K (l ++ c) := by
  have hq : (l ++ c).length / 64 = l.length / 64 + 1 := by rw [List.length_append]; omega
  have hr : (l ++ c).length % 64 = 0 := by rw [List.length_append]; omega
  have hlay : lay R (l.length % 64) c = l.drop (64 * (l.length / 64)) ++ c := by
    unfold lay; rw [h3, show R.drop (l.length % 64 + c.length) = [] from List.drop_of_length_le (by omega), List.append_nil]
  refine ⟨lay R (l.length % 64) c, by rw [lay_length _ _ _ (by omega), hR], ?_, ?_, ?_⟩
  · exact (hO.take _).append (hc.append (hO.drop _))
  · rw [hq, hr, List.take_zero, List.drop_of_length_le (by rw [List.length_append]; omega)]
  · rw [hq, run, run_append _ _ _ _ (by omega), List.length_append, List.drop_append_of_le_length (by omega), ← hlay, List.take_of_length_le (by rw [lay_length _ _ _ (by omega)]; omega)]
    exact h
end Go.Proofs.YtkppnbehkmpogaaDoor.Sha
