/- path: strings as lists: indexed, sliced, compared. (A template.) -/
import Derived.Test.YtokocfoeohddfaaGreatDoorGOwn
import Derived.Test.YtokocfoeohddfaaGreatDoorPaMath
namespace Go.Proofs.YtokocfoeohddfaaGreatDoor.Pa
open Go.RowKit
set_option linter.unusedVariables false
set_option linter.unusedSimpArgs false
set_option maxRecDepth 100000

def bt (l : L8) (i : Nat) : Int := ((l.getD i 0).toNat : Int)
theorem bt_of {l : L8} {i : Nat} {v : UInt8} (h : l[i]? = some v) : bt l i = (v.toNat : Int) := by unfold bt; rw [List.getD_eq_getElem?_getD, h]; rfl
theorem bt_bounds (l : L8) (i : Nat) : 0 ≤ bt l i ∧ bt l i ≤ 255 := by
  unfold bt
  have := (l.getD i 0).toNat_lt
  omega
theorem bt_slash {l : L8} {i : Nat} (h : i < l.length) : bt l i = 47 ↔ l[i]? = some 47 := by
  rw [List.getElem?_eq_getElem h, bt_of (List.getElem?_eq_getElem h)]
  constructor
  · intro e
    congr 1
    exact UInt8.toNat_inj.1 (by have : (l[i].toNat : Int) = 47 := e; simpa using (by omega : l[i].toNat = 47))
  · intro e
    injection e with e
    rw [e]; rfl
theorem run_at (l : L8) (i : Nat) (h : i < l.length) (W : World) : (Instr.index 9 (.string (mk l)) (.int .i64 (i : Int))).run Tryz.prog W = .ok (.int .u8 (bt l i)) W := by
  have hs : i < (mk l).size := by rw [mk_size]; exact h
  have e : (mk l)[i]'hs = l.getD i 0 := by rw [mk_get, List.getD_eq_getElem?_getD, List.getElem?_eq_getElem h]; rfl
  have hu := Tryz.underlying9
  simp [Instr.index, go_sem, hu, hs, e, bt]
theorem run_sub (l : L8) (a b : Nat) (hab : a ≤ b) (hb : b ≤ l.length) (W : World) : (Instr.slice 9 (.string (mk l)) (some (.int .i64 (a : Int))) (some (.int .i64 (b : Int))) none).run Tryz.prog W = .ok (.string (mk ((l.drop a).take (b - a)))) W := by
  have hs : (mk l).size = l.length := mk_size l
  rw [← mk_extract]
  simp [Instr.slice, Instr.sliceBounds, go_sem, run_underlying Tryz.underlying9, hs, hb, hab]
theorem run_hd (l : L8) (b : Nat) (hb : b ≤ l.length) (W : World) : (Instr.slice 9 (.string (mk l)) none (some (.int .i64 (b : Int))) none).run Tryz.prog W = .ok (.string (mk (l.take b))) W := by
  have hs : (mk l).size = l.length := mk_size l
  have e : mk (l.take b) = (mk l).extract 0 b := by rw [mk_extract]; rfl
  rw [e]
  simp [Instr.slice, Instr.sliceBounds, go_sem, run_underlying Tryz.underlying9, hs, hb]
theorem run_tl (l : L8) (a : Nat) (ha : a ≤ l.length) (W : World) : (Instr.slice 9 (.string (mk l)) (some (.int .i64 (a : Int))) none none).run Tryz.prog W = .ok (.string (mk (l.drop a))) W := by
  have hs : (mk l).size = l.length := mk_size l
  have e : mk (l.drop a) = (mk l).extract a l.length := by rw [mk_extract, List.take_of_length_le (by rw [List.length_drop]; omega)]
  rw [e]
  simp [Instr.slice, Instr.sliceBounds, go_sem, run_underlying Tryz.underlying9, hs, ha]
theorem mk_toList (l : L8) : (mk l).toList = l := by rw [Lib.toList_data]; exact mk_list l
theorem eqs (a b : L8) : ((mk a).toList == (mk b).toList) = decide (a = b) := by
  rw [mk_toList, mk_toList]
  by_cases e : a = b
  · subst e; simp
  · simp [e]
theorem run_eqs (a b : L8) (W : World) : (binOp .eql 9 (.string (mk a)) (.string (mk b))).run Tryz.prog W = .ok (.bool (decide (a = b))) W := by
  rw [binOp_string_eql, eqs]; rfl
end Go.Proofs.YtokocfoeohddfaaGreatDoor.Pa
