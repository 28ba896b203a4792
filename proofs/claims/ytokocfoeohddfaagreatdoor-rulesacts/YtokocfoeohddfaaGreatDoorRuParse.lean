/- rules: the rule of a line. (A template.) -/
import Derived.Test.YtokocfoeohddfaaGreatDoorRuBase
import Derived.Test.YtokocfoeohddfaaGreatDoorGlHas
import Derived.Test.YtokocfoeohddfaaGreatDoorGlStar
namespace Go.Proofs.YtokocfoeohddfaaGreatDoor.Pa
open Go.RowKit
set_option linter.unusedVariables false
set_option linter.unusedSimpArgs false
set_option maxRecDepth 100000

def cutp (l : L8) : L8 × Bool := if [47].isPrefixOf l = true then (l.drop 1, true) else (l, false)
def sufB (l : L8) : Bool := decide (l ≠ [] ∧ nb l (l.length - 1) = 47)
def cuts (l : L8) : L8 × Bool := if sufB l = true then (l.take (l.length - 1), true) else (l, false)
theorem cutp_lite (l : L8) (w : World) (hl : l.length ≤ 4611686018427387904) :
    Calls Tryz.prog 43 #[.string (mk l), .string { data := #[47] }] w fun e w' => e = .returned (.tuple #[.string (mk (cutp l).1), .bool (cutp l).2]) ∧ w = w' := by
  have H := slp_any l [47] w
  rw [show mk [47] = { data := #[47] } from rfl] at H
  cases hb : [47].isPrefixOf l with
  | false =>
    rw [hb] at H
    have e : cutp l = (l, false) := by unfold cutp; rw [hb]; rfl
    rw [e]
    have H := Lib.hid H
    clear hb e hl
    generalize mk l = p at *
    go_enter Tryz.func43, Tryz.ntmps43
    go_wp2_with (go_at_call 53; refine H.out.mono ?_; rintro e w' ⟨rfl, rfl⟩)
    go_ret2
    exact ⟨rfl, rfl⟩
  | true =>
    rw [hb] at H
    have hpos : 1 ≤ l.length := by cases l with
      | nil => simp [List.isPrefixOf] at hb
      | cons c r => simp
    have e : cutp l = (l.drop 1, true) := by unfold cutp; rw [hb]; rfl
    rw [e]
    have hx := run_tl l 1 hpos
    simp only [Int.cast_ofNat_Int] at hx
    have hz : ({ data := #[47] } : ByteArray).size = 1 := rfl
    have H := Lib.hid H
    clear hb e hl hpos
    generalize mk (l.drop 1) = q at *
    generalize mk l = p at *
    go_enter Tryz.func43, Tryz.ntmps43
    go_wp2_with (go_at_call 53; refine H.out.mono ?_; rintro e w' ⟨rfl, rfl⟩)
    go_ret2
    exact ⟨rfl, rfl⟩
theorem cutp_any (l : L8) (w : World) (hl : l.length ≤ 4611686018427387904) :
    Calls Tryz.prog 27 #[.string (mk l), .string { data := #[47] }] w fun e w' => e = .returned (.tuple #[.string (mk (cutp l).1), .bool (cutp l).2]) ∧ w = w' := by
  have H := Lib.hid (cutp_lite l w hl)
  generalize mk (cutp l).1 = q at *
  generalize (cutp l).2 = b at *
  clear hl
  generalize mk l = p at *
  go_enter Tryz.func27, Tryz.ntmps27
  go_wp2_with (go_at_call 43; refine H.out.mono ?_; rintro e w' ⟨rfl, rfl⟩)
  go_ret2
  exact ⟨rfl, rfl⟩
theorem suf_any (l : L8) (w : World) (hl : l.length ≤ 4611686018427387904) :
    Calls Tryz.prog 54 #[.string (mk l), .string { data := #[47] }] w fun e w' => e = .returned (.bool (sufB l)) ∧ w = w' := by
  have hs : (mk l).size = l.length := mk_size l
  have hz : ({ data := #[47] } : ByteArray).size = 1 := rfl
  by_cases hn : l = []
  · have e : sufB l = false := by unfold sufB; exact decide_eq_false (fun h => h.1 hn)
    rw [e]
    have hI : ¬ (1 : Int) ≤ ((mk l).size : Int) := by rw [hs, hn]; decide
    clear hs hl e hn
    generalize mk l = p at *
    go_enter Tryz.func54, Tryz.ntmps54
    go_wp2
    go_ret
    exact ⟨rfl, rfl⟩
  · have hpos : 1 ≤ l.length := by cases l with
      | nil => exact absurd rfl hn
      | cons c r => simp
    have hI : (1 : Int) ≤ ((mk l).size : Int) := by rw [hs]; omega
    have hx := run_tl l (l.length - 1) (by omega)
    have hd : l.drop (l.length - 1) = [l.getD (l.length - 1) 0] := by
      rw [List.drop_eq_getElem_cons (by omega), List.drop_eq_nil_of_le (by omega), List.getD_eq_getElem?_getD, List.getElem?_eq_getElem (by omega)]; rfl
    have hsub : IntKind.i64.wrap (((mk l).size : Int) - 1) = ((l.length - 1 : Nat) : Int) := by rw [hs, IntWalk.i64_in _ (by omega)]; omega
    have heq : ((mk (l.drop (l.length - 1))).toList == (mk [47]).toList) = sufB l := by
      rw [eqs, hd]
      unfold sufB nb
      rw [Bool.eq_iff_iff]
      simp only [decide_eq_true_eq, List.cons.injEq, and_true]
      constructor
      · intro h; rw [h]; exact ⟨hn, rfl⟩
      · intro h; exact UInt8.toNat_inj.1 h.2
    have e47 : ({ data := #[47] } : ByteArray) = mk [47] := rfl
    rw [e47] at hz ⊢
    clear hs hl hpos hn hd e47
    generalize mk (l.drop (l.length - 1)) = q at *
    generalize l.length - 1 = k at *
    generalize mk [47] = u at *
    generalize sufB l = R at *
    generalize mk l = p at *
    go_enter Tryz.func54, Tryz.ntmps54
    go_wp2
    go_ret
    exact ⟨rfl, rfl⟩
theorem cuts_lite (l : L8) (w : World) (hl : l.length ≤ 4611686018427387904) :
    Calls Tryz.prog 44 #[.string (mk l), .string { data := #[47] }] w fun e w' => e = .returned (.tuple #[.string (mk (cuts l).1), .bool (cuts l).2]) ∧ w = w' := by
  have H := suf_any l w hl
  have hs : (mk l).size = l.length := mk_size l
  cases hb : sufB l with
  | false =>
    rw [hb] at H
    have e : cuts l = (l, false) := by unfold cuts; rw [hb]; rfl
    rw [e]
    have H := Lib.hid H
    clear hb e hl hs
    generalize mk l = p at *
    go_enter Tryz.func44, Tryz.ntmps44
    go_wp2_with (go_at_call 54; refine H.out.mono ?_; rintro e w' ⟨rfl, rfl⟩)
    go_ret2
    exact ⟨rfl, rfl⟩
  | true =>
    rw [hb] at H
    have hpos : 1 ≤ l.length := by
      unfold sufB at hb
      have := (of_decide_eq_true hb).1
      cases l with
      | nil => exact absurd rfl this
      | cons c r => simp
    have e : cuts l = (l.take (l.length - 1), true) := by unfold cuts; rw [hb]; rfl
    rw [e]
    have hx := run_hd l (l.length - 1) (by omega)
    have hsub : IntKind.i64.wrap (((mk l).size : Int) - 1) = ((l.length - 1 : Nat) : Int) := by rw [hs, IntWalk.i64_in _ (by omega)]; omega
    have hz : ({ data := #[47] } : ByteArray).size = 1 := rfl
    have H := Lib.hid H
    clear hb e hl hpos hs
    generalize mk (l.take (l.length - 1)) = q at *
    generalize l.length - 1 = k at *
    generalize mk l = p at *
    go_enter Tryz.func44, Tryz.ntmps44
    go_wp2_with (go_at_call 54; refine H.out.mono ?_; rintro e w' ⟨rfl, rfl⟩)
    go_ret2
    exact ⟨rfl, rfl⟩
theorem cuts_any (l : L8) (w : World) (hl : l.length ≤ 4611686018427387904) :
    Calls Tryz.prog 28 #[.string (mk l), .string { data := #[47] }] w fun e w' => e = .returned (.tuple #[.string (mk (cuts l).1), .bool (cuts l).2]) ∧ w = w' := by
  have H := Lib.hid (cuts_lite l w hl)
  generalize mk (cuts l).1 = q at *
  generalize (cuts l).2 = b at *
  clear hl
  generalize mk l = p at *
  go_enter Tryz.func28, Tryz.ntmps28
  go_wp2_with (go_at_call 44; refine H.out.mono ?_; rintro e w' ⟨rfl, rfl⟩)
  go_ret2
  exact ⟨rfl, rfl⟩

/-! the rule of a line -/
def signI (c : UInt8) : Int := Lib.indexByte [43, 45, 80, 82] c
def zeroRu : Ru := ⟨0, [], false, false⟩
def lineRu (l : L8) : Ru := ⟨1 + signI (l.getD 0 0), (cuts (cutp (l.drop 2)).1).1, (cuts (cutp (l.drop 2)).1).2, (cutp (l.drop 2)).2⟩
def parseR (l : L8) : Ru × Int := if l.length < 2 ∨ nb l 1 ≠ 32 ∨ signI (l.getD 0 0) < 0 then (zeroRu, 5) else if refE (lineRu l).act (lineRu l).pat ≠ 0 then (zeroRu, refE (lineRu l).act (lineRu l).pat) else (lineRu l, 0)
theorem signI_bd (c : UInt8) : -1 ≤ signI c ∧ signI c ≤ 3 := by
  unfold signI
  simp only [Lib.indexByte]
  repeat' split
  all_goals simp_all
theorem cutp_len (l : L8) : (cutp l).1.length ≤ l.length := by unfold cutp; split <;> simp
theorem cuts_len (l : L8) : (cuts l).1.length ≤ l.length := by unfold cuts; split <;> simp [List.length_take]
abbrev Z4 : Array Value := #[.int .i64 0, .string { data := #[] }, .bool false, .bool false]
theorem row4 {W : World} {g : Nat} {y0 y1 y2 y3 : Value} {t : TypeId} (h : W.heap[g]? = some (.cells #[y0, y1, y2, y3] t)) (x0 x1 x2 x3 : Value) :
    ((((W.setCell ⟨g, 0, none⟩ x0).setCell ⟨g, 1, none⟩ x1).setCell ⟨g, 2, none⟩ x2).setCell ⟨g, 3, none⟩ x3).heap[g]? = some (.cells #[x0, x1, x2, x3] t) := by
  simpa using row_set (row_set (row_set (row_set h 0 x0) 1 x1) 2 x2) 3 x3
theorem cells4 {W : World} {g : Nat} {x0 x1 x2 x3 : Value} {t : TypeId} (h : W.heap[g]? = some (.cells #[x0, x1, x2, x3] t)) :
    (W.cell? ⟨g, 0, none⟩ = some x0 ∧ W.cell? ⟨g, 1, none⟩ = some x1 ∧ W.cell? ⟨g, 2, none⟩ = some x2 ∧ W.cell? ⟨g, 3, none⟩ = some x3) ∧ W.frozen? ⟨g, 0, none⟩ = false ∧ W.frozen? ⟨g, 1, none⟩ = false ∧ W.frozen? ⟨g, 2, none⟩ = false ∧ W.frozen? ⟨g, 3, none⟩ = false := by
  refine ⟨⟨?_, ?_, ?_, ?_⟩, unfrozen h, unfrozen h, unfrozen h, unfrozen h⟩
  · rw [cell_of_row _ _ 0 _ _ (0, 0) h]; rfl
  · rw [cell_of_row _ _ 1 _ _ (0, 0) h]; rfl
  · rw [cell_of_row _ _ 2 _ _ (0, 0) h]; rfl
  · rw [cell_of_row _ _ 3 _ _ (0, 0) h]; rfl
end Go.Proofs.YtokocfoeohddfaaGreatDoor.Pa
