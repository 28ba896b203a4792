/- For any two sums, number and bytes, In, Out, Roll and Join answer as the document's: the law RollMoves returns true and leaves its argument as it was. Conditions: none. -/
import Derived.Test.YtbkdimdnpekgpabRows
import Derived.Test.YtbkdimdnpekgpabBase
import Derived.WalkKit
import Derived.Deep.RegionHeld3
import Derived.ProofKit
import Derived.OpenShut
import Derived.ShutString
import Derived.ChangeOld
import Derived.Below
namespace Go.Proofs.Ytbkdimdnpekgpab.rollMoves
open Go.Proofs.RollMath
open Go.ChangeShapes Go.WideShapes Go.ChangeAt Go.RowKit
open Go.ChangeMaps (open_string shut_string)
set_option linter.unusedVariables false

theorem own : ownKnob Try.prog.godebug = none := by kernel_rfl
theorem laidOut : laidOutB Try.prog = true := by kernel_rfl


theorem five (l : List Value) (h : l.length = 5) : ∃ a b c d e, l = [a, b, c, d, e] := by
  match l, h with
  | [a, b, c, d, e], _ => exact ⟨a, b, c, d, e, rfl⟩

/-- two sums, a number and two bytes, that came in as one value -/
theorem open_sums {H : Type} {enc : TypeId × Value → H} {W : World} {base fuel : Nat} {r : Reach} {b0 : Nat} {sp : Nat → Bool} {held : Bool} {v : Value} {x : DataW H × List MemPlace}
    (hv : Value.okWide Try.prog W r b0 28 v) (h : DataW.trod enc Try.prog W base sp held fuel 28 v.cells.toList = some x) :
    ∃ A B N C D : Int, v = .agg #[.int .u32 A, .int .u32 B, .int .i64 N, .int .u8 C, .int .u8 D] ∧ (Lit.int .u32 A).wf = true ∧ (Lit.int .u32 B).wf = true ∧ (Lit.int .i64 N).wf = true ∧ (Lit.int .u8 C).wf = true ∧ (Lit.int .u8 D).wf = true := by
  obtain ⟨cs, rfl, hsz⟩ := okWide_struct Try.underlying28 hv
  obtain ⟨l⟩ := cs
  have hc : Try.prog.cellsOf 28 = 5 := by kernel_rfl
  obtain ⟨c0, c1, c2, c3, c4, rfl⟩ := five l (by rw [hc] at hsz; simpa using hsz)
  obtain ⟨xs, n, _, hx, _, hlen, hg⟩ := DataW.trod_struct Try.underlying28 h
  have k23 : Try.prog.cellsOf 23 = 1 := by kernel_rfl
  have k3 : Try.prog.cellsOf 3 = 1 := by kernel_rfl
  have k5 : Try.prog.cellsOf 5 = 1 := by kernel_rfl
  have g0 : DataW.trod enc Try.prog W base sp held n 23 [c0] = xs[0]? := by simpa [Value.cells, k23] using hg 0 _ rfl
  have g1 : DataW.trod enc Try.prog W base sp held n 23 [c1] = xs[1]? := by simpa [Value.cells, k23] using hg 1 _ rfl
  have g2 : DataW.trod enc Try.prog W base sp held n 3 [c2] = xs[2]? := by simpa [Value.cells, k3] using hg 2 _ rfl
  have g3 : DataW.trod enc Try.prog W base sp held n 5 [c3] = xs[3]? := by simpa [Value.cells, k5] using hg 3 _ rfl
  have g4 : DataW.trod enc Try.prog W base sp held n 5 [c4] = xs[4]? := by simpa [Value.cells, k5] using hg 4 _ rfl
  have hl : xs.length = 5 := hlen
  rw [List.getElem?_eq_getElem (by omega)] at g0 g1 g2 g3 g4
  obtain ⟨A, e0, _, w0⟩ := DataW.trod_int Try.underlying23 g0
  obtain ⟨B, e1, _, w1⟩ := DataW.trod_int Try.underlying23 g1
  obtain ⟨N, e2, _, w2⟩ := DataW.trod_int Try.underlying3 g2
  obtain ⟨C, e3, _, w3⟩ := DataW.trod_int Try.underlying5 g3
  obtain ⟨D, e4, _, w4⟩ := DataW.trod_int Try.underlying5 g4
  simp only [List.cons.injEq, and_true] at e0 e1 e2 e3 e4
  subst e0 e1 e2 e3 e4
  exact ⟨A, B, N, C, D, rfl, w0, w1, w2, w3, w4⟩

/-- the five cells of a block -/
def Five (A B N C D : Int) (g : Nat) (W : World) : Prop :=
  W.cell? ⟨g, 0, none⟩ = some (.int .u32 A) ∧ W.cell? ⟨g, 1, none⟩ = some (.int .u32 B) ∧ W.cell? ⟨g, 2, none⟩ = some (.int .i64 N) ∧ W.cell? ⟨g, 3, none⟩ = some (.int .u8 C) ∧ W.cell? ⟨g, 4, none⟩ = some (.int .u8 D)
theorem five_new (A B N C D : Int) (w : World) : Five A B N C D w.heap.size (w.alloc (Obj.cells #[.int .u32 A, .int .u32 B, .int .i64 N, .int .u8 C, .int .u8 D] 28)) := by
  refine ⟨?_, ?_, ?_, ?_, ?_⟩ <;> go_simp

set_option maxHeartbeats 4000000 in
set_option maxRecDepth 1000000 in
theorem walk (A B N C D : Int) (w : World) (wA : (Lit.int .u32 A).wf = true) (wB : (Lit.int .u32 B).wf = true) (wC : (Lit.int .u8 C).wf = true) (wD : (Lit.int .u8 D).wf = true) :
    Calls Try.prog 4 #[.agg #[.int .u32 A, .int .u32 B, .int .i64 N, .int .u8 C, .int .u8 D]] w fun e w' => e = .returned (.bool true) ∧ Below w.heap.size w w' := by
  have bA := bounds_u32 wA
  have bB := bounds_u32 wB
  have bC := bounds_u8 wC
  have bD := bounds_u8 wD
  have C12 := Lib.hid (fun W => in_any A N C W bA.1 bA.2 bC.1 bC.2)
  have C13 := Lib.hid (fun W => rin_any A N C W bA.1 bA.2 bC.1 bC.2)
  have C14 := Lib.hid (fun W => out_any A N C W bA.1 bA.2 bC.1 bC.2)
  have C15 := Lib.hid (fun W => rout_any A N C W bA.1 bA.2 bC.1 bC.2)
  have C16 := Lib.hid (fun W => roll_any A N C D W bA.1 bA.2 bC.1 bC.2 bD.1 bD.2)
  have C17 := Lib.hid (fun W => rroll_any A N C D W bA.1 bA.2 bC.1 bC.2 bD.1 bD.2)
  have C18 := Lib.hid (fun W => join_any A B N W bA.1 bA.2 bB.1 bB.2)
  have C19 := Lib.hid (fun W => rjoin_any A B N W bA.1 bA.2 bB.1 bB.2)
  generalize inS (outS A N C) D = s1 at C16 C17
  generalize inS A C = s2 at C12 C13
  generalize outS A N C = s3 at C14 C15
  generalize joinS A B N = s4 at C18 C19
  clear wA wB wC wD
  have hb0 : Below w.heap.size w (w.alloc (Obj.cells #[.int .u32 A, .int .u32 B, .int .i64 N, .int .u8 C, .int .u8 D] 28)) := (Below.refl _ _).alloc (Nat.le_refl _) _
  have HB0 := Lib.hid hb0
  clear hb0
  go_enter Try.func4, Try.ntmps4
  go_wp2
  have hd0 : Five A B N C D w.heap.size (w.alloc (Obj.cells #[.int .u32 A, .int .u32 B, .int .i64 N, .int .u8 C, .int .u8 D] 28)) := five_new A B N C D w
  generalize (w.alloc (Obj.cells #[.int .u32 A, .int .u32 B, .int .i64 N, .int .u8 C, .int .u8 D] 28)) = w1 at hd0 HB0 ⊢
  obtain ⟨f0, f1, f2, f3, f4⟩ := hd0
  have hsz := HB0.out.size
  generalize hgg : w.heap.size = g at *
  simp only [List.append]
  go_region_held3 (fun W => Below w1.heap.size w1 W ∧ W.cell? ⟨g, 0, none⟩ = some (.int .u32 A) ∧ W.cell? ⟨g, 1, none⟩ = some (.int .u32 B) ∧ W.cell? ⟨g, 2, none⟩ = some (.int .i64 N) ∧ W.cell? ⟨g, 3, none⟩ = some (.int .u8 C) ∧ W.cell? ⟨g, 4, none⟩ = some (.int .u8 D)) (first | assumption | exact ⟨Below.refl _ _, f0, f1, f2, f3, f4⟩ | exact ⟨Below.drew (Below.refl _ _), f0, f1, f2, f3, f4⟩) (first | (go_at_call 12; with_reducible refine (C12.out _).mono ?_; rintro e w' ⟨rfl, rfl⟩) | (go_at_call 13; with_reducible refine (C13.out _).mono ?_; rintro e w' ⟨rfl, rfl⟩) | (go_at_call 14; with_reducible refine (C14.out _).mono ?_; rintro e w' ⟨rfl, rfl⟩) | (go_at_call 15; with_reducible refine (C15.out _).mono ?_; rintro e w' ⟨rfl, rfl⟩) | (go_at_call 16; with_reducible refine (C16.out _).mono ?_; rintro e w' ⟨rfl, rfl⟩) | (go_at_call 17; with_reducible refine (C17.out _).mono ?_; rintro e w' ⟨rfl, rfl⟩) | (go_at_call 18; with_reducible refine (C18.out _).mono ?_; rintro e w' ⟨rfl, rfl⟩) | (go_at_call 19; with_reducible refine (C19.out _).mono ?_; rintro e w' ⟨rfl, rfl⟩) | (go_at_call 11; refine (awake_any _).mono ?_; rintro e w9 ⟨rfl, hb9⟩; have hb10 := Below.trans (And.left (by assumption)) (hb9.mono (Below.size (And.left (by assumption)))); have hb11 : Below w1.heap.size w1 w9 ∧ w9.cell? ⟨g, 0, none⟩ = some (.int .u32 A) ∧ w9.cell? ⟨g, 1, none⟩ = some (.int .u32 B) ∧ w9.cell? ⟨g, 2, none⟩ = some (.int .i64 N) ∧ w9.cell? ⟨g, 3, none⟩ = some (.int .u8 C) ∧ w9.cell? ⟨g, 4, none⟩ = some (.int .u8 D) := ⟨hb10, cell_later hb10 f0, cell_later hb10 f1, cell_later hb10 f2, cell_later hb10 f3, cell_later hb10 f4⟩))
  all_goals go_wp2
  all_goals go_ret
  all_goals exact ⟨rfl, by rw [hgg]; exact HB0.out.trans (Below.mono (by assumption) hsz)⟩

/-! ### THE ROW's STEP: WRITTEN OUT: LEAVE IT -/
set_option maxRecDepth 100000 in
theorem lifted (os : Os) (started : os.Started) (H : Type) (enc : TypeId × Value → H) :
    ReturnsInHanded {} Try.checked os 4 .any (Rows.rollMovesSpec.pre6 enc Try.prog Try.f4 Rows.rollMovesRow.domain false) (Rows.rollMovesSpec.post enc Try.prog Try.f4 false true false false) := by
  refine returnsInHanded_of_change (C := Try.checked) own started (by kernel_rfl) Try.func4
    (ChangeSpec.witness6 (enc := enc) (C := Try.checked) false ⟨#[], #[.agg #[.int .u32 0, .int .u32 0, .int .i64 0, .int .u8 0, .int .u8 0]], []⟩ 8 (by kernel_rfl) (by kernel_rfl) (by kernel_rfl) (by kernel_rfl)) ?_
  intro W base args ds gs before hval0 hW hcnd _
  have hval : ∀ (j : Nat) t v, Try.f4.params[j]? = some t → args[j]? = some v → Value.okWide Try.prog W .any base t v := hval0
  have hW' := hW
  obtain ⟨p, q, hA0, hV, rfl, hfz, hnd⟩ := hW
  have hA : DataW.TrodAll enc Try.prog W 0 (fun _ => true) true Try.f4.params.toList args.toList ds p := hA0
  rw [Try.params4] at hA hval
  obtain ⟨v0, vs0, d0, ds0, p0, q0, hargs, rfl, rfl, h0, r0⟩ := trodAll_cons hA
  obtain ⟨rfl, rfl, rfl⟩ := trodAll_nil r0
  obtain rfl : args = #[v0] := by cases args; simp_all
  obtain ⟨rfl, rfl⟩ := trodVars_none hV
  have k0 := h0
  have lt0 : ∀ x ∈ p0, x.block < W.heap.size := by obtain ⟨m, hm⟩ := k0; exact DataW.trod_lt m _ _ _ hm
  obtain ⟨fuel, hf⟩ := h0
  obtain ⟨A, B, N, C, D, rfl, wA, wB, wN, wC, wD⟩ := open_sums (hval 0 28 v0 rfl rfl) hf
  clear hA0 hval0
  refine (walk A B N C D W wA wB wC wD).mono fun e W' ⟨he, bel⟩ => ?_
  subst he
  exact ⟨_, rfl, _, _, _, [], _, [], hW', trodAll_mk1 (shut_bool Try.underlying4 _), (trodAll_cons_mk (Below.trod laidOut (by kernel_rfl) (of_decide_eq_true (by kernel_rfl)) k0 bel lt0) trodAll_mk0), rfl, bel.frame _, fun h => by cases h⟩

theorem over : Rows.rollMovesRow.holds Try.pinned (OpenSpec.ofChange Rows.rollMovesSpec) :=
  OpenClaim.holds_of_wide 4 Try.f4 rfl rfl rfl rfl rfl rfl rfl ⟨rfl, rfl, rfl, rfl, rfl⟩ rfl rfl rfl rfl rfl (by kernel_rfl) Try.func4 (by kernel_rfl)
    (of_decide_eq_true (by kernel_rfl)) (by unfold Func.isWrapper; first | (rw [if_pos (by decide +kernel)]; kernel_rfl) | (rw [if_neg (by decide +kernel)]; exact ⟨rfl, rfl⟩))
    (fun os started H enc _ => lifted os started H enc)

/-- ████ THE STATEMENT ████ -/
theorem proved : Rows.RollMovesSaid := over
#print axioms proved
end Go.Proofs.Ytbkdimdnpekgpab.rollMoves
