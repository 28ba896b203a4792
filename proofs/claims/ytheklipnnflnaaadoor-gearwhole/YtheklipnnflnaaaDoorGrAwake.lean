/- gear: the chapter's examples. (A template: seatgen.py fills it.) -/
import Derived.Test.YtheklipnnflnaaaDoorGrRCuts
namespace Go.Proofs.YtheklipnnflnaaaDoor.Gear
open Go.RowKit Go.Proofs.GearMath
set_option linter.unusedVariables false
set_option maxRecDepth 1000000

theorem scan_flat (L B : Int) (l : List Int) (d : Nat) : ∀ (k : Nat) (g : Int), (k : Int) + (d : Int) ≤ L → scan L B l d k g = k + d := by
  induction d with
  | zero => intro k g h; rfl
  | succ d ih =>
    intro k g h
    rw [scan]
    split
    · next hh => unfold hit at hh; omega
    · rw [ih (k + 1) _ (by omega)]; omega
def abc : List Int := [97, 98, 99, 100, 101, 102, 103, 104, 105, 106]
theorem abc_oct : Oct abc := by decide
theorem abc_cuts : cuts 4 4 16 abc 0 = [4, 8, 10] := by
  have e1 : fe 4 4 16 (abc.drop 0) = 4 := by unfold fe; rw [scan_flat _ _ _ _ _ _ (by decide)]; decide
  have e2 : fe 4 4 16 (abc.drop 4) = 4 := by unfold fe; rw [scan_flat _ _ _ _ _ _ (by decide)]; decide
  have e3 : fe 4 4 16 (abc.drop 8) = 2 := by unfold fe; rw [scan_flat _ _ _ _ _ _ (by decide)]; decide
  rw [cuts_more _ _ _ _ _ (by decide) (by decide), e1, cuts_more _ _ _ _ _ (by decide) (by decide), e2, cuts_more _ _ _ _ _ (by decide) (by decide), e3, cuts_end _ _ _ _ _ (by decide)]
theorem gt_zero : gt 0 = 11645290882166186587 := by decide +kernel
theorem ints_sl (w : World) (l : List Nat) : ISl (w.alloc (.cells (ints l).toArray 3)) (.slice (some ⟨w.heap.size, 0, none⟩) l.length l.length) l := by
  refine ⟨_, _, rfl, fun hne => ⟨w.heap.size, 0, rfl, fun i hi => ?_⟩⟩
  rw [cell_of_row _ _ _ _ _ (0, 0) (heap_new w _)]
  simp only [Nat.zero_add, List.getElem?_toArray, ints, List.getElem?_map]
  rw [List.getElem?_eq_getElem hi, List.getD_eq_getElem?_getD, List.getElem?_eq_getElem hi]; rfl
theorem iown_form {w : World} {base : Nat} {v : Value} {l : List Nat} (h : IOwn w base v l) : ∃ a cap, v = .slice a l.length cap := by
  obtain ⟨a, cap, e, _⟩ := h.sl
  exact ⟨a, cap, e⟩

theorem cuts_lit (w : World) (C : Array Value) (n cap : Nat) (fr : Nat × Nat) (hC : C = (abc.map (Value.int .u8)).toArray) (hn : n = 10) (hcap : n ≤ cap) (hT : Tab w) :
    Calls Tryd.prog 18 #[.slice (some ⟨w.heap.size, 0, none⟩) n cap, .agg #[.int .i64 4, .int .i64 4, .int .i64 16]] (w.alloc (.cells C 5 fr)) fun e w' => ∃ v, e = .returned (.tuple #[v, .int .i64 0]) ∧ IOwn w' w.heap.size v [4, 8, 10] ∧ Below w.heap.size w w' := by
  subst hC hn
  have hb1 : Below w.heap.size w (w.alloc (.cells (abc.map (Value.int .u8)).toArray 5 fr)) := (Below.refl _ _).alloc (Nat.le_refl _) _
  have hsl : Sl (w.alloc (.cells (abc.map (Value.int .u8)).toArray 5 fr)) (.slice (some ⟨w.heap.size, 0, none⟩) 10 cap) abc := ⟨_, cap, rfl, lit_bytes w abc fr abc_oct, (fun h => by cases h), hcap⟩
  have HC := cuts_yes _ abc 4 4 16 _ (hT.later hb1) hsl abc_oct (by decide)
  rw [abc_cuts] at HC
  refine HC.mono ?_
  rintro e w' ⟨v, rfl, hv, hb⟩
  exact ⟨v, rfl, hv.lower hb1.size, hb1.trans (hb.mono hb1.size)⟩

theorem awake_any (w : World) (hT : Tab w) :
    Calls Tryd.prog 15 #[] w fun e w' => e = .returned (.bool true) ∧ Below w.heap.size w w' := by
  have kc := fun (w : World) (C : Array Value) (n c : Nat) => Lib.run_convert_bytes_const (P := Tryd.prog) w 33 5 C n c Tryd.underlying33 Tryd.underlying5
  have HT := Lib.hid hT
  clear hT
  go_enter Tryd.func15, Tryd.ntmps15
  go_wp2_with fail
  refine (cuts_lit w _ _ _ _ rfl rfl (by decide) HT.out).mono ?_
  rintro e w2 ⟨v, rfl, hv, hb2⟩
  clear kc
  obtain ⟨a, cap, ev⟩ := iown_form hv
  subst ev
  have HB2 : Hid (Below w.heap.size w w2) := hb2
  have HV := Lib.hid hv
  have hb3 : Below w2.heap.size w2 (w2.alloc (.cells #[.int .i64 4, .int .i64 8, .int .i64 10] 3)) := (Below.refl _ _).alloc (Nat.le_refl _) _
  have HSM := Lib.hid (isame_any _ _ [4, 8, 10] _ (hv.sl.later hb3) (ints_sl w2 [4, 8, 10]) (by simp))
  have HB3 : Hid (Below w.heap.size w (w2.alloc (.cells #[.int .i64 4, .int .i64 8, .int .i64 10] 3))) := HB2.out.trans (hb3.mono HB2.out.size)
  clear hv hb2 hb3
  go_wp2_with fail
  refine HSM.out.mono ?_
  rintro e w4 ⟨rfl, hb4⟩
  have HB4 : Hid (Below w.heap.size w w4) := HB3.out.trans (hb4.mono HB3.out.size)
  have HTB := Lib.hid (table_any 0 w4 (HT.out.later HB4.out) (by decide) (by decide))
  rw [gt_zero] at HTB
  clear hb4 HSM
  go_wp2_with fail
  refine HTB.out.mono ?_
  rintro e w5 ⟨rfl, hb5⟩
  go_wp2
  go_ret
  exact ⟨rfl, HB4.out.trans (hb5.mono HB4.out.size)⟩
end Go.Proofs.YtheklipnnflnaaaDoor.Gear
