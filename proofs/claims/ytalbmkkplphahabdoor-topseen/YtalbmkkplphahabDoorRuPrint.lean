/- rules: Print. (A template.) -/
import Derived.Test.YtalbmkkplphahabDoorRuHid
import Derived.Laws.Concat
namespace Go.Proofs.YtalbmkkplphahabDoor.Pa
open Go.RowKit
set_option linter.unusedVariables false
set_option linter.unusedSimpArgs false
set_option maxRecDepth 100000

theorem mk_plus (a b : L8) : mk a ++ mk b = mk (a ++ b) := by
  have h : (mk a ++ mk b).data = (mk (a ++ b)).data := by simp [mk]
  generalize mk a ++ mk b = x at h
  generalize mk (a ++ b) = y at h
  cases x; cases y; simp_all
theorem run_plus (a b : L8) (h : a.length + b.length ≤ 4611686018427387904) (W : World) : (Op.stringOp .add (mk a) (mk b)).run Tryd.prog W = .ok (.string (mk (a ++ b))) W := by
  have ha := mk_size a
  have hb := mk_size b
  rw [run_string_add_sum W _ _ (by omega), mk_plus]
def signOf (act : Int) : L8 := (([43, 45, 80, 82] : L8).drop (act - 1).toNat).take 1
def lineOf (r : Ru) : L8 := ((signOf r.act ++ [32]) ++ (if r.anch then [47] else [])) ++ r.pat ++ (if r.dir then [47] else [])
def printR (r : Ru) : L8 × Int := if refE r.act r.pat ≠ 0 then ([], refE r.act r.pat) else (lineOf r, 0)
theorem signOf_len (act : Int) : (signOf act).length ≤ 1 := by unfold signOf; rw [List.length_take]; omega
set_option maxHeartbeats 8000000 in
theorem print_any (r : Ru) (w : World) (hl : r.pat.length ≤ 4611686018427380000) :
    Calls Tryd.prog 16 #[r.val] w fun e w' => e = .returned (.tuple #[.string (mk (printR r).1), .int .i64 (printR r).2]) ∧ Below w.heap.size w w' := by
  obtain ⟨act, pat, di, an⟩ := r
  obtain ⟨w1, hw1⟩ : ∃ w1, w1 = w.alloc (.cells #[.int .i64 act, .string (mk pat), .bool di, .bool an] 24) := ⟨_, rfl⟩
  have hr1 : w1.heap[w.heap.size]? = some (.cells #[.int .i64 act, .string (mk pat), .bool di, .bool an] 24) := by rw [hw1]; exact heap_new _ _
  have hb1 : Below w.heap.size w w1 := by rw [hw1]; exact (Below.refl _ _).alloc (Nat.le_refl _) _
  have HRF : Hid (Calls Tryd.prog 34 #[ruV act (mk pat) di an] w1 fun e w' => e = .returned (.int .i64 (refE act pat)) ∧ w'.heap[w.heap.size]? = some (.cells #[.int .i64 act, .string (mk pat), .bool di, .bool an] 24) ∧ Below w.heap.size w w') :=
    (refused_ru act pat di an w1 (by have : pat.length ≤ 4611686018427380000 := hl; omega)).mono fun e w' ⟨h1, h2⟩ => ⟨h1, (h2.block _ (Array.getElem?_eq_some_iff.1 hr1).1).trans hr1, hb1.trans (h2.mono hb1.size)⟩
  rw [hw1] at HRF
  have hlp : pat.length ≤ 4611686018427380000 := hl
  clear hl hw1 hr1 hb1
  show Calls _ _ #[ruV act (mk pat) di an] w _
  obtain ⟨R1, hR1⟩ : ∃ x, x = (printR ⟨act, pat, di, an⟩).1 := ⟨_, rfl⟩
  obtain ⟨R2, hR2⟩ : ∃ x, x = (printR ⟨act, pat, di, an⟩).2 := ⟨_, rfl⟩
  rw [← hR1, ← hR2]
  unfold printR at hR1 hR2
  simp only at hR1 hR2
  by_cases hz : refE act pat = 0
  · rw [if_neg (by simpa using hz)] at hR1 hR2
    have hact : 1 ≤ act ∧ act ≤ 4 := by
      unfold refE misE at hz
      by_cases h : act < 1 ∨ 4 < act
      · rw [if_pos h] at hz; simp at hz
      · omega
    rw [hz] at HRF
    obtain ⟨a, ha⟩ : ∃ a : Nat, act - 1 = (a : Int) := ⟨(act - 1).toNat, by omega⟩
    have hw : IntKind.i64.wrap (act - 1) = (a : Int) := by rw [ha]; exact IntWalk.i64_in _ (by omega)
    have hat : (act - 1).toNat = a := by omega
    have hxt : ∀ W, (Instr.slice 9 (.string { data := #[43, 45, 80, 82] }) (some (.int .i64 (a : Int))) none none).run Tryd.prog W = .ok (.string (mk (([43, 45, 80, 82] : L8).drop a))) W := fun W => run_tl [43, 45, 80, 82] a (by simp; omega) W
    have hxh : ∀ W, (Instr.slice 9 (.string (mk (([43, 45, 80, 82] : L8).drop a))) none (some (.int .i64 1)) none).run Tryd.prog W = .ok (.string (mk (signOf act))) W := fun W => by
      have := run_hd (([43, 45, 80, 82] : L8).drop a) 1 (by rw [List.length_drop]; simp; omega) W
      unfold signOf
      rw [hat]; exact this
    have hsl := signOf_len act
    have p1 : ∀ W, (Op.stringOp .add (mk (signOf act)) { data := #[32] }).run Tryd.prog W = .ok (.string (mk (signOf act ++ [32]))) W := fun W => run_plus (signOf act) [32] (by simp; omega) W
    have p2 : ∀ W, (Op.stringOp .add (mk (signOf act ++ [32])) { data := #[47] }).run Tryd.prog W = .ok (.string (mk ((signOf act ++ [32]) ++ [47]))) W := fun W => run_plus (signOf act ++ [32]) [47] (by simp; omega) W
    have p3 : ∀ W, (Op.stringOp .add (mk ((signOf act ++ [32]) ++ [47])) (mk pat)).run Tryd.prog W = .ok (.string (mk ((signOf act ++ [32]) ++ [47] ++ pat))) W := fun W => run_plus _ pat (by simp; omega) W
    have p4 : ∀ W, (Op.stringOp .add (mk (signOf act ++ [32])) (mk pat)).run Tryd.prog W = .ok (.string (mk ((signOf act ++ [32]) ++ pat))) W := fun W => run_plus _ pat (by simp; omega) W
    have p5 : ∀ W, (Op.stringOp .add (mk ((signOf act ++ [32]) ++ [47] ++ pat)) { data := #[47] }).run Tryd.prog W = .ok (.string (mk ((signOf act ++ [32]) ++ [47] ++ pat ++ [47]))) W := fun W => run_plus _ [47] (by simp; omega) W
    have p6 : ∀ W, (Op.stringOp .add (mk ((signOf act ++ [32]) ++ pat)) { data := #[47] }).run Tryd.prog W = .ok (.string (mk ((signOf act ++ [32]) ++ pat ++ [47]))) W := fun W => run_plus _ [47] (by simp; omega) W
    unfold lineOf at hR1
    simp only at hR1 hR2
    have HR2 : Hid (R2 = 0) := hR2
    have fin : ∀ x, x = R1 → ∀ w3, Below w.heap.size w w3 → (Ending.returned (.tuple #[.string (mk x), .int .i64 0]) = .returned (.tuple #[.string (mk R1), .int .i64 R2]) ∧ Below w.heap.size w w3) := fun x hx w3 hb => ⟨by rw [hx, hR2], hb⟩
    clear hz hat hsl hlp hact ha hR2
    generalize mk (([43, 45, 80, 82] : L8).drop a) = z0 at *
    generalize hz1 : mk (signOf act) = z1 at *
    cases an <;> cases di <;> simp only [if_pos, if_neg, Bool.false_eq_true, if_false, if_true, List.append_nil] at hR1
    all_goals
      have HF := Lib.hid (fin _ hR1.symm)
      clear fin hR1 HR2 hz1
      generalize mk (signOf act ++ [32] ++ [47] ++ pat ++ [47]) = y1 at *
      generalize mk (signOf act ++ [32] ++ [47] ++ pat) = y2 at *
      generalize mk (signOf act ++ [32] ++ pat ++ [47]) = y3 at *
      generalize mk (signOf act ++ [32] ++ pat) = y4 at *
      generalize mk (signOf act ++ [32] ++ [47]) = y5 at *
      generalize mk (signOf act ++ [32]) = y6 at *
      generalize mk pat = q at *
      go_enter Tryd.func16, Tryd.ntmps16
      go_wp2_with (go_at_call 34; refine HRF.out.mono ?_; rintro e w3 ⟨rfl, hr, hb⟩; obtain ⟨⟨k0, k1, k2, k3⟩, -⟩ := cells4 hr; have HB := Lib.hid hb; clear hb hr)
      go_ret2
      exact HF.out _ HB.out
  · rw [if_pos hz] at hR1 hR2
    have hne : (refE act pat == 0) = false := by simpa using hz
    have HF : Hid (R1 = [] ∧ R2 = refE act pat) := ⟨hR1, hR2⟩
    clear hz hlp hR1 hR2
    generalize refE act pat = er at *
    generalize mk pat = q at *
    go_enter Tryd.func16, Tryd.ntmps16
    go_wp2_with (go_at_call 34; refine HRF.out.mono ?_; rintro e w3 ⟨rfl, hr, hb⟩; have HB := Lib.hid hb; clear hb hr)
    try simp only [Exit.inBlock, Exit.then]
    go_ret2
    exact ⟨by rw [HF.out.1, HF.out.2]; rfl, HB.out⟩
end Go.Proofs.YtalbmkkplphahabDoor.Pa
