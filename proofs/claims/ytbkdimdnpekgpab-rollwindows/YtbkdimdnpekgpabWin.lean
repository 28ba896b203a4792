/- A window of roll: its cells, and what it tells. -/
import Derived.Test.YtbkdimdnpekgpabTextsW
import Derived.BigQuiet
import Derived.Deep.QuietTactic
import Derived.BigRegion
import Derived.StillTailTactics
namespace Go.Proofs.Ytbkdimdnpekgpab
open Go.RowKit Go.Proofs.RollMath
set_option linter.unusedVariables false

/-- the cells of a window -/
def Win (W : World) (g n : Nat) (v : Value) (R : List Int) (f : Nat) : Prop :=
  W.heap[g]? = some (.cells #[.int .i64 n, v, .int .i64 f, .int .u32 (sumOf (R.drop f))] 56) ∧ Own W (g + 1) v R ∧ Oct R ∧ f ≤ R.length ∧ R.length ≤ f + n ∧ f < n ∧ n ≤ 65536

theorem cells4 {W : World} {g : Nat} {a b c d : Value} {t : TypeId} (h : W.heap[g]? = some (.cells #[a, b, c, d] t)) :
    W.cell? ⟨g, 0, none⟩ = some a ∧ W.cell? ⟨g, 1, none⟩ = some b ∧ W.cell? ⟨g, 2, none⟩ = some c ∧ W.cell? ⟨g, 3, none⟩ = some d := by
  refine ⟨?_, ?_, ?_, ?_⟩ <;> simp [World.cell?, h]

theorem Win.cells {W : World} {g n : Nat} {v : Value} {R : List Int} {f : Nat} (h : Win W g n v R f) :
    ∃ a cap, v = .slice a R.length cap ∧ Sl W v R ∧ W.cell? ⟨g, 0, none⟩ = some (.int .i64 n) ∧ W.cell? ⟨g, 1, none⟩ = some (.slice a R.length cap) ∧ W.cell? ⟨g, 2, none⟩ = some (.int .i64 f) ∧ W.cell? ⟨g, 3, none⟩ = some (.int .u32 (sumOf (R.drop f))) := by
  obtain ⟨h1, h2, h3, h4⟩ := h
  have hs := h2.sl h3
  obtain ⟨a, cap, rfl, _⟩ := id hs
  exact ⟨a, cap, rfl, hs, cells4 h1⟩

/-- nothing but draws -/
def Qt (w w' : World) : Prop := Below w.heap.size w w' ∧ w'.heap = w.heap
theorem Qt.refl (w : World) : Qt w w := ⟨Below.refl _ _, rfl⟩
theorem Qt.drew (w : World) : Qt w w.drew := ⟨Below.drew (Below.refl _ _), rfl⟩
theorem Qt.trans {a b c : World} (h : Qt a b) (k : Qt b c) : Qt a c := ⟨h.1.trans (k.1.mono h.1.size), k.2.trans h.2⟩

theorem len_win (W : World) (g n : Nat) (a : Option Addr) (len cap : Nat) (f : Nat) (h1 : W.cell? ⟨g, 1, none⟩ = some (.slice a len cap)) (h2 : W.cell? ⟨g, 2, none⟩ = some (.int .i64 f)) (hl : len ≤ 200000) (hf : f ≤ len) :
    Calls Try.prog 25 #[.pointer (some ⟨g, 0, none⟩)] W fun e w' => e = .returned (.int .i64 ((len : Int) - (f : Int))) ∧ W.drew = w' := by
  go_enter Try.func25, Try.ntmps25
  go_wp2
  go_region
  all_goals go_wp2
  all_goals go_ret
  all_goals exact ⟨rfl, rfl⟩
theorem sum_win (W : World) (g : Nat) (s : Int) (h3 : W.cell? ⟨g, 3, none⟩ = some (.int .u32 s)) :
    Calls Try.prog 24 #[.pointer (some ⟨g, 0, none⟩)] W fun e w' => e = .returned (.int .u32 s) ∧ W = w' := by
  go_enter Try.func24, Try.ntmps24
  go_wp2
  go_ret
  exact ⟨rfl, rfl⟩
theorem full_win (W : World) (g n : Nat) (a : Option Addr) (len cap : Nat) (f : Nat) (h0 : W.cell? ⟨g, 0, none⟩ = some (.int .i64 n)) (h1 : W.cell? ⟨g, 1, none⟩ = some (.slice a len cap)) (h2 : W.cell? ⟨g, 2, none⟩ = some (.int .i64 f)) (hl : len ≤ 200000) (hf : f ≤ len) :
    Calls Try.prog 27 #[.pointer (some ⟨g, 0, none⟩)] W fun e w' => e = .returned (.bool (decide (len = f + n))) ∧ Qt W w' := by
  have hq : ((len : Int) - (f : Int) == (n : Int)) = decide (len = f + n) := by
    by_cases h : len = f + n
    · simp [h]; omega
    · simp [h]; omega
  go_enter Try.func27, Try.ntmps27
  go_wp2
  go_region_with (go_at_call 25; refine (len_win _ g n a len cap f (by first | assumption | exact h1) (by first | assumption | exact h2) hl hf).mono ?_; rintro e w' ⟨rfl, rfl⟩)
  all_goals go_wp2
  all_goals go_ret
  all_goals exact ⟨rfl, (Qt.drew _).trans (Qt.drew _)⟩
theorem new_good (n : Int) (w : World) (h1 : 1 ≤ n) (h2 : n ≤ 65536) : Calls Try.prog 20 #[.int .i64 n] w fun e w' => e = .returned (.tuple #[.pointer (some ⟨w.heap.size, 0, none⟩), .int .i64 0]) ∧ w.alloc (.cells #[.int .i64 n, .slice none 0 0, .int .i64 0, .int .u32 0] 56) = w' := by
  go_enter Try.func20, Try.ntmps20
  go_wp2
  go_ret2
  exact ⟨rfl, rfl⟩

theorem bytes_copy (l m : List Int) (k : Nat) (h : m.length = k) : l.take 0 ++ (m ++ l.drop (0 + k)) = m ++ l.drop k := by simp

set_option maxHeartbeats 1000000 in
theorem bytes_win (W : World) (g n : Nat) (v : Value) (R : List Int) (f : Nat) (hw : Win W g n v R f) :
    Calls Try.prog 26 #[.pointer (some ⟨g, 0, none⟩)] W fun e w' => ∃ u, e = .returned u ∧ Sl w' u (R.drop f) ∧ Below W.heap.size W w' := by
  obtain ⟨i0, hi, hz0, hz1, hz2⟩ := info_parts Try.info5
  obtain ⟨a, cap, rfl, hS, c0, c1, c2, c3⟩ := hw.cells
  obtain ⟨_, hown, hoct, hf, hn, hfn, hn6⟩ := hw
  obtain ⟨len, hlen⟩ : ∃ len, len = R.length := ⟨_, rfl⟩
  obtain ⟨m, hm⟩ : ∃ m, len = f + m := ⟨len - f, by omega⟩
  rw [← hlen] at c1 hf hn
  obtain ⟨a', cap', e', hB, hnil, hcap⟩ := hS
  simp only [Value.slice.injEq] at e'
  obtain ⟨rfl, -, rfl⟩ := e'
  obtain ⟨x, hcut, hSx⟩ := run_from hB cap len hlen (by omega) hnil f m f rfl (by omega)
  obtain ⟨ax, cx, ex, hBx, _, _⟩ := hSx
  simp only [Value.slice.injEq] at ex
  obtain ⟨rfl, hml, rfl⟩ := ex
  have hmk := run_make (P := Try.prog) W.drew 22 5 i0 (.int .u8 0) Try.underlying22 hi hz0 .i64 .i64 (m : Int) (m : Int) (by omega) (by omega) (by rw [hz2]; omega) (by omega)
  rw [hz1] at hmk
  simp only [Int.toNat_natCast] at hmk
  have hs1 : (Try.prog.info? 5).map (·.size) = some 1 := by rw [hi]; simp [hz1]
  have hsub : (len : Int) - (f : Int) = (m : Int) := by omega
  have HL := Lib.hid (fun W' (h1 : W'.cell? ⟨g, 1, none⟩ = some (.slice a len cap)) (h2 : W'.cell? ⟨g, 2, none⟩ = some (.int .i64 f)) => len_win W' g n a len cap f h1 h2 (by omega) (by omega))
  rw [hsub] at HL
  have hmb : m ≤ 65536 := by omega
  obtain ⟨D, hD⟩ : ∃ D, D = R.drop f := ⟨_, rfl⟩
  rw [← hD] at hml hBx
  have HML := Lib.hid hml
  have HBX := Lib.hid hBx
  have HD := Lib.hid hD
  have hlt : g < W.heap.size := by
    rcases Nat.lt_or_ge g W.heap.size with h | h
    · exact h
    · simp [World.cell?, Array.getElem?_eq_none h] at c0
  clear hm hml hBx hD hsub hlen hown hoct hB hnil hcap hn hfn hn6 hf
  go_enter Try.func26, Try.ntmps26
  go_wp2_with (go_at_call 25; refine (HL.out _ c1 c2).mono ?_; rintro e w' ⟨rfl, rfl⟩)
  obtain ⟨W1, hW1⟩ : ∃ W1, W1 = (W.alloc (.cells (madeCells #[.int .u8 0] m) 5)).drew := ⟨_, rfl⟩
  have hb1 : Below W.heap.size W W1 := by rw [hW1]; exact Below.drew ((Below.refl _ _).alloc (Nat.le_refl _) _)
  have d1 := cell_later hb1 c1
  have d2 := cell_later hb1 c2
  have HK1 : Hid (W1.drew.heap[W.heap.size]? = some (.cells (madeCells #[.int .u8 0] m).toList.toArray 5 (0, 0))) := by
    show _ = _
    rw [Array.toArray_toList, hW1]; exact heap_new W _
  have HB1 := Lib.hid (Below.drew hb1)
  have HBX1 := Lib.hid (HBX.out.later (Below.drew hb1))
  rw [← hW1]
  clear hW1 hb1
  go_still_tail 10, (by kernel_rfl)
  change wpList _ _ _ _ _ W1.drew
  have HK3 : Hid (0 < (D.map (Value.int .u8)).length → (some (⟨W.heap.size, 0, none⟩ : Addr)) = some ⟨W.heap.size, 0, none⟩ ∧ ∃ ad, x = some ad ∧ ∀ j v, (D.map (Value.int .u8))[j]? = some v → W1.drew.cell? (ad.add j) = some v) := by
    intro hpos
    refine ⟨rfl, ?_⟩
    have hne : D ≠ [] := by intro e; subst e; simp at hpos
    obtain ⟨b, off, rfl, hc⟩ := HBX1.out.2 hne
    exact ⟨_, rfl, Bytes.at hc⟩
  have HK2 : Hid ((D.map (Value.int .u8)).length = Nat.min m m) := by show _ = _; rw [List.length_map, ← HML.out]; exact (Nat.min_self m).symm
  have HK4 : Hid (0 + (D.map (Value.int .u8)).length ≤ (madeCells #[.int .u8 0] m).toList.length) := by
    show _ ≤ _
    rw [List.length_map, ← HML.out, Array.length_toList, size_madeCells]; simp
  have HK5 := Lib.hid (oneCells D)
  refine wpList_copy_splice rfl (.tmp 9) (.tmp 18) 22 22 rfl 5 Try.underlying22 hs1 (some ⟨W.heap.size, 0, none⟩) x m m m (cap - f) rfl rfl W.heap.size 0 (madeCells #[.int .u8 0] m).toList 5 HK1.out (D.map (Value.int .u8)) HK2.out HK3.out HK4.out HK5.out W.heap.size W HB1.out (Nat.le_refl _) ?_
  intro w2 hg2 hb2
  go_wp2
  go_ret
  have hown : Own w2 W.heap.size (.slice (some ⟨W.heap.size, 0, none⟩) m m) D := by
    have hml := HML.out
    refine ⟨by simp, .inr ⟨W.heap.size, m, _, by rw [hml], Nat.le_refl _, hg2.out, by omega, by unfold maxLen; omega, ?_, ?_⟩⟩
    · have h4 := HK4.out
      simp only [List.size_toArray, Nat.mul_one]
      rw [length_splice _ _ _ h4, Array.length_toList, size_madeCells]
    · simp only [splice, List.take_zero, List.nil_append, Nat.mul_one]
      rw [List.take_append_of_le_length (by simp)]
      exact List.take_of_length_le (by simp)
  refine ⟨_, rfl, ?_, hb2⟩
  rw [← HD.out]
  exact hown.sl HBX.out.1
end Go.Proofs.Ytbkdimdnpekgpab
