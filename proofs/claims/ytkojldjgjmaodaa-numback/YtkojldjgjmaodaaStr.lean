/- Bytes as a text; a stretch of a slice. -/
import Derived.Test.YtkojldjgjmaodaaOwn
import Derived.Laws.BytesArg
namespace Go.Proofs.Ytkojldjgjmaodaa
open Go.RowKit Go.Proofs.NumMath
set_option linter.unusedVariables false

theorem run_str {w : World} {a : Option Addr} {l : List Int} (h : Bytes w a l) (n cap : Nat) (hn : n = l.length) :
    (convert 22 9 (.slice a n cap)).run Try.prog w = .ok (.string (strOfNums l)) w := by
  subst hn
  by_cases hl : l = []
  · subst hl
    rw [run_convert_bytes_string w 22 9 5 _ _ cap Try.underlying22 Try.underlying5 Try.underlying9]
    cases a <;> simp [Conv.bytesToString, loadCells]
    all_goals rfl
  · obtain ⟨b, off, rfl, hc⟩ := h.2 hl
    exact run_convert_bytes_arg w 22 5 Try.underlying22 Try.underlying5 b off l.length cap l rfl hc 9 Try.underlying9

theorem run_cut {w : World} {a : Option Addr} {l : List Int} (h : Bytes w a l) (cap : Nat) (hcap : l.length ≤ cap) (lo hi : Int) (h0 : 0 ≤ lo) (h1 : lo ≤ hi) (h2 : hi ≤ l.length) :
    ∃ a', (Instr.slice 22 (.slice a l.length cap) (some (.int .i64 lo)) (some (.int .i64 hi)) none).run Try.prog w = .ok (.slice a' (hi - lo).toNat (cap - lo.toNat)) w ∧ Bytes w a' ((l.drop lo.toNat).take (hi - lo).toNat) := by
  have hel : Try.prog.elem 22 = 5 := by kernel_rfl
  have hr := run_slice_lh (P := Try.prog) (w := w) 22 a l.length cap (by rw [hel]; exact Try.underlying22) .i64 .i64 lo hi h0 h1 (by omega)
  have hsz : (sizeOf (Try.prog.elem 22)).run Try.prog w = .ok 1 w := by rw [hel]; rfl
  rw [hsz] at hr
  simp only [Result.andThen, sliced, Nat.mul_one] at hr
  obtain ⟨p, rfl⟩ : ∃ p : Nat, lo = (p : Int) := ⟨lo.toNat, by omega⟩
  obtain ⟨m, rfl⟩ : ∃ m : Nat, hi = (p : Int) + (m : Int) := ⟨(hi - p).toNat, by omega⟩
  simp only [Int.toNat_natCast] at *
  have e1 : ((p : Int) + (m : Int) - (p : Int)).toNat = m := by omega
  have e2 : ((p : Int) + (m : Int)).toNat - p = m := by omega
  rw [e1] at *
  rw [e2] at hr
  refine ⟨_, hr, ?_, ?_⟩
  · intro i
    have := h.1 (p + i)
    by_cases hi : i < m
    · rw [List.getD_eq_getElem?_getD, List.getElem?_take, if_pos hi, List.getElem?_drop, ← List.getD_eq_getElem?_getD]; exact this
    · rw [List.getD_eq_getElem?_getD, List.getElem?_take, if_neg hi]; simp
  · intro hne
    have hm : 0 < m := by
      rcases Nat.eq_zero_or_pos m with h | h
      · subst h; simp at hne
      · exact h
    have hl : l ≠ [] := by intro e; subst e; simp at h2; omega
    obtain ⟨b, off, rfl, hc⟩ := h.2 hl
    refine ⟨b, off + p, ?_, ?_⟩
    · rw [if_neg (by omega)]
      by_cases hp : p = 0
      · subst hp; simp [Addr.add]
      · simp [Addr.add, hp]
    · intro i hi
      have hi' : i < m := by rw [List.length_take] at hi; omega
      rw [List.getD_eq_getElem?_getD, List.getElem?_take, if_pos hi', List.getElem?_drop, ← List.getD_eq_getElem?_getD, Nat.add_assoc]
      exact hc (p + i) (by omega)
/-- .. whatever the world -/
theorem run_cut_any {w : World} {a : Option Addr} {l : List Int} (h : Bytes w a l) (cap : Nat) (hcap : l.length ≤ cap) (lo hi : Int) (h0 : 0 ≤ lo) (h1 : lo ≤ hi) (h2 : hi ≤ l.length) :
    ∃ a', (∀ W, (Instr.slice 22 (.slice a l.length cap) (some (.int .i64 lo)) (some (.int .i64 hi)) none).run Try.prog W = .ok (.slice a' (hi - lo).toNat (cap - lo.toNat)) W) ∧ Bytes w a' ((l.drop lo.toNat).take (hi - lo).toNat) ∧ (a' = none → a = none) := by
  obtain ⟨a', hr, hB⟩ := run_cut h cap hcap lo hi h0 h1 h2
  have hel : Try.prog.elem 22 = 5 := by kernel_rfl
  have key : ∀ W, (Instr.slice 22 (.slice a l.length cap) (some (.int .i64 lo)) (some (.int .i64 hi)) none).run Try.prog W = .ok (.slice (if cap = lo.toNat then a else a.map (·.add (lo.toNat * 1))) (hi.toNat - lo.toNat) (cap - lo.toNat)) W := by
    intro W
    have hr := run_slice_lh (P := Try.prog) (w := W) 22 a l.length cap (by rw [hel]; exact Try.underlying22) .i64 .i64 lo hi h0 h1 (by omega)
    have hsz : (sizeOf (Try.prog.elem 22)).run Try.prog W = .ok 1 W := by rw [hel]; rfl
    rw [hsz] at hr
    exact hr
  rw [key w] at hr
  simp only [Result.ok.injEq, Value.slice.injEq] at hr
  obtain ⟨⟨e1, e2, -⟩, -⟩ := hr
  refine ⟨a', fun W => ?_, hB, ?_⟩
  · rw [key W, e1, e2]
  · intro e
    rw [e] at e1
    split at e1
    · exact e1
    · simpa using e1

/-- the first bytes of a slice -/
theorem run_first {w : World} {a : Option Addr} {l : List Int} (h : Bytes w a l) (cap : Nat) (hcap : l.length ≤ cap) (m : Nat) (hm : m ≤ l.length) :
    ∃ a', (Instr.slice 22 (.slice a l.length cap) none (some (.int .i64 (m : Int))) none).run Try.prog w = .ok (.slice a' m cap) w ∧ Bytes w a' (l.take m) ∧ (a' = none → a = none) := by
  have hel : Try.prog.elem 22 = 5 := by kernel_rfl
  have hr := run_slice_h (P := Try.prog) (w := w) 22 a l.length cap (by rw [hel]; exact Try.underlying22) .i64 m (by omega) (by omega)
  have hsz : (sizeOf (Try.prog.elem 22)).run Try.prog w = .ok 1 w := by rw [hel]; rfl
  rw [hsz] at hr
  simp only [Result.andThen, sliced, Nat.mul_one, Int.toNat_natCast, Nat.sub_zero] at hr
  refine ⟨_, hr, ⟨?_, ?_⟩, ?_⟩
  · intro i
    have := h.1 i
    by_cases hi : i < m
    · rw [List.getD_eq_getElem?_getD, List.getElem?_take, if_pos hi, ← List.getD_eq_getElem?_getD]; exact this
    · rw [List.getD_eq_getElem?_getD, List.getElem?_take, if_neg hi]; simp
  · intro hne
    have hm0 : 0 < m := by
      rcases Nat.eq_zero_or_pos m with h | h
      · subst h; simp at hne
      · exact h
    have hl : l ≠ [] := by intro e; subst e; simp at hm; omega
    obtain ⟨b, off, rfl, hc⟩ := h.2 hl
    refine ⟨b, off, ?_, ?_⟩
    · split <;> simp [Addr.add]
    · intro i hi
      have hi' : i < m := by rw [List.length_take] at hi; omega
      rw [List.getD_eq_getElem?_getD, List.getElem?_take, if_pos hi', ← List.getD_eq_getElem?_getD]
      exact hc i (by omega)
  · intro h
    split at h
    · exact h
    · simpa using h
end Go.Proofs.Ytkojldjgjmaodaa
