/- path: the document's Sort, whole. (A template.) -/
import Derived.Test.YteimbdbnipfmkaaPaRSt
namespace Go.Proofs.Yteimbdbnipfmkaa.Pa
open Go.RowKit
set_option linter.unusedVariables false
set_option linter.unusedSimpArgs false

theorem msort_mem {f : Nat} {l : List L8} {s : L8} : s ∈ msort f l ↔ s ∈ l := (msort_perm f l).mem_iff
theorem msort_len (f : Nat) (l : List L8) : (msort f l).length = l.length := (msort_perm f l).length_eq
theorem rsort_any (f : Nat) (v : Value) (ss : List L8) (w : World) (hT : TxC w v ss) (hl : ss.length ≤ f + 1) (hN : ss.length ≤ 300) (hP : ∀ s ∈ ss, s.length ≤ 4000) :
    Calls Try.prog 36 #[v] w fun e w' => ∃ v', e = .returned v' ∧ SOwn w' w.heap.size v' (msort f ss) ∧ Below w.heap.size w w' := by
  induction f generalizing v ss w with
  | zero => exact append_nil_txc w v ss hT (by omega) 0
  | succ f ih =>
    rw [msort]
    split
    · next h => exact append_nil_txc w v ss hT h 0
    · next h =>
      obtain ⟨a, c, rfl, -, -, -⟩ := id hT
      obtain ⟨ah, rh, th⟩ := txc_head hT (ss.length / 2) (by omega)
      obtain ⟨at', rt, tt⟩ := txc_tail hT (ss.length / 2) (by omega)
      refine rsort_step ss _ _ ss.length (ss.length / 2) c a ah at' w rfl (by omega) hN ?_ ?_ ?_ rh rt ?_ ?_
      · rw [msort_len, msort_len, List.length_take, List.length_drop]; omega
      · exact fun s hs => hP s (List.mem_of_mem_take (msort_mem.1 hs))
      · exact fun s hs => hP s (List.mem_of_mem_drop (msort_mem.1 hs))
      · intro W hb
        exact ih _ _ W (th.later hb) (by rw [List.length_take]; omega) (by rw [List.length_take]; omega) (fun s hs => hP s (List.mem_of_mem_take hs))
      · intro W hb
        exact ih _ _ W (tt.later hb) (by rw [List.length_drop]; omega) (by rw [List.length_drop]; omega) (fun s hs => hP s (List.mem_of_mem_drop hs))
end Go.Proofs.Yteimbdbnipfmkaa.Pa
