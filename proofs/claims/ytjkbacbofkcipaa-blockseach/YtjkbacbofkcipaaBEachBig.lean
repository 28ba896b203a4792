/- The law BlocksEach beyond its guard. -/
import Derived.Test.YtjkbacbofkcipaaBEachLaw
import Derived.Test.YtjkbacbofkcipaaBCutLaw
namespace Go.Proofs.Ytjkbacbofkcipaa
open Go.RowKit Go.Shelf Go.Proofs.BlkMath Go.Proofs.RangeLaw
set_option linter.unusedVariables false
attribute [local go_sem] Oper.semAt_some
set_option maxRecDepth 1000000 in
set_option maxHeartbeats 2000000 in
theorem each_big (a : Option Addr) (len cap : Nat) (blk most : Int) (w : World) (hlen : ¬ len ≤ 3000) (hl : len ≤ 9223372036854775807) :
    Calls Try.prog 6 #[.slice a len cap, .int .i64 blk, .int .i64 most] w fun e w' => e = .returned (.bool true) ∧ Below w.heap.size w w' := by
  have HA := Lib.hid (fun W => awake5_any W)
  refine callsIn_wide (n := 6).1 ?_
  refine callsIn_of_wp_marks Try.func6 rfl trivial ?_ rfl
  simp only [Try.ntmps6, List.size_toArray, List.length_cons, List.length_nil, Nat.reduceAdd, Nat.reduceSub, Array.replicate_succ, Array.replicate_zero, List.push_toArray, List.append_toArray, List.nil_append, List.cons_append]
  gi_wp2_with (refine ⟨trivial, ?_⟩; gi_at_call 16; refine (callsIn_wide.2 (HA.out _)).mono ?_; rintro e w' ⟨rfl, rfl⟩)
  have hb : ∀ v, Below w.heap.size w (w.alloc (.cells #[v] 4)) := fun v => (Below.refl _ _).alloc (Nat.le_refl _) _
  have hc : ∀ v, (w.alloc (.cells #[v] 4)).cell? ⟨w.heap.size, 0, none⟩ = some v := fun v => cell1 (heap_new _ _)
  refine ⟨.bool true, ?_, rfl, hb _⟩
  simp [results, loadVar, asAddr, go_sem, hc]
end Go.Proofs.Ytjkbacbofkcipaa
