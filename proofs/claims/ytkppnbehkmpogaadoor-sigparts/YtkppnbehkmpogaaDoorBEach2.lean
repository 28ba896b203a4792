/- blocks.Each: what it hands back. -/
import Derived.Test.YtkppnbehkmpogaaDoorBEach
import Derived.Maps.AppendAt
import Derived.Deep.DeepCutAuto
namespace Go.Proofs.YtkppnbehkmpogaaDoor
open Go.RowKit Go.Shelf Go.Proofs.BlkMath Go.Proofs.RangeLaw
set_option linter.unusedVariables false
attribute [local go_sem] Oper.semAt_some

/-- whatever holds cells lies as it lay -/
def KeepC (W W' : World) : Prop := W.heap.size ≤ W'.heap.size ∧ ∀ (b : Nat) (c : Array Value) (t : TypeId) (fr : Nat × Nat), W.heap[b]? = some (Obj.cells c t fr) → W'.heap[b]? = some (Obj.cells c t fr)
theorem KeepC.of_below {W W' : World} (h : Below W.heap.size W W') : KeepC W W' := ⟨h.size, fun b c t fr hb => by rw [h.block b (heap_lt hb)]; exact hb⟩
theorem KeepC.put {W : World} {l : Nat} (o : Obj) {r : Obj} (h : W.heap[l]? = some r) (hr : r.isCells = false) : KeepC W (W.putObj l o) :=
  ⟨by simp [World.putObj], fun b c t fr hb => by
    by_cases e : b = l
    · subst e; rw [hb] at h; cases h; simp [Obj.isCells] at hr
    · rw [World.putObj_heap_other e]; exact hb⟩
theorem KeepC.rec {W : World} {l : Nat} (o : Loop) (h : Rec W l) : KeepC W (W.putObj l (.loop o)) := by
  obtain ⟨r, hr⟩ := h
  exact KeepC.put _ hr rfl
theorem KeepC.cell {W W' : World} (h : KeepC W W') {b o : Nat} {v : Value} (hc : W.cell? ⟨b, o, none⟩ = some v) : W'.cell? ⟨b, o, none⟩ = some v := by
  cases hb : W.heap[b]? with
  | none => simp [World.cell?, hb] at hc
  | some x =>
    cases x with
    | cells c t fr =>
      have h2 := h.2 b c t fr hb
      simp only [World.cell?, hb] at hc
      simp only [World.cell?, h2]
      exact hc
    | _ => simp [World.cell?, hb] at hc
theorem KeepC.row {W W' : World} (h : KeepC W W') {base : Nat} {e : TypeId} {size : Nat} {v : Value} {n : Nat} {xs : List Value} (ho : W.ownsRow base e size v n xs) : W'.ownsRow base e size v n xs := by
  obtain ⟨h1, h2⟩ := ho
  refine ⟨h1, ?_⟩
  rcases h2 with h2 | ⟨g, cap, cur, h3, h4, h5, h6⟩
  · exact .inl h2
  · exact .inr ⟨g, cap, cur, h3, h4, h.2 _ _ _ _ h5, h6⟩
theorem KeepC.own {W W' : World} (h : KeepC W W') {base : Nat} {v : Value} {l : List Int} (ho : Own W base v l) : Own W' base v l := h.row ho

/-- the text and the block length, as Each has them by -/
def Held (n0 tb bb : Nat) (L : List Int) (blk : Int) (W : World) : Prop :=
  ∃ vt, W.heap[tb]? = some (.cells #[vt] 22) ∧ W.heap[bb]? = some (.cells #[.int .i64 blk] 3) ∧ Own W n0 vt L ∧ n0 ≤ tb ∧ n0 ≤ bb ∧ n0 ≤ W.heap.size
theorem Held.keep {n0 tb bb : Nat} {L : List Int} {blk : Int} {W W' : World} (h : Held n0 tb bb L blk W) (k : KeepC W W') : Held n0 tb bb L blk W' := by
  obtain ⟨vt, h1, h2, h3, h4, h5, h6⟩ := h
  exact ⟨vt, k.2 _ _ _ _ h1, k.2 _ _ _ _ h2, k.own h3, h4, h5, Nat.le_trans h6 k.1⟩
theorem Held.text {n0 tb bb : Nat} {L : List Int} {blk : Int} {W : World} (h : Held n0 tb bb L blk W) (ho : Oct L) : TextAt n0 tb bb L blk W := by
  obtain ⟨vt, h1, h2, h3, h4, h5, h6⟩ := h
  obtain ⟨a, cap, rfl, hb, hn, hc⟩ := h3.sl ho
  refine ⟨h6, a, cap, ?_, ?_, hb, hn, hc⟩
  · rw [cell_of_row W tb 0 _ _ (0, 0) h1]; rfl
  · rw [cell_of_row W bb 0 _ _ (0, 0) h2]; rfl

set_option maxHeartbeats 1000000 in
theorem each_yes (u : Value) (l : List Int) (blk : Int) (w : World) (hS : Sl w u l) (hR : Rt l.length blk) :
    Calls Tryd.prog 33 #[u, .int .i64 blk] w fun e w' => ∃ tb, e = .returned (.func (.func 63) #[] #[.pointer (some ⟨tb, 0, none⟩), .pointer (some ⟨w.heap.size, 0, none⟩)]) ∧ Held w.heap.size tb w.heap.size l blk w' ∧ Below w.heap.size w w' := by
  obtain ⟨w1, hw1⟩ : ∃ w1, w1 = w.alloc (.cells #[.int .i64 blk] 3) := ⟨_, rfl⟩
  have hb1 : Below w.heap.size w w1 := by rw [hw1]; exact (Below.refl _ _).alloc (Nat.le_refl _) _
  have hs1 := hS.later hb1
  have hbb : w1.heap[w.heap.size]? = some (.cells #[.int .i64 blk] 3) := by rw [hw1]; exact heap_new _ _
  have hcell : w1.cell? ⟨w.heap.size, 0, none⟩ = some (.int .i64 blk) := by rw [cell_of_row w1 _ 0 _ _ (0, 0) hbb]; rfl
  obtain ⟨a, cap, hu, hB, hnil, hcap⟩ := id hS
  have hlb : l.length ≤ 131072 := by unfold Rt at hR; omega
  have hrf : refB l.length blk = 0 := by unfold refB; rw [if_pos hR.2, if_pos hR.1.2]
  have HRF : Hid (∀ W, Calls Tryd.prog 56 #[u, .int .i64 blk] W fun e w' => e = .returned (.int .i64 0) ∧ W = w') := by
    intro W; rw [hu]; have h := refused_any a l.length cap blk W (by omega); rw [hrf] at h; exact h
  have HCL := Lib.hid (clone_any u l w1 hs1 (by omega))
  have HB1 := Lib.hid hb1
  have HBB := Lib.hid hbb
  obtain ⟨n, hn⟩ : ∃ n, n = l.length := ⟨_, rfl⟩
  rw [← hn] at hu
  have HLN := Lib.hid hn
  clear hn
  clear hS hs1 hB hnil hcap hrf hb1 hbb
  subst hu
  go_enter Tryd.func33, Tryd.ntmps33
  go_upto_region 1 with (fail)
  rw [← hw1]
  clear hw1
  go_wp2_with (first | (go_at_call 56; with_reducible refine (HRF.out _).mono ?_; rintro e w' ⟨rfl, rfl⟩) | (go_at_call 62; refine HCL.out.mono ?_; rintro e w2 ⟨v, rfl, hO, hb2⟩; obtain ⟨a2, cp2, ev⟩ := own_form hO; rw [← HLN.out] at ev; subst ev; have HO := Lib.hid hO; have HB2 := Lib.hid hb2; clear hO hb2))
  go_ret
  have hsz := HB2.out.size
  have hlt := heap_lt HBB.out
  have hbel : Below w2.heap.size w2 (w2.alloc (.cells #[.slice a2 n cp2] 22)) := (Below.refl _ _).alloc (Nat.le_refl _) _
  refine ⟨w2.heap.size, ?_, ⟨.slice a2 n cp2, ?_, ?_, ?_, by omega, Nat.le_refl _, ?_⟩, ?_⟩
  · rfl
  · exact heap_new _ _
  · rw [Below.heap_alloc _ _ _ (by omega), HB2.out.block _ hlt]; exact HBB.out
  · exact (HO.out.below hbel).lower (by omega)
  · simp; omega
  · exact HB1.out.trans ((HB2.out.trans (hbel.mono hsz)).mono HB1.out.size)

end Go.Proofs.YtkppnbehkmpogaaDoor
