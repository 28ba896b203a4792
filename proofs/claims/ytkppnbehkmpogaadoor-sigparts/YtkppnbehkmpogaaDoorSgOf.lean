/- sig.Of: the signature of a text. -/
import Derived.Test.YtkppnbehkmpogaaDoorSgBase
namespace Go.Proofs.YtkppnbehkmpogaaDoor
open Go.RowKit Go.Shelf Go.Proofs.BlkMath Go.Proofs.RangeLaw Go.Proofs.HeldRound
open Go.Proofs.ShaMath (sumB)
open Go.Proofs.RollMath (sumOf sumOf_bd)
set_option linter.unusedVariables false
set_option maxRecDepth 100000
attribute [local go_sem] Oper.semAt_some

theorem Tryd.infoM : (Tryd.prog.info? 47).map (fun i => (i.zero, i.size, i.bytes)) = some (some (.agg #[.int .u32 0, .string ByteArray.empty]), 2, 24) := by kernel_rfl

/-- marks as cells -/
def mcells (ms : List Mk) : List Value := (ms.map fun m => [Value.int .u32 m.1, Value.string m.2]).flatten
theorem mcells_length (ms : List Mk) : (mcells ms).length = ms.length * 2 := by
  induction ms with
  | nil => rfl
  | cons m ms ih =>
    have e : mcells (m :: ms) = [Value.int .u32 m.1, Value.string m.2] ++ mcells ms := by simp [mcells]
    rw [e, List.length_append, ih]; simp; omega
theorem mcells_snoc (ms : List Mk) (m : Mk) : mcells (ms ++ [m]) = mcells ms ++ [.int .u32 m.1, .string m.2] := by simp [mcells]
theorem mcells_at (ms : List Mk) : ∀ i, i < ms.length → (mcells ms)[i * 2]? = some (.int .u32 (ms.getD i mkD).1) ∧ (mcells ms)[i * 2 + 1]? = some (.string (ms.getD i mkD).2) := by
  induction ms with
  | nil => intro i hi; simp at hi
  | cons m ms ih =>
    intro i hi
    have e : mcells (m :: ms) = Value.int .u32 m.1 :: Value.string m.2 :: mcells ms := by simp [mcells]
    rw [e]
    cases i with
    | zero => exact ⟨rfl, rfl⟩
    | succ i =>
      have h := ih i (by simpa using hi)
      have e1 : (i + 1) * 2 = i * 2 + 1 + 1 := by omega
      rw [e1]
      exact h
/-- marks of one's own -/
def MOwn (w : World) (base : Nat) (v : Value) (ms : List Mk) : Prop := w.ownsRow base 47 2 v ms.length (mcells ms)
theorem MOwn.nil (w : World) (base : Nat) : MOwn w base (.slice none 0 0) [] := World.ownsRow_nil _ _ _ _
theorem MOwn.lower {w : World} {base base' : Nat} {v : Value} {ms : List Mk} (h : MOwn w base v ms) (hb : base' ≤ base) : MOwn w base' v ms := by
  obtain ⟨h1, h2⟩ := h
  refine ⟨h1, ?_⟩
  rcases h2 with h2 | ⟨g, cap, cur, h3, h4, h5, h6⟩
  · exact .inl h2
  · exact .inr ⟨g, cap, cur, h3, by omega, h5, h6⟩
theorem MOwn.keep {W W' : World} {base : Nat} {v : Value} {ms : List Mk} (h : MOwn W base v ms) (k : KeepC W W') : MOwn W' base v ms := k.row h
theorem MOwn.later {W W' : World} {base : Nat} {v : Value} {ms : List Mk} (h : MOwn W base v ms) (k : Below W.heap.size W W') : MOwn W' base v ms := h.keep (KeepC.of_below k)
/-- a slice that reads as these marks -/
def MSl (w : World) (v : Value) (ms : List Mk) : Prop := ∃ a cap, v = .slice a ms.length cap ∧ Marks w a ms
theorem MSl.later {w w' : World} {v : Value} {ms : List Mk} (h : MSl w v ms) (hb : Below w.heap.size w w') : MSl w' v ms := by
  obtain ⟨a, cap, e, h⟩ := h
  exact ⟨a, cap, e, h.later hb⟩
theorem MOwn.sl {w : World} {base : Nat} {v : Value} {ms : List Mk} (h : MOwn w base v ms) (hb : ∀ m ∈ ms, 0 ≤ m.1 ∧ m.1 ≤ 4294967295) : MSl w v ms := by
  obtain ⟨h1, h2⟩ := id h
  rcases h2 with ⟨rfl, h0⟩ | ⟨g, cap, cur, rfl, h4, h5, h6, h7, h8, h9⟩
  · have hl : ms = [] := List.eq_nil_of_length_eq_zero h0
    subst hl
    exact ⟨none, 0, rfl, hb, fun h => absurd rfl h⟩
  · refine ⟨some ⟨g, 0, none⟩, cap, rfl, hb, fun _ => ⟨g, 0, rfl, fun i hi => ?_⟩⟩
    have hc := World.ownsRow.cells h (g := g) rfl
    obtain ⟨m1, m2⟩ := mcells_at ms i hi
    have e1 : (⟨g, 0, none⟩ : Addr).add (i * 2) = ⟨g, 0 + i * 2, none⟩ := by unfold Addr.add; split <;> simp_all
    have e2 : (⟨g, 0, none⟩ : Addr).add (i * 2 + 1) = ⟨g, 0 + i * 2 + 1, none⟩ := by unfold Addr.add; split <;> simp_all
    exact ⟨by rw [← e1]; exact hc _ _ m1, by rw [← e2]; exact hc _ _ m2⟩

/-- the marks of the first blocks -/
def mkOf (K l : List Int) (st : Nat) : Mk := (sumOf l, strong K l st)
def mks (K l : List Int) (blk st N : Nat) : List Mk := (List.range N).map fun k => mkOf K (piece l blk k) st
theorem mks_length (K l : List Int) (blk st N : Nat) : (mks K l blk st N).length = N := by simp [mks]
theorem mks_succ (K l : List Int) (blk st N : Nat) : mks K l blk st (N + 1) = mks K l blk st N ++ [mkOf K (piece l blk N) st] := by simp [mks, List.range_succ]
theorem mks_bd (K l : List Int) (blk st N : Nat) : ∀ m ∈ mks K l blk st N, 0 ≤ m.1 ∧ m.1 ≤ 4294967295 := by
  intro m hm
  simp only [mks, List.mem_map] at hm
  obtain ⟨k, _, rfl⟩ := hm
  exact sumOf_bd _

/-- blocks whose elements are of other types stay -/
def KeepT (p : TypeId → Prop) (W W' : World) : Prop := W.heap.size ≤ W'.heap.size ∧ ∀ (b : Nat) (c : Array Value) (t : TypeId) (fr : Nat × Nat), p t → W.heap[b]? = some (.cells c t fr) → W'.heap[b]? = some (.cells c t fr)
def pHeld (t : TypeId) : Prop := t = 5 ∨ t = 22 ∨ t = 3
theorem KeepT.held {n0 tb bb : Nat} {L : List Int} {blk : Int} {W W' : World} (k : KeepT pHeld W W') (h : Held n0 tb bb L blk W) : Held n0 tb bb L blk W' := by
  obtain ⟨vt, h1, h2, h3, h4, h5, h6⟩ := h
  refine ⟨vt, k.2 _ _ _ _ (.inr (.inl rfl)) h1, k.2 _ _ _ _ (.inr (.inr rfl)) h2, ?_, h4, h5, Nat.le_trans h6 k.1⟩
  obtain ⟨q1, q2⟩ := h3
  refine ⟨q1, ?_⟩
  rcases q2 with q2 | ⟨g, cap, cur, q3, q4, q5, q6⟩
  · exact .inl q2
  · exact .inr ⟨g, cap, cur, q3, q4, k.2 _ _ _ _ (.inl rfl) q5, q6⟩
theorem row_apart {W W' : World} {base : Nat} {e : TypeId} {size : Nat} {v : Value} {n : Nat} {xs : List Value} (h : W.ownsRow base e size v n xs) (hg : W.grownBy W' v.ownBlock) {b : Nat} {c : Array Value} {t : TypeId} {fr : Nat × Nat} (hb : W.heap[b]? = some (.cells c t fr)) (ht : t ≠ e) : W'.heap[b]? = some (.cells c t fr) := by
  rw [hg.block b (heap_lt hb) ?_]; exact hb
  intro e1
  rcases h.2 with ⟨rfl, _⟩ | ⟨g, cap, cur, rfl, h4, h5, h6⟩
  · simp [Value.ownBlock] at e1
  · simp [Value.ownBlock] at e1
    subst e1
    rw [hb] at h5
    cases h5
    exact ht rfl
end Go.Proofs.YtkppnbehkmpogaaDoor
