/- A range over a function whose iterator ranges over a string itself: its own iterator's block stays through the rounds. -/
import Derived.RangeFuncNested
import Derived.RangeFuncBound
import Derived.RangeFuncCalls
import Derived.RangeFuncLeaves
import Derived.Shelf.Abstract
import Derived.WalkKit
import Derived.OwnWalkIn
import Derived.TacticsInMore
import Derived.LoopNIn
import Derived.LoopIn
namespace Go.Proofs.RangeStr
open Go.RowKit Go.Shelf
set_option linter.unusedVariables false

/-- a loop's record lies in a block -/
def Rec (W : World) (l : Nat) : Prop := ∃ r, W.heap[l]? = some (.loop r)

/-- nothing but iterators over strings has moved -/
def Still (W W' : World) : Prop := W'.os = W.os ∧ W'.tape = W.tape ∧ W'.output = W.output ∧ W.heap.size ≤ W'.heap.size ∧ ∀ (b : Nat) (o : Obj), W.heap[b]? = some o → (∀ s p, o ≠ .stringIter s p) → W'.heap[b]? = some o
/-- iterators over strings stay as they are -/
def Iters (W W' : World) : Prop := ∀ (b : Nat) (s : ByteArray) (p : Nat), W.heap[b]? = some (.stringIter s p) → W'.heap[b]? = some (.stringIter s p)
theorem Iters.refl (W : World) : Iters W W := fun _ _ _ h => h
theorem Iters.trans {a b c : World} (h : Iters a b) (k : Iters b c) : Iters a c := fun x s p hx => k x s p (h x s p hx)
theorem Iters.below {W W' : World} (h : Below W.heap.size W W') : Iters W W' := fun b s p hb => by rw [h.block b (Array.getElem?_eq_some_iff.1 hb).1]; exact hb
theorem Iters.put {W : World} {l : Nat} (o : Obj) {r : Obj} (h : W.heap[l]? = some r) (hr : ∀ s p, r ≠ .stringIter s p) : Iters W (W.putObj l o) := by
  intro b s p hb
  by_cases e : b = l
  · subst e; rw [hb] at h; cases h; exact absurd rfl (hr s p)
  · rw [World.putObj_heap_other e]; exact hb
theorem Still.refl (W : World) : Still W W := ⟨rfl, rfl, rfl, Nat.le_refl _, fun _ _ h _ => h⟩
theorem Still.trans {a b c : World} (h : Still a b) (k : Still b c) : Still a c := ⟨k.1.trans h.1, k.2.1.trans h.2.1, k.2.2.1.trans h.2.2.1, Nat.le_trans h.2.2.2.1 k.2.2.2.1, fun x o hx ho => k.2.2.2.2 x o (h.2.2.2.2 x o hx ho) ho⟩
theorem Still.below {W W' : World} (h : Below W.heap.size W W') : Still W W' := ⟨h.os, h.tape, h.output, h.size, fun b o hb _ => by rw [h.block b (Array.getElem?_eq_some_iff.1 hb).1]; exact hb⟩

/-- what an iterator that hands k-th things owes a caller: J k: k rounds are over; X k vs: what the k-th round is handed, in its world -/
def Hands (P : Program) (n : Nat) (g : Nat) (lb : Array Value) (X : Nat → Array Value → World → Prop) (N : Nat) (T : World → Prop) (w : World) : Prop :=
  ∀ (B l : Nat) (J Jx : Nat → World → Prop) (W : World), Below w.heap.size w W → B ≤ W.heap.size → T W →
    (∀ k W, J k W → T W) → (∀ k W W', J k W → Still W W' → Below B W W' → J k W') →
    (∀ k vs W1, k < N → J k W1 → X k vs W1 → YieldAt Fence.wide (n - 1) P l vs W1 fun e W' =>
      (e = .returned (.bool true) ∧ J (k + 1) W' ∧ Iters W1 W') ∨ (e = .returned (.bool false) ∧ Jx (k + 1) W')) →
    J 0 W →
    CallsIn Fence.wide n P g (#[.func (.yield l) #[] #[]] ++ lb) W fun e W' => (∃ v, e = .returned v) ∧ (J N W' ∨ ∃ k, k ≤ N ∧ Jx k W')

/-- how a round's body may be left -/
def Left (l D : Nat) (J : Nat → World → Prop) (Jx : Code → Nat → World → Prop) (k : Nat) (W : World) : Exit → Act → World → Prop
  | .normal, _, W' => (W'.heap[l]? = W.heap[l]? ∧ W'.heap[D]? = W.heap[D]?) ∧ J k W' ∧ Iters W W'
  | .ret, _, W' => (W'.heap[l]? = W.heap[l]? ∧ W'.heap[D]? = W.heap[D]?) ∧ Jx .ret k W'
  | .exit id, _, W' => (W'.heap[l]? = W.heap[l]? ∧ W'.heap[D]? = W.heap[D]?) ∧ Jx (.exit id) k W'
  | .goto t, _, W' => (W'.heap[l]? = W.heap[l]? ∧ W'.heap[D]? = W.heap[D]?) ∧ Jx (.goto t) k W'
  | .panic _, _, _ => False
  | .outgrown, _, _ => False

theorem range_seen {P : Program} {n : Nat} {g : Operand} {ps : Array Tmp} {assign body : Code} {Q : Exit → Act → World → Prop} {a : Act} {w : World}
    {gf : Nat} {lb : Array Value} (hg : a.eval g = .func (.func gf) #[] lb) (eg : Enters P gf)
    {X : Nat → Array Value → World → Prop} {N : Nat} {T : World → Prop} {w0 : World} (hseq : Hands P (n - 1) gf lb X N T w0) (hb0 : Below w0.heap.size w0 w)
    (B : Nat) (hB : B ≤ w.heap.size)
    (J : Nat → World → Prop) (Jx : Code → Nat → World → Prop)
    (hX : ∀ k vs W, X k vs W → vs.size = ps.size)
    (hXp : ∀ k vs W o, X k vs W → Rec W (w.heap.size + 1) → X k vs (W.putObj (w.heap.size + 1) (.loop o)))
    (hJp : ∀ k W o, J k W → Rec W (w.heap.size + 1) → J k (W.putObj (w.heap.size + 1) (.loop o)))
    (hJxp : ∀ c k W o, Jx c k W → Rec W (w.heap.size + 1) → Jx c k (W.putObj (w.heap.size + 1) (.loop o)))
    (hJs : ∀ k W W', J k W → Still W W' → Below B W W' → J k W')
    (hT : ∀ k W, J k W → T W)
    (h0 : ∀ r, J 0 ((w.alloc (.deferred (some []))).alloc (.loop r)))
    (A : Nat → Array Value → Act)
    (hassign : ∀ (l k : Nat) (vs : Array Value) (W : World) (K : Act → World → Prop), X k vs W → K (A k vs) W →
      assign.wpIn (Fence.wide.inRound l) (n - 1 - 1) P (Exit.then K (fun _ _ _ => False)) { tmps := (ps.zip vs).foldl (fun t (p, v) => t.setIfInBounds p v) a.tmps, defers := [] } W)
    (hbody : ∀ (k : Nat) (vs : Array Value) (W : World), k < N → J k W → X k vs W → w.heap.size + 1 < W.heap.size → Rec W (w.heap.size + 1) → W.heap[w.heap.size]? = some (.deferred (some [])) →
      body.wpIn (Fence.wide.inRound (w.heap.size + 1)) (n - 1 - 1) P (Left (w.heap.size + 1) w.heap.size J Jx (k + 1) W) (A k vs) W)
    (hdone : ∀ (W : World), J N W → W.heap[w.heap.size]? = some (.deferred (some [])) → w.heap.size + 1 < W.heap.size → Q .normal { a with defers := { target := .collected w.heap.size, args := #[] } :: a.defers } W)
    (hstop : ∀ (c : Code) (k : Nat) (W : World), k ≤ N → Jx c k W → W.heap[w.heap.size]? = some (.deferred (some [])) → w.heap.size + 1 < W.heap.size → c.wpIn Fence.wide n P Q { a with defers := { target := .collected w.heap.size, args := #[] } :: a.defers } W) :
    (Code.rangeFunc g ps assign body).wpIn Fence.wide n P Q a w := by
  refine wpIn_rangeFunc ?_
  intro fn hfn
  -- the loop's record, in each of its states
  let lp : LoopState → Option Code → Loop := fun st pe => { state := st, pending := pe, fn, tmps := a.tmps, params := ps, assign, body, defers := w.heap.size }
  have hnew : ((w.alloc (.deferred (some []))).alloc (.loop (lp .ready none))).heap[w.heap.size + 1]? = some (.loop (lp .ready none)) := by
    have := World.alloc_heap_new (w.alloc (.deferred (some []))) (.loop (lp .ready none)); rwa [World.size_alloc] at this
  have hdef : ((w.alloc (.deferred (some []))).alloc (.loop (lp .ready none))).heap[w.heap.size]? = some (.deferred (some [])) :=
    (Below.heap_alloc _ _ _ (by simp)).trans (World.alloc_heap_new w _)
  have hbel : Below w.heap.size w ((w.alloc (.deferred (some []))).alloc (.loop (lp .ready none))) := ((Below.refl _ w).alloc (Nat.le_refl _) _).alloc (by simp) _
  have hJ0 := h0 (lp .ready none)
  -- what the iterator is told of a round: the caller's word, and both blocks as they lie
  let JJ : Nat → World → Prop := fun k W => J k W ∧ W.heap[w.heap.size + 1]? = some (.loop (lp .ready none)) ∧ W.heap[w.heap.size]? = some (.deferred (some []))
  let JJx : Nat → World → Prop := fun k W => ∃ c, Jx c k W ∧ W.heap[w.heap.size + 1]? = some (.loop (lp .done (some c))) ∧ W.heap[w.heap.size]? = some (.deferred (some []))
  have hent : (Instr.enterLoop fn a.tmps ps assign body Fence.wide.round).run P w = .ok (w.heap.size + 1, [{ target := .collected w.heap.size, args := #[] }]) ((w.alloc (.deferred (some []))).alloc (.loop (lp .ready none))) := run_enterLoop_outer _ _ _ _ _
  obtain ⟨W1, hW1⟩ : ∃ W1, (w.alloc (.deferred (some []))).alloc (.loop (lp .ready none)) = W1 := ⟨_, rfl⟩
  rw [hW1] at hnew hdef hbel hJ0 hent
  have hres : (resolve a.eval (rangeCall g (w.heap.size + 1)) 0).run P W1 = .ok { target := .fn (.func gf) lb, args := #[.func (.yield (w.heap.size + 1)) #[] #[]] } W1 := by
    simp only [resolve, hg]
    simp [go_sem]
  have hinv : (invoke (.fn (.func gf) lb) #[.func (.yield (w.heap.size + 1)) #[] #[]]).run P W1 = .ok (.enter gf (#[.func (.yield (w.heap.size + 1)) #[] #[]] ++ lb)) W1 := by
    simp [invoke, go_sem, eg _ _]
  refine ⟨w.heap.size + 1, [{ target := .collected w.heap.size, args := #[] }], W1, { target := .fn (.func gf) lb, args := #[.func (.yield (w.heap.size + 1)) #[] #[]] }, W1, gf,
    #[.func (.yield (w.heap.size + 1)) #[] #[]] ++ lb, W1, hent, hres, fun _ _ => trivial, hinv, fun h => by simp [Fence.wide] at h, ?_⟩
  · refine (hseq B (w.heap.size + 1) JJ JJx _ (hb0.trans (hbel.mono hb0.size)) (by have := hbel.size; omega) (hT 0 _ hJ0) (fun k W h => hT k W h.1) ?_ ?_ ⟨hJ0, hnew, hdef⟩).mono ?_
    · rintro k W W' ⟨h1, h2, h3⟩ hs hb
      exact ⟨hJs k W W' h1 hs hb, hs.2.2.2.2 _ _ h2 (fun s p e => by cases e), hs.2.2.2.2 _ _ h3 (fun s p e => by cases e)⟩
    · rintro k vs W hk ⟨h1, h2, h3⟩ hx
      have hlt := (Array.getElem?_eq_some_iff.1 h2).1
      have hy := run_yield (P := P) (args := vs) h2 (hX k vs W hx)
      refine ⟨_, _, _, _, hy, roundIn_of_wpIn hfn (hassign _ k vs W _ hx ⟨_, run_beginRound h2 rfl, ?_⟩)⟩
      have hb1 : (W.putObj (w.heap.size + 1) (.loop (lp .busy none))).heap[w.heap.size + 1]? = some (.loop (lp .busy none)) := World.putObj_heap_same hlt
      have hb2 : (W.putObj (w.heap.size + 1) (.loop (lp .busy none))).heap[w.heap.size]? = some (.deferred (some [])) := (World.putObj_heap_other (by omega)).trans h3
      have hsz : (W.putObj (w.heap.size + 1) (.loop (lp .busy none))).heap.size = W.heap.size := by simp [World.putObj]
      refine wpIn_mono (hbody k vs (W.putObj (w.heap.size + 1) (.loop (lp .busy none))) hk (hJp k W _ h1 ⟨_, h2⟩) (hXp k vs W _ hx ⟨_, h2⟩) (by rw [hsz]; exact hlt) ⟨_, hb1⟩ hb2) ?_
      rintro e a3 W3 hp
      cases e with
      | normal =>
        obtain ⟨⟨hl, hd⟩, hj, hi⟩ := hp
        rw [hb1] at hl
        rw [hb2] at hd
        refine ⟨_, _, run_endRound none hl, .inl ⟨rfl, ⟨hJp _ _ _ hj ⟨_, hl⟩, World.putObj_heap_same (Array.getElem?_eq_some_iff.1 hl).1, (World.putObj_heap_other (by omega)).trans hd⟩, ?_⟩⟩
        exact ((Iters.put _ h2 (fun s p e => by cases e)).trans hi).trans (Iters.put _ hl (fun s p e => by cases e))
      | ret =>
        obtain ⟨⟨hl, hd⟩, hj⟩ := hp
        rw [hb1] at hl
        rw [hb2] at hd
        refine ⟨_, _, run_endRound (some .ret) hl, .inr ⟨rfl, .ret, hJxp _ _ _ _ hj ⟨_, hl⟩, World.putObj_heap_same (Array.getElem?_eq_some_iff.1 hl).1, (World.putObj_heap_other (by omega)).trans hd⟩⟩
      | exit id =>
        obtain ⟨⟨hl, hd⟩, hj⟩ := hp
        rw [hb1] at hl
        rw [hb2] at hd
        refine ⟨_, _, run_endRound (some (.exit id)) hl, .inr ⟨rfl, .exit id, hJxp _ _ _ _ hj ⟨_, hl⟩, World.putObj_heap_same (Array.getElem?_eq_some_iff.1 hl).1, (World.putObj_heap_other (by omega)).trans hd⟩⟩
      | goto t =>
        obtain ⟨⟨hl, hd⟩, hj⟩ := hp
        rw [hb1] at hl
        rw [hb2] at hd
        refine ⟨_, _, run_endRound (some (.goto t)) hl, .inr ⟨rfl, .goto t, hJxp _ _ _ _ hj ⟨_, hl⟩, World.putObj_heap_same (Array.getElem?_eq_some_iff.1 hl).1, (World.putObj_heap_other (by omega)).trans hd⟩⟩
      | panic ch => exact hp.elim
      | outgrown => exact hp.elim
    · rintro e W2 ⟨⟨v, rfl⟩, (⟨hj, hl, hd⟩ | ⟨k, hk, c, hj, hl, hd⟩)⟩
      · have hlt := (Array.getElem?_eq_some_iff.1 hl).1
        exact ⟨none, _, run_endLoop hl (by simp [lp]), hdone _ (hJp _ _ _ hj ⟨_, hl⟩) ((World.putObj_heap_other (by omega)).trans hd) (by simpa [World.putObj] using hlt)⟩
      · have hlt := (Array.getElem?_eq_some_iff.1 hl).1
        exact ⟨some c, _, run_endLoop hl (by simp [lp]), hstop c k _ hk (hJxp _ _ _ _ hj ⟨_, hl⟩) ((World.putObj_heap_other (by omega)).trans hd) (by simpa [World.putObj] using hlt)⟩
end Go.Proofs.RangeStr
