/- A drawn region that only reads, inside a round of a range over a function: where no operation defers, the round changes nothing. -/
import Derived.Sort.BigQuietIn
namespace Go.Proofs.QuietRound
set_option linter.unusedVariables false
section
variable {F : Fence} {n : Nat} {P : Program} {ops : Array Oper} {C : World → Prop}

def noDefer (o : Oper) : Bool := match o.op with
  | .defer _ => false
  | _ => true
theorem sem_of {o : Oper} (h : noDefer o = true) (ro : Option Nat) (ρ : Operand → Value) : Oper.semAt ro ρ o = execOp ρ o := by
  cases ro with
  | none => rfl
  | some l => exact Oper.semAt_some l ρ o (fun c e => by simp [noDefer, e] at h)

theorem op_of {o : Oper} {a : Act} {K : Act → Prop} {K' : Act → World → Prop} {Q' : Exit → Act → World → Prop} {w : World} (hd : noDefer o = true) (hw : C w) (h : ∀ a w', C w' → K a → K' a w')
    (ha : o.askedIn F P a C) (hq : o.quietIn F n P a C K) : o.wpIn F n P a w K' Q' := by
  obtain ⟨v, q, hK⟩ := hq
  have hv := q w hw
  refine ⟨ha w hw, ?_⟩
  rw [sem_of hd]
  unfold Oper.quietAtIn at hv
  revert hv
  cases (execOp a.eval o).run P w with
  | halt x w' => intro hv; exact hv.elim
  | ok x w' =>
    cases x with
    | value u => rintro ⟨rfl, rfl⟩; exact h _ _ hw hK
    | skip => rintro ⟨rfl, rfl⟩; exact h _ _ hw hK
    | enter f args =>
      rintro ⟨rfl, h1, h2⟩
      refine ⟨h1, h2.mono ?_⟩
      rintro e w'' ⟨rfl, hc⟩
      exact h _ _ hc hK
    | _ => intro hv; exact hv.elim

theorem any_of {md : Region.Mode} {Q : Act → Prop} {Q' : Exit → Act → World → Prop} (hd : ∀ o ∈ ops, noDefer o = true) (hQ : ∀ a w, C w → Q a → Q' .normal a w) : ∀ (fuel : Nat) (listed : Array Bool) (a : Act) (w : World), C w →
    wpAnyQIn F n P md ops C Q fuel listed a → wpAnyIn F n P md ops Q' fuel listed a w := by
  intro fuel
  induction fuel with
  | zero => intro listed a w hw h; exact ⟨h.1, hQ _ _ hw h.2⟩
  | succ fuel ih =>
    intro listed a w hw h
    refine ⟨fun h0 => hQ _ _ hw (h.1 h0), fun i hi => ?_⟩
    have hx := h.2 i hi
    unfold qOpIn at hx
    unfold wpOpIn
    cases ho : ops[i]? with
    | none => simp only [ho] at hx; exact ih _ _ _ hw hx
    | some o =>
      simp only [ho] at hx
      obtain ⟨ha, hx⟩ := hx
      have hm : noDefer o = true := hd o (Array.mem_of_getElem? ho)
      by_cases hwt : Region.wanted o (yielded ops a.tmps) = true
      · simp only [hwt, if_true] at hx ⊢
        exact op_of hm hw (fun a' w' hw' => ih _ a' w' hw') ha hx
      · simp only [hwt] at hx ⊢
        exact ⟨ha w hw, ih _ _ _ hw hx⟩

theorem region_quiet {id : Nat} {Q : Exit → Act → World → Prop} {a : Act} {w : World} {l : List Oper} (hd : l.all noDefer = true) (hm : P.follows .mixedOrders = true) (hB : Region.lexB .any l.toArray = true)
    (h : wpQuietIn F n P l.toArray (fun w' => ∃ n, w' = w.drewN n) (fun a' => ∀ w', (∃ n, w' = w.drewN n) → Q .normal a' w') l a) : (Code.region id l.toArray true).wpIn F n P Q a w := by
  simp only [Region.lexB, Bool.and_eq_true] at hB
  refine wpIn_region_any hm (any_of (C := fun w' => ∃ n, w' = w.drewN n) (Q := fun a' => ∀ w', (∃ n, w' = w.drewN n) → Q .normal a' w') (fun o ho => List.all_eq_true.1 hd o (by simpa using ho)) (fun _ w' hw' h => h w' hw') _ _ _ _ ⟨1, rfl⟩ ?_)
  have := wpAnyQIn_lex (F := F) (n := n) (C := fun w' => ∃ n, w' = w.drewN n) (md := .any) hB.1 l 0 (Array.replicate l.toArray.size false) a (by simp) (by simpa using hB.2) h
  simpa using this
end
end Go.Proofs.QuietRound
