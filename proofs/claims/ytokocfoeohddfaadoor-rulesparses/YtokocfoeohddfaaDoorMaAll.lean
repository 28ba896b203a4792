/- GlRMath, GlRSgn, GlRRow, GlRCls, GlRSigns, GlRDp, GlRSmall, RuCheck, RuPrint, RuROne, RuText, RuLight, RuRText, joined. -/
import Derived.Test.YtokocfoeohddfaaDoorGlLang
import Derived.Test.YtokocfoeohddfaaDoorGlStar
import Derived.Deep.MidRow
import Derived.Great.BuildSlice
import Derived.Deep.DeepCutAuto
import Derived.Test.YtokocfoeohddfaaDoorGlLawM
import Derived.Maps.AppendAt
import Derived.Laws.MakeOwn
import Derived.Deep.LoopGhost
import Derived.WalkMore
import Derived.Test.YtokocfoeohddfaaDoorRuHid
import Derived.Laws.Concat
import Derived.Test.YtokocfoeohddfaaDoorGlBuild
import Derived.Test.YtokocfoeohddfaaDoorRuRow
import Derived.Deep.Slices
import Derived.ChangeArms
import Derived.Test.YtokocfoeohddfaaDoorRuAwake
namespace Go.Proofs.YtokocfoeohddfaaDoor.Pa
set_option linter.unusedVariables false
set_option linter.unusedSimpArgs false
set_option maxRecDepth 100000

/-- the document's member of a class at a place -/
def rmR (l : L8) (a : Nat) : Option (Nat × Nat × Nat) :=
  match rbN l a with
  | none => none
  | some (f, b) =>
    if b + 1 < l.length ∧ nb l b = 45 ∧ nb l (b + 1) ≠ 93 then
      match rbN l (b + 1) with
      | none => none
      | some (g, d) => if f ≤ g then some (f, g, d) else none
    else some (f, f, b)
def clsR (l : L8) : Nat → Nat → (Nat → Bool) → Nat → Option ((Nat → Bool) × Nat)
  | 0, _, _, _ => none
  | n + 1, a, S, k =>
    if a < l.length ∧ nb l a ≠ 93 then match rmR l a with
      | none => none
      | some (f, g, b) => clsR l n b (spanS S f (g + 1)) (k + 1)
    else if a < l.length ∧ 0 < k then some (S, a + 1) else none
theorem nb_cons {l : L8} {i : Nat} (h : i < l.length) : ∃ c r, l.drop i = c :: r ∧ nb l i = c.toNat ∧ r = l.drop (i + 1) := by
  refine ⟨l[i], l.drop (i + 1), List.drop_eq_getElem_cons h, ?_, rfl⟩
  unfold nb
  rw [List.getD_eq_getElem?_getD, List.getElem?_eq_getElem h]
  rfl
theorem pre_one (l : L8) (b : Nat) : [45].isPrefixOf (l.drop b) = true ↔ b < l.length ∧ nb l b = 45 := by
  by_cases h : b < l.length
  · obtain ⟨c, r, h1, h2, _⟩ := nb_cons h
    rw [h1, h2]
    simp [List.isPrefixOf, h]
    constructor
    · intro e; rw [← e]; rfl
    · intro e; exact (UInt8.toNat_inj.1 e).symm
  · rw [List.drop_eq_nil_of_le (by omega)]
    simp [List.isPrefixOf, h]
theorem pre_two (l : L8) (b : Nat) : [45, 93].isPrefixOf (l.drop b) = true ↔ b + 1 < l.length ∧ nb l b = 45 ∧ nb l (b + 1) = 93 := by
  by_cases h : b < l.length
  · obtain ⟨c, r, h1, h2, h3⟩ := nb_cons h
    rw [h1, h2]
    by_cases h' : b + 1 < l.length
    · obtain ⟨d, q, k1, k2, k3⟩ := nb_cons h'
      rw [h3, k1, k2]
      simp [List.isPrefixOf, h']
      constructor
      · rintro ⟨e1, e2⟩; rw [← e1, ← e2]; exact ⟨rfl, rfl⟩
      · rintro ⟨e1, e2⟩; exact ⟨(UInt8.toNat_inj.1 e1).symm, (UInt8.toNat_inj.1 e2).symm⟩
    · rw [h3, List.drop_eq_nil_of_le (by omega)]
      simp [List.isPrefixOf, h']
  · rw [List.drop_eq_nil_of_le (by omega)]
    simp [List.isPrefixOf]
    omega
theorem rmR_bd {l : L8} {a f g b : Nat} (h : rmR l a = some (f, g, b)) : f < 256 ∧ g < 256 ∧ f ≤ g ∧ a < b ∧ b ≤ l.length := by
  unfold rmR at h
  cases hx : rbN l a with
  | none => rw [hx] at h; simp at h
  | some x =>
    obtain ⟨f1, b1⟩ := x
    have h1 := rb_some hx
    rw [hx] at h
    simp only at h
    split at h
    · cases hy : rbN l (b1 + 1) with
      | none => rw [hy] at h; simp at h
      | some y =>
        obtain ⟨g1, d1⟩ := y
        have h2 := rb_some hy
        rw [hy] at h
        simp only at h
        split at h
        · simp only [Option.some.injEq, Prod.mk.injEq] at h
          omega
        · cases h
    · simp only [Option.some.injEq, Prod.mk.injEq] at h
      omega
theorem empty_span (S : Nat → Bool) (f g : Nat) (h : f ≤ g) (hf : f < 256) : emptyS (spanS S f (g + 1)) = false := by
  rw [Bool.eq_false_iff]
  intro e
  have := (emptyS_iff _).1 e f hf
  unfold spanS at this
  simp at this
  omega
theorem rb_dash {l : L8} {b : Nat} (h : b < l.length) (h2 : nb l b = 45) : rbN l b = some (45, b + 1) := by
  have e : rbAt l b = b := if_neg (fun h => by have := h.2; rw [bt_nb, h2] at this; omega)
  unfold rbN
  rw [e, if_pos h, h2]
theorem clsR_cls (l : L8) : ∀ n a S k, (emptyS S = true ↔ k = 0) → clsR l n a S k = cls l n a S := by
  intro n
  induction n with
  | zero => intro a S k _; rfl
  | succ n ih =>
    intro a S k hk
    rw [clsR, cls]
    by_cases ha : a < l.length
    · rw [if_pos ha]
      by_cases h93 : nb l a = 93
      · rw [if_neg (fun h => h.2 h93), if_pos h93]
        by_cases h0 : k = 0
        · rw [if_neg (by omega), if_pos (hk.2 h0)]
        · rw [if_pos ⟨ha, by omega⟩, if_neg (fun h => h0 (hk.1 h))]
      · rw [if_pos ⟨ha, h93⟩, if_neg h93]
        unfold rmR rm
        cases hx : rbN l a with
        | none => rfl
        | some x =>
          obtain ⟨f, b⟩ := x
          have h1 := rb_some hx
          simp only
          by_cases hA : b + 1 < l.length ∧ nb l b = 45 ∧ nb l (b + 1) ≠ 93
          · have hp1 : [45].isPrefixOf (l.drop b) = true := (pre_one l b).2 ⟨by omega, hA.2.1⟩
            have hp2 : ¬ [45, 93].isPrefixOf (l.drop b) = true := fun h => hA.2.2 ((pre_two l b).1 h).2.2
            rw [if_pos hA, if_neg (by rw [hp1]; simp [hp2])]
            cases hy : rbN l (b + 1) with
            | none => rfl
            | some y =>
              obtain ⟨g, d⟩ := y
              have h2 := rb_some hy
              simp only
              by_cases hfg : f ≤ g
              · rw [if_pos hfg]
                exact ih _ _ _ (by rw [empty_span S f g hfg h1.2.1]; simp)
              · rw [if_neg hfg]
          · rw [if_neg hA]
            by_cases hB : b < l.length ∧ nb l b = 45 ∧ ¬ b + 1 < l.length
            · have hp1 : [45].isPrefixOf (l.drop b) = true := (pre_one l b).2 ⟨hB.1, hB.2.1⟩
              have hp2 : ¬ [45, 93].isPrefixOf (l.drop b) = true := fun h => hB.2.2 ((pre_two l b).1 h).1
              rw [if_neg (by rw [hp1]; simp [hp2])]
              have hn : rbN l (b + 1) = none := by
                unfold rbN
                rw [if_neg]
                have := rbAt_le l (b + 1)
                omega
              rw [hn]
              simp only
              cases n with
              | zero => rfl
              | succ m =>
                rw [clsR, if_pos ⟨hB.1, by omega⟩]
                unfold rmR
                rw [rb_dash hB.1 hB.2.1]
                simp only
                rw [if_neg (by omega)]
                simp only
                cases m with
                | zero => rfl
                | succ m => rw [clsR, if_neg (by omega), if_neg (by omega)]
            · have hp : ([45].isPrefixOf (l.drop b) = false) ∨ [45, 93].isPrefixOf (l.drop b) = true := by
                by_cases hb : b < l.length ∧ nb l b = 45
                · right
                  rw [pre_two]
                  omega
                · left
                  rw [Bool.eq_false_iff]
                  exact fun h => hb ((pre_one l b).1 h)
              rw [if_pos hp]
              exact ih _ _ _ (by rw [empty_span S f f (Nat.le_refl _) h1.2.1]; simp)
    · rw [if_neg (fun h => ha h.1), if_neg (fun h => ha h.1), if_neg ha]
theorem clsR_bd {l : L8} : ∀ n a S k T b, clsR l n a S k = some (T, b) → a < b ∧ b ≤ l.length := by
  intro n
  induction n with
  | zero => intro a S k T b h; simp [clsR] at h
  | succ n ih =>
    intro a S k T b h
    rw [clsR] at h
    split at h
    · cases hm : rmR l a with
      | none => rw [hm] at h; simp at h
      | some x =>
        obtain ⟨f, g, d⟩ := x
        rw [hm] at h
        have h2 := rmR_bd hm
        have h3 := ih _ _ _ _ _ h
        omega
    · split at h
      · simp only [Option.some.injEq, Prod.mk.injEq] at h; omega
      · cases h
theorem clsR_fuel {l : L8} : ∀ n m a S k, l.length < a + n → l.length < a + m → clsR l n a S k = clsR l m a S k := by
  intro n
  induction n with
  | zero => intro m a S k h1 h2; rw [clsR]; cases m with
    | zero => rw [clsR]
    | succ m => rw [clsR, if_neg (by omega), if_neg (by omega)]
  | succ n ih =>
    intro m a S k h1 h2
    cases m with
    | zero => rw [clsR, clsR, if_neg (by omega), if_neg (by omega)]
    | succ m =>
      rw [clsR, clsR]
      split
      · cases hm : rmR l a with
        | none => rfl
        | some x =>
          obtain ⟨f, g, d⟩ := x
          have h3 := rmR_bd hm
          exact ih m d _ _ (by omega) (by omega)
      · rfl

/-- a sign of the document: its kind, its byte, is it turned, its members -/
structure Rg where
  kind : Nat
  c : Nat
  nt : Bool
  S : Nat → Bool
def Rg.sg (x : Rg) : Sg :=
  if x.kind = 0 then ⟨addS noneS x.c, false, true, x.c⟩
  else if x.kind = 3 then ⟨allS, true, false, 0⟩
  else if x.kind = 4 then classSg x.nt x.S
  else ⟨dropS allS 47, decide (x.kind = 2), false, 0⟩
def sgnR (l : L8) (a : Nat) : Option (Rg × Nat) :=
  if nb l a = 91 then
    match clsR l (l.length + 1) (if bang l a then a + 2 else a + 1) noneS 0 with
    | none => none
    | some (S, b) => some (⟨4, 0, bang l a, S⟩, b)
  else if nb l a = 63 then some (⟨1, 63, false, noneS⟩, a + 1)
  else if nb l a = 42 then some (⟨if stars l a > 1 then 3 else 2, 42, false, noneS⟩, a + stars l a)
  else match rbN l a with
    | none => none
    | some (c, b) => some (⟨0, c, false, noneS⟩, b)
theorem emptyS_none : emptyS noneS = true := (emptyS_iff _).2 fun _ _ => rfl
theorem sgnR_sg (l : L8) (a : Nat) : sgn l a = (sgnR l a).map fun x => (x.1.sg, x.2) := by
  unfold sgn sgnR
  split
  · rw [clsR_cls l _ _ _ _ (by rw [emptyS_none]; simp)]
    cases cls l (l.length + 1) (if bang l a = true then a + 2 else a + 1) noneS <;> rfl
  · split
    · rfl
    · split
      · by_cases h : stars l a > 1 <;> simp [h, Rg.sg]
      · cases rbN l a <;> rfl
def sgnsR (l : L8) : Nat → Nat → Option (List Rg)
  | 0, _ => none
  | n + 1, a =>
    if a < l.length then
      match sgnR l a with
      | none => none
      | some (x, b) => (sgnsR l n b).map (x :: ·)
    else some []
theorem sgnsR_sg (l : L8) : ∀ n a, sgns l n a = (sgnsR l n a).map (List.map Rg.sg) := by
  intro n
  induction n with
  | zero => intro a; rfl
  | succ n ih =>
    intro a
    rw [sgns, sgnsR]
    split
    · rw [sgnR_sg]
      cases sgnR l a with
      | none => rfl
      | some x =>
        obtain ⟨x, b⟩ := x
        simp only [Option.map_some]
        rw [ih b]
        cases sgnsR l n b <;> simp
    · rfl
theorem sgnR_bd {l : L8} {a b : Nat} {x : Rg} (ha : a < l.length) (h : sgnR l a = some (x, b)) : a < b ∧ b ≤ l.length :=
  sgn_bd ha (by rw [sgnR_sg, h]; rfl)
theorem sgnsR_fuel {l : L8} : ∀ n m a, a ≤ l.length → l.length < a + n → l.length < a + m → sgnsR l n a = sgnsR l m a := by
  intro n
  induction n with
  | zero => intro m a h0 h1 h2; omega
  | succ n ih =>
    intro m a h0 h1 h2
    cases m with
    | zero => omega
    | succ m =>
      rw [sgnsR, sgnsR]
      split
      · next h3 =>
        cases hs : sgnR l a with
        | none => rfl
        | some x =>
          obtain ⟨x, b⟩ := x
          have := sgnR_bd h3 hs
          simp only
          rw [ih m b (by omega) (by omega) (by omega)]
      · rfl
def readR (l : L8) : Option (List Rg) := sgnsR l (l.length + 1) 0
theorem readE_R (l : L8) : readE l = if l.length ≤ 100 then (if (readR l).isSome then 0 else 5) else 7 := by
  unfold readE readR
  rw [sgnsR_sg]
  simp
theorem readP_R (l : L8) : readP l = if l.length ≤ 100 then (readR l).map (List.map Rg.sg) else none := by
  unfold readP readR
  rw [sgnsR_sg]

end Go.Proofs.YtokocfoeohddfaaDoor.Pa
namespace Go.Proofs.YtokocfoeohddfaaDoor.Pa
open Go.RowKit
set_option linter.unusedVariables false
set_option linter.unusedSimpArgs false
set_option maxRecDepth 1000000

def sgC (kind c : Int) (nt : Bool) (S : Nat → Bool) : List Value := [.int .i64 kind, .int .u8 c, .bool nt] ++ (List.range 256).map (fun i => Value.bool (S i))
theorem sgC_length (kind c : Int) (nt : Bool) (S : Nat → Bool) : (sgC kind c nt S).length = 259 := by simp [sgC]
theorem sgC_one (kind c : Int) (nt : Bool) (S : Nat → Bool) : ∀ v ∈ sgC kind c nt S, v.oneCell' = true := by
  intro v hv
  simp only [sgC, List.mem_append, List.mem_cons, List.not_mem_nil, or_false, List.mem_map] at hv
  rcases hv with (rfl | rfl | rfl) | ⟨x, _, rfl⟩ <;> rfl
theorem Tryd.infoRg : (Tryd.prog.info? 35).map (fun i => (i.zero, i.size, i.bytes)) = some (some (.agg (sgC 0 0 false noneS).toArray), 259, 272) := by kernel_rfl
theorem size_rg {cs : List Value} (h : cs.length = 259) : (Tryd.prog.info? 35).map (·.size) = some cs.length := by rw [h]; kernel_rfl
theorem size_rga {cs : List Value} (h : cs.length = 259) : (Tryd.prog.info? 35).map (·.size) = some cs.toArray.size := by rw [List.size_toArray, h]; kernel_rfl
theorem zero_rg (W : World) : (zeroValue 35).run Tryd.prog W = .ok (.agg (sgC 0 0 false noneS).toArray) W := by
  obtain ⟨i, hi, hz, -, -⟩ := info_parts Tryd.infoRg
  simp [zeroValue, typeInfo, Sem.run_bind, hi, hz]
theorem built_four : Tryd.prog.built 35 [(0, .int .i64 4)] = some (sgC 4 0 false noneS).toArray := by kernel_rfl
theorem built_byte (c : Int) : Tryd.prog.built 35 [(1, .int .u8 c)] = some (sgC 0 c false noneS).toArray := by kernel_rfl
theorem sgC_set (kind c : Int) (nt : Bool) (S : Nat → Bool) (i : Nat) (hi : i < 256) : (sgC kind c nt S).toArray.setIfInBounds (3 + i) (.bool true) = (sgC kind c nt (addS S i)).toArray := by
  apply Array.ext'
  rw [Array.toList_setIfInBounds]
  unfold sgC
  show ([Value.int .i64 kind, .int .u8 c, .bool nt] ++ (List.range 256).map (fun i => Value.bool (S i))).set (3 + i) (.bool true) = _
  rw [List.set_append_right _ _ (by simp)]
  show _ ++ _ = _ ++ _
  congr 1
  simp only [List.length_cons, List.length_nil]
  rw [show 3 + i - (0 + 1 + 1 + 1) = i from by omega]
  apply List.ext_getElem
  · simp
  intro n h1 h2
  rw [List.getElem_set]
  simp only [List.getElem_map, List.getElem_range]
  unfold addS
  by_cases h : i = n
  · rw [if_pos h, h]; simp
  · rw [if_neg h]
    have : (n == i) = false := by simpa using fun e => h e.symm
    rw [this, Bool.or_false]
theorem sgC_set2 (kind c : Int) (nt b : Bool) (S : Nat → Bool) : (sgC kind c nt S).toArray.setIfInBounds 2 (.bool b) = (sgC kind c b S).toArray := by
  apply Array.ext'
  rw [Array.toList_setIfInBounds]
  rfl
theorem sgC_set0 (kind kind' c : Int) (nt : Bool) (S : Nat → Bool) : (sgC kind c nt S).toArray.setIfInBounds 0 (.int .i64 kind') = (sgC kind' c nt S).toArray := by
  apply Array.ext'
  rw [Array.toList_setIfInBounds]
  rfl
theorem sgC_set1 (kind c c' : Int) (nt : Bool) (S : Nat → Bool) : (sgC kind c nt S).toArray.setIfInBounds 1 (.int .u8 c') = (sgC kind c' nt S).toArray := by
  apply Array.ext'
  rw [Array.toList_setIfInBounds]
  rfl
theorem sgC_get (kind c : Int) (nt : Bool) (S : Nat → Bool) (i : Nat) (hi : i < 256) : (sgC kind c nt S).toArray[3 + i]? = some (.bool (S i)) := by
  rw [List.getElem?_toArray]
  unfold sgC
  rw [List.getElem?_append_right (by simp)]
  simp [hi, show 3 + i - 3 = i from by omega]
/-- a block that was stored whole -/
theorem stored_whole (w : World) (g : Nat) (old : Array Value) (t : TypeId) (vs : List Value) (hb : w.heap[g]? = some (.cells old t)) (hs : old.size = vs.length) : (w.setCells g 0 vs).heap[g]? = some (.cells vs.toArray t) := by
  have key : ∀ (vs : List Value) (o : Nat) (w : World) (old : List Value), w.heap[g]? = some (.cells old.toArray t) → o + vs.length = old.length → (w.setCells g o vs).heap[g]? = some (.cells (old.take o ++ vs).toArray t) := by
    intro vs
    induction vs with
    | nil => intro o w old h hl; simp at hl; subst hl; simpa [World.setCells] using h
    | cons v vs ih =>
      intro o w old h hl
      have h1 := Joins.block_setCell (i := o) h v
      rw [List.setIfInBounds_toArray] at h1
      have h2 := ih (o + 1) _ (old.set o v) h1 (by simp at hl ⊢; omega)
      show ((w.setCell ⟨g, o, none⟩ v).setCells g (o + 1) vs).heap[g]? = _
      rw [h2]
      congr 3
      have ho : o < old.length := by simp at hl; omega
      rw [List.take_succ_eq_append_getElem (by simpa using ho), List.take_set_of_le (Nat.le_refl _), List.getElem_set_self]
      simp
  have h := key vs 0 w old.toList (by simpa using hb) (by simp [hs])
  simpa using h
theorem below_setCells (B g : Nat) (vs : List Value) : ∀ (o : Nat) (w W : World), Below B w W → B ≤ g → Below B w (W.setCells g o vs) := by
  induction vs with
  | nil => intro o w W h _; exact h
  | cons v vs ih => intro o w W h hg; exact ih (o + 1) w _ (Below.setCell (p := ⟨g, o, none⟩) h hg v) hg
theorem heap_setCells (g g' : Nat) (h : g' ≠ g) (vs : List Value) : ∀ (o : Nat) (w : World), (w.setCells g o vs).heap[g']? = w.heap[g']? := by
  induction vs with
  | nil => intro o w; rfl
  | cons v vs ih =>
    intro o w
    show ((w.setCell ⟨g, o, none⟩ v).setCells g (o + 1) vs).heap[g']? = _
    rw [ih]
    simp [World.setCell, Array.getElem?_modify, Ne.symm h]
theorem size_setCells (g : Nat) (vs : List Value) : ∀ (o : Nat) (w : World), (w.setCells g o vs).heap.size = w.heap.size := by
  induction vs with
  | nil => intro o w; rfl
  | cons v vs ih =>
    intro o w
    show ((w.setCell ⟨g, o, none⟩ v).setCells g (o + 1) vs).heap.size = _
    rw [ih]; simp
theorem there_block {W : World} {g : Nat} {cs : Array Value} {t : TypeId} (h : W.heap[g]? = some (.cells cs t)) (n : Nat) (hn : n ≤ cs.size) : W.there g 0 n := by
  intro j hj
  rw [Nat.zero_add]
  refine ⟨?_, unfrozen h⟩
  rw [cell_of_row _ _ j _ _ (0, 0) h, Array.getElem?_eq_getElem (by omega)]; rfl
theorem range_block {W : World} {g : Nat} {cs : List Value} {t : TypeId} (h : W.heap[g]? = some (.cells cs.toArray t)) : W.rangeAt g 0 cs := by
  intro j v hv
  rw [Nat.zero_add, cell_of_row _ _ j _ _ (0, 0) h, List.getElem?_toArray]; exact hv
end Go.Proofs.YtokocfoeohddfaaDoor.Pa
namespace Go.Proofs.YtokocfoeohddfaaDoor.Pa
open Go.RowKit
set_option linter.unusedVariables false
set_option linter.unusedSimpArgs false
set_option maxRecDepth 1000000

def Rg.cs (x : Rg) : List Value := sgC (x.kind : Int) (x.c : Int) x.nt x.S
theorem Rg.cs_length (x : Rg) : x.cs.length = 259 := sgC_length _ _ _ _
def rgCells (L : List Rg) : List Value := L.flatMap Rg.cs
theorem rgCells_length (L : List Rg) : (rgCells L).length = L.length * 259 := by
  induction L with
  | nil => rfl
  | cons x L ih => unfold rgCells at *; rw [List.flatMap_cons, List.length_append, ih, Rg.cs_length, List.length_cons]; omega
theorem rgCells_get (L : List Rg) (i j : Nat) (hj : j < 259) : (rgCells L)[i * 259 + j]? = (L[i]?).bind fun x => x.cs[j]? := by
  induction L generalizing i with
  | nil => simp [rgCells]
  | cons x L ih =>
    unfold rgCells at *
    rw [List.flatMap_cons]
    cases i with
    | zero => rw [List.getElem?_append_left (by rw [Rg.cs_length]; omega)]; simp
    | succ i =>
      rw [List.getElem?_append_right (by rw [Rg.cs_length]; omega), Rg.cs_length, show (i + 1) * 259 + j - 259 = i * 259 + j from by omega, ih i]
      simp
/-- a row of signs that this call made -/
def RgOwn (w : World) (base : Nat) (v : Value) (L : List Rg) : Prop := w.ownsRow base 35 259 v L.length (rgCells L)
theorem RgOwn.form {w : World} {base : Nat} {v : Value} {L : List Rg} (h : RgOwn w base v L) : (L = [] ∧ v = .slice none 0 0) ∨ ∃ g cap, v = .slice (some ⟨g, 0, none⟩) L.length cap ∧ base ≤ g ∧ g < w.heap.size ∧ L.length ≤ cap ∧ ∀ i x, L[i]? = some x → ∀ j, j < 259 → w.cell? ⟨g, i * 259 + j, none⟩ = x.cs[j]? := by
  obtain ⟨h1, h2⟩ := id h
  rcases h2 with ⟨rfl, h0⟩ | ⟨g, cap, cur, rfl, h4, h5, h6, h7, h8, h9⟩
  · exact .inl ⟨List.eq_nil_of_length_eq_zero h0, rfl⟩
  · refine .inr ⟨g, cap, rfl, h4, (Array.getElem?_eq_some_iff.1 h5).1, h6, fun i x hi j hj => ?_⟩
    have hlt : i < L.length := (List.getElem?_eq_some_iff.1 hi).1
    have hg := rgCells_get L i j hj
    rw [hi] at hg
    rw [cell_of_row _ _ (i * 259 + j) _ _ (0, 0) h5]
    have h10 : cur.toList[i * 259 + j]? = (rgCells L)[i * 259 + j]? := by
      rw [← h9, List.getElem?_take]
      rw [if_pos (by omega)]
    rw [hg] at h10
    simpa using h10
theorem RgOwn.slice {w : World} {base : Nat} {v : Value} {L : List Rg} (h : RgOwn w base v L) : ∃ a c, v = .slice a L.length c := by
  rcases h.form with ⟨rfl, rfl⟩ | ⟨g, cap, rfl, _⟩
  · exact ⟨none, 0, rfl⟩
  · exact ⟨_, cap, rfl⟩
theorem RgOwn.later {w w' : World} {base : Nat} {v : Value} {L : List Rg} (h : RgOwn w base v L) (hb : Below w.heap.size w w') : RgOwn w' base v L := by
  obtain ⟨h1, h2⟩ := h
  refine ⟨h1, ?_⟩
  rcases h2 with h2 | ⟨g, cap, cur, h3, h4, h5, h6⟩
  · exact .inl h2
  · exact .inr ⟨g, cap, cur, h3, h4, (hb.block _ (Array.getElem?_eq_some_iff.1 h5).1).trans h5, h6⟩
theorem RgOwn.lt {w : World} {base : Nat} {v : Value} {L : List Rg} (h : RgOwn w base v L) : ∀ k, v.ownBlock = some k → base ≤ k ∧ k < w.heap.size := fun k hk => World.ownsRow.lt h k hk
theorem RgOwn.none (w : World) (base : Nat) : RgOwn w base (.slice none 0 0) [] := ⟨rfl, .inl ⟨rfl, rfl⟩⟩
/-- an append of one sign to such a row -/
theorem append_rg {w : World} {ops : Array Oper} {rest : List Oper} {o : Oper} {a : Act} {Q : Exit → Act → World → Prop}
    (hg : o.guard = none) (s x : Operand) (hop : o.op = Op.call { callee := Callee.builtin Builtin.append, args := #[s, x], argTypes := #[30, 30] })
    (base : Nat) (v : Value) (L : List Rg) (p : Rg) (hs : a.eval s = v) (hown : RgOwn w base v L) (g c : Nat) (hx : a.eval x = .slice (some ⟨g, 0, none⟩) 1 c)
    (hc : ∀ j u, p.cs[j]? = some u → w.cell? ⟨g, j, none⟩ = some u) (hl : L.length ≤ 100000) (b3 : base ≤ w.heap.size)
    (hK : ∀ v' w', RgOwn w' base v' (L ++ [p]) → w.grownBy w' v.ownBlock → (v'.ownBlock = v.ownBlock ∨ v'.ownBlock = some w.heap.size) → wpList Tryd.prog ops Q rest (a.put o.dst v') w') :
    wpList Tryd.prog ops Q (o :: rest) a w := by
  obtain ⟨i0, hi, hz0, hz1, hz2⟩ := info_parts Tryd.infoRg
  refine wpList_append_own_at (P := Tryd.prog) w hg s x 30 hop base 35 i0 _ 259 272 Tryd.underlying30 hi hz0 hz1 hz2 (by simp [Value.cells, sgC_length]) (by decide) v L.length (rgCells L) hs hown ⟨g, 0, none⟩ 1 c p.cs hx (by rw [Rg.cs_length])
    (by intro j u hj; have := hc j u hj; cases j <;> simpa [Addr.add] using this) (fun u hu => sgC_one _ _ _ _ u hu) (by unfold maxLen; omega) (by omega) b3 ?_
  intro v' w' r1 r2 r3 r4
  refine hK v' w' ?_ r2 r4
  show w'.ownsRow base 35 259 v' (L ++ [p]).length (rgCells (L ++ [p]))
  rw [List.length_append]
  have : rgCells (L ++ [p]) = rgCells L ++ p.cs := by simp [rgCells]
  rw [this]
  exact r1
theorem fill_rg (X : List Value) (h : X.length = 259) (z : Value) : Instr.fill (fun i => some (i * 259, 259)) ((Array.range (1 * 259)).map (z.cells[· % z.cells.size]!)) [(0, .agg X.toArray)] = some X.toArray := by
  have := Great.fill_whole (s := 259) (by decide) [.agg X.toArray] ((Array.range (1 * 259)).map (z.cells[· % z.cells.size]!)) (by intro v hv; simp at hv; subst hv; simp [Value.cells, h]) (by simp)
  simpa [Value.cells] using this

theorem sgnsR_eq (l : L8) (n a : Nat) : sgnsR l (n + 1) a = if a < l.length then (match sgnR l a with | none => none | some (x, b) => (sgnsR l n b).map (x :: ·)) else some [] := by rw [sgnsR] <;> rfl
/-- the rest of the signs, behind those that have come -/
def RestR (l : L8) (R : Option (List Rg)) (L : List Rg) (a : Nat) : Prop := R = (sgnsR l (l.length + 1) a).map (L ++ ·)
theorem restR_stop {l : L8} {R : Option (List Rg)} {L : List Rg} {a : Nat} (h : RestR l R L a) (ha : ¬ a < l.length) : R = some L := by
  unfold RestR at h; rw [sgnsR_eq, if_neg ha] at h; simpa using h
theorem restR_none {l : L8} {R : Option (List Rg)} {L : List Rg} {a : Nat} (h : RestR l R L a) (ha : a < l.length) (hs : sgnR l a = none) : R = none := by
  unfold RestR at h; rw [sgnsR_eq, if_pos ha, hs] at h; simpa using h
theorem restR_next {l : L8} {R : Option (List Rg)} {L : List Rg} {a b : Nat} {x : Rg} (h : RestR l R L a) (ha : a < l.length) (hs : sgnR l a = some (x, b)) : RestR l R (L ++ [x]) b := by
  have hb := sgnR_bd ha hs
  unfold RestR at h ⊢
  rw [sgnsR_eq, if_pos ha, hs] at h
  simp only at h
  rw [sgnsR_fuel l.length (l.length + 1) b (by omega) (by omega) (by omega)] at h
  rw [h]
  cases sgnsR l (l.length + 1) b <;> simp
theorem tw_in : ∀ (m : L8) (k : Nat), k < (m.takeWhile (· == 42)).length → k < m.length ∧ m.getD k 0 = 42 := by
  intro m
  induction m with
  | nil => intro k h; simp at h
  | cons c m ih =>
    intro k h
    rw [List.takeWhile_cons] at h
    by_cases hc : (c == 42) = true
    · rw [if_pos hc] at h
      cases k with
      | zero => exact ⟨by simp, by simpa using hc⟩
      | succ k =>
        have := ih k (by simpa using h)
        exact ⟨by simp; exact this.1, by simpa using this.2⟩
    · rw [if_neg hc] at h; simp at h
theorem stars_in {l : L8} {a j : Nat} (h1 : a ≤ j) (h2 : j < a + stars l a) : j < l.length ∧ nb l j = 42 := by
  have := tw_in (l.drop a) (j - a) (by unfold stars at h2; omega)
  rw [List.length_drop] at this
  refine ⟨by omega, ?_⟩
  have h3 := this.2
  rw [List.getD_eq_getElem?_getD, List.getElem?_drop, show a + (j - a) = j from by omega] at h3
  unfold nb
  rw [List.getD_eq_getElem?_getD, h3]
  rfl
theorem stars_more {l : L8} {a j : Nat} (h1 : a ≤ j) (h2 : j ≤ a + stars l a) (h3 : j < l.length) (h4 : nb l j = 42) : j < a + stars l a := by
  rcases Nat.lt_or_ge j (a + stars l a) with h | h
  · exact h
  · have e : j = a + stars l a := by omega
    subst e
    exact absurd h4 (stars_end h3)
theorem sgnR_91 {l : L8} {a : Nat} (h : nb l a = 91) : sgnR l a = match clsR l (l.length + 1) (if bang l a then a + 2 else a + 1) noneS 0 with | none => none | some (S, b) => some (⟨4, 0, bang l a, S⟩, b) := by unfold sgnR; rw [if_pos h] <;> rfl
theorem sgnR_63 {l : L8} {a : Nat} (h : nb l a = 63) : sgnR l a = some (⟨1, 63, false, noneS⟩, a + 1) := by unfold sgnR; rw [if_neg (by omega), if_pos h]
theorem sgnR_42 {l : L8} {a : Nat} (h : nb l a = 42) : sgnR l a = some (⟨if stars l a > 1 then 3 else 2, 42, false, noneS⟩, a + stars l a) := by unfold sgnR; rw [if_neg (by omega), if_neg (by omega), if_pos h]
theorem sgnR_own {l : L8} {a : Nat} (h1 : nb l a ≠ 91) (h2 : nb l a ≠ 63) (h3 : nb l a ≠ 42) : sgnR l a = match rbN l a with | none => none | some (c, b) => some (⟨0, c, false, noneS⟩, b) := by unfold sgnR; rw [if_neg h1, if_neg h2, if_neg h3] <;> rfl
theorem rbN_92 {l : L8} {a : Nat} (h0 : a < l.length) (h : nb l a = 92) : rbN l a = if a + 1 < l.length then some (nb l (a + 1), a + 1 + 1) else none := by
  have e : rbAt l a = a + 1 := if_pos ⟨h0, by rw [bt_nb, h]; rfl⟩
  unfold rbN; rw [e]
theorem rbN_other {l : L8} {a : Nat} (h0 : a < l.length) (h : nb l a ≠ 92) : rbN l a = some (nb l a, a + 1) := by
  have e : rbAt l a = a := if_neg (fun q => h (by have := q.2; rw [bt_nb] at this; omega))
  unfold rbN; rw [e, if_pos h0]
/-- what Signs answers -/
def RDR (l : L8) (base : Nat) (v : Value) (w : World) : Prop := match readR l with
  | none => v = .tuple #[.slice none 0 0, .bool false]
  | some L => ∃ a c, v = .tuple #[.slice a L.length c, .bool true] ∧ RgOwn w base (.slice a L.length c) L
end Go.Proofs.YtokocfoeohddfaaDoor.Pa
namespace Go.Proofs.YtokocfoeohddfaaDoor.Pa
open Go.RowKit
set_option linter.unusedVariables false
set_option linter.unusedSimpArgs false
set_option maxRecDepth 1000000

structure KI (w wx : World) (B : Bool) (S : Nat → Bool) : Prop where
  top : wx.heap[w.heap.size + 1]? = some (.cells (sgC 4 0 B S).toArray 35)
  res : wx.heap[w.heap.size]? = some (.cells (sgC 0 0 false noneS).toArray 35)
  bel : Below w.heap.size w wx
theorem ki_start (w : World) : KI w (((w.alloc (.cells (sgC 0 0 false noneS).toArray 35)).alloc (.cells (sgC 0 0 false noneS).toArray 35)).setCells (w.heap.size + 1) 0 (sgC 4 0 false noneS)) false noneS := by
  have h := heap_new (w.alloc (.cells (sgC 0 0 false noneS).toArray 35)) (.cells (sgC 0 0 false noneS).toArray 35)
  rw [World.size_alloc] at h
  refine ⟨stored_whole _ _ _ _ _ h (by simp [sgC_length]), ?_, ?_⟩
  · rw [heap_setCells _ _ (by omega), Below.heap_alloc _ _ _ (by simp)]; exact heap_new _ _
  · exact below_setCells _ _ _ _ _ _ (((Below.refl _ _).alloc (Nat.le_refl _) _).alloc (by simp) _) (by omega)
theorem KI.turn {w wx : World} (h : KI w wx false noneS) : KI w (wx.setCell ⟨w.heap.size + 1, 2, none⟩ (.bool true)) true noneS := by
  refine ⟨?_, ?_, h.bel.setCell (by show w.heap.size ≤ w.heap.size + 1; omega) _⟩
  · rw [row_set h.top 2, sgC_set2]
  · rw [← h.res]; simp [World.setCell, Array.getElem?_modify]
theorem KI.add {w wx : World} {B : Bool} {S : Nat → Bool} (h : KI w wx B S) (i : Nat) (hi : i < 256) : KI w (wx.setCell ⟨w.heap.size + 1, 3 + i, none⟩ (.bool true)) B (addS S i) := by
  refine ⟨?_, ?_, h.bel.setCell (by show w.heap.size ≤ w.heap.size + 1; omega) _⟩
  · rw [row_set h.top (3 + i), sgC_set _ _ _ _ _ hi]
  · rw [← h.res]; simp [World.setCell, Array.getElem?_modify]
theorem KI.same {w wx : World} {B : Bool} {S T : Nat → Bool} (h : KI w wx B S) (e : ∀ x, x < 256 → S x = T x) : KI w wx B T := by
  have : sgC 4 0 B S = sgC 4 0 B T := by
    unfold sgC; congr 1; apply List.map_congr_left; intro x hx; rw [e x (by simpa using hx)]
  exact ⟨by rw [h.top, this], h.res, h.bel⟩
theorem KI.ret {w wx : World} {B : Bool} {S : Nat → Bool} (h : KI w wx B S) : (wx.setCells w.heap.size 0 (sgC 4 0 B S)).heap[w.heap.size]? = some (.cells (sgC 4 0 B S).toArray 35) ∧ Below w.heap.size w (wx.setCells w.heap.size 0 (sgC 4 0 B S)) :=
  ⟨stored_whole _ _ _ _ _ h.res (by simp [sgC_length]), below_setCells _ _ _ _ _ _ h.bel (Nat.le_refl _)⟩
/-- what class answers -/
def RC (l : L8) (p : Nat) (v : Value) : Prop := match clsR l (l.length + 1) (if [33].isPrefixOf (l.drop p) then p + 1 else p) noneS 0 with
  | none => ∃ nt S z, v = .tuple #[.agg (sgC 4 0 nt S).toArray, .int .i64 z, .bool false]
  | some (S, b) => v = .tuple #[.agg (sgC 4 0 ([33].isPrefixOf (l.drop p)) S).toArray, .int .i64 (b : Int), .bool true]
theorem pre_bang (l : L8) (p : Nat) : [33].isPrefixOf (l.drop p) = true ↔ p < l.length ∧ nb l p = 33 := by
  by_cases h : p < l.length
  · obtain ⟨c, r, h1, h2, _⟩ := nb_cons h
    rw [h1, h2]
    simp [List.isPrefixOf, h]
    constructor
    · intro e; rw [← e]; rfl
    · intro e; exact (UInt8.toNat_inj.1 e).symm
  · rw [List.drop_eq_nil_of_le (by omega)]
    simp [List.isPrefixOf, h]
theorem clsR_eq (l : L8) (n a : Nat) (S : Nat → Bool) (k : Nat) : clsR l (n + 1) a S k = if a < l.length ∧ nb l a ≠ 93 then (match rmR l a with
      | none => none
      | some (f, g, b) => clsR l n b (spanS S f (g + 1)) (k + 1))
    else if a < l.length ∧ 0 < k then some (S, a + 1) else none := by rw [clsR] <;> rfl
/-- what the second member comes to -/
def okIf (ok : Bool) (f g d : Nat) : Option (Nat × Nat × Nat) := if ok = true ∧ f ≤ g then some (f, g, d) else none
theorem bt_ne {l : L8} {a n : Nat} (h : nb l a ≠ n) : (bt l a == (n : Int)) = false := by rw [bt_nb]; simpa using fun e => h (by omega)
set_option maxHeartbeats 16000000 in
theorem class_any (l : L8) (p : Nat) (w : World) (hp : p ≤ l.length) (hl : l.length ≤ 4611686018427387000) :
    Calls Tryd.prog 46 #[.string (mk l), .int .i64 (p : Int)] w fun e w' => ∃ v, e = .returned v ∧ RC l p v ∧ Below w.heap.size w w' := by
  have hs : (mk l).size = l.length := mk_size l
  have HS := Lib.hid hs
  obtain ⟨B, hB⟩ : ∃ B, B = [33].isPrefixOf (l.drop p) := ⟨_, rfl⟩
  obtain ⟨st, hst⟩ : ∃ st, st = (if B then p + 1 else p : Nat) := ⟨_, rfl⟩
  obtain ⟨R, hR⟩ : ∃ R, R = clsR l (l.length + 1) st noneS 0 := ⟨_, rfl⟩
  have HNO : Hid (R = none → ∀ S z, RC l p (.tuple #[.agg (sgC 4 0 B S).toArray, .int .i64 z, .bool false])) := by
    intro h S z
    unfold RC
    rw [← hB, ← hst, ← hR, h]
    exact ⟨_, _, _, rfl⟩
  have HYES : Hid (∀ S b, R = some (S, b) → RC l p (.tuple #[.agg (sgC 4 0 B S).toArray, .int .i64 (b : Int), .bool true])) := by
    intro S b h
    unfold RC
    rw [← hB, ← hst, ← hR, h]
  have HR0 : Hid (R = clsR l (l.length + 1) st noneS 0) := hR
  have HP : Hid (p ≤ l.length) := hp
  have HL : Hid (l.length ≤ 4611686018427387000) := hl
  have HST : Hid (st ≤ l.length) := by
    show _ ≤ _
    rw [hst]; split
    · next h => rw [hB] at h; have := (pre_bang l p).1 h; omega
    · omega
  have HBV : Hid (B = true ↔ p < l.length ∧ nb l p = 33) := by show _ ↔ _; rw [hB]; exact pre_bang l p
  have HSV : Hid (st = if B then p + 1 else p) := hst
  have hz := zero_rg
  have HK1 := Lib.hid (ki_start w)
  have HBF := Lib.hid built_four
  have hh := heap_new (w.alloc (.cells (sgC 0 0 false noneS).toArray 35)) (.cells (sgC 0 0 false noneS).toArray 35)
  rw [World.size_alloc] at hh
  have HTH0 : Hid (((w.alloc (.cells (sgC 0 0 false noneS).toArray 35)).alloc (.cells (sgC 0 0 false noneS).toArray 35)).there (w.heap.size + 1) 0 (sgC 4 0 false noneS).toArray.size) := there_block hh _ (by simp [sgC_length])
  have HSZ0 : Hid ((Tryd.prog.info? 35).map (·.size) = some (sgC 4 0 false noneS).toArray.size) := size_rga (sgC_length _ _ _ _)
  have HON0 : Hid ((sgC 4 0 false noneS).toArray.all (·.oneCell') = true) := all_oneCell_toArray (sgC_one _ _ _ _)
  obtain ⟨Z, hZ⟩ : ∃ Z, Z = sgC 0 0 false noneS := ⟨_, rfl⟩
  obtain ⟨F, hF⟩ : ∃ F, F = sgC 4 0 false noneS := ⟨_, rfl⟩
  rw [← hZ] at HK1 HTH0
  rw [← hZ] at hz
  rw [← hF] at HK1 HBF HTH0 HSZ0 HON0
  clear hp hl hB hst hR hs hh hZ hF
  go_enter Tryd.func46, Tryd.ntmps46
  go_upto_region 2 with (first
    | ((with_reducible show wpList _ _ _ (Oper.mk (some 14) _ _ _ _ _ :: _) _ _); go_must (refine wpList_buildTo rfl 35 #[(0, .const (.int .i64 4))] rfl (some 14) rfl F.toArray (by simpa [Act.eval] using HBF.out) ?_))
    | ((with_reducible show wpList _ _ _ (Oper.mk none (Op.store 35 _ _) _ _ _ _ :: _) _ _); go_must (refine wpList_store_mid rfl 35 (.tmp 7) (.tmp 14) rfl (w.heap.size + 1) 0 F.toArray rfl rfl HTH0.out HSZ0.out HON0.out ?_)))
  try simp only [Act.put, List.setIfInBounds_toArray, List.set_cons_zero, List.set_cons_succ]
  generalize (((w.alloc (.cells Z.toArray 35)).alloc (.cells Z.toArray 35)).setCells (w.heap.size + 1) 0 F) = w1 at HK1 ⊢
  clear hz HTH0 HSZ0 HON0 HBF
  go_cut [24] (fun v wx => v = .bool B ∧ w1 = wx)
  case first =>
    by_cases h1 : p < l.length
    · have hI1 : (p : Int) < ((mk l).size : Int) := by rw [HS.out]; omega
      have hI1' : ¬ ((mk l).size : Int) ≤ (p : Int) := by rw [HS.out]; omega
      have hx := run_at l p h1
      by_cases h2 : nb l p = 33
      · have hb : bt l p = 33 := by rw [bt_nb, h2]; rfl
        rw [hb] at hx
        have HE : Hid (B = true) := HBV.out.2 ⟨h1, h2⟩
        clear h1 h2 hb
        go_wp2
        go_meet
        exact ⟨by rw [HE.out], rfl⟩
      · have hq : (bt l p == 33) = false := bt_ne (n := 33) h2
        have HE : Hid (B = false) := by
          show B = false
          rw [Bool.eq_false_iff]; exact fun h => h2 (HBV.out.1 h).2
        generalize bt l p = c at *
        clear h1 h2
        go_wp2
        go_meet
        exact ⟨by rw [HE.out], rfl⟩
    · have hI1 : ¬ (p : Int) < ((mk l).size : Int) := by rw [HS.out]; omega
      have hI1' : ((mk l).size : Int) ≤ (p : Int) := by rw [HS.out]; omega
      have HE : Hid (B = false) := by
        show B = false
        rw [Bool.eq_false_iff]; exact fun h => h1 (HBV.out.1 h).1
      clear h1
      go_wp2
      go_meet
      exact ⟨by rw [HE.out], rfl⟩
  case rest =>
  obtain ⟨rfl, rfl⟩ := hcut
  go_upto_if 24 with (fail)
  go_cut [1] (fun a wx => a = .int .i64 (st : Int) ∧ Hid (KI w wx B noneS))
  case first =>
    have HPL := HP.out
    have HLL := HL.out
    have hw1 : IntKind.i64.wrap ((p : Int) + 1) = (p : Int) + 1 := IntWalk.i64_in _ (by omega)
    have hc2 : w1.cell? ⟨w.heap.size + 1, 2, none⟩ = some (.bool false) := by rw [cell_of_row _ _ 2 _ _ (0, 0) HK1.out.top]; rfl
    have hf2 : w1.frozen? ⟨w.heap.size + 1, 2, none⟩ = false := unfrozen HK1.out.top
    have HS2 := HSV.out
    cases hBB : B with
    | false =>
      have HE : Hid (st = p) := by show _ = _; rw [HS2, hBB]; rfl
      have HKE : Hid (KI w w1 false noneS) := HK1
      clear HPL HLL HS2
      go_wp2
      go_meet
      exact ⟨by rw [HE.out], by rw [hBB]; exact HKE⟩
    | true =>
      have HE : Hid (st = p + 1) := by show _ = _; rw [HS2, hBB]; rfl
      have HKE : Hid (KI w (w1.setCell ⟨w.heap.size + 1, 2, none⟩ (.bool true)) true noneS) := HK1.out.turn
      clear HPL HLL HS2
      go_wp2
      go_meet
      exact ⟨by rw [HE.out]; go_num, by rw [hBB]; exact HKE⟩
  case rest =>
  obtain ⟨rfl, HK0⟩ := hcut
  clear HK1
  go_wp2
  go_loopw [1, 8] (fun a c wr => ∃ (i k : Nat) (S : Nat → Bool), a = .int .i64 i ∧ c = .int .i64 k ∧ Hid (i ≤ l.length) ∧ Hid (k ≤ i) ∧ Hid (R = clsR l (l.length + 1) i S k) ∧ Hid (KI w wr B S)) (fun a _ _ => l.length - (intOf a).toNat)
  case atStart => exact ⟨st, 0, noneS, rfl, rfl, HST, Nat.zero_le _, HR0, HK0⟩
  case round =>
    clear HK0 HR0
    obtain ⟨i, k, S, rfl, rfl, HI, HKI, HRS, HK⟩ := hrel
    have hIL := HI.out
    have hLL := HL.out
    obtain ⟨X, hX⟩ : ∃ X, X = sgC 4 0 B S := ⟨_, rfl⟩
    have HRG : Hid (wr.rangeAt (w.heap.size + 1) 0 X) := by show World.rangeAt _ _ _ _; rw [hX]; exact range_block HK.out.top
    have HSZ : Hid ((Tryd.prog.info? 35).map (·.size) = some X.length) := by show _ = _; rw [hX]; exact size_rg (sgC_length _ _ _ _)
    have HSZ2 : Hid ((Tryd.prog.info? 35).map (·.size) = some X.toArray.size) := by show _ = _; rw [hX]; exact size_rga (sgC_length _ _ _ _)
    have HON : Hid (X.toArray.all (·.oneCell') = true) := by show _ = _; rw [hX]; exact all_oneCell_toArray (sgC_one _ _ _ _)
    have HTH : Hid (wr.there w.heap.size 0 X.toArray.size) := by show World.there _ _ _ _; rw [hX]; exact there_block HK.out.res _ (by simp [sgC_length])
    have HRT : Hid ((wr.setCells w.heap.size 0 X).heap[w.heap.size]? = some (.cells X.toArray 35) ∧ Below w.heap.size w (wr.setCells w.heap.size 0 X)) := by show _ ∧ _; rw [hX]; exact HK.out.ret
    have HNX : Hid (R = none → ∀ z, RC l p (.tuple #[.agg X.toArray, .int .i64 z, .bool false])) := by
      intro h z; rw [hX]; exact HNO.out h S z
    have HYX : Hid (∀ b, R = some (S, b) → RC l p (.tuple #[.agg X.toArray, .int .i64 (b : Int), .bool true])) := by
      intro b h; rw [hX]; exact HYES.out S b h
    clear hX
    by_cases hi : i < l.length
    · have hIi : (i : Int) < ((mk l).size : Int) := by rw [HS.out]; omega
      have hIi' : ¬ ((mk l).size : Int) ≤ (i : Int) := by rw [HS.out]; omega
      have hx := run_at l i hi
      have hw1 : IntKind.i64.wrap ((i : Int) + 1) = (i : Int) + 1 := IntWalk.i64_in _ (by omega)
      have HIT := Lib.hid hi
      by_cases h93 : nb l i = 93
      · have hb93 : bt l i = 93 := by rw [bt_nb, h93]; rfl
        rw [hb93] at hx
        by_cases hk : 0 < k
        · have hkI : (0 : Int) < (k : Int) := by omega
          have HRES : Hid (RC l p (.tuple #[.agg X.toArray, .int .i64 ((i : Int) + 1), .bool true])) := HYX.out (i + 1) (by rw [HRS.out, clsR_eq, if_neg (fun h => h.2 h93), if_pos ⟨hi, hk⟩])
          clear hIL hLL hi h93 hb93
          go_wp2_with (first
            | ((with_reducible show wpList _ _ _ (Oper.mk (some 97) _ _ _ _ _ :: _) _ _); go_must (refine wpList_load_mid rfl 35 (.tmp 7) rfl (w.heap.size + 1) 0 rfl X _ HRG.out Tryd.underlying35 rfl HSZ.out ?_))
            | ((with_reducible show wpList _ _ _ (Oper.mk none (Op.store 35 _ _) _ _ _ _ :: _) _ _); go_must (refine wpList_store_mid rfl 35 (.tmp 4) (.tmp 97) rfl w.heap.size 0 X.toArray rfl rfl HTH.out HSZ2.out HON.out ?_)))
          try simp only [Exit.inBlock, Exit.then]
          refine bodyPost_ret (v := .tuple #[.agg X.toArray, .int .i64 ((i : Int) + 1), .bool true]) (results_cell3_row (p := 4) (u := 5) (v := 6) rfl _ _ w.heap.size 35 X.toArray (0, 0) _ rfl HRT.out.1 Tryd.underlying35 rfl HSZ2.out) rfl ?_
          exact ⟨_, rfl, HRES.out, HRT.out.2⟩
        · have hk0 : k = 0 := by omega
          have HRES : Hid (RC l p (.tuple #[.agg X.toArray, .int .i64 ((i : Int) + 1), .bool false])) := HNX.out (by rw [HRS.out, clsR_eq, if_neg (fun h => h.2 h93), if_neg (fun h => hk h.2)]) _
          subst hk0
          clear hIL hLL hi h93 hb93 hk
          go_wp2_with (first
            | ((with_reducible show wpList _ _ _ (Oper.mk (some 97) _ _ _ _ _ :: _) _ _); go_must (refine wpList_load_mid rfl 35 (.tmp 7) rfl (w.heap.size + 1) 0 rfl X _ HRG.out Tryd.underlying35 rfl HSZ.out ?_))
            | ((with_reducible show wpList _ _ _ (Oper.mk none (Op.store 35 _ _) _ _ _ _ :: _) _ _); go_must (refine wpList_store_mid rfl 35 (.tmp 4) (.tmp 97) rfl w.heap.size 0 X.toArray rfl rfl HTH.out HSZ2.out HON.out ?_)))
          try simp only [Exit.inBlock, Exit.then]
          refine bodyPost_ret (v := .tuple #[.agg X.toArray, .int .i64 ((i : Int) + 1), .bool false]) (results_cell3_row (p := 4) (u := 5) (v := 6) rfl _ _ w.heap.size 35 X.toArray (0, 0) _ rfl HRT.out.1 Tryd.underlying35 rfl HSZ2.out) rfl ?_
          exact ⟨_, rfl, HRES.out, HRT.out.2⟩
      · have hq : (bt l i == 93) = false := bt_ne (n := 93) h93
        have HM := Lib.hid (rmember_any l i wr (by omega) (by omega))
        generalize bt l i = c at *
        have HRE : Hid (R = match rmR l i with | none => none | some (f, g, b) => clsR l l.length b (spanS S f (g + 1)) (k + 1)) := by show _ = _; rw [HRS.out, clsR_eq, if_pos ⟨hi, h93⟩]
        cases hrb : rbN l i with
        | none =>
          have HM0 := HM.out
          rw [rb_none hrb] at HM0
          have HM := Lib.hid HM0
          have HRES : Hid (∀ z, RC l p (.tuple #[.agg X.toArray, .int .i64 z, .bool false])) := HNX.out (by rw [HRE.out]; unfold rmR; rw [hrb])
          clear HM0 hIL hLL hi h93 hrb
          go_wp2_with (first
            | (go_at_call 70; refine HM.out.mono ?_; rintro e w' ⟨rfl, rfl⟩)
            | ((with_reducible show wpList _ _ _ (Oper.mk (some 47) _ _ _ _ _ :: _) _ _); go_must (refine wpList_load_mid rfl 35 (.tmp 7) rfl (w.heap.size + 1) 0 rfl X _ HRG.out Tryd.underlying35 rfl HSZ.out ?_))
            | ((with_reducible show wpList _ _ _ (Oper.mk none (Op.store 35 _ _) _ _ _ _ :: _) _ _); go_must (refine wpList_store_mid rfl 35 (.tmp 4) (.tmp 47) rfl w.heap.size 0 X.toArray rfl rfl HTH.out HSZ2.out HON.out ?_)))
          try simp only [Exit.inBlock, Exit.then]
          refine bodyPost_ret (v := .tuple #[.agg X.toArray, .int .i64 0, .bool false]) (results_cell3_row (p := 4) (u := 5) (v := 6) rfl _ _ w.heap.size 35 X.toArray (0, 0) _ rfl HRT.out.1 Tryd.underlying35 rfl HSZ2.out) rfl ?_
          exact ⟨_, rfl, HRES.out _, HRT.out.2⟩
        | some fb =>
          obtain ⟨f, b⟩ := fb
          obtain ⟨e1, hf, hib, hbl, -⟩ := rb_some hrb
          have HM0 := HM.out
          rw [e1] at HM0
          have HM := Lib.hid HM0
          have HRM : Hid (rmR l i = if b + 1 < l.length ∧ nb l b = 45 ∧ nb l (b + 1) ≠ 93 then (match rbN l (b + 1) with | none => none | some (g, d) => if f ≤ g then some (f, g, d) else none) else some (f, f, b)) := by show _ = _; unfold rmR; rw [hrb] <;> rfl
          have HFB : Hid (f < 256 ∧ i < b ∧ b ≤ l.length) := ⟨hf, hib, hbl⟩
          have hwb : IntKind.i64.wrap ((b : Int) + 1) = (b : Int) + 1 := IntWalk.i64_in _ (by omega)
          clear HM0 hIL hLL hi h93 hrb e1 hf hib hbl
          go_upto_region 11 with (go_at_call 70; refine HM.out.mono ?_; rintro e w' ⟨rfl, rfl⟩)
          obtain ⟨A, hA⟩ : ∃ A, A = decide (b + 1 < l.length ∧ nb l b = 45 ∧ nb l (b + 1) ≠ 93) := ⟨_, rfl⟩
          have HA := Lib.hid hA
          clear hA
          go_cut [66] (fun v wx => v = .bool A ∧ wr = wx)
          case first =>
            have hFB := HFB.out
            by_cases h1 : b + 1 < l.length
            · have hI1 : (b : Int) + 1 < ((mk l).size : Int) := by rw [HS.out]; omega
              have hI0 : (b : Int) < ((mk l).size : Int) := by rw [HS.out]; omega
              have hI2 : ¬ ((mk l).size : Int) ≤ (b : Int) + 1 := by rw [HS.out]; omega
              have hI3 : ¬ ((mk l).size : Int) ≤ (b : Int) := by rw [HS.out]; omega
              have hxb := run_at l b (by omega)
              have hxb1 := run_at l (b + 1) h1
              rw [show ((b + 1 : Nat) : Int) = (b : Int) + 1 from by omega] at hxb1
              by_cases h2 : nb l b = 45
              · have hb45 : bt l b = 45 := by rw [bt_nb, h2]; rfl
                rw [hb45] at hxb
                by_cases h3 : nb l (b + 1) = 93
                · have hb93 : bt l (b + 1) = 93 := by rw [bt_nb, h3]; rfl
                  rw [hb93] at hxb1
                  have HE : Hid (A = false) := by show _ = _; rw [HA.out]; exact decide_eq_false (fun h => h.2.2 h3)
                  clear h1 h2 h3 hb45 hb93 hFB
                  go_wp2
                  go_meet
                  exact ⟨by rw [HE.out], rfl⟩
                · have hq3 : (bt l (b + 1) == 93) = false := bt_ne (n := 93) h3
                  have HE : Hid (A = true) := by show _ = _; rw [HA.out]; exact decide_eq_true ⟨h1, h2, h3⟩
                  generalize bt l (b + 1) = c2 at *
                  clear h1 h2 h3 hb45 hFB
                  have HQ3 := Lib.hid hq3
                  go_wp2
                  go_meet
                  exact ⟨by rw [HE.out]; have := HQ3.out; simp [bne, this], rfl⟩
              · have hq2 : (bt l b == 45) = false := bt_ne (n := 45) h2
                have HE : Hid (A = false) := by show _ = _; rw [HA.out]; exact decide_eq_false (fun h => h2 h.2.1)
                generalize bt l b = c2 at *
                clear h1 h2 hFB hxb1
                go_wp2
                go_meet
                exact ⟨by rw [HE.out], rfl⟩
            · have hI1 : ¬ (b : Int) + 1 < ((mk l).size : Int) := by rw [HS.out]; omega
              have hI2 : ((mk l).size : Int) ≤ (b : Int) + 1 := by rw [HS.out]; omega
              have HE : Hid (A = false) := by show _ = _; rw [HA.out]; exact decide_eq_false (fun h => h1 h.1)
              clear h1 hFB
              go_wp2
              go_meet
              exact ⟨by rw [HE.out], rfl⟩
          case rest =>
          obtain ⟨rfl, rfl⟩ := hcut
          clear HM
          go_upto_if 66 with (fail)
          go_cut [10, 11, 12] (fun x y z wx => ∃ (g d : Nat) (ok : Bool), x = .int .i64 (d : Int) ∧ y = .bool ok ∧ z = .int .u8 (g : Int) ∧ wr = wx ∧ Hid (g < 256) ∧ Hid (rmR l i = okIf ok f g d))
          case first =>
            cases hAA : A with
            | false =>
              have HE : Hid (rmR l i = okIf true f f b) := by
                show _ = _
                unfold okIf
                rw [HRM.out, if_neg (of_decide_eq_false (by rw [← HA.out]; exact hAA)), if_pos ⟨rfl, Nat.le_refl _⟩]
              go_wp2
              go_meet
              exact ⟨f, b, true, rfl, rfl, rfl, rfl, HFB.out.1, HE⟩
            | true =>
              have hd := of_decide_eq_true (by rw [← HA.out]; exact hAA : decide (b + 1 < l.length ∧ nb l b = 45 ∧ nb l (b + 1) ≠ 93) = true)
              have hm := rmember_any l (b + 1) wr (by omega) (by have := HL.out; omega)
              rw [show ((b + 1 : Nat) : Int) = (b : Int) + 1 from by omega] at hm
              have HRM2 : Hid (rmR l i = match rbN l (b + 1) with | none => none | some (g, d) => if f ≤ g then some (f, g, d) else none) := by show _ = _; rw [HRM.out, if_pos hd]
              cases hy : rbN l (b + 1) with
              | none =>
                rw [rb_none hy] at hm
                have HM := Lib.hid hm
                have HE : Hid (rmR l i = okIf false f 0 0) := by
                  show _ = _
                  unfold okIf
                  rw [HRM2.out, hy, if_neg (by simp)]
                clear hd hm hy
                go_wp2_with (go_at_call 70; refine HM.out.mono ?_; rintro e w' ⟨rfl, rfl⟩)
                go_meet
                exact ⟨0, 0, false, rfl, rfl, rfl, rfl, by show 0 < 256; omega, HE⟩
              | some y =>
                obtain ⟨g, d⟩ := y
                obtain ⟨k1, k2, k3, k4, k5⟩ := rb_some hy
                rw [k1] at hm
                have HM := Lib.hid hm
                have HE : Hid (rmR l i = okIf true f g d) := by
                  show _ = _
                  unfold okIf
                  rw [HRM2.out, hy]
                  by_cases h : f ≤ g
                  · rw [if_pos ⟨rfl, h⟩]; exact if_pos h
                  · rw [if_neg (fun q => h q.2)]; exact if_neg h
                have HG : Hid (g < 256) := k2
                clear hd hm hy k1 k2 k3 k4 k5
                go_wp2_with (go_at_call 70; refine HM.out.mono ?_; rintro e w' ⟨rfl, rfl⟩)
                go_meet
                exact ⟨g, d, true, rfl, rfl, rfl, rfl, HG, HE⟩
          case rest =>
          obtain ⟨g, d, ok, rfl, rfl, rfl, rfl, HG, HRQ⟩ := hcut
          clear HRM
          by_cases hok : ok = true ∧ f ≤ g
          · obtain ⟨hok1, hfg⟩ := hok
            subst hok1
            have HRR : Hid (rmR l i = some (f, g, d)) := by show _ = _; rw [HRQ.out]; exact if_pos ⟨rfl, hfg⟩
            have HBD := Lib.hid (rmR_bd HRR.out)
            have hnlt : ¬ (g : Int) < (f : Int) := by omega
            have HFG := Lib.hid hfg
            have HSP : Hid (KI w wr B (spanS S f f)) := HK.out.same fun x hx => by
              unfold spanS
              have : (decide (f ≤ x) && decide (x < f)) = false := by rw [Bool.eq_false_iff]; simp
              rw [this, Bool.or_false]
            have hcf : IntKind.i64.wrap (f : Int) = (f : Int) := IntWalk.i64_in _ (by have := HFB.out; omega)
            have hcg : IntKind.i64.wrap (g : Int) = (g : Int) := IntWalk.i64_in _ (by have := HG.out; omega)
            have hwk : IntKind.i64.wrap ((k : Int) + 1) = (k : Int) + 1 := IntWalk.i64_in _ (by have := HKI.out; have := HI.out; have := HL.out; omega)
            clear HK HRG HSZ HSZ2 HON HTH HRT HNX HYX HRQ hfg
            go_wp2
            go_loopw [13] (fun v wx => ∃ j : Nat, v = .int .i64 j ∧ Hid (f ≤ j) ∧ Hid (j ≤ g + 1) ∧ Hid (KI w wx B (spanS S f j))) (fun v _ => 256 - (intOf v).toNat)
            case atStart => exact ⟨f, rfl, Nat.le_refl f, by show _ ≤ _; have := HFG.out; omega, HSP⟩
            case round =>
              clear HSP
              obtain ⟨j, rfl, HJ1, HJ2, HK⟩ := hrel
              have hg := HG.out
              have hj2 := HJ2.out
              by_cases hjg : j ≤ g
              · have hI : (j : Int) ≤ (g : Int) := by omega
                have hw : IntKind.i64.wrap ((j : Int) + 1) = (j : Int) + 1 := IntWalk.i64_in _ (by omega)
                have hj0 : (0 : Int) ≤ (j : Int) := by omega
                have hj256 : (j : Int) < 256 := by omega
                have hc := cell_of_row wr (w.heap.size + 1) (3 + j) _ _ (0, 0) HK.out.top
                rw [sgC_get _ _ _ _ _ (by omega)] at hc
                have hf : wr.frozen? ⟨w.heap.size + 1, 3 + j, none⟩ = false := unfrozen HK.out.top
                have HKN : Hid (KI w (wr.setCell ⟨w.heap.size + 1, 3 + j, none⟩ (.bool true)) B (spanS S f (j + 1))) := (HK.out.add j (by omega)).same fun x hx => by
                  have := HJ1.out
                  unfold addS spanS
                  rw [Bool.eq_iff_iff]
                  cases S x
                  · simp; omega
                  · simp
                have HJG := Lib.hid hjg
                clear hg hj2 hjg
                go_wp2
                go_roundw
                case rel => exact ⟨j + 1, by go_num, by show _ ≤ _; have := HJ1.out; omega, by show _ ≤ _; have := HJG.out; omega, HKN⟩
                case measure => have := HJG.out; have := HG.out; simp [intOf]; omega
              · have hI : ¬ (j : Int) ≤ (g : Int) := by omega
                have HKF : Hid (KI w wr B (spanS S f (g + 1))) := by
                  have : j = g + 1 := by omega
                  rw [this] at HK; exact HK
                clear hg hj2 hjg
                go_wp2
                go_roundw
                case rel => exact ⟨d, k + 1, spanS S f (g + 1), rfl, by go_num, by show _ ≤ _; have := HBD.out; omega, by show _ ≤ _; have := HBD.out; have := HKI.out; omega, by
                    show _ = _
                    rw [HRE.out, HRR.out]
                    have := HBD.out
                    exact clsR_fuel _ _ _ _ _ (by omega) (by omega), HKF⟩
                case measure => have := HBD.out; have := HIT.out; simp [intOf]; omega
          · have HRES : Hid (∀ z, RC l p (.tuple #[.agg X.toArray, .int .i64 z, .bool false])) := HNX.out (by rw [HRE.out, HRQ.out, show okIf ok f g d = none from if_neg hok])
            have HGF : Hid (ok = true → g < f) := fun h => by by_cases hq : f ≤ g; exact absurd ⟨h, hq⟩ hok; omega
            clear hok HRQ
            cases ok with
            | false =>
              go_wp2_with (first
                | ((with_reducible show wpList _ _ _ (Oper.mk (some 82) _ _ _ _ _ :: _) _ _); go_must (refine wpList_load_mid rfl 35 (.tmp 7) rfl (w.heap.size + 1) 0 rfl X _ HRG.out Tryd.underlying35 rfl HSZ.out ?_))
                | ((with_reducible show wpList _ _ _ (Oper.mk none (Op.store 35 _ _) _ _ _ _ :: _) _ _); go_must (refine wpList_store_mid rfl 35 (.tmp 4) (.tmp 82) rfl w.heap.size 0 X.toArray rfl rfl HTH.out HSZ2.out HON.out ?_)))
              try simp only [Exit.inBlock, Exit.then]
              refine bodyPost_ret (v := .tuple #[.agg X.toArray, .int .i64 0, .bool false]) (results_cell3_row (p := 4) (u := 5) (v := 6) rfl _ _ w.heap.size 35 X.toArray (0, 0) _ rfl HRT.out.1 Tryd.underlying35 rfl HSZ2.out) rfl ?_
              exact ⟨_, rfl, HRES.out _, HRT.out.2⟩
            | true =>
              have hlt : (g : Int) < (f : Int) := by have := HGF.out rfl; omega
              go_wp2_with (first
                | ((with_reducible show wpList _ _ _ (Oper.mk (some 82) _ _ _ _ _ :: _) _ _); go_must (refine wpList_load_mid rfl 35 (.tmp 7) rfl (w.heap.size + 1) 0 rfl X _ HRG.out Tryd.underlying35 rfl HSZ.out ?_))
                | ((with_reducible show wpList _ _ _ (Oper.mk none (Op.store 35 _ _) _ _ _ _ :: _) _ _); go_must (refine wpList_store_mid rfl 35 (.tmp 4) (.tmp 82) rfl w.heap.size 0 X.toArray rfl rfl HTH.out HSZ2.out HON.out ?_)))
              try simp only [Exit.inBlock, Exit.then]
              refine bodyPost_ret (v := .tuple #[.agg X.toArray, .int .i64 0, .bool false]) (results_cell3_row (p := 4) (u := 5) (v := 6) rfl _ _ w.heap.size 35 X.toArray (0, 0) _ rfl HRT.out.1 Tryd.underlying35 rfl HSZ2.out) rfl ?_
              exact ⟨_, rfl, HRES.out _, HRT.out.2⟩
    · have hIi : ¬ (i : Int) < ((mk l).size : Int) := by rw [HS.out]; omega
      have hIi' : ((mk l).size : Int) ≤ (i : Int) := by rw [HS.out]; omega
      have hw1 : IntKind.i64.wrap ((i : Int) + 1) = (i : Int) + 1 := IntWalk.i64_in _ (by omega)
      have HRES : Hid (RC l p (.tuple #[.agg X.toArray, .int .i64 ((i : Int) + 1), .bool false])) := HNX.out (by rw [HRS.out, clsR_eq, if_neg (fun h => hi h.1), if_neg (fun h => hi h.1)]) _
      clear hIL hLL hi
      go_wp2_with (first
        | ((with_reducible show wpList _ _ _ (Oper.mk (some 97) _ _ _ _ _ :: _) _ _); go_must (refine wpList_load_mid rfl 35 (.tmp 7) rfl (w.heap.size + 1) 0 rfl X _ HRG.out Tryd.underlying35 rfl HSZ.out ?_))
        | ((with_reducible show wpList _ _ _ (Oper.mk none (Op.store 35 _ _) _ _ _ _ :: _) _ _); go_must (refine wpList_store_mid rfl 35 (.tmp 4) (.tmp 97) rfl w.heap.size 0 X.toArray rfl rfl HTH.out HSZ2.out HON.out ?_)))
      try simp only [Exit.inBlock, Exit.then]
      refine bodyPost_ret (v := .tuple #[.agg X.toArray, .int .i64 ((i : Int) + 1), .bool false]) (results_cell3_row (p := 4) (u := 5) (v := 6) rfl _ _ w.heap.size 35 X.toArray (0, 0) _ rfl HRT.out.1 Tryd.underlying35 rfl HSZ2.out) rfl ?_
      exact ⟨_, rfl, HRES.out, HRT.out.2⟩
end Go.Proofs.YtokocfoeohddfaaDoor.Pa
namespace Go.Proofs.YtokocfoeohddfaaDoor.Pa
open Go.RowKit
set_option linter.unusedVariables false
set_option linter.unusedSimpArgs false
set_option maxRecDepth 1000000

theorem rg_keep {w wx wy : World} {v : Value} {L : List Rg} {g : Nat} (h : RgOwn wx w.heap.size v L) (hg : g = wx.heap.size) (hb : Below wx.heap.size wx wy) : RgOwn wy w.heap.size v L := h.later hb
set_option maxHeartbeats 16000000 in
theorem rsigns_any (l : L8) (w : World) (hl : l.length ≤ 100) :
    Calls Tryd.prog 21 #[.string (mk l)] w fun e w' => ∃ v, e = .returned v ∧ RDR l w.heap.size v w' ∧ Below w.heap.size w w' := by
  have hs : (mk l).size = l.length := mk_size l
  have HS := Lib.hid hs
  have HL : Hid (l.length ≤ 100) := hl
  obtain ⟨R, hR⟩ : ∃ R, R = readR l := ⟨_, rfl⟩
  have HRD : Hid (∀ v w', (match R with | none => v = .tuple #[.slice none 0 0, .bool false] | some L => ∃ a c, v = .tuple #[.slice a L.length c, .bool true] ∧ RgOwn w' w.heap.size (.slice a L.length c) L) → RDR l w.heap.size v w') := by
    intro v w' h
    unfold RDR
    rw [← hR]
    exact h
  have HR0 : Hid (RestR l R [] 0) := by
    show RestR _ _ _ _
    unfold RestR
    rw [hR]
    unfold readR
    cases sgnsR l (l.length + 1) 0 <;> simp
  obtain ⟨i0, hi0, hz0, hz1, hzz⟩ := info_parts Tryd.infoRg
  have HI0 := Lib.hid hi0
  have HZ0 := Lib.hid hz0
  have HZ1 := Lib.hid hz1
  have hz := zero_rg
  obtain ⟨Z, hZ⟩ : ∃ Z, Z = sgC 0 0 false noneS := ⟨_, rfl⟩
  have HZL : Hid (Z.length = 259) := by show _ = _; rw [hZ]; exact sgC_length _ _ _ _
  rw [← hZ] at hz HZ0
  clear hs hl hR hi0 hz0 hz1 hzz hZ
  go_enter Tryd.func21, Tryd.ntmps21
  go_wp2
  go_loopw [4, 5] (fun v i wr => ∃ (a : Nat) (L : List Rg), i = .int .i64 a ∧ (∃ aa cc, v = .slice aa L.length cc) ∧ Hid (a ≤ l.length) ∧ Hid (L.length ≤ a) ∧ Hid (RestR l R L a) ∧ Hid (RgOwn wr w.heap.size v L) ∧ Hid (Below w.heap.size w wr)) (fun _ i _ => l.length - (intOf i).toNat)
  case atStart => exact ⟨0, [], rfl, ⟨none, 0, rfl⟩, Nat.zero_le _, Nat.zero_le _, HR0, RgOwn.none _ _, Below.refl _ _⟩
  case round =>
    clear HR0
    obtain ⟨a, L, rfl, ⟨a4, c4, rfl⟩, HA, HLA, HRS, HO, HB⟩ := hrel
    have hA := HA.out
    have hLL := HL.out
    by_cases ha : a < l.length
    · have hIa : (a : Int) < ((mk l).size : Int) := by rw [HS.out]; omega
      have hx := run_at l a ha
      have hw1 : IntKind.i64.wrap ((a : Int) + 1) = (a : Int) + 1 := IntWalk.i64_in _ (by omega)
      rw [bt_nb] at hx
      obtain ⟨n, hn⟩ : ∃ n, n = nb l a := ⟨_, rfl⟩
      rw [← hn] at hx
      have HN := Lib.hid hn
      obtain ⟨F, hF⟩ : ∃ F, F = sgC 0 (n : Int) false noneS := ⟨_, rfl⟩
      have HF := Lib.hid hF
      have HBF : Hid (Tryd.prog.built 35 [(1, .int .u8 (n : Int))] = some F.toArray) := by show _ = _; rw [hF]; exact built_byte _
      have HFL : Hid (F.length = 259) := by show _ = _; rw [hF]; exact sgC_length _ _ _ _
      have HFS : Hid ((Tryd.prog.info? 35).map (·.size) = some F.toArray.size) := size_rga HFL.out
      have HFO : Hid (F.toArray.all (·.oneCell') = true) := by show _ = _; rw [hF]; exact all_oneCell_toArray (sgC_one _ _ _ _)
      have hh := heap_new wr (.cells Z.toArray 35)
      have HFT : Hid ((wr.alloc (.cells Z.toArray 35)).there wr.heap.size 0 F.toArray.size) := there_block hh _ (by rw [List.size_toArray, List.size_toArray, HFL.out, HZL.out]; exact Nat.le_refl _)
      have HX0 : Hid (((wr.alloc (.cells Z.toArray 35)).setCells wr.heap.size 0 F).heap[wr.heap.size]? = some (.cells F.toArray 35)) := stored_whole _ _ _ _ _ hh (by rw [List.size_toArray, HFL.out, HZL.out])
      have HBB : Hid (Below wr.heap.size wr ((wr.alloc (.cells Z.toArray 35)).setCells wr.heap.size 0 F)) := below_setCells _ _ _ _ _ _ ((Below.refl _ _).alloc (Nat.le_refl _) _) (Nat.le_refl _)
      have HSW : Hid (w.heap.size ≤ wr.heap.size ∧ wr.heap.size < ((wr.alloc (.cells Z.toArray 35)).setCells wr.heap.size 0 F).heap.size) := ⟨HB.out.size, by rw [size_setCells]; simp⟩
      have HIL := Lib.hid ha
      clear hn hF hh hA hLL
      go_upto_region 6 with (first
        | ((with_reducible show wpList _ _ _ (Oper.mk (some 19) _ _ _ _ _ :: _) _ _); go_must (refine wpList_buildTo rfl 35 #[(1, .tmp 18)] rfl (some 19) rfl F.toArray (by simpa [Act.eval] using HBF.out) ?_))
        | ((with_reducible show wpList _ _ _ (Oper.mk none (Op.store 35 _ _) _ _ _ _ :: _) _ _); go_must (refine wpList_store_mid rfl 35 (.tmp 7) (.tmp 19) rfl wr.heap.size 0 F.toArray rfl rfl HFT.out HFS.out HFO.out ?_)))
      try simp only [Act.put, List.setIfInBounds_toArray, List.set_cons_zero, List.set_cons_succ]
      generalize ((wr.alloc (.cells Z.toArray 35)).setCells wr.heap.size 0 F) = wB at HX0 HBB HSW ⊢
      obtain ⟨gS, hgS⟩ : ∃ gS, gS = wr.heap.size := ⟨_, rfl⟩
      rw [← hgS] at HX0 HSW ⊢
      have HG := Lib.hid hgS
      have HO2 : Hid (RgOwn wB w.heap.size (.slice a4 L.length c4) L) := HO.out.later HBB.out
      have HB2 : Hid (Below w.heap.size w wB) := HB.out.trans (HBB.out.mono HB.out.size)
      rw [HF.out] at HX0
      clear hgS HBF HFL HFS HFO HFT
      by_cases h91 : n = 91
      · have p91 : ((n : Int) == 91) = true := by simp [h91]
        have q92 : ((n : Int) == 92) = false := by simp [h91]
        have q63 : ((n : Int) == 63) = false := by simp [h91]
        have q42 : ((n : Int) == 42) = false := by simp [h91]
        have hLL := HL.out
        have hIL := HIL.out
        have HSG : Hid (sgnR l a = match clsR l (l.length + 1) (if bang l a then a + 2 else a + 1) noneS 0 with | none => none | some (S, b) => some (⟨4, 0, bang l a, S⟩, b)) := sgnR_91 (by rw [← HN.out]; exact h91)
        have hcl := class_any l (a + 1) wB (by omega) (by omega)
        rw [show ((a + 1 : Nat) : Int) = (a : Int) + 1 from by omega] at hcl
        have HCL := Lib.hid hcl
        have HRC : Hid (RC l (a + 1) = fun v => match clsR l (l.length + 1) (if bang l a then a + 2 else a + 1) noneS 0 with
          | none => ∃ nt S z, v = .tuple #[.agg (sgC 4 0 nt S).toArray, .int .i64 z, .bool false]
          | some (S, b) => v = .tuple #[.agg (sgC 4 0 (bang l a) S).toArray, .int .i64 (b : Int), .bool true]) := rfl
        have HOB : Hid (∀ W, Below gS wB W → RgOwn W w.heap.size (.slice a4 L.length c4) L) := fun W hW => HO.out.later (HBB.out.trans (hW.mono (Nat.le_of_eq HG.out.symm)))
        have HWR : Hid (w.heap.size ≤ gS ∧ gS < wB.heap.size) := HSW.out
        have HLX : Hid (∀ k c nt S, ((Tryd.prog.info? 35).map (·.size) = some (sgC k c nt S).toArray.size) ∧ (sgC k c nt S).toArray.all (·.oneCell') = true) := fun k c nt S => ⟨size_rga (sgC_length _ _ _ _), all_oneCell_toArray (sgC_one _ _ _ _)⟩
        have HTX : Hid (∀ (W : World) k c nt S, (W.alloc (.cells Z.toArray 35)).there W.heap.size 0 (sgC k c nt S).toArray.size) := fun W k c nt S => there_block (heap_new _ _) _ (by rw [List.size_toArray, List.size_toArray, HZL.out, sgC_length]; exact Nat.le_refl _)
        clear h91 hLL hIL hcl
        cases hcs : clsR l (l.length + 1) (if bang l a then a + 2 else a + 1) noneS 0 with
        | none =>
          have HRN : Hid (R = none) := restR_none HRS.out HIL.out (by rw [HSG.out, hcs])
          have HF4 : Hid (∀ v, RC l (a + 1) v → ∃ nt S z, v = .tuple #[.agg (sgC 4 0 nt S).toArray, .int .i64 z, .bool false]) := by
            intro v hv; rw [HRC.out] at hv; simp only [hcs] at hv; exact hv
          clear hcs
          go_wp2_with (first
            | (go_at_call 46; refine HCL.out.mono ?_; rintro e w2 ⟨v, rfl, hv, hb⟩; obtain ⟨nt, S, z, e⟩ := HF4.out v hv; subst e; have HBC := Lib.hid hb; obtain ⟨X4, hX4⟩ : ∃ X, X = sgC 4 0 nt S := ⟨_, rfl⟩; have HLX4 := Lib.hid (HLX.out 4 0 nt S); have HTX4 := Lib.hid (HTX.out w2 4 0 nt S); rw [← hX4] at HLX4 HTX4 ⊢; clear hv hb hX4)
            | ((with_reducible show wpList _ _ _ (Oper.mk none (Op.store 35 _ _) _ _ _ _ :: _) _ _); go_must (refine wpList_store_mid rfl 35 (.tmp 8) (.tmp 59) rfl w2.heap.size 0 X4.toArray rfl rfl HTX4.out HLX4.out.1 HLX4.out.2 ?_)))
          go_ret2
          exact ⟨_, rfl, HRD.out _ _ (by rw [HRN.out]; rfl), by
            have h1 : Below wB.heap.size wB ((w2.alloc (.cells Z.toArray 35)).setCells w2.heap.size 0 X4) := below_setCells _ _ _ _ _ _ (HBC.out.alloc HBC.out.size _) HBC.out.size
            simpa using HB2.out.trans (h1.mono HB2.out.size)⟩
        | some y =>
          obtain ⟨S, b⟩ := y
          have HSN : Hid (sgnR l a = some (⟨4, 0, bang l a, S⟩, b)) := by show _ = _; rw [HSG.out, hcs]
          have HBD := Lib.hid (sgnR_bd HIL.out HSN.out)
          have HF4 : Hid (∀ v, RC l (a + 1) v → v = .tuple #[.agg (sgC 4 0 (bang l a) S).toArray, .int .i64 (b : Int), .bool true]) := by
            intro v hv; rw [HRC.out] at hv; simp only [hcs] at hv; exact hv
          clear hcs
          obtain ⟨X4, hX4⟩ : ∃ X, X = sgC 4 0 (bang l a) S := ⟨_, rfl⟩
          have HLX4 := Lib.hid (HLX.out 4 0 (bang l a) S)
          have HTX4 : Hid (∀ W : World, (W.alloc (.cells Z.toArray 35)).there W.heap.size 0 X4.toArray.size) := by intro W; rw [hX4]; exact HTX.out W 4 0 _ S
          have HX4L : Hid (X4.length = 259) := by show _ = _; rw [hX4]; exact sgC_length _ _ _ _
          have HX4S : Hid ((Tryd.prog.info? 35).map (·.size) = some X4.length) := size_rg HX4L.out
          have HX4E := Lib.hid hX4
          rw [← hX4] at HLX4 HF4
          have HCC : Hid (∀ w2, Below wB.heap.size wB w2 → ((w2.alloc (.cells Z.toArray 35)).setCells w2.heap.size 0 X4).rangeAt w2.heap.size 0 X4 ∧ ((w2.alloc (.cells Z.toArray 35)).setCells w2.heap.size 0 X4).there gS 0 X4.toArray.size ∧ Below gS wB (((w2.alloc (.cells Z.toArray 35)).setCells w2.heap.size 0 X4).setCells gS 0 X4) ∧ (((w2.alloc (.cells Z.toArray 35)).setCells w2.heap.size 0 X4).setCells gS 0 X4).heap[gS]? = some (.cells X4.toArray 35)) := by
            intro w2 hb
            have hg := HWR.out
            have hne : gS ≠ w2.heap.size := by have := hb.size; omega
            have h1 : ((w2.alloc (.cells Z.toArray 35)).setCells w2.heap.size 0 X4).heap[gS]? = some (.cells (sgC 0 (n : Int) false noneS).toArray 35) := by
              rw [heap_setCells _ _ hne, Below.heap_alloc _ _ _ (by have := hb.size; omega), hb.block _ (by omega)]; exact HX0.out
            refine ⟨range_block (stored_whole _ _ _ _ _ (heap_new _ _) (by rw [List.size_toArray, HZL.out, HX4L.out])), there_block h1 _ (by rw [List.size_toArray, List.size_toArray, HX4L.out, sgC_length]; exact Nat.le_refl _), ?_, stored_whole _ _ _ _ _ h1 (by rw [List.size_toArray, HX4L.out, sgC_length])⟩
            have h2 : Below gS wB (w2.alloc (.cells Z.toArray 35)) := (hb.mono (by omega)).alloc (by have := hb.size; omega) _
            exact below_setCells _ _ _ _ _ _ (below_setCells _ _ _ _ _ _ h2 (by have := hb.size; omega)) (Nat.le_refl _)
          clear hX4
          go_upto_region 25 with (first
            | (go_at_call 46; refine HCL.out.mono ?_; rintro e w2 ⟨v, rfl, hv, hb⟩; have e := HF4.out v hv; subst e; have HC2 := Lib.hid (HCC.out w2 hb); have HTW := Lib.hid (HTX4.out w2); clear hv hb)
            | ((with_reducible show wpList _ _ _ (Oper.mk none (Op.store 35 (.tmp 8) _) _ _ _ _ :: _) _ _); go_must (refine wpList_store_mid rfl 35 (.tmp 8) (.tmp 59) rfl w2.heap.size 0 X4.toArray rfl rfl HTW.out HLX4.out.1 HLX4.out.2 ?_))
            | ((with_reducible show wpList _ _ _ (Oper.mk (some 64) _ _ _ _ _ :: _) _ _); go_must (refine wpList_load_mid rfl 35 (.tmp 8) rfl w2.heap.size 0 rfl X4 _ HC2.out.1 Tryd.underlying35 rfl HX4S.out ?_))
            | ((with_reducible show wpList _ _ _ (Oper.mk none (Op.store 35 (.tmp 7) _) _ _ _ _ :: _) _ _); go_must (refine wpList_store_mid rfl 35 (.tmp 7) (.tmp 64) rfl gS 0 X4.toArray rfl rfl HC2.out.2.1 HLX4.out.1 HLX4.out.2 ?_)))
          try simp only [Act.put, List.setIfInBounds_toArray, List.set_cons_zero, List.set_cons_succ]
          have HC3 : Hid (Below gS wB (((w2.alloc (.cells Z.toArray 35)).setCells w2.heap.size 0 X4).setCells gS 0 X4) ∧ (((w2.alloc (.cells Z.toArray 35)).setCells w2.heap.size 0 X4).setCells gS 0 X4).heap[gS]? = some (.cells X4.toArray 35)) := HC2.out.2.2
          clear HC2 HTW
          generalize (((w2.alloc (.cells Z.toArray 35)).setCells w2.heap.size 0 X4).setCells gS 0 X4) = wE at HC3 ⊢
          obtain ⟨x, hxx⟩ : ∃ x, x = (⟨4, 0, bang l a, S⟩ : Rg) := ⟨_, rfl⟩
          have HXB : Hid ((wE).heap[gS]? = some (.cells x.cs.toArray 35)) := by show _ = _; rw [hxx]; exact (by rw [HC3.out.2, HX4E.out]; rfl)
          have HB3 : Hid (Below w.heap.size w (wE)) := HB2.out.trans (HC3.out.1.mono HWR.out.1)
          have HO3 : Hid (RgOwn (wE) w.heap.size (.slice a4 L.length c4) L) := HOB.out _ HC3.out.1
          have HNX : Hid (RestR l R (L ++ [x]) (b)) := by show RestR _ _ _ _; rw [hxx]; exact restR_next HRS.out HIL.out HSN.out
          clear hxx
          obtain ⟨X, hX⟩ : ∃ X, X = x.cs := ⟨_, rfl⟩
          have HXL : Hid (X.length = 259) := by show _ = _; rw [hX]; exact Rg.cs_length _
          have HXS : Hid ((Tryd.prog.info? 35).map (·.size) = some X.length) := size_rg HXL.out
          rw [← hX] at HXB
          have HRG : Hid ((wE).rangeAt gS 0 X) := range_block HXB.out
          have HFI : Hid (Instr.fill (fun i => some (i * i0.size, i0.size)) ((Array.range (1 * i0.size)).map ((Value.agg Z.toArray).cells[· % (Value.agg Z.toArray).cells.size]!)) [(0, .agg X.toArray)] = some X.toArray) := by show _ = _; rw [HZ1.out]; exact fill_rg X HXL.out _
          have HSM : Hid ((¬ 1 * i0.size > 2 ^ 24) ∧ ¬ 1 * i0.size = 0) := by show _ ∧ _; rw [HZ1.out]; omega
          have hbA : Below (wE).heap.size (wE) ((wE).alloc (.cells X.toArray 35)) := (Below.refl _ _).alloc (Nat.le_refl _) _
          have HO4 : Hid (RgOwn ((wE).alloc (.cells X.toArray 35)) w.heap.size (.slice a4 L.length c4) L) := HO3.out.later hbA
          have HB4 : Hid (Below w.heap.size w ((wE).alloc (.cells X.toArray 35))) := HB3.out.trans (hbA.mono HB3.out.size)
          have HC4 : Hid (∀ j u, x.cs[j]? = some u → ((wE).alloc (.cells X.toArray 35)).cell? ⟨(wE).heap.size, j, none⟩ = some u) := by
            intro j u hj
            rw [cell_of_row _ _ j _ _ (0, 0) (heap_new _ _), List.getElem?_toArray, hX]; exact hj
          have HLN : Hid (L.length ≤ 100000) := (by show _ ≤ _; have := HLA.out; have := HA.out; have := HL.out; omega)
          clear hbA hX
          go_wp2_with (first
            | ((with_reducible show wpList _ _ _ (Oper.mk (some 67) _ _ _ _ _ :: _) _ _); go_must (refine wpList_load_mid rfl 35 (.tmp 7) rfl gS 0 rfl X _ HRG.out Tryd.underlying35 rfl HXS.out ?_))
            | ((with_reducible show wpList _ _ _ (Oper.mk (some 68) _ _ _ _ _ :: _) _ _); go_must (refine wpList_buildSlice rfl 30 35 1 #[(0, .tmp 67)] rfl X.toArray i0 (.agg Z.toArray) Tryd.underlying30 HI0.out HZ0.out HSM.out.1 HSM.out.2 (by simp only [List.map_toArray, List.map_cons, List.map_nil]; exact HFI.out) ?_))
            | (at_builtin; go_must (refine append_rg rfl (.tmp 66) (.tmp 68) rfl w.heap.size (.slice a4 L.length c4) L x rfl HO4.out _ 1 rfl HC4.out HLN.out HB4.out.size ?_); intro v5 w5 hO5 hG5 hV5
               have HO5 := Lib.hid hO5; have HB5 := Lib.hid (HB4.out.grown hG5 HB4.out.size (fun k hk => (HO4.out.lt k hk).1)); clear hG5 hV5 hO5))
          obtain ⟨a5, c5, rfl⟩ : ∃ aa cc, v5 = .slice aa (L ++ [x]).length cc := HO5.out.slice
          go_roundw
          case rel => exact ⟨b, L ++ [x], by go_num, ⟨_, _, rfl⟩, by show _ ≤ _; have := HBD.out; omega, by show _ ≤ _; have := HLA.out; have := HBD.out; simp; omega, HNX, HO5, HB5⟩
          case measure => have := HIL.out; have := HBD.out; simp [intOf]; omega
      · have q91 : ((n : Int) == 91) = false := by simpa using fun e => h91 (by omega)
        by_cases h63 : n = 63
        · have p63 : ((n : Int) == 63) = true := by simp [h63]
          have q92 : ((n : Int) == 92) = false := by simp [h63]
          have q42 : ((n : Int) == 42) = false := by simp [h63]
          have HSG : Hid (sgnR l a = some (⟨1, 63, false, noneS⟩, a + 1)) := sgnR_63 (by rw [← HN.out]; exact h63)
          have hc0 : wB.cell? ⟨gS, 0, none⟩ = some (.int .i64 0) := by rw [cell_of_row _ _ 0 _ _ (0, 0) HX0.out]; rfl
          have hf0 : wB.frozen? ⟨gS, 0, none⟩ = false := unfrozen HX0.out
          have HX1 : Hid ((wB.setCell ⟨gS, 0, none⟩ (.int .i64 1)).heap[gS]? = some (.cells (sgC 1 63 false noneS).toArray 35)) := by show _ = _; rw [row_set HX0.out 0, sgC_set0, h63]; rfl
          have HB1 : Hid (Below gS wB (wB.setCell ⟨gS, 0, none⟩ (.int .i64 1))) := Below.setCell (p := ⟨gS, 0, none⟩) (Below.refl _ _) (Nat.le_refl _) _
          have HWR : Hid (gS ≤ wB.heap.size ∧ w.heap.size ≤ gS) := ⟨Nat.le_of_lt HSW.out.2, HSW.out.1⟩
          have HOX : Hid (RgOwn (wB.setCell ⟨gS, 0, none⟩ (.int .i64 1)) w.heap.size (.slice a4 L.length c4) L) := by
            show RgOwn _ _ _ _
            have h1 := HBB.out.trans (HB1.out.mono (Nat.le_of_eq HG.out.symm))
            exact HO.out.later h1
          clear h63
          go_upto_region 25 with (fail)
          obtain ⟨x, hxx⟩ : ∃ x, x = (⟨1, 63, false, noneS⟩ : Rg) := ⟨_, rfl⟩
          have HXB : Hid ((wB.setCell ⟨gS, 0, none⟩ (.int .i64 1)).heap[gS]? = some (.cells x.cs.toArray 35)) := by show _ = _; rw [hxx]; exact HX1.out
          have HB3 : Hid (Below w.heap.size w (wB.setCell ⟨gS, 0, none⟩ (.int .i64 1))) := HB2.out.trans (HB1.out.mono HWR.out.2)
          have HO3 : Hid (RgOwn (wB.setCell ⟨gS, 0, none⟩ (.int .i64 1)) w.heap.size (.slice a4 L.length c4) L) := HOX.out
          have HNX : Hid (RestR l R (L ++ [x]) (a + 1)) := by show RestR _ _ _ _; rw [hxx]; exact restR_next HRS.out HIL.out HSG.out
          clear hxx
          obtain ⟨X, hX⟩ : ∃ X, X = x.cs := ⟨_, rfl⟩
          have HXL : Hid (X.length = 259) := by show _ = _; rw [hX]; exact Rg.cs_length _
          have HXS : Hid ((Tryd.prog.info? 35).map (·.size) = some X.length) := size_rg HXL.out
          rw [← hX] at HXB
          have HRG : Hid ((wB.setCell ⟨gS, 0, none⟩ (.int .i64 1)).rangeAt gS 0 X) := range_block HXB.out
          have HFI : Hid (Instr.fill (fun i => some (i * i0.size, i0.size)) ((Array.range (1 * i0.size)).map ((Value.agg Z.toArray).cells[· % (Value.agg Z.toArray).cells.size]!)) [(0, .agg X.toArray)] = some X.toArray) := by show _ = _; rw [HZ1.out]; exact fill_rg X HXL.out _
          have HSM : Hid ((¬ 1 * i0.size > 2 ^ 24) ∧ ¬ 1 * i0.size = 0) := by show _ ∧ _; rw [HZ1.out]; omega
          have hbA : Below (wB.setCell ⟨gS, 0, none⟩ (.int .i64 1)).heap.size (wB.setCell ⟨gS, 0, none⟩ (.int .i64 1)) ((wB.setCell ⟨gS, 0, none⟩ (.int .i64 1)).alloc (.cells X.toArray 35)) := (Below.refl _ _).alloc (Nat.le_refl _) _
          have HO4 : Hid (RgOwn ((wB.setCell ⟨gS, 0, none⟩ (.int .i64 1)).alloc (.cells X.toArray 35)) w.heap.size (.slice a4 L.length c4) L) := HO3.out.later hbA
          have HB4 : Hid (Below w.heap.size w ((wB.setCell ⟨gS, 0, none⟩ (.int .i64 1)).alloc (.cells X.toArray 35))) := HB3.out.trans (hbA.mono HB3.out.size)
          have HC4 : Hid (∀ j u, x.cs[j]? = some u → ((wB.setCell ⟨gS, 0, none⟩ (.int .i64 1)).alloc (.cells X.toArray 35)).cell? ⟨(wB.setCell ⟨gS, 0, none⟩ (.int .i64 1)).heap.size, j, none⟩ = some u) := by
            intro j u hj
            rw [cell_of_row _ _ j _ _ (0, 0) (heap_new _ _), List.getElem?_toArray, hX]; exact hj
          have HWS : Hid ((wB.setCell ⟨gS, 0, none⟩ (.int .i64 1)).heap.size = wB.heap.size) := (by show _ = _; first | rfl | simp)
          have HLN : Hid (L.length ≤ 100000) := (by show _ ≤ _; have := HLA.out; have := HA.out; have := HL.out; omega)
          clear hbA hX
          go_wp2_with (first
            | ((with_reducible show wpList _ _ _ (Oper.mk (some 67) _ _ _ _ _ :: _) _ _); go_must (refine wpList_load_mid rfl 35 (.tmp 7) rfl gS 0 rfl X _ HRG.out Tryd.underlying35 rfl HXS.out ?_))
            | ((with_reducible show wpList _ _ _ (Oper.mk (some 68) _ _ _ _ _ :: _) _ _); go_must (refine wpList_buildSlice rfl 30 35 1 #[(0, .tmp 67)] rfl X.toArray i0 (.agg Z.toArray) Tryd.underlying30 HI0.out HZ0.out HSM.out.1 HSM.out.2 (by simp only [List.map_toArray, List.map_cons, List.map_nil]; exact HFI.out) ?_))
            | (at_builtin; go_must (refine append_rg rfl (.tmp 66) (.tmp 68) rfl w.heap.size (.slice a4 L.length c4) L x rfl HO4.out _ 1 rfl HC4.out HLN.out HB4.out.size ?_); intro v5 w5 hO5 hG5 hV5
               have HO5 := Lib.hid hO5; have HB5 := Lib.hid (HB4.out.grown hG5 HB4.out.size (fun k hk => (HO4.out.lt k hk).1)); clear hG5 hV5 hO5))
          obtain ⟨a5, c5, rfl⟩ : ∃ aa cc, v5 = .slice aa (L ++ [x]).length cc := HO5.out.slice
          go_roundw
          case rel => exact ⟨a + 1, L ++ [x], by go_num, ⟨_, _, rfl⟩, by show _ ≤ _; have := HIL.out; omega, by show _ ≤ _; have := HLA.out; simp; omega, HNX, HO5, HB5⟩
          case measure => have := HIL.out; simp [intOf]; omega
        · have q63 : ((n : Int) == 63) = false := by simpa using fun e => h63 (by omega)
          by_cases h42 : n = 42
          · have p42 : ((n : Int) == 42) = true := by simp [h42]
            have q92 : ((n : Int) == 92) = false := by simp [h42]
            have hSP := stars_pos HIL.out (by rw [← HN.out]; exact h42)
            have HSP := Lib.hid hSP
            have HSG : Hid (sgnR l a = some (⟨if stars l a > 1 then 3 else 2, 42, false, noneS⟩, a + stars l a)) := sgnR_42 (by rw [← HN.out]; exact h42)
            have hc0 : wB.cell? ⟨gS, 0, none⟩ = some (.int .i64 0) := by rw [cell_of_row _ _ 0 _ _ (0, 0) HX0.out]; rfl
            have hf0 : wB.frozen? ⟨gS, 0, none⟩ = false := unfrozen HX0.out
            have HX1 : Hid ((wB.setCell ⟨gS, 0, none⟩ (.int .i64 2)).heap[gS]? = some (.cells (sgC (if a + 1 > a + 1 then 3 else 2) 42 false noneS).toArray 35)) := by show _ = _; rw [row_set HX0.out 0, sgC_set0, h42, if_neg (by omega)]; rfl
            have HB1 : Hid (Below gS wB (wB.setCell ⟨gS, 0, none⟩ (.int .i64 2))) := Below.setCell (p := ⟨gS, 0, none⟩) (Below.refl _ _) (Nat.le_refl _) _
            have HWR : Hid (w.heap.size ≤ gS) := HSW.out.1
            have HOB : Hid (∀ W, Below gS wB W → RgOwn W w.heap.size (.slice a4 L.length c4) L) := fun W hW => HO.out.later (HBB.out.trans (hW.mono (Nat.le_of_eq HG.out.symm)))
            have H91 : Hid (n ≠ 91) := h91
            clear h63 h42 hSP h91
            go_wp2
            go_loopw [5] (fun v wx => ∃ j : Nat, v = .int .i64 j ∧ Hid (a + 1 ≤ j) ∧ Hid (j ≤ a + stars l a) ∧ Hid (wx.heap[gS]? = some (.cells (sgC (if j > a + 1 then 3 else 2) 42 false noneS).toArray 35)) ∧ Hid (Below gS wB wx)) (fun v _ => l.length - (intOf v).toNat)
            case atStart => exact ⟨a + 1, by go_num, Nat.le_refl _, by show _ ≤ _; have := HSP.out; omega, HX1, HB1⟩
            case round =>
              clear HX0 HX1 HB1 hx hw1 hc0 hf0
              obtain ⟨j, rfl, HJ1, HJ2, HXJ, HBJ⟩ := hrel
              have hj2 := HJ2.out
              have hj1 := HJ1.out
              have hSP := HSP.out
              have hLL := HL.out
              by_cases hj : j < l.length
              · have hIj : (j : Int) < ((mk l).size : Int) := by rw [HS.out]; omega
                have hIj' : ¬ ((mk l).size : Int) ≤ (j : Int) := by rw [HS.out]; omega
                have hxj := run_at l j hj
                by_cases h42 : nb l j = 42
                · have hb42 : bt l j = 42 := by rw [bt_nb, h42]; rfl
                  rw [hb42] at hxj
                  have hjs := stars_more (by omega) hj2 hj h42
                  have HJS := Lib.hid hjs
                  have HJL := Lib.hid hj
                  have hw1 : IntKind.i64.wrap ((j : Int) + 1) = (j : Int) + 1 := IntWalk.i64_in _ (by omega)
                  have hc0 : wr.cell? ⟨gS, 0, none⟩ = some (.int .i64 (if j > a + 1 then 3 else 2)) := by rw [cell_of_row _ _ 0 _ _ (0, 0) HXJ.out]; rfl
                  have hf0 : wr.frozen? ⟨gS, 0, none⟩ = false := unfrozen HXJ.out
                  have HXN : Hid ((wr.setCell ⟨gS, 0, none⟩ (.int .i64 3)).heap[gS]? = some (.cells (sgC (if j + 1 > a + 1 then 3 else 2) 42 false noneS).toArray 35)) := by show _ = _; rw [row_set HXJ.out 0, sgC_set0, if_pos (by omega)]
                  have HBN : Hid (Below gS wB (wr.setCell ⟨gS, 0, none⟩ (.int .i64 3))) := HBJ.out.setCell (Nat.le_refl _) _
                  generalize (if j > a + 1 then (3 : Int) else 2) = kk at hc0
                  clear hj2 hj1 hSP hLL hj h42 hb42 hjs
                  go_wp2
                  go_roundw
                  case rel => exact ⟨j + 1, by go_num, by show _ ≤ _; have := HJ1.out; omega, HJS.out, HXN, HBN⟩
                  case measure => have := HJL.out; simp [intOf]; omega
                · have hq : (bt l j == 42) = false := bt_ne (n := 42) h42
                  have HJE : Hid (j = a + stars l a) := by
                    show _ = _
                    rcases Nat.lt_or_ge j (a + stars l a) with h | h
                    · exact absurd (stars_in (by omega) h).2 h42
                    · omega
                  generalize bt l j = c at *
                  clear hj2 hj1 hSP hLL hj h42
                  go_upto_region 25 with (fail)
                  obtain ⟨x, hxx⟩ : ∃ x, x = (⟨if stars l a > 1 then 3 else 2, 42, false, noneS⟩ : Rg) := ⟨_, rfl⟩
                  have HXB : Hid ((wr).heap[gS]? = some (.cells x.cs.toArray 35)) := by show _ = _; rw [hxx]; exact (by have h := HXJ.out; rw [h]; have e : (if j > a + 1 then (3 : Int) else 2) = ((if stars l a > 1 then 3 else 2 : Nat) : Int) := (by have := HJE.out; split <;> split <;> first | rfl | (exfalso; omega)); rw [e]; rfl)
                  have HB3 : Hid (Below w.heap.size w (wr)) := HB2.out.trans (HBJ.out.mono HWR.out)
                  have HO3 : Hid (RgOwn (wr) w.heap.size (.slice a4 L.length c4) L) := HOB.out _ HBJ.out
                  have HNX : Hid (RestR l R (L ++ [x]) (j)) := by show RestR _ _ _ _; rw [hxx]; exact (by rw [HJE.out]; exact restR_next HRS.out HIL.out HSG.out)
                  clear hxx
                  obtain ⟨X, hX⟩ : ∃ X, X = x.cs := ⟨_, rfl⟩
                  have HXL : Hid (X.length = 259) := by show _ = _; rw [hX]; exact Rg.cs_length _
                  have HXS : Hid ((Tryd.prog.info? 35).map (·.size) = some X.length) := size_rg HXL.out
                  rw [← hX] at HXB
                  have HRG : Hid ((wr).rangeAt gS 0 X) := range_block HXB.out
                  have HFI : Hid (Instr.fill (fun i => some (i * i0.size, i0.size)) ((Array.range (1 * i0.size)).map ((Value.agg Z.toArray).cells[· % (Value.agg Z.toArray).cells.size]!)) [(0, .agg X.toArray)] = some X.toArray) := by show _ = _; rw [HZ1.out]; exact fill_rg X HXL.out _
                  have HSM : Hid ((¬ 1 * i0.size > 2 ^ 24) ∧ ¬ 1 * i0.size = 0) := by show _ ∧ _; rw [HZ1.out]; omega
                  have hbA : Below (wr).heap.size (wr) ((wr).alloc (.cells X.toArray 35)) := (Below.refl _ _).alloc (Nat.le_refl _) _
                  have HO4 : Hid (RgOwn ((wr).alloc (.cells X.toArray 35)) w.heap.size (.slice a4 L.length c4) L) := HO3.out.later hbA
                  have HB4 : Hid (Below w.heap.size w ((wr).alloc (.cells X.toArray 35))) := HB3.out.trans (hbA.mono HB3.out.size)
                  have HC4 : Hid (∀ j u, x.cs[j]? = some u → ((wr).alloc (.cells X.toArray 35)).cell? ⟨(wr).heap.size, j, none⟩ = some u) := by
                    intro j u hj
                    rw [cell_of_row _ _ j _ _ (0, 0) (heap_new _ _), List.getElem?_toArray, hX]; exact hj
                  have HLN : Hid (L.length ≤ 100000) := (by show _ ≤ _; have := HLA.out; have := HA.out; have := HL.out; omega)
                  clear hbA hX
                  go_wp2_with (first
                    | ((with_reducible show wpList _ _ _ (Oper.mk (some 67) _ _ _ _ _ :: _) _ _); go_must (refine wpList_load_mid rfl 35 (.tmp 7) rfl gS 0 rfl X _ HRG.out Tryd.underlying35 rfl HXS.out ?_))
                    | ((with_reducible show wpList _ _ _ (Oper.mk (some 68) _ _ _ _ _ :: _) _ _); go_must (refine wpList_buildSlice rfl 30 35 1 #[(0, .tmp 67)] rfl X.toArray i0 (.agg Z.toArray) Tryd.underlying30 HI0.out HZ0.out HSM.out.1 HSM.out.2 (by simp only [List.map_toArray, List.map_cons, List.map_nil]; exact HFI.out) ?_))
                    | (at_builtin; go_must (refine append_rg rfl (.tmp 66) (.tmp 68) rfl w.heap.size (.slice a4 L.length c4) L x rfl HO4.out _ 1 rfl HC4.out HLN.out HB4.out.size ?_); intro v5 w5 hO5 hG5 hV5
                       have HO5 := Lib.hid hO5; have HB5 := Lib.hid (HB4.out.grown hG5 HB4.out.size (fun k hk => (HO4.out.lt k hk).1)); clear hG5 hV5 hO5))
                  obtain ⟨a5, c5, rfl⟩ : ∃ aa cc, v5 = .slice aa (L ++ [x]).length cc := HO5.out.slice
                  go_roundw
                  case rel => exact ⟨j, L ++ [x], by go_num, ⟨_, _, rfl⟩, by show _ ≤ _; have := HJ2.out; have := HSP.out; omega, by show _ ≤ _; have := HLA.out; have := HJ1.out; simp; omega, HNX, HO5, HB5⟩
                  case measure => have := HIL.out; have := HJ1.out; simp [intOf]; omega
              · have hIj : ¬ (j : Int) < ((mk l).size : Int) := by rw [HS.out]; omega
                have hIj' : ((mk l).size : Int) ≤ (j : Int) := by rw [HS.out]; omega
                have HJE : Hid (j = a + stars l a) := by show _ = _; omega
                clear hj2 hj1 hSP hLL hj
                go_upto_region 25 with (fail)
                obtain ⟨x, hxx⟩ : ∃ x, x = (⟨if stars l a > 1 then 3 else 2, 42, false, noneS⟩ : Rg) := ⟨_, rfl⟩
                have HXB : Hid ((wr).heap[gS]? = some (.cells x.cs.toArray 35)) := by show _ = _; rw [hxx]; exact (by have h := HXJ.out; rw [h]; have e : (if j > a + 1 then (3 : Int) else 2) = ((if stars l a > 1 then 3 else 2 : Nat) : Int) := (by have := HJE.out; split <;> split <;> first | rfl | (exfalso; omega)); rw [e]; rfl)
                have HB3 : Hid (Below w.heap.size w (wr)) := HB2.out.trans (HBJ.out.mono HWR.out)
                have HO3 : Hid (RgOwn (wr) w.heap.size (.slice a4 L.length c4) L) := HOB.out _ HBJ.out
                have HNX : Hid (RestR l R (L ++ [x]) (j)) := by show RestR _ _ _ _; rw [hxx]; exact (by rw [HJE.out]; exact restR_next HRS.out HIL.out HSG.out)
                clear hxx
                obtain ⟨X, hX⟩ : ∃ X, X = x.cs := ⟨_, rfl⟩
                have HXL : Hid (X.length = 259) := by show _ = _; rw [hX]; exact Rg.cs_length _
                have HXS : Hid ((Tryd.prog.info? 35).map (·.size) = some X.length) := size_rg HXL.out
                rw [← hX] at HXB
                have HRG : Hid ((wr).rangeAt gS 0 X) := range_block HXB.out
                have HFI : Hid (Instr.fill (fun i => some (i * i0.size, i0.size)) ((Array.range (1 * i0.size)).map ((Value.agg Z.toArray).cells[· % (Value.agg Z.toArray).cells.size]!)) [(0, .agg X.toArray)] = some X.toArray) := by show _ = _; rw [HZ1.out]; exact fill_rg X HXL.out _
                have HSM : Hid ((¬ 1 * i0.size > 2 ^ 24) ∧ ¬ 1 * i0.size = 0) := by show _ ∧ _; rw [HZ1.out]; omega
                have hbA : Below (wr).heap.size (wr) ((wr).alloc (.cells X.toArray 35)) := (Below.refl _ _).alloc (Nat.le_refl _) _
                have HO4 : Hid (RgOwn ((wr).alloc (.cells X.toArray 35)) w.heap.size (.slice a4 L.length c4) L) := HO3.out.later hbA
                have HB4 : Hid (Below w.heap.size w ((wr).alloc (.cells X.toArray 35))) := HB3.out.trans (hbA.mono HB3.out.size)
                have HC4 : Hid (∀ j u, x.cs[j]? = some u → ((wr).alloc (.cells X.toArray 35)).cell? ⟨(wr).heap.size, j, none⟩ = some u) := by
                  intro j u hj
                  rw [cell_of_row _ _ j _ _ (0, 0) (heap_new _ _), List.getElem?_toArray, hX]; exact hj
                have HLN : Hid (L.length ≤ 100000) := (by show _ ≤ _; have := HLA.out; have := HA.out; have := HL.out; omega)
                clear hbA hX
                go_wp2_with (first
                  | ((with_reducible show wpList _ _ _ (Oper.mk (some 67) _ _ _ _ _ :: _) _ _); go_must (refine wpList_load_mid rfl 35 (.tmp 7) rfl gS 0 rfl X _ HRG.out Tryd.underlying35 rfl HXS.out ?_))
                  | ((with_reducible show wpList _ _ _ (Oper.mk (some 68) _ _ _ _ _ :: _) _ _); go_must (refine wpList_buildSlice rfl 30 35 1 #[(0, .tmp 67)] rfl X.toArray i0 (.agg Z.toArray) Tryd.underlying30 HI0.out HZ0.out HSM.out.1 HSM.out.2 (by simp only [List.map_toArray, List.map_cons, List.map_nil]; exact HFI.out) ?_))
                  | (at_builtin; go_must (refine append_rg rfl (.tmp 66) (.tmp 68) rfl w.heap.size (.slice a4 L.length c4) L x rfl HO4.out _ 1 rfl HC4.out HLN.out HB4.out.size ?_); intro v5 w5 hO5 hG5 hV5
                     have HO5 := Lib.hid hO5; have HB5 := Lib.hid (HB4.out.grown hG5 HB4.out.size (fun k hk => (HO4.out.lt k hk).1)); clear hG5 hV5 hO5))
                obtain ⟨a5, c5, rfl⟩ : ∃ aa cc, v5 = .slice aa (L ++ [x]).length cc := HO5.out.slice
                go_roundw
                case rel => exact ⟨j, L ++ [x], by go_num, ⟨_, _, rfl⟩, by show _ ≤ _; have := HJ2.out; have := HSP.out; omega, by show _ ≤ _; have := HLA.out; have := HJ1.out; simp; omega, HNX, HO5, HB5⟩
                case measure => have := HIL.out; have := HJ1.out; simp [intOf]; omega
          · have q42 : ((n : Int) == 42) = false := by simpa using fun e => h42 (by omega)
            have HSG : Hid (sgnR l a = match rbN l a with | none => none | some (c, b) => some (⟨0, c, false, noneS⟩, b)) := sgnR_own (by rw [← HN.out]; exact h91) (by rw [← HN.out]; exact h63) (by rw [← HN.out]; exact h42)
            by_cases h92 : n = 92
            · have p92 : ((n : Int) == 92) = true := by simp [h92]
              have hLL := HL.out
              have hIL := HIL.out
              by_cases h1 : a + 1 < l.length
              · have hI1 : ¬ ((mk l).size : Int) ≤ (a : Int) + 1 := by rw [HS.out]; omega
                have hx1 := run_at l (a + 1) h1
                rw [show ((a + 1 : Nat) : Int) = (a : Int) + 1 from by omega, bt_nb] at hx1
                have hw2 : IntKind.i64.wrap ((a : Int) + 1 + 1) = (a : Int) + 1 + 1 := IntWalk.i64_in _ (by omega)
                obtain ⟨m, hm⟩ : ∃ m, m = nb l (a + 1) := ⟨_, rfl⟩
                rw [← hm] at hx1
                have HH1 := Lib.hid h1
                have HSN : Hid (sgnR l a = some (⟨0, m, false, noneS⟩, a + 1 + 1)) := by show _ = _; rw [HSG.out, rbN_92 HIL.out (by rw [← HN.out]; exact h92), if_pos h1, ← hm]
                have hc0 : wB.cell? ⟨gS, 1, none⟩ = some (.int .u8 (n : Int)) := by rw [cell_of_row _ _ 1 _ _ (0, 0) HX0.out]; rfl
                have hf0 : wB.frozen? ⟨gS, 1, none⟩ = false := unfrozen HX0.out
                have HX1 : Hid ((wB.setCell ⟨gS, 1, none⟩ (.int .u8 (m : Int))).heap[gS]? = some (.cells (sgC 0 (m : Int) false noneS).toArray 35)) := by show _ = _; rw [row_set HX0.out 1, sgC_set1]
                have HB1 : Hid (Below gS wB (wB.setCell ⟨gS, 1, none⟩ (.int .u8 (m : Int)))) := Below.setCell (p := ⟨gS, 1, none⟩) (Below.refl _ _) (Nat.le_refl _) _
                have HWR : Hid (gS ≤ wB.heap.size ∧ w.heap.size ≤ gS) := ⟨Nat.le_of_lt HSW.out.2, HSW.out.1⟩
                have HOX : Hid (RgOwn (wB.setCell ⟨gS, 1, none⟩ (.int .u8 (m : Int))) w.heap.size (.slice a4 L.length c4) L) := by
                  show RgOwn _ _ _ _
                  have h1 := HBB.out.trans (HB1.out.mono (Nat.le_of_eq HG.out.symm))
                  exact HO.out.later h1
                clear h91 h63 h42 h92 h1 hm hLL hIL
                go_upto_region 25 with (fail)
                obtain ⟨x, hxx⟩ : ∃ x, x = (⟨0, m, false, noneS⟩ : Rg) := ⟨_, rfl⟩
                have HXB : Hid ((wB.setCell ⟨gS, 1, none⟩ (.int .u8 (m : Int))).heap[gS]? = some (.cells x.cs.toArray 35)) := by show _ = _; rw [hxx]; exact HX1.out
                have HB3 : Hid (Below w.heap.size w (wB.setCell ⟨gS, 1, none⟩ (.int .u8 (m : Int)))) := HB2.out.trans (HB1.out.mono HWR.out.2)
                have HO3 : Hid (RgOwn (wB.setCell ⟨gS, 1, none⟩ (.int .u8 (m : Int))) w.heap.size (.slice a4 L.length c4) L) := HOX.out
                have HNX : Hid (RestR l R (L ++ [x]) (a + 1 + 1)) := by show RestR _ _ _ _; rw [hxx]; exact restR_next HRS.out HIL.out HSN.out
                clear hxx
                obtain ⟨X, hX⟩ : ∃ X, X = x.cs := ⟨_, rfl⟩
                have HXL : Hid (X.length = 259) := by show _ = _; rw [hX]; exact Rg.cs_length _
                have HXS : Hid ((Tryd.prog.info? 35).map (·.size) = some X.length) := size_rg HXL.out
                rw [← hX] at HXB
                have HRG : Hid ((wB.setCell ⟨gS, 1, none⟩ (.int .u8 (m : Int))).rangeAt gS 0 X) := range_block HXB.out
                have HFI : Hid (Instr.fill (fun i => some (i * i0.size, i0.size)) ((Array.range (1 * i0.size)).map ((Value.agg Z.toArray).cells[· % (Value.agg Z.toArray).cells.size]!)) [(0, .agg X.toArray)] = some X.toArray) := by show _ = _; rw [HZ1.out]; exact fill_rg X HXL.out _
                have HSM : Hid ((¬ 1 * i0.size > 2 ^ 24) ∧ ¬ 1 * i0.size = 0) := by show _ ∧ _; rw [HZ1.out]; omega
                have hbA : Below (wB.setCell ⟨gS, 1, none⟩ (.int .u8 (m : Int))).heap.size (wB.setCell ⟨gS, 1, none⟩ (.int .u8 (m : Int))) ((wB.setCell ⟨gS, 1, none⟩ (.int .u8 (m : Int))).alloc (.cells X.toArray 35)) := (Below.refl _ _).alloc (Nat.le_refl _) _
                have HO4 : Hid (RgOwn ((wB.setCell ⟨gS, 1, none⟩ (.int .u8 (m : Int))).alloc (.cells X.toArray 35)) w.heap.size (.slice a4 L.length c4) L) := HO3.out.later hbA
                have HB4 : Hid (Below w.heap.size w ((wB.setCell ⟨gS, 1, none⟩ (.int .u8 (m : Int))).alloc (.cells X.toArray 35))) := HB3.out.trans (hbA.mono HB3.out.size)
                have HC4 : Hid (∀ j u, x.cs[j]? = some u → ((wB.setCell ⟨gS, 1, none⟩ (.int .u8 (m : Int))).alloc (.cells X.toArray 35)).cell? ⟨(wB.setCell ⟨gS, 1, none⟩ (.int .u8 (m : Int))).heap.size, j, none⟩ = some u) := by
                  intro j u hj
                  rw [cell_of_row _ _ j _ _ (0, 0) (heap_new _ _), List.getElem?_toArray, hX]; exact hj
                have HWS : Hid ((wB.setCell ⟨gS, 1, none⟩ (.int .u8 (m : Int))).heap.size = wB.heap.size) := (by show _ = _; first | rfl | simp)
                have HLN : Hid (L.length ≤ 100000) := (by show _ ≤ _; have := HLA.out; have := HA.out; have := HL.out; omega)
                clear hbA hX
                go_wp2_with (first
                  | ((with_reducible show wpList _ _ _ (Oper.mk (some 67) _ _ _ _ _ :: _) _ _); go_must (refine wpList_load_mid rfl 35 (.tmp 7) rfl gS 0 rfl X _ HRG.out Tryd.underlying35 rfl HXS.out ?_))
                  | ((with_reducible show wpList _ _ _ (Oper.mk (some 68) _ _ _ _ _ :: _) _ _); go_must (refine wpList_buildSlice rfl 30 35 1 #[(0, .tmp 67)] rfl X.toArray i0 (.agg Z.toArray) Tryd.underlying30 HI0.out HZ0.out HSM.out.1 HSM.out.2 (by simp only [List.map_toArray, List.map_cons, List.map_nil]; exact HFI.out) ?_))
                  | (at_builtin; go_must (refine append_rg rfl (.tmp 66) (.tmp 68) rfl w.heap.size (.slice a4 L.length c4) L x rfl HO4.out _ 1 rfl HC4.out HLN.out HB4.out.size ?_); intro v5 w5 hO5 hG5 hV5
                     have HO5 := Lib.hid hO5; have HB5 := Lib.hid (HB4.out.grown hG5 HB4.out.size (fun k hk => (HO4.out.lt k hk).1)); clear hG5 hV5 hO5))
                obtain ⟨a5, c5, rfl⟩ : ∃ aa cc, v5 = .slice aa (L ++ [x]).length cc := HO5.out.slice
                go_roundw
                case rel => exact ⟨a + 1 + 1, L ++ [x], by go_num, ⟨_, _, rfl⟩, by show _ ≤ _; have := HH1.out; omega, by show _ ≤ _; have := HLA.out; have := HH1.out; simp; omega, HNX, HO5, HB5⟩
                case measure => have := HIL.out; have := HH1.out; simp [intOf]; omega
              · have hI1 : ((mk l).size : Int) ≤ (a : Int) + 1 := by rw [HS.out]; omega
                have HRN : Hid (R = none) := restR_none HRS.out HIL.out (by rw [HSG.out, rbN_92 HIL.out (by rw [← HN.out]; exact h92), if_neg h1])
                clear h91 h63 h42 h92 h1 hLL hIL
                go_wp2
                go_ret2
                exact ⟨_, rfl, HRD.out _ _ (by rw [HRN.out]; rfl), HB2.out⟩
            · have q92 : ((n : Int) == 92) = false := by simpa using fun e => h92 (by omega)
              have HSN : Hid (sgnR l a = some (⟨0, n, false, noneS⟩, a + 1)) := by show _ = _; rw [HSG.out, rbN_other HIL.out (by rw [← HN.out]; exact h92), ← HN.out]
              clear h91 h63 h42 h92
              go_upto_region 25 with (fail)
              obtain ⟨x, hxx⟩ : ∃ x, x = (⟨0, n, false, noneS⟩ : Rg) := ⟨_, rfl⟩
              have HXB : Hid ((wB).heap[gS]? = some (.cells x.cs.toArray 35)) := by show _ = _; rw [hxx]; exact HX0.out
              have HB3 : Hid (Below w.heap.size w (wB)) := HB2.out
              have HO3 : Hid (RgOwn (wB) w.heap.size (.slice a4 L.length c4) L) := HO2.out
              have HNX : Hid (RestR l R (L ++ [x]) (a + 1)) := by show RestR _ _ _ _; rw [hxx]; exact restR_next HRS.out HIL.out HSN.out
              clear hxx
              obtain ⟨X, hX⟩ : ∃ X, X = x.cs := ⟨_, rfl⟩
              have HXL : Hid (X.length = 259) := by show _ = _; rw [hX]; exact Rg.cs_length _
              have HXS : Hid ((Tryd.prog.info? 35).map (·.size) = some X.length) := size_rg HXL.out
              rw [← hX] at HXB
              have HRG : Hid ((wB).rangeAt gS 0 X) := range_block HXB.out
              have HFI : Hid (Instr.fill (fun i => some (i * i0.size, i0.size)) ((Array.range (1 * i0.size)).map ((Value.agg Z.toArray).cells[· % (Value.agg Z.toArray).cells.size]!)) [(0, .agg X.toArray)] = some X.toArray) := by show _ = _; rw [HZ1.out]; exact fill_rg X HXL.out _
              have HSM : Hid ((¬ 1 * i0.size > 2 ^ 24) ∧ ¬ 1 * i0.size = 0) := by show _ ∧ _; rw [HZ1.out]; omega
              have hbA : Below (wB).heap.size (wB) ((wB).alloc (.cells X.toArray 35)) := (Below.refl _ _).alloc (Nat.le_refl _) _
              have HO4 : Hid (RgOwn ((wB).alloc (.cells X.toArray 35)) w.heap.size (.slice a4 L.length c4) L) := HO3.out.later hbA
              have HB4 : Hid (Below w.heap.size w ((wB).alloc (.cells X.toArray 35))) := HB3.out.trans (hbA.mono HB3.out.size)
              have HC4 : Hid (∀ j u, x.cs[j]? = some u → ((wB).alloc (.cells X.toArray 35)).cell? ⟨(wB).heap.size, j, none⟩ = some u) := by
                intro j u hj
                rw [cell_of_row _ _ j _ _ (0, 0) (heap_new _ _), List.getElem?_toArray, hX]; exact hj
              have HWS : Hid ((wB).heap.size = wB.heap.size) := (by show _ = _; first | rfl | simp)
              have HLN : Hid (L.length ≤ 100000) := (by show _ ≤ _; have := HLA.out; have := HA.out; have := HL.out; omega)
              clear hbA hX
              go_wp2_with (first
                | ((with_reducible show wpList _ _ _ (Oper.mk (some 67) _ _ _ _ _ :: _) _ _); go_must (refine wpList_load_mid rfl 35 (.tmp 7) rfl gS 0 rfl X _ HRG.out Tryd.underlying35 rfl HXS.out ?_))
                | ((with_reducible show wpList _ _ _ (Oper.mk (some 68) _ _ _ _ _ :: _) _ _); go_must (refine wpList_buildSlice rfl 30 35 1 #[(0, .tmp 67)] rfl X.toArray i0 (.agg Z.toArray) Tryd.underlying30 HI0.out HZ0.out HSM.out.1 HSM.out.2 (by simp only [List.map_toArray, List.map_cons, List.map_nil]; exact HFI.out) ?_))
                | (at_builtin; go_must (refine append_rg rfl (.tmp 66) (.tmp 68) rfl w.heap.size (.slice a4 L.length c4) L x rfl HO4.out _ 1 rfl HC4.out HLN.out HB4.out.size ?_); intro v5 w5 hO5 hG5 hV5
                   have HO5 := Lib.hid hO5; have HB5 := Lib.hid (HB4.out.grown hG5 HB4.out.size (fun k hk => (HO4.out.lt k hk).1)); clear hG5 hV5 hO5))
              obtain ⟨a5, c5, rfl⟩ : ∃ aa cc, v5 = .slice aa (L ++ [x]).length cc := HO5.out.slice
              go_roundw
              case rel => exact ⟨a + 1, L ++ [x], by go_num, ⟨_, _, rfl⟩, by show _ ≤ _; have := HIL.out; omega, by show _ ≤ _; have := HLA.out; simp; omega, HNX, HO5, HB5⟩
              case measure => have := HIL.out; simp [intOf]; omega
    · have hIa : ¬ (a : Int) < ((mk l).size : Int) := by rw [HS.out]; omega
      have HRL : Hid (R = some L) := restR_stop HRS.out ha
      clear hA hLL ha
      go_wp2
      go_ret2
      exact ⟨_, rfl, HRD.out _ _ (by rw [HRL.out]; exact ⟨_, _, rfl, HO.out⟩), HB.out⟩
end Go.Proofs.YtokocfoeohddfaaDoor.Pa
namespace Go.Proofs.YtokocfoeohddfaaDoor.Pa
set_option linter.unusedVariables false
set_option linter.unusedSimpArgs false
set_option maxRecDepth 100000

/-! the document's way to match: up to which places the signs so far come -/
def takesB (x : Rg) (d : Nat) : Bool := x.sg.S d
def dpRow (x : Rg) (s : L8) (T : Nat → Bool) : Nat → Bool
  | 0 => if x.sg.many then T 0 else false
  | k + 1 => if x.sg.many then T (k + 1) || (dpRow x s T k && takesB x (nb s k)) else T k && takesB x (nb s k)
def dp (s : L8) : (Nat → Bool) → List Rg → Nat → Bool
  | T, [] => T
  | T, x :: L => dp s (dpRow x s T) L
theorem dp_snoc (s : L8) : ∀ (L : List Rg) (x : Rg) (T : Nat → Bool), dp s T (L ++ [x]) = dpRow x s (dp s T L) := by
  intro L
  induction L with
  | nil => intro x T; rfl
  | cons y L ih => intro x T; rw [List.cons_append, dp, dp]; exact ih x _
def T0 : Nat → Bool := fun k => decide (k = 0)
theorem take_nb {s : L8} {k : Nat} (h : k < s.length) : ∃ c, s.take (k + 1) = s.take k ++ [c] ∧ c.toNat = nb s k := by
  refine ⟨s[k], ?_, ?_⟩
  · rw [List.take_add_one, List.getElem?_eq_getElem h]; rfl
  · unfold nb; rw [List.getD_eq_getElem?_getD, List.getElem?_eq_getElem h]; rfl
theorem snoc_inj {a b : L8} {c d : UInt8} (h : a ++ [c] = b ++ [d]) : a = b ∧ c = d := by
  have := List.append_inj' h rfl
  exact ⟨this.1, by simpa using this.2⟩
theorem lang_dpRow {A : List Sg} {x : Rg} {s : L8} {T : Nat → Bool} (hT : ∀ k, k ≤ s.length → (T k = true ↔ Lang A (s.take k))) : ∀ k, k ≤ s.length → (dpRow x s T k = true ↔ Lang (A ++ [x.sg]) (s.take k)) := by
  intro k
  induction k with
  | zero =>
    intro _
    rw [Lang_snoc, dpRow]
    cases hm : x.sg.many with
    | true =>
      simp only [if_true]
      rw [hT 0 (Nat.zero_le _)]
      simp only [List.take_zero]
      constructor
      · intro h; exact ⟨[], [], rfl, h, by simp⟩
      · rintro ⟨s1, s2, h, h1, _⟩
        have := List.append_eq_nil_iff.1 h.symm
        rw [this.1] at h1; exact h1
    | false =>
      simp only [Bool.false_eq_true, if_false, List.take_zero, false_iff]
      rintro ⟨s1, s2, h, _, c, rfl, _⟩
      simp at h
  | succ k ih =>
    intro hk
    obtain ⟨c, hc, hcn⟩ := take_nb (show k < s.length by omega)
    rw [Lang_snoc, dpRow, hc]
    cases hm : x.sg.many with
    | true =>
      rw [Lang_snoc, hm] at ih
      simp only [if_true] at ih ⊢
      rw [Bool.or_eq_true, Bool.and_eq_true, ih (by omega), hT (k + 1) hk, hc, ← hcn]
      unfold takesB
      constructor
      · rintro (h | ⟨⟨s1, s2, h1, h2, h3⟩, h4⟩)
        · exact ⟨_, [], by simp, h, by simp⟩
        · refine ⟨s1, s2 ++ [c], by rw [h1]; simp, h2, ?_⟩
          intro d hd
          rcases List.mem_append.1 hd with hd | hd
          · exact h3 d hd
          · simp at hd; subst hd; exact h4
      · rintro ⟨s1, s2, h1, h2, h3⟩
        rcases List.eq_nil_or_concat s2 with rfl | ⟨s3, d, rfl⟩
        · left; rw [h1]; simpa using h2
        · right
          rw [List.concat_eq_append] at h1 h3
          rw [← List.append_assoc] at h1
          obtain ⟨e1, e2⟩ := snoc_inj h1
          refine ⟨⟨s1, s3, e1, h2, fun d hd => h3 d (List.mem_append_left _ hd)⟩, ?_⟩
          rw [e2]; exact h3 d (by simp)
    | false =>
      simp only [Bool.false_eq_true, if_false]
      rw [Bool.and_eq_true, hT k (by omega), ← hcn]
      unfold takesB
      constructor
      · rintro ⟨h1, h2⟩
        exact ⟨_, [c], rfl, h1, c, rfl, h2⟩
      · rintro ⟨s1, s2, h1, h2, d, rfl, h3⟩
        obtain ⟨e1, e2⟩ := snoc_inj h1
        rw [e1, e2]; exact ⟨h2, h3⟩
theorem lang_dp (s : L8) : ∀ (L : List Rg) (A : List Sg) (T : Nat → Bool), (∀ k, k ≤ s.length → (T k = true ↔ Lang A (s.take k))) → ∀ k, k ≤ s.length → (dp s T L k = true ↔ Lang (A ++ L.map Rg.sg) (s.take k)) := by
  intro L
  induction L with
  | nil => intro A T h; simpa [dp] using h
  | cons x L ih =>
    intro A T h k hk
    rw [dp, ih (A ++ [x.sg]) _ (lang_dpRow h) k hk, List.map_cons, List.append_assoc]
    rfl
theorem dp_lang (s : L8) (L : List Rg) : dp s T0 L s.length = true ↔ Lang (L.map Rg.sg) s := by
  have h := lang_dp s L [] T0 (fun k hk => by
    unfold T0
    rw [decide_eq_true_eq, Lang]
    constructor
    · rintro rfl; rfl
    · intro h; have := congrArg List.length h; simp at this; rcases this with h | h
      · exact h
      · rw [h] at hk; simpa using hk) s.length (Nat.le_refl _)
  simpa using h
/-- the document's Match is the program's -/
theorem matchP_R {p : L8} {L : List Rg} (hp : p.length ≤ 100) (h : readR p = some L) (s : L8) : matchP p s = dp s T0 L s.length := by
  have hr : readP p = some (L.map Rg.sg) := by rw [readP_R, if_pos hp, h]; rfl
  have hA := (readP_kind hr).1
  rw [Bool.eq_iff_iff, dp_lang]
  unfold matchP
  rw [hr]
  exact match_iff hA s
theorem matchP_none {p : L8} (h : readE p ≠ 0) (s : L8) : matchP p s = false := by
  unfold matchP
  cases hr : readP p with
  | none => rfl
  | some L =>
    exfalso
    apply h
    rw [readE_R]
    rw [readP_R] at hr
    split at hr
    · next hl =>
      rw [if_pos hl]
      cases hq : readR p with
      | none => rw [hq] at hr; simp at hr
      | some _ => rfl
    · cases hr
end Go.Proofs.YtokocfoeohddfaaDoor.Pa
namespace Go.Proofs.YtokocfoeohddfaaDoor.Pa
open Go.RowKit
set_option linter.unusedVariables false
set_option linter.unusedSimpArgs false
set_option maxRecDepth 1000000

/-- a row of signs that is handed on -/
def RgAt (w : World) (v : Value) (L : List Rg) : Prop := ∃ a c, v = .slice a L.length c ∧ (L ≠ [] → ∃ g, a = some ⟨g, 0, none⟩ ∧ g < w.heap.size ∧ ∀ i x, L[i]? = some x → w.rangeAt g (i * 259) x.cs)
theorem RgOwn.at {w : World} {base : Nat} {v : Value} {L : List Rg} (h : RgOwn w base v L) : RgAt w v L := by
  rcases h.form with ⟨rfl, rfl⟩ | ⟨g, cap, rfl, h1, h2, h3, h4⟩
  · exact ⟨Option.none, 0, rfl, fun h => absurd rfl h⟩
  · refine ⟨_, cap, rfl, fun _ => ⟨g, rfl, h2, fun i x hi j v hv => ?_⟩⟩
    have hj : j < 259 := by rw [← Rg.cs_length x]; exact (List.getElem?_eq_some_iff.1 hv).1
    rw [h4 i x hi j hj]; exact hv
theorem RgAt.later {w w' : World} {v : Value} {L : List Rg} (h : RgAt w v L) (hb : Below w.heap.size w w') : RgAt w' v L := by
  obtain ⟨a, c, e, h⟩ := h
  refine ⟨a, c, e, fun hn => ?_⟩
  obtain ⟨g, e2, hg, hc⟩ := h hn
  refine ⟨g, e2, Nat.lt_of_lt_of_le hg hb.size, fun i x hi j v hv => ?_⟩
  rw [hb.cell (p := ⟨g, i * 259 + j, none⟩) hg]
  exact hc i x hi j v hv
theorem range_kind {w : World} {g i : Nat} {x : Rg} (h : w.rangeAt g (i * 259) x.cs) : w.cell? ⟨g, i * 259, none⟩ = some (.int .i64 (x.kind : Int)) := by
  have := h 0 _ (by unfold Rg.cs sgC; rfl)
  simpa using this
theorem range_byte {w : World} {g i : Nat} {x : Rg} (h : w.rangeAt g (i * 259) x.cs) : w.cell? ⟨g, i * 259 + 1, none⟩ = some (.int .u8 (x.c : Int)) := h 1 _ (by unfold Rg.cs sgC; rfl)
theorem sgnsR_len {l : L8} : ∀ n a L, sgnsR l n a = some L → a ≤ l.length → L.length + a ≤ l.length := by
  intro n a L h ha
  have h2 : sgns l n a = some (L.map Rg.sg) := by rw [sgnsR_sg, h]; rfl
  have := sgns_len _ _ _ h2 ha
  simpa using this
/-- Signs in two cases -/
theorem rdr_cases (l : L8) : (readR l = none ∧ ∀ base v w, RDR l base v w → v = .tuple #[.slice none 0 0, .bool false]) ∨ (∃ L, readR l = some L ∧ L.length ≤ l.length ∧ ∀ base v w, RDR l base v w → ∃ u, v = .tuple #[u, .bool true] ∧ RgAt w u L) := by
  unfold RDR
  cases h : readR l with
  | none => left; exact ⟨rfl, fun base v w h => h⟩
  | some L =>
    right
    refine ⟨L, rfl, by have := sgnsR_len _ _ _ h (Nat.zero_le _); simpa using this, fun base v w h => ?_⟩
    obtain ⟨a, c, e, ho⟩ := h
    exact ⟨_, e, ho.at⟩
theorem rcheck_any (l : L8) (w : World) (hl : l.length ≤ 4611686018427387904) :
    Calls Tryd.prog 12 #[.string (mk l)] w fun e w' => e = .returned (.int .i64 (readE l)) ∧ Below w.heap.size w w' := by
  have hs : (mk l).size = l.length := mk_size l
  by_cases h1 : l.length ≤ 100
  · have hI : ¬ ((mk l).size : Int) > 100 := by rw [hs]; omega
    have HR := Lib.hid (rsigns_any l w h1)
    rcases rdr_cases l with ⟨h, hv⟩ | ⟨L, h, -, hv⟩
    · have H := Lib.hid hv
      have he : readE l = 5 := by rw [readE_R, if_pos h1, h]; rfl
      rw [he]
      clear hv h h1 he hs
      go_enter Tryd.func12, Tryd.ntmps12
      go_wp2_with (go_at_call 21; refine HR.out.mono ?_; rintro e w' ⟨v, rfl, hv, hb⟩; have e := H.out _ _ _ hv; subst e; have HB := Lib.hid hb; clear hb hv)
      go_ret
      exact ⟨rfl, HB.out⟩
    · have H := Lib.hid hv
      have he : readE l = 0 := by rw [readE_R, if_pos h1, h]; rfl
      rw [he]
      clear hv h h1 he hs
      go_enter Tryd.func12, Tryd.ntmps12
      go_wp2_with (go_at_call 21; refine HR.out.mono ?_; rintro e w' ⟨v, rfl, hv, hb⟩; obtain ⟨u, e, -⟩ := H.out _ _ _ hv; subst e; have HB := Lib.hid hb; clear hb hv)
      go_ret
      exact ⟨rfl, HB.out⟩
  · have hI : ((mk l).size : Int) > 100 := by rw [hs]; omega
    have he : readE l = 7 := by rw [readE_R, if_neg h1]
    rw [he]
    clear h1 he hs
    go_enter Tryd.func12, Tryd.ntmps12
    go_wp2
    go_ret
    exact ⟨rfl, Below.refl _ _⟩
/-- is it a pattern? the three ways -/
theorem read_ways (l : L8) : (readE l ≠ 0 ∧ readP l = none) ∨ (readE l = 0 ∧ l.length ≤ 100 ∧ ∃ L, readR l = some L ∧ readP l = some (L.map Rg.sg) ∧ L.length ≤ l.length ∧ Fits (L.map Rg.sg)) := by
  by_cases h1 : l.length ≤ 100
  · cases h : readR l with
    | none => left; exact ⟨by rw [readE_R, if_pos h1, h]; simp, by rw [readP_R, if_pos h1, h]; rfl⟩
    | some L =>
      right
      have hp : readP l = some (L.map Rg.sg) := by rw [readP_R, if_pos h1, h]; rfl
      refine ⟨by rw [readE_R, if_pos h1, h]; rfl, h1, L, rfl, hp, by have := sgnsR_len _ _ _ h (Nat.zero_le _); simpa using this, ?_⟩
      unfold readP at hp
      rw [if_pos h1] at hp
      exact sgns_fits _ _ _ hp
  · left; exact ⟨by rw [readE_R, if_neg h1]; omega, by rw [readP_R, if_neg h1]⟩
theorem rdr_at {l : L8} {L : List Rg} (h : readR l = some L) : ∀ base v w, RDR l base v w → ∃ u, v = .tuple #[u, .bool true] ∧ RgAt w u L := by
  intro base v w hv
  unfold RDR at hv
  rw [h] at hv
  obtain ⟨a, c, e, ho⟩ := hv
  exact ⟨_, e, ho.at⟩
theorem sg_itself (x : Rg) : x.sg.itself = decide (x.kind = 0) := by
  unfold Rg.sg
  by_cases h : x.kind = 0
  · rw [if_pos h, decide_eq_true h]
  · rw [if_neg h, decide_eq_false h]
    split
    · rfl
    · split <;> rfl
theorem sg_byte {x : Rg} (h : x.kind = 0) : x.sg.c = x.c := by unfold Rg.sg; rw [if_pos h]
theorem map_get {L : List Rg} {k : Nat} {x : Rg} (h : L[k]? = some x) : (L.map Rg.sg)[k]? = some x.sg := by rw [List.getElem?_map, h]; rfl
set_option maxHeartbeats 8000000 in
theorem rhead_any (p : L8) (w : World) (hp : p.length ≤ 4611686018427387904) :
    Calls Tryd.prog 18 #[.string (mk p)] w fun e w' => e = .returned (.string (mk (headP p))) ∧ Below w.heap.size w w' := by
  have HC := Lib.hid (rcheck_any p w hp)
  rcases read_ways p with ⟨h1, h2⟩ | ⟨h1, hl, L, hR, hP, hLl, hF⟩
  · have hm : headP p = [] := by unfold headP; rw [h2]
    have hne : (readE p == 0) = false := by simpa using h1
    rw [hm]
    generalize readE p = r at *
    clear hp h1 h2 hm
    go_enter Tryd.func18, Tryd.ntmps18
    go_wp2_with (go_at_call 12; refine HC.out.mono ?_; rintro e w' ⟨rfl, hb⟩; have HB := Lib.hid hb; clear hb)
    go_ret
    exact ⟨rfl, HB.out⟩
  · have hm : headP p = headL (L.map Rg.sg) := by unfold headP; rw [hP]
    rw [hm]
    rw [h1] at HC
    have HSG : Hid (∀ W, Below w.heap.size w W → Calls Tryd.prog 21 #[.string (mk p)] W fun e w' => ∃ u, e = .returned (.tuple #[u, .bool true]) ∧ RgAt w' u L ∧ Below w.heap.size w w') := by
      intro W hW
      refine (rsigns_any p W hl).mono ?_
      rintro e w' ⟨v, rfl, hv, hb⟩
      obtain ⟨u, rfl, ha⟩ := rdr_at hR _ _ _ hv
      exact ⟨u, rfl, ha, hW.trans (hb.mono hW.size)⟩
    have HLL : Hid (L.length ≤ 100) := by show _ ≤ _; omega
    have HFF := Lib.hid hF
    obtain ⟨M, hM⟩ : ∃ M, M = L.map Rg.sg := ⟨_, rfl⟩
    have HM := Lib.hid hM
    have HML : Hid (M.length = L.length) := by show _ = _; rw [hM]; simp
    rw [← hM]
    rw [← hM] at HFF
    clear hp h1 hl hR hP hLl hF hm hM
    go_enter Tryd.func18, Tryd.ntmps18
    go_wp2_with (first
      | (go_at_call 12; refine HC.out.mono ?_; rintro e w1 ⟨rfl, hb⟩; have HB1 := Lib.hid hb; clear hb)
      | (go_at_call 21; refine (HSG.out _ HB1.out).mono ?_; rintro e w2 ⟨u, rfl, ha, hb⟩; have HA2 := Lib.hid ha; have HB2 := Lib.hid hb; obtain ⟨sa, sc, rfl, hrow⟩ := ha; have HROW := Lib.hid hrow; clear hb hrow))
    go_loopw [5, 6] (fun v i wr => ∃ (k : Nat) (b : L8), i = .int .i64 k ∧ (∃ a cc, v = .slice a k cc) ∧ Hid (Gone M k b) ∧ Hid (Own wr w2.heap.size v (ints b)) ∧ Hid (Below w2.heap.size w2 wr)) (fun _ i _ => L.length - (intOf i).toNat)
    case atStart => exact ⟨0, [], rfl, ⟨none, 0, rfl⟩, ⟨Nat.zero_le _, rfl, rfl⟩, Own.nil _ _, Below.refl _ _⟩
    case round =>
      obtain ⟨k, b, rfl, ⟨a3, c3, rfl⟩, HGo, HO, HBR⟩ := hrel
      have hsl := HO.out.sl (ints_oct b)
      obtain ⟨a', c', e', hby, hnil, hcap⟩ := hsl
      have hbk : b.length = k := HGo.out.2.1
      have hib : (ints b).length = k := by unfold ints; rw [List.length_map]; exact hbk
      rw [hib] at e'
      simp only [Value.slice.injEq, true_and] at e'
      obtain ⟨rfl, rfl⟩ := e'
      have hstr : (convert 36 9 (.slice a3 k c3)).run Tryd.prog wr = .ok (.string (mk b)) wr := by
        rw [← ints_str b]
        exact run_str hby k c3 hib.symm
      have HB : Hid (Below w.heap.size w wr) := HB2.out.trans (HBR.out.mono HB2.out.size)
      by_cases hk : k < L.length
      · have hIk : (k : Int) < (L.length : Int) := by omega
        obtain ⟨x, hx⟩ : ∃ x, L[k]? = some x := ⟨_, List.getElem?_eq_getElem hk⟩
        have hxM : M[k]? = some x.sg := by rw [HM.out]; exact map_get hx
        have hLL := HLL.out
        have hw1 : IntKind.i64.wrap ((k : Int) + 1) = (k : Int) + 1 := IntWalk.i64_in _ (by omega)
        have hRG := HA2.out.later HBR.out
        obtain ⟨sa', sc', e3, hr3⟩ := hRG
        simp only [Value.slice.injEq, true_and] at e3
        obtain ⟨rfl, rfl⟩ := e3
        obtain ⟨gg, rfl, hgl, hr4⟩ := hr3 (by intro e; rw [e] at hk; simp at hk)
        have c0 := range_kind (hr4 k x hx)
        have c1 := range_byte (hr4 k x hx)
        have HKL := Lib.hid hk
        have hxf : x.kind = 0 → x.c < 256 := fun h => by have := HFF.out _ (List.mem_of_getElem? hxM); rw [sg_byte h] at this; exact this
        by_cases hit : x.kind = 0
        · have HNG : Hid (Gone M (k + 1) (b ++ [sgByte x.sg])) := HGo.out.next hxM (by rw [sg_itself, decide_eq_true hit])
          have hxi : ints [sgByte x.sg] = [(x.c : Int)] := by
            unfold ints sgByte; rw [sg_byte hit]; have := hxf hit; simp; omega
          have hxf := hxf hit
          have HIA : Hid (ints (b ++ [sgByte x.sg]) = ints b ++ [(x.c : Int)]) := by show _ = _; rw [← hxi]; simp [ints]
          rw [hit] at c0
          have hb3 : Below wr.heap.size wr (wr.alloc (.cells #[.int .u8 (x.c : Int)] 5)) := (Below.refl _ _).alloc (Nat.le_refl _) _
          have HO3 := Lib.hid (HO.out.below hb3)
          have HBR3 := Lib.hid (HBR.out.trans (hb3.mono HBR.out.size))
          have HSL := Lib.hid (one_sl wr (x.c : Int) (by omega) (by omega))
          have HSZ2 : Hid (w2.heap.size ≤ (wr.alloc (.cells #[.int .u8 (x.c : Int)] 5)).heap.size) := HBR3.out.size
          have HLN : Hid ((ints b).length + [(x.c : Int)].length ≤ 140737488355328) := by show _ ≤ _; rw [hib]; simp; omega
          have HBI := Lib.hid hib
          clear hk hx hLL hstr hby hnil hcap hbk hib hit hxf hxi hb3 hxM hr4 HB hr3
          go_wp2_with (at_builtin; go_must (refine append_sl rfl (.tmp 29) (.tmp 35) rfl w2.heap.size (.slice a3 k c3) (.slice (some ⟨wr.heap.size, 0, none⟩) 1 1) (ints b) [(x.c : Int)] rfl HO3.out rfl HSL.out HLN.out HSZ2.out ?_); intro v5 w5 HO5 hb5; have HB5 := Lib.hid (HBR3.out.trans hb5); clear hb5)
          obtain ⟨a5, c5, rfl⟩ : ∃ a cc, v5 = .slice a (k + 1) cc := by
            obtain ⟨a, cc, h⟩ := own_form HO5.out
            rw [List.length_append, HBI.out] at h
            exact ⟨a, cc, h⟩
          go_roundw
          case rel => exact ⟨k + 1, b ++ [sgByte x.sg], by go_num, ⟨_, _, rfl⟩, HNG, by rw [HIA.out]; exact HO5, HB5⟩
          case measure => have := HKL.out; simp [intOf]; omega
        · have HE : Hid (headL M = b) := HGo.out.stop hxM (by rw [sg_itself, decide_eq_false hit])
          have hkn : ((x.kind : Int) == 0) = false := by simpa using fun e => hit (by omega)
          clear hk hx hLL hby hnil hcap hbk hib hit hxf hxM hr4 hr3
          go_wp2
          go_ret
          exact ⟨by rw [HE.out]; rfl, HB.out⟩
      · have hIk : ¬ (k : Int) < (L.length : Int) := by omega
        have HE : Hid (headL M = b) := HGo.out.all (by rw [HML.out]; exact hk)
        clear hk hby hnil hcap hbk hib
        go_wp2
        go_ret
        exact ⟨by rw [HE.out]; rfl, HB.out⟩
theorem headL_some {M : List Sg} {k : Nat} {x : Sg} (h : M[k]? = some x) (hi : x.itself = false) : (headL M).length < M.length := by
  induction M generalizing k with
  | nil => simp at h
  | cons y M ih =>
    rw [headL_cons]
    split
    · next hy =>
      cases k with
      | zero => simp at h; rw [← h] at hi; rw [hi] at hy; cases hy
      | succ k => have := ih (by simpa using h); simp; omega
    · simp
theorem headL_every {M : List Sg} (h : ∀ (k : Nat) (x : Sg), M[k]? = some x → x.itself = true) : ¬ (headL M).length < M.length := by
  induction M with
  | nil => simp
  | cons y M ih =>
    rw [headL_cons, if_pos (h 0 y (by simp))]
    have := ih (fun k x hx => h (k + 1) x (by simpa using hx))
    simp; omega
set_option maxHeartbeats 8000000 in
theorem rplain_any (p : L8) (w : World) (hp : p.length ≤ 4611686018427387904) :
    Calls Tryd.prog 16 #[.string (mk p)] w fun e w' => e = .returned (.tuple #[.string (mk (plainP p).1), .bool (plainP p).2]) ∧ Below w.heap.size w w' := by
  have HC := Lib.hid (rcheck_any p w hp)
  rcases read_ways p with ⟨h1, h2⟩ | ⟨h1, hl, L, hR, hP, hLl, hF⟩
  · have hm : plainP p = ([], false) := by unfold plainP; rw [h2]
    have hne : (readE p == 0) = false := by simpa using h1
    rw [hm]
    generalize readE p = r at *
    clear hp h1 h2 hm
    go_enter Tryd.func16, Tryd.ntmps16
    go_wp2_with (go_at_call 12; refine HC.out.mono ?_; rintro e w' ⟨rfl, hb⟩; have HB := Lib.hid hb; clear hb)
    go_ret2
    exact ⟨rfl, HB.out⟩
  · have hm : plainP p = (if (headL (L.map Rg.sg)).length < (L.map Rg.sg).length then ([], false) else (headL (L.map Rg.sg), true)) := by unfold plainP; rw [hP]
    have hm2 : headP p = headL (L.map Rg.sg) := by unfold headP; rw [hP]
    have HHD : Hid (∀ W, Below w.heap.size w W → Calls Tryd.prog 18 #[.string (mk p)] W fun e w' => e = .returned (.string (mk (headL (L.map Rg.sg)))) ∧ Below w.heap.size w w') := by
      intro W hW
      rw [← hm2]
      exact (rhead_any p W hp).mono fun e w' ⟨h1, h2⟩ => ⟨h1, hW.trans (h2.mono hW.size)⟩
    rw [hm]
    rw [h1] at HC
    have HSG : Hid (∀ W, Below w.heap.size w W → Calls Tryd.prog 21 #[.string (mk p)] W fun e w' => ∃ u, e = .returned (.tuple #[u, .bool true]) ∧ RgAt w' u L ∧ Below w.heap.size w w') := by
      intro W hW
      refine (rsigns_any p W hl).mono ?_
      rintro e w' ⟨v, rfl, hv, hb⟩
      obtain ⟨u, rfl, ha⟩ := rdr_at hR _ _ _ hv
      exact ⟨u, rfl, ha, hW.trans (hb.mono hW.size)⟩
    have HLL : Hid (L.length ≤ 100) := by show _ ≤ _; omega
    obtain ⟨M, hM⟩ : ∃ M, M = L.map Rg.sg := ⟨_, rfl⟩
    have HM := Lib.hid hM
    have HML : Hid (M.length = L.length) := by show _ = _; rw [hM]; simp
    rw [← hM] at HHD ⊢
    obtain ⟨Q, hQ⟩ : ∃ Q, Q = (if (headL M).length < M.length then (([] : L8), false) else (headL M, true)) := ⟨_, rfl⟩
    have HQ := Lib.hid hQ
    rw [← hQ]
    clear hp h1 hl hR hP hLl hF hm hm2 hM hQ
    go_enter Tryd.func16, Tryd.ntmps16
    go_wp2_with (first
      | (go_at_call 12; refine HC.out.mono ?_; rintro e w1 ⟨rfl, hb⟩; have HB1 := Lib.hid hb; clear hb)
      | (go_at_call 21; refine (HSG.out _ HB1.out).mono ?_; rintro e w2 ⟨u, rfl, ha, hb⟩; have HA2 := Lib.hid ha; have HB2 := Lib.hid hb; obtain ⟨sa, sc, rfl, hrow⟩ := ha; have HROW := Lib.hid hrow; clear hb hrow))
    go_loopw [6] (fun i wr => ∃ k : Nat, i = .int .i64 k ∧ Hid (k ≤ L.length) ∧ Hid (∀ j x, j < k → L[j]? = some x → x.kind = 0) ∧ w2 = wr) (fun i _ => L.length - (intOf i).toNat)
    case atStart => exact ⟨0, rfl, Nat.zero_le _, (by intro j x hj; omega), rfl⟩
    case round =>
      obtain ⟨k, rfl, HKL0, HALL, rfl⟩ := hrel
      by_cases hk : k < L.length
      · have hIk : (k : Int) < (L.length : Int) := by omega
        obtain ⟨x, hx⟩ : ∃ x, L[k]? = some x := ⟨_, List.getElem?_eq_getElem hk⟩
        have hLL := HLL.out
        have hw1 : IntKind.i64.wrap ((k : Int) + 1) = (k : Int) + 1 := IntWalk.i64_in _ (by omega)
        obtain ⟨gg, rfl, hgl, hr4⟩ := HROW.out (by intro e; rw [e] at hk; simp at hk)
        have c0 := range_kind (hr4 k x hx)
        have HKL := Lib.hid hk
        by_cases hit : x.kind = 0
        · rw [hit] at c0
          have HAN : Hid (∀ j x, j < k + 1 → L[j]? = some x → x.kind = 0) := by
            intro j y hj hy
            rcases Nat.lt_or_ge j k with h | h
            · exact HALL.out j y h hy
            · have : j = k := by omega
              subst this; rw [hx] at hy; injection hy with hy; rw [← hy]; exact hit
          clear hk hx hLL hit hr4
          go_wp2
          go_roundw
          case rel => exact ⟨k + 1, by go_num, by show _ ≤ _; have := HKL.out; omega, HAN, trivial⟩
          case measure => have := HKL.out; simp [intOf]; omega
        · have HE : Hid (Q = ([], false)) := by
            show _ = _; rw [HQ.out, if_pos (headL_some (by rw [HM.out]; exact map_get hx) (by rw [sg_itself, decide_eq_false hit]))]
          have hkn : ((x.kind : Int) == 0) = false := by simpa using fun e => hit (by omega)
          clear hk hx hLL hit hr4
          go_wp2
          go_ret2
          exact ⟨by rw [HE.out]; rfl, HB2.out⟩
      · have hIk : ¬ (k : Int) < (L.length : Int) := by omega
        have HE : Hid (Q = (headL M, true)) := by
          show _ = _; rw [HQ.out, if_neg (headL_every (fun j y hy => by
            rw [HM.out, List.getElem?_map] at hy
            cases hl : L[j]? with
            | none => rw [hl] at hy; simp at hy
            | some z =>
              rw [hl] at hy; simp at hy; rw [← hy, sg_itself]
              exact decide_eq_true (HALL.out j z (by have := (List.getElem?_eq_some_iff.1 hl).1; omega) hl)))]
        clear hk
        go_wp2_with (go_at_call 18; refine (HHD.out _ HB2.out).mono ?_; rintro e w3 ⟨rfl, hb⟩; have HB3 := Lib.hid hb; clear hb)
        go_ret2
        exact ⟨by rw [HE.out]; rfl, HB3.out⟩
end Go.Proofs.YtokocfoeohddfaaDoor.Pa
namespace Go.Proofs.YtokocfoeohddfaaDoor.Pa
open Go.RowKit
set_option linter.unusedVariables false
set_option linter.unusedSimpArgs false
set_option maxRecDepth 100000

def badE : List Ru → Int
  | [] => 0
  | r :: L => if refE r.act r.pat ≠ 0 then refE r.act r.pat else badE L
def checkE (L : List Ru) : Int := if 64 < L.length then 7 else badE L
set_option maxHeartbeats 8000000 in
theorem check_rules (L : List Ru) (v : Value) (w : World) (hv : RuAt w v L) (hl : L.length ≤ 1000000 ∧ ∀ r ∈ L, r.pat.length ≤ 9223372036854775807) :
    Calls Tryd.prog 28 #[v] w fun e w' => e = .returned (.int .i64 (checkE L)) ∧ Below w.heap.size w w' := by
  obtain ⟨a, c, rfl, hrow⟩ := hv
  obtain ⟨R, hR⟩ : ∃ R, R = checkE L := ⟨_, rfl⟩
  rw [← hR]
  have HROW := Lib.hid hrow
  have HLL := Lib.hid hl.1
  have HF : Hid (∀ r ∈ L, ∀ W, Calls Tryd.prog 48 #[.agg #[.int .i64 r.act, .string (mk r.pat), .bool r.dir, .bool r.anch]] W fun e w' => e = .returned (.int .i64 (refE r.act r.pat)) ∧ Below W.heap.size W w') := fun r hr W => refused_ru r.act r.pat r.dir r.anch W (hl.2 r hr)
  clear hrow hl
  by_cases h64 : 64 < L.length
  · have hI : (64 : Int) < (L.length : Int) := by omega
    have HRR : Hid (R = 7) := by show _ = _; rw [hR]; unfold checkE; rw [if_pos h64]
    clear hR h64
    go_enter Tryd.func28, Tryd.ntmps28
    go_wp2
    go_ret
    exact ⟨by rw [HRR.out]; rfl, Below.refl _ _⟩
  · have hI : ¬ (64 : Int) < (L.length : Int) := by omega
    have H0 : Hid (R = badE (L.drop 0)) := by show _ = _; rw [hR]; unfold checkE; rw [if_neg h64]; rfl
    clear hR h64
    go_enter Tryd.func28, Tryd.ntmps28
    go_wp2
    go_loopw [11] (fun i wr => ∃ k : Nat, i = .int .i64 k ∧ Hid (k ≤ L.length) ∧ Hid (R = badE (L.drop k)) ∧ Hid (Below w.heap.size w wr)) (fun i _ => L.length - (intOf i).toNat)
    case atStart => exact ⟨0, rfl, Nat.zero_le _, H0, Below.refl _ _⟩
    case round =>
      clear H0
      obtain ⟨k, rfl, HK, HRK, HB⟩ := hrel
      by_cases hk : k < L.length
      · have hIk : (k : Int) < (L.length : Int) := by omega
        obtain ⟨r, hr⟩ : ∃ r, L[k]? = some r := ⟨_, List.getElem?_eq_getElem hk⟩
        have hLL := HLL.out
        have hw1 : IntKind.i64.wrap ((k : Int) + 1) = (k : Int) + 1 := IntWalk.i64_in _ (by omega)
        obtain ⟨g, off, ea, hg, hc⟩ := HROW.out (by intro e; rw [e] at hr; simp at hr)
        obtain ⟨c0, c1, c2, c3⟩ := hc k r hr
        have k0 := (HB.out.cell (p := ⟨g, off + k * 4, none⟩) hg).trans c0
        have k1 := (HB.out.cell (p := ⟨g, off + k * 4 + 1, none⟩) hg).trans c1
        have k2 := (HB.out.cell (p := ⟨g, off + k * 4 + 2, none⟩) hg).trans c2
        have k3 := (HB.out.cell (p := ⟨g, off + k * 4 + 3, none⟩) hg).trans c3
        have hd : L.drop k = r :: L.drop (k + 1) := by
          obtain ⟨h1, h2⟩ := List.getElem?_eq_some_iff.1 hr
          rw [List.drop_eq_getElem_cons h1, h2]
        have HRK2 : Hid (R = if refE r.act r.pat ≠ 0 then refE r.act r.pat else badE (L.drop (k + 1))) := by show _ = _; rw [HRK.out, hd, badE]
        obtain ⟨w1, hw1'⟩ : ∃ w1, w1 = wr.alloc (.cells #[.int .i64 r.act, .string (mk r.pat), .bool r.dir, .bool r.anch] 42) := ⟨_, rfl⟩
        have hb1 : Below wr.heap.size wr w1 := by rw [hw1']; exact (Below.refl _ _).alloc (Nat.le_refl _) _
        have HFT : Hid (Calls Tryd.prog 48 #[.agg #[.int .i64 r.act, .string (mk r.pat), .bool r.dir, .bool r.anch]] w1 fun e w' => e = .returned (.int .i64 (refE r.act r.pat)) ∧ Below w.heap.size w w') :=
          (HF.out r (List.mem_of_getElem? hr) w1).mono fun e w' ⟨h1, h2⟩ => ⟨h1, HB.out.trans ((hb1.trans (h2.mono hb1.size)).mono HB.out.size)⟩
        rw [hw1'] at HFT
        have HKL := Lib.hid hk
        subst ea
        clear hk hr hLL hc c0 c1 c2 c3 hd hw1' hb1 HRK
        obtain ⟨act, pat, rd, an⟩ := r
        simp only at k0 k1 k2 k3 HFT HRK2
        generalize refE act pat = er at *
        generalize mk pat = q at *
        by_cases hz : er = 0
        · subst hz
          have HRN : Hid (R = badE (L.drop (k + 1))) := by show _ = _; rw [HRK2.out, if_neg (by simp)]
          clear HRK2
          go_wp2_with (go_at_call 48; refine HFT.out.mono ?_; rintro e w3 ⟨rfl, hb3⟩; have HB3 := Lib.hid hb3; clear hb3)
          go_roundw
          case rel => exact ⟨k + 1, rfl, HKL.out, HRN, HB3⟩
          case measure => have := HKL.out; simp [intOf]; omega
        · have hne : (er == 0) = false := by simpa using hz
          have HRN : Hid (R = er) := by show _ = _; rw [HRK2.out, if_pos hz]
          clear HRK2 hz
          go_wp2_with (go_at_call 48; refine HFT.out.mono ?_; rintro e w3 ⟨rfl, hb3⟩; have HB3 := Lib.hid hb3; clear hb3)
          go_ret
          exact ⟨by rw [HRN.out]; rfl, HB3.out⟩
      · have hIk : ¬ (k : Int) < (L.length : Int) := by omega
        have HRN : Hid (R = 0) := by show _ = _; rw [HRK.out, List.drop_of_length_le (by omega)]; rfl
        clear hk HRK
        go_wp2
        go_ret
        exact ⟨by rw [HRN.out]; rfl, HB.out⟩
end Go.Proofs.YtokocfoeohddfaaDoor.Pa
namespace Go.Proofs.YtokocfoeohddfaaDoor.Pa
open Go.RowKit
set_option linter.unusedVariables false
set_option linter.unusedSimpArgs false
set_option maxRecDepth 100000

theorem mk_plus (a b : L8) : mk a ++ mk b = mk (a ++ b) := by
  have h : (mk a ++ mk b).data = (mk (a ++ b)).data := by simp [mk]
  generalize mk a ++ mk b = x at h
  generalize mk (a ++ b) = y at h
  cases x; cases y; simp_all
theorem run_plus (a b : L8) (h : a.length + b.length ≤ 4611686018427387904) (W : World) : (Op.stringOp .add (mk a) (mk b)).run Tryd.prog W = .ok (.string (mk (a ++ b))) W := by
  have ha := mk_size a
  have hb := mk_size b
  rw [run_string_add_sum W _ _ (by omega), mk_plus]
def signOf (act : Int) : L8 := (([43, 45, 80, 82] : L8).drop (act - 1).toNat).take 1
def lineOf (r : Ru) : L8 := ((signOf r.act ++ [32]) ++ (if r.anch then [47] else [])) ++ r.pat ++ (if r.dir then [47] else [])
def printR (r : Ru) : L8 × Int := if refE r.act r.pat ≠ 0 then ([], refE r.act r.pat) else (lineOf r, 0)
theorem signOf_len (act : Int) : (signOf act).length ≤ 1 := by unfold signOf; rw [List.length_take]; omega
set_option maxHeartbeats 8000000 in
theorem print_any (r : Ru) (w : World) (hl : r.pat.length ≤ 4611686018427380000) :
    Calls Tryd.prog 26 #[r.val] w fun e w' => e = .returned (.tuple #[.string (mk (printR r).1), .int .i64 (printR r).2]) ∧ Below w.heap.size w w' := by
  obtain ⟨act, pat, di, an⟩ := r
  obtain ⟨w1, hw1⟩ : ∃ w1, w1 = w.alloc (.cells #[.int .i64 act, .string (mk pat), .bool di, .bool an] 42) := ⟨_, rfl⟩
  have hr1 : w1.heap[w.heap.size]? = some (.cells #[.int .i64 act, .string (mk pat), .bool di, .bool an] 42) := by rw [hw1]; exact heap_new _ _
  have hb1 : Below w.heap.size w w1 := by rw [hw1]; exact (Below.refl _ _).alloc (Nat.le_refl _) _
  have HRF : Hid (Calls Tryd.prog 48 #[ruV act (mk pat) di an] w1 fun e w' => e = .returned (.int .i64 (refE act pat)) ∧ w'.heap[w.heap.size]? = some (.cells #[.int .i64 act, .string (mk pat), .bool di, .bool an] 42) ∧ Below w.heap.size w w') :=
    (refused_ru act pat di an w1 (by have : pat.length ≤ 4611686018427380000 := hl; omega)).mono fun e w' ⟨h1, h2⟩ => ⟨h1, (h2.block _ (Array.getElem?_eq_some_iff.1 hr1).1).trans hr1, hb1.trans (h2.mono hb1.size)⟩
  rw [hw1] at HRF
  have hlp : pat.length ≤ 4611686018427380000 := hl
  clear hl hw1 hr1 hb1
  show Calls _ _ #[ruV act (mk pat) di an] w _
  obtain ⟨R1, hR1⟩ : ∃ x, x = (printR ⟨act, pat, di, an⟩).1 := ⟨_, rfl⟩
  obtain ⟨R2, hR2⟩ : ∃ x, x = (printR ⟨act, pat, di, an⟩).2 := ⟨_, rfl⟩
  rw [← hR1, ← hR2]
  unfold printR at hR1 hR2
  simp only at hR1 hR2
  by_cases hz : refE act pat = 0
  · rw [if_neg (by simpa using hz)] at hR1 hR2
    have hact : 1 ≤ act ∧ act ≤ 4 := by
      unfold refE misE at hz
      by_cases h : act < 1 ∨ 4 < act
      · rw [if_pos h] at hz; simp at hz
      · omega
    rw [hz] at HRF
    obtain ⟨a, ha⟩ : ∃ a : Nat, act - 1 = (a : Int) := ⟨(act - 1).toNat, by omega⟩
    have hw : IntKind.i64.wrap (act - 1) = (a : Int) := by rw [ha]; exact IntWalk.i64_in _ (by omega)
    have hat : (act - 1).toNat = a := by omega
    have hxt : ∀ W, (Instr.slice 9 (.string { data := #[43, 45, 80, 82] }) (some (.int .i64 (a : Int))) none none).run Tryd.prog W = .ok (.string (mk (([43, 45, 80, 82] : L8).drop a))) W := fun W => run_tl [43, 45, 80, 82] a (by simp; omega) W
    have hxh : ∀ W, (Instr.slice 9 (.string (mk (([43, 45, 80, 82] : L8).drop a))) none (some (.int .i64 1)) none).run Tryd.prog W = .ok (.string (mk (signOf act))) W := fun W => by
      have := run_hd (([43, 45, 80, 82] : L8).drop a) 1 (by rw [List.length_drop]; simp; omega) W
      unfold signOf
      rw [hat]; exact this
    have hsl := signOf_len act
    have p1 : ∀ W, (Op.stringOp .add (mk (signOf act)) { data := #[32] }).run Tryd.prog W = .ok (.string (mk (signOf act ++ [32]))) W := fun W => run_plus (signOf act) [32] (by simp; omega) W
    have p2 : ∀ W, (Op.stringOp .add (mk (signOf act ++ [32])) { data := #[47] }).run Tryd.prog W = .ok (.string (mk ((signOf act ++ [32]) ++ [47]))) W := fun W => run_plus (signOf act ++ [32]) [47] (by simp; omega) W
    have p3 : ∀ W, (Op.stringOp .add (mk ((signOf act ++ [32]) ++ [47])) (mk pat)).run Tryd.prog W = .ok (.string (mk ((signOf act ++ [32]) ++ [47] ++ pat))) W := fun W => run_plus _ pat (by simp; omega) W
    have p4 : ∀ W, (Op.stringOp .add (mk (signOf act ++ [32])) (mk pat)).run Tryd.prog W = .ok (.string (mk ((signOf act ++ [32]) ++ pat))) W := fun W => run_plus _ pat (by simp; omega) W
    have p5 : ∀ W, (Op.stringOp .add (mk ((signOf act ++ [32]) ++ [47] ++ pat)) { data := #[47] }).run Tryd.prog W = .ok (.string (mk ((signOf act ++ [32]) ++ [47] ++ pat ++ [47]))) W := fun W => run_plus _ [47] (by simp; omega) W
    have p6 : ∀ W, (Op.stringOp .add (mk ((signOf act ++ [32]) ++ pat)) { data := #[47] }).run Tryd.prog W = .ok (.string (mk ((signOf act ++ [32]) ++ pat ++ [47]))) W := fun W => run_plus _ [47] (by simp; omega) W
    unfold lineOf at hR1
    simp only at hR1 hR2
    have HR2 : Hid (R2 = 0) := hR2
    have fin : ∀ x, x = R1 → ∀ w3, Below w.heap.size w w3 → (Ending.returned (.tuple #[.string (mk x), .int .i64 0]) = .returned (.tuple #[.string (mk R1), .int .i64 R2]) ∧ Below w.heap.size w w3) := fun x hx w3 hb => ⟨by rw [hx, hR2], hb⟩
    clear hz hat hsl hlp hact ha hR2
    generalize mk (([43, 45, 80, 82] : L8).drop a) = z0 at *
    generalize hz1 : mk (signOf act) = z1 at *
    cases an <;> cases di <;> simp only [if_pos, if_neg, Bool.false_eq_true, if_false, if_true, List.append_nil] at hR1
    all_goals
      have HF := Lib.hid (fin _ hR1.symm)
      clear fin hR1 HR2 hz1
      generalize mk (signOf act ++ [32] ++ [47] ++ pat ++ [47]) = y1 at *
      generalize mk (signOf act ++ [32] ++ [47] ++ pat) = y2 at *
      generalize mk (signOf act ++ [32] ++ pat ++ [47]) = y3 at *
      generalize mk (signOf act ++ [32] ++ pat) = y4 at *
      generalize mk (signOf act ++ [32] ++ [47]) = y5 at *
      generalize mk (signOf act ++ [32]) = y6 at *
      generalize mk pat = q at *
      go_enter Tryd.func26, Tryd.ntmps26
      go_wp2_with (go_at_call 48; refine HRF.out.mono ?_; rintro e w3 ⟨rfl, hr, hb⟩; obtain ⟨⟨k0, k1, k2, k3⟩, -⟩ := cells4 hr; have HB := Lib.hid hb; clear hb hr)
      go_ret2
      exact HF.out _ HB.out
  · rw [if_pos hz] at hR1 hR2
    have hne : (refE act pat == 0) = false := by simpa using hz
    have HF : Hid (R1 = [] ∧ R2 = refE act pat) := ⟨hR1, hR2⟩
    clear hz hlp hR1 hR2
    generalize refE act pat = er at *
    generalize mk pat = q at *
    go_enter Tryd.func26, Tryd.ntmps26
    go_wp2_with (go_at_call 48; refine HRF.out.mono ?_; rintro e w3 ⟨rfl, hr, hb⟩; have HB := Lib.hid hb; clear hb hr)
    try simp only [Exit.inBlock, Exit.then]
    go_ret2
    exact ⟨by rw [HF.out.1, HF.out.2]; rfl, HB.out⟩
end Go.Proofs.YtokocfoeohddfaaDoor.Pa
namespace Go.Proofs.YtokocfoeohddfaaDoor.Pa
open Go.RowKit
set_option linter.unusedVariables false
set_option linter.unusedSimpArgs false
set_option maxRecDepth 100000

set_option maxHeartbeats 8000000 in
theorem rone_any (act : Int) (l : L8) (dir anch : Bool) (w : World) (hl : l.length ≤ 4611686018427387000) :
    Calls Tryd.prog 49 #[ruV act (mk l) dir anch] w fun e w' => e = .returned (.int .i64 (refE act l)) ∧ Below w.heap.size w w' := by
  have hs : (mk l).size = l.length := mk_size l
  have HZ := Lib.hid hs
  obtain ⟨R, hR⟩ : ∃ R, R = refE act l := ⟨_, rfl⟩
  rw [← hR]
  have HR := Lib.hid hR
  have HB : Hid (Below w.heap.size w (w.alloc (.cells #[.int .i64 act, .string (mk l), .bool dir, .bool anch] 42))) := (Below.refl _ _).alloc (Nat.le_refl _) _
  have HCK : Hid (∀ W, Below w.heap.size w W → Calls Tryd.prog 12 #[.string (mk l)] W fun e w' => e = .returned (.int .i64 (readE l)) ∧ Below w.heap.size w w') := fun W hW => (rcheck_any l W (by omega)).mono fun e w' ⟨h1, h2⟩ => ⟨h1, hW.trans (h2.mono hW.size)⟩
  have HM : Hid (misE act l ≠ 0 → R = misE act l) := fun h => by show _ = _; rw [HR.out]; unfold refE; rw [if_pos h]
  have HLN : Hid (l.length ≤ 4611686018427387000) := hl
  clear hR
  by_cases ha : act < 1
  · have hD : decide (act < 1) = true := decide_eq_true ha
    have HF : Hid (R = 2) := by
      have e : misE act l = 2 := by unfold misE; rw [if_pos (.inl ha)]
      show _ = _; rw [HM.out (by rw [e]; omega), e]
    clear hs hl
    generalize mk l = p at *
    go_enter Tryd.func49, Tryd.ntmps49
    go_wp2
    go_ret
    exact ⟨by rw [HF.out]; rfl, HB.out⟩
  · have hD : decide (act < 1) = false := decide_eq_false ha
    by_cases hb : 4 < act
    · have hD2 : decide (4 < act) = true := decide_eq_true hb
      have HF : Hid (R = 2) := by
        have e : misE act l = 2 := by unfold misE; rw [if_pos (.inr hb)]
        show _ = _; rw [HM.out (by rw [e]; omega), e]
      clear hs hl
      generalize mk l = p at *
      go_enter Tryd.func49, Tryd.ntmps49
      go_wp2
      go_ret
      exact ⟨by rw [HF.out]; rfl, HB.out⟩
    · have hD2 : decide (4 < act) = false := decide_eq_false hb
      have HE : Hid (misE act l = if bad l then 5 else 0) := by show _ = _; unfold misE; rw [if_neg (by omega)]
      have HF5 : Hid (bad l → R = 5) := fun h => by
        have e : misE act l = 5 := by rw [HE.out, if_pos h]
        rw [HM.out (by rw [e]; omega), e]
      have HF0 : Hid (¬ bad l → R = readE l) := fun h => by
        have e : misE act l = 0 := by rw [HE.out, if_neg h]
        rw [HR.out]; unfold refE; rw [if_neg (by rw [e]; simp)]
      by_cases hn : l = []
      · have HF : Hid (R = 5) := HF5.out (.inl hn)
        have hz0 : (((mk l).size : Int) == 0) = true := by rw [hs, hn]; rfl
        have hz1 : ((mk l).size : Int) = 0 := by rw [hs, hn]; rfl
        clear hs hl hn
        generalize mk l = p at *
        go_enter Tryd.func49, Tryd.ntmps49
        go_wp2
        go_ret
        exact ⟨by rw [HF.out]; rfl, HB.out⟩
      · have hpos : 0 < l.length := by cases l with
          | nil => exact absurd rfl hn
          | cons c r => simp
        have hz0 : (((mk l).size : Int) == 0) = false := by rw [hs]; simpa using fun e => hn e
        have hz1 : ¬ ((mk l).size : Int) = 0 := by rw [hs]; omega
        have hsp : (0 : Int) < ((mk l).size : Int) := by rw [hs]; omega
        have hx0 := run_at l 0 hpos
        simp only [Int.cast_ofNat_Int] at hx0
        have hxl := run_at l (l.length - 1) (by omega)
        have hsub : IntKind.i64.wrap (((mk l).size : Int) - 1) = ((l.length - 1 : Nat) : Int) := by rw [hs, IntWalk.i64_in _ (by omega)]; omega
        obtain ⟨b0, hb0⟩ : ∃ b, b = nb l 0 := ⟨_, rfl⟩
        obtain ⟨b1, hb1⟩ : ∃ b, b = nb l (l.length - 1) := ⟨_, rfl⟩
        rw [bt_nb, ← hb0] at hx0
        rw [bt_nb, ← hb1] at hxl
        obtain ⟨k, hk⟩ : ∃ k, k = l.length - 1 := ⟨_, rfl⟩
        rw [← hk] at hxl hsub
        have hks : (k : Int) < ((mk l).size : Int) := by rw [hs]; omega
        by_cases h47 : b0 = 47
        · have HF : Hid (R = 5) := HF5.out (.inr (.inl (hb0.symm.trans h47)))
          have hq47 : ((b0 : Int) == 47) = true := by rw [h47]; rfl
          clear hs hl hn hpos hb0 hb1 hk h47
          generalize mk l = p at *
          go_enter Tryd.func49, Tryd.ntmps49
          go_wp2
          go_ret
          exact ⟨by rw [HF.out]; rfl, HB.out⟩
        · have hq0 : (((b0 : Nat) : Int) == 47) = false := by simpa using fun e => h47 (by omega)
          by_cases h47b : b1 = 47
          · have HF : Hid (R = 5) := HF5.out (.inr (.inr (.inl (hb1.symm.trans h47b))))
            have hq47 : ((b1 : Int) == 47) = true := by rw [h47b]; rfl
            clear hs hl hn hpos hb0 hb1 hk h47 h47b
            generalize mk l = p at *
            go_enter Tryd.func49, Tryd.ntmps49
            go_wp2
            go_ret
            exact ⟨by rw [HF.out]; rfl, HB.out⟩
          · have hq1 : (((b1 : Nat) : Int) == 47) = false := by simpa using fun e => h47b (by omega)
            have HNB : Hid ((10 : UInt8) ∉ l → ¬ bad l) := fun h => by
              rintro (h' | h' | h' | h')
              · exact hn h'
              · exact h47 (hb0.trans h')
              · exact h47b (hb1.trans h')
              · exact h h'
            have H10 : Hid ((10 : UInt8) ∈ l → bad l) := fun h => .inr (.inr (.inr h))
            have hc1 : (w.alloc (.cells #[.int .i64 act, .string (mk l), .bool dir, .bool anch] 42)).cell? ⟨w.heap.size, 1, none⟩ = some (.string (mk l)) := by
              rw [cell_of_row _ _ 1 _ _ (0, 0) (heap_new _ _)]; rfl
            have HC1 := Lib.hid hc1
            clear hs hl hn hpos hb0 hb1 hk h47 h47b hc1
            go_enter Tryd.func49, Tryd.ntmps49
            go_wp2
            go_loopw [4] (fun v wr => ∃ i : Nat, v = .int .i64 i ∧ Hid (i ≤ l.length) ∧ Hid ((10 : UInt8) ∉ l.take i) ∧ Hid (Below w.heap.size w wr) ∧ Hid (wr.cell? ⟨w.heap.size, 1, none⟩ = some (.string (mk l)))) (fun v _ => l.length - (intOf v).toNat)
            case atStart => exact ⟨0, rfl, Nat.zero_le _, by show _ ∉ _; simp, HB, HC1⟩
            case round =>
              clear HC1 HB
              obtain ⟨i, rfl, HI, HNI, HB, HC1⟩ := hrel
              have hc1 := HC1.out
              by_cases hi : i < l.length
              · have hIi : (i : Int) < ((mk l).size : Int) := by rw [HZ.out]; omega
                have hx := run_at l i hi
                have hw1 : IntKind.i64.wrap ((i : Int) + 1) = (i : Int) + 1 := IntWalk.i64_in _ (by have := HLN.out; omega)
                obtain ⟨c, hc, hcn⟩ := take_nb hi
                by_cases h10 : nb l i = 10
                · have hb10 : bt l i = 10 := by rw [bt_nb, h10]; rfl
                  rw [hb10] at hx
                  have HF : Hid (R = 5) := HF5.out (H10.out (by
                    have e : c = 10 := UInt8.toNat_inj.1 (by rw [hcn, h10]; rfl)
                    have : c ∈ l.take (i + 1) := by rw [hc]; simp
                    rw [e] at this
                    exact List.mem_of_mem_take this))
                  clear hi h10 hb10 hc hcn
                  go_wp2
                  go_ret
                  exact ⟨by rw [HF.out]; rfl, HB.out⟩
                · have hq : (bt l i == 10) = false := bt_ne (n := 10) h10
                  have HNN : Hid ((10 : UInt8) ∉ l.take (i + 1)) := by
                    show _ ∉ _
                    rw [hc, List.mem_append]
                    rintro (h | h)
                    · exact HNI.out h
                    · simp at h
                      rw [← h] at hcn
                      exact h10 (by rw [← hcn]; rfl)
                  have HIL : Hid (i < l.length) := hi
                  generalize bt l i = cc at *
                  clear hi h10 hc hcn
                  go_wp2
                  go_roundw
                  case rel => exact ⟨i + 1, by go_num, by show _ ≤ _; have := HIL.out; omega, HNN, HB, HC1⟩
                  case measure => have := HIL.out; simp [intOf]; omega
              · have hIi : ¬ (i : Int) < ((mk l).size : Int) := by rw [HZ.out]; omega
                have hie : i = l.length := by have := HI.out; omega
                have hni := HNI.out
                rw [hie, List.take_length] at hni
                have HF : Hid (R = readE l) := HF0.out (HNB.out hni)
                have HC2 := Lib.hid (HCK.out _ HB.out)
                clear hi hie hni
                go_wp2_with (go_at_call 12; refine HC2.out.mono ?_; rintro e w3 ⟨rfl, hb⟩; have HB3 := Lib.hid hb; clear hb)
                go_ret
                exact ⟨by rw [HF.out]; rfl, HB3.out⟩
set_option maxHeartbeats 8000000 in
theorem rcheckR_any (L : List Ru) (v : Value) (w : World) (hv : RuAt w v L) (hl : L.length ≤ 1000000 ∧ ∀ r ∈ L, r.pat.length ≤ 4611686018427387000) :
    Calls Tryd.prog 29 #[v] w fun e w' => e = .returned (.int .i64 (checkE L)) ∧ Below w.heap.size w w' := by
  obtain ⟨a, c, rfl, hrow⟩ := hv
  obtain ⟨R, hR⟩ : ∃ R, R = checkE L := ⟨_, rfl⟩
  rw [← hR]
  have HROW := Lib.hid hrow
  have HLL := Lib.hid hl.1
  have HF : Hid (∀ r ∈ L, ∀ W, Calls Tryd.prog 49 #[.agg #[.int .i64 r.act, .string (mk r.pat), .bool r.dir, .bool r.anch]] W fun e w' => e = .returned (.int .i64 (refE r.act r.pat)) ∧ Below W.heap.size W w') := fun r hr W => rone_any r.act r.pat r.dir r.anch W (hl.2 r hr)
  clear hrow hl
  by_cases h64 : 64 < L.length
  · have hI : (64 : Int) < (L.length : Int) := by omega
    have HRR : Hid (R = 7) := by show _ = _; rw [hR]; unfold checkE; rw [if_pos h64]
    clear hR h64
    go_enter Tryd.func29, Tryd.ntmps29
    go_wp2
    go_ret
    exact ⟨by rw [HRR.out]; rfl, Below.refl _ _⟩
  · have hI : ¬ (64 : Int) < (L.length : Int) := by omega
    have H0 : Hid (R = badE (L.drop 0)) := by show _ = _; rw [hR]; unfold checkE; rw [if_neg h64]; rfl
    clear hR h64
    go_enter Tryd.func29, Tryd.ntmps29
    go_wp2
    go_loopw [11] (fun i wr => ∃ k : Nat, i = .int .i64 k ∧ Hid (k ≤ L.length) ∧ Hid (R = badE (L.drop k)) ∧ Hid (Below w.heap.size w wr)) (fun i _ => L.length - (intOf i).toNat)
    case atStart => exact ⟨0, rfl, Nat.zero_le _, H0, Below.refl _ _⟩
    case round =>
      clear H0
      obtain ⟨k, rfl, HK, HRK, HB⟩ := hrel
      by_cases hk : k < L.length
      · have hIk : (k : Int) < (L.length : Int) := by omega
        obtain ⟨r, hr⟩ : ∃ r, L[k]? = some r := ⟨_, List.getElem?_eq_getElem hk⟩
        have hLL := HLL.out
        have hw1 : IntKind.i64.wrap ((k : Int) + 1) = (k : Int) + 1 := IntWalk.i64_in _ (by omega)
        obtain ⟨g, off, ea, hg, hc⟩ := HROW.out (by intro e; rw [e] at hr; simp at hr)
        obtain ⟨c0, c1, c2, c3⟩ := hc k r hr
        have k0 := (HB.out.cell (p := ⟨g, off + k * 4, none⟩) hg).trans c0
        have k1 := (HB.out.cell (p := ⟨g, off + k * 4 + 1, none⟩) hg).trans c1
        have k2 := (HB.out.cell (p := ⟨g, off + k * 4 + 2, none⟩) hg).trans c2
        have k3 := (HB.out.cell (p := ⟨g, off + k * 4 + 3, none⟩) hg).trans c3
        have hd : L.drop k = r :: L.drop (k + 1) := by
          obtain ⟨h1, h2⟩ := List.getElem?_eq_some_iff.1 hr
          rw [List.drop_eq_getElem_cons h1, h2]
        have HRK2 : Hid (R = if refE r.act r.pat ≠ 0 then refE r.act r.pat else badE (L.drop (k + 1))) := by show _ = _; rw [HRK.out, hd, badE]
        obtain ⟨w1, hw1'⟩ : ∃ w1, w1 = wr.alloc (.cells #[.int .i64 r.act, .string (mk r.pat), .bool r.dir, .bool r.anch] 42) := ⟨_, rfl⟩
        have hb1 : Below wr.heap.size wr w1 := by rw [hw1']; exact (Below.refl _ _).alloc (Nat.le_refl _) _
        have HFT : Hid (Calls Tryd.prog 49 #[.agg #[.int .i64 r.act, .string (mk r.pat), .bool r.dir, .bool r.anch]] w1 fun e w' => e = .returned (.int .i64 (refE r.act r.pat)) ∧ Below w.heap.size w w') :=
          (HF.out r (List.mem_of_getElem? hr) w1).mono fun e w' ⟨h1, h2⟩ => ⟨h1, HB.out.trans ((hb1.trans (h2.mono hb1.size)).mono HB.out.size)⟩
        rw [hw1'] at HFT
        have HKL := Lib.hid hk
        subst ea
        clear hk hr hLL hc c0 c1 c2 c3 hd hw1' hb1 HRK
        obtain ⟨act, pat, rd, an⟩ := r
        simp only at k0 k1 k2 k3 HFT HRK2
        generalize refE act pat = er at *
        generalize mk pat = q at *
        by_cases hz : er = 0
        · subst hz
          have HRN : Hid (R = badE (L.drop (k + 1))) := by show _ = _; rw [HRK2.out, if_neg (by simp)]
          clear HRK2
          go_wp2_with (go_at_call 49; refine HFT.out.mono ?_; rintro e w3 ⟨rfl, hb3⟩; have HB3 := Lib.hid hb3; clear hb3)
          go_roundw
          case rel => exact ⟨k + 1, rfl, HKL.out, HRN, HB3⟩
          case measure => have := HKL.out; simp [intOf]; omega
        · have hne : (er == 0) = false := by simpa using hz
          have HRN : Hid (R = er) := by show _ = _; rw [HRK2.out, if_pos hz]
          clear HRK2 hz
          go_wp2_with (go_at_call 49; refine HFT.out.mono ?_; rintro e w3 ⟨rfl, hb3⟩; have HB3 := Lib.hid hb3; clear hb3)
          go_ret
          exact ⟨by rw [HRN.out]; rfl, HB3.out⟩
      · have hIk : ¬ (k : Int) < (L.length : Int) := by omega
        have HRN : Hid (R = 0) := by show _ = _; rw [HRK.out, List.drop_of_length_le (by omega)]; rfl
        clear hk HRK
        go_wp2
        go_ret
        exact ⟨by rw [HRN.out]; rfl, HB.out⟩
set_option maxHeartbeats 8000000 in
theorem rprint_any (r : Ru) (w : World) (hl : r.pat.length ≤ 4611686018427380000) :
    Calls Tryd.prog 27 #[r.val] w fun e w' => e = .returned (.tuple #[.string (mk (printR r).1), .int .i64 (printR r).2]) ∧ Below w.heap.size w w' := by
  obtain ⟨act, pat, di, an⟩ := r
  obtain ⟨w1, hw1⟩ : ∃ w1, w1 = w.alloc (.cells #[.int .i64 act, .string (mk pat), .bool di, .bool an] 42) := ⟨_, rfl⟩
  have hr1 : w1.heap[w.heap.size]? = some (.cells #[.int .i64 act, .string (mk pat), .bool di, .bool an] 42) := by rw [hw1]; exact heap_new _ _
  have hb1 : Below w.heap.size w w1 := by rw [hw1]; exact (Below.refl _ _).alloc (Nat.le_refl _) _
  have HRF : Hid (Calls Tryd.prog 49 #[ruV act (mk pat) di an] w1 fun e w' => e = .returned (.int .i64 (refE act pat)) ∧ w'.heap[w.heap.size]? = some (.cells #[.int .i64 act, .string (mk pat), .bool di, .bool an] 42) ∧ Below w.heap.size w w') :=
    (rone_any act pat di an w1 (by have : pat.length ≤ 4611686018427380000 := hl; omega)).mono fun e w' ⟨h1, h2⟩ => ⟨h1, (h2.block _ (Array.getElem?_eq_some_iff.1 hr1).1).trans hr1, hb1.trans (h2.mono hb1.size)⟩
  rw [hw1] at HRF
  have hlp : pat.length ≤ 4611686018427380000 := hl
  clear hl hw1 hr1 hb1
  show Calls _ _ #[ruV act (mk pat) di an] w _
  obtain ⟨R1, hR1⟩ : ∃ x, x = (printR ⟨act, pat, di, an⟩).1 := ⟨_, rfl⟩
  obtain ⟨R2, hR2⟩ : ∃ x, x = (printR ⟨act, pat, di, an⟩).2 := ⟨_, rfl⟩
  rw [← hR1, ← hR2]
  unfold printR at hR1 hR2
  simp only at hR1 hR2
  by_cases hz : refE act pat = 0
  · rw [if_neg (by simpa using hz)] at hR1 hR2
    have hact : 1 ≤ act ∧ act ≤ 4 := by
      unfold refE misE at hz
      by_cases h : act < 1 ∨ 4 < act
      · rw [if_pos h] at hz; simp at hz
      · omega
    rw [hz] at HRF
    obtain ⟨a, ha⟩ : ∃ a : Nat, act - 1 = (a : Int) := ⟨(act - 1).toNat, by omega⟩
    have hw : IntKind.i64.wrap (act - 1) = (a : Int) := by rw [ha]; exact IntWalk.i64_in _ (by omega)
    have hat : (act - 1).toNat = a := by omega
    have hxt : ∀ W, (Instr.slice 9 (.string { data := #[43, 45, 80, 82] }) (some (.int .i64 (a : Int))) (some (.int .i64 act)) none).run Tryd.prog W = .ok (.string (mk (signOf act))) W := fun W => by
      have h := run_sub [43, 45, 80, 82] a (a + 1) (by omega) (by simp; omega) W
      rw [Nat.add_sub_cancel_left, show ((a + 1 : Nat) : Int) = act from by omega] at h
      unfold signOf
      rw [hat]; exact h
    have hsl := signOf_len act
    have p1 : ∀ W, (Op.stringOp .add (mk (signOf act)) { data := #[32] }).run Tryd.prog W = .ok (.string (mk (signOf act ++ [32]))) W := fun W => run_plus (signOf act) [32] (by simp; omega) W
    have p2 : ∀ W, (Op.stringOp .add (mk (signOf act ++ [32])) { data := #[47] }).run Tryd.prog W = .ok (.string (mk ((signOf act ++ [32]) ++ [47]))) W := fun W => run_plus (signOf act ++ [32]) [47] (by simp; omega) W
    have p3 : ∀ W, (Op.stringOp .add (mk ((signOf act ++ [32]) ++ [47])) (mk pat)).run Tryd.prog W = .ok (.string (mk ((signOf act ++ [32]) ++ [47] ++ pat))) W := fun W => run_plus _ pat (by simp; omega) W
    have p4 : ∀ W, (Op.stringOp .add (mk (signOf act ++ [32])) (mk pat)).run Tryd.prog W = .ok (.string (mk ((signOf act ++ [32]) ++ pat))) W := fun W => run_plus _ pat (by simp; omega) W
    have p5 : ∀ W, (Op.stringOp .add (mk ((signOf act ++ [32]) ++ [47] ++ pat)) { data := #[47] }).run Tryd.prog W = .ok (.string (mk ((signOf act ++ [32]) ++ [47] ++ pat ++ [47]))) W := fun W => run_plus _ [47] (by simp; omega) W
    have p6 : ∀ W, (Op.stringOp .add (mk ((signOf act ++ [32]) ++ pat)) { data := #[47] }).run Tryd.prog W = .ok (.string (mk ((signOf act ++ [32]) ++ pat ++ [47]))) W := fun W => run_plus _ [47] (by simp; omega) W
    unfold lineOf at hR1
    simp only at hR1 hR2
    have HR2 : Hid (R2 = 0) := hR2
    have fin : ∀ x, x = R1 → ∀ w3, Below w.heap.size w w3 → (Ending.returned (.tuple #[.string (mk x), .int .i64 0]) = .returned (.tuple #[.string (mk R1), .int .i64 R2]) ∧ Below w.heap.size w w3) := fun x hx w3 hb => ⟨by rw [hx, hR2], hb⟩
    clear hz hat hsl hlp hact ha hR2
    generalize hz1 : mk (signOf act) = z1 at *
    cases an <;> cases di <;> simp only [if_pos, if_neg, Bool.false_eq_true, if_false, if_true, List.append_nil] at hR1
    all_goals
      have HF := Lib.hid (fin _ hR1.symm)
      clear fin hR1 HR2 hz1
      generalize mk (signOf act ++ [32] ++ [47] ++ pat ++ [47]) = y1 at *
      generalize mk (signOf act ++ [32] ++ [47] ++ pat) = y2 at *
      generalize mk (signOf act ++ [32] ++ pat ++ [47]) = y3 at *
      generalize mk (signOf act ++ [32] ++ pat) = y4 at *
      generalize mk (signOf act ++ [32] ++ [47]) = y5 at *
      generalize mk (signOf act ++ [32]) = y6 at *
      generalize mk pat = q at *
      go_enter Tryd.func27, Tryd.ntmps27
      go_wp2_with (go_at_call 49; refine HRF.out.mono ?_; rintro e w3 ⟨rfl, hr, hb⟩; obtain ⟨⟨k0, k1, k2, k3⟩, -⟩ := cells4 hr; have HB := Lib.hid hb; clear hb hr)
      go_ret2
      exact HF.out _ HB.out
  · rw [if_pos hz] at hR1 hR2
    have hne : (refE act pat == 0) = false := by simpa using hz
    have HF : Hid (R1 = [] ∧ R2 = refE act pat) := ⟨hR1, hR2⟩
    clear hz hlp hR1 hR2
    generalize refE act pat = er at *
    generalize mk pat = q at *
    go_enter Tryd.func27, Tryd.ntmps27
    go_wp2_with (go_at_call 49; refine HRF.out.mono ?_; rintro e w3 ⟨rfl, hr, hb⟩; have HB := Lib.hid hb; clear hb hr)
    try simp only [Exit.inBlock, Exit.then]
    go_ret2
    exact ⟨by rw [HF.out.1, HF.out.2]; rfl, HB.out⟩
end Go.Proofs.YtokocfoeohddfaaDoor.Pa
namespace Go.Proofs.YtokocfoeohddfaaDoor.Pa
open Go.RowKit
set_option linter.unusedVariables false
set_option linter.unusedSimpArgs false
set_option maxRecDepth 100000

theorem bat_keep {B b : Nat} {p : Value} {bs : List Value} {w w' : World} (h : Lib.BuilderAt 64 5 B b p bs w) (hb : Below w.heap.size w w') : Lib.BuilderAt 64 5 B b p bs w' := by
  obtain ⟨hB, v, hbk, hown, hne⟩ := h
  exact ⟨hB, v, (hb.block _ (Array.getElem?_eq_some_iff.1 hbk).1).trans hbk, (KeepCD.below hb).row hown, hne⟩
theorem bld_keep {B b : Nat} {bs : List Value} {w w' : World} (h : Bld B b bs w) (hb : Below w.heap.size w w') : Bld B b bs w' := by
  rcases h with h | h
  · exact .inl (bat_keep h hb)
  · exact .inr (bat_keep h hb)
theorem cells_app (a b : L8) : Lib.byteCells (a ++ b) = Lib.byteCells a ++ Lib.byteCells b := by simp [Lib.byteCells]
/-- the lines so far, and those of the rest; or what is wrong first -/
def textGo : L8 → List Ru → L8 × Int
  | acc, [] => (acc, 0)
  | acc, r :: L => if refE r.act r.pat ≠ 0 then ([], refE r.act r.pat) else textGo (acc ++ lineOf r ++ [10]) L
def textR (L : List Ru) : L8 × Int := if 64 < L.length then ([], 7) else textGo [] L
theorem lineOf_len (r : Ru) : (lineOf r).length ≤ r.pat.length + 4 := by
  unfold lineOf
  have := signOf_len r.act
  simp only [List.length_append, List.length_cons, List.length_nil]
  split <;> split <;> simp <;> omega
set_option maxHeartbeats 8000000 in
theorem text_any (L : List Ru) (v : Value) (w : World) (hv : RuAt w v L) (hl : ∀ r ∈ L, r.pat.length ≤ 1000000) :
    Calls Tryd.prog 24 #[v] w fun e w' => e = .returned (.tuple #[.string (mk (textR L).1), .int .i64 (textR L).2]) ∧ Below w.heap.size w w' := by
  obtain ⟨a, c, rfl, hrow⟩ := hv
  obtain ⟨R1, hR1⟩ : ∃ R, R = (textR L).1 := ⟨_, rfl⟩
  obtain ⟨R2, hR2⟩ : ∃ R, R = (textR L).2 := ⟨_, rfl⟩
  rw [← hR1, ← hR2]
  have HRR : Hid (textR L = (R1, R2)) := by show _ = _; rw [hR1, hR2]
  have HROW := Lib.hid hrow
  have HPL := Lib.hid hl
  have HPR : Hid (∀ r ∈ L, ∀ W, Calls Tryd.prog 26 #[.agg #[.int .i64 r.act, .string (mk r.pat), .bool r.dir, .bool r.anch]] W fun e w' => e = .returned (.tuple #[.string (mk (printR r).1), .int .i64 (printR r).2]) ∧ Below W.heap.size W w') := fun r hr W => print_any r W (by have := hl r hr; omega)
  clear hrow hl hR1 hR2
  by_cases h64 : 64 < L.length
  · have hI : (64 : Int) < (L.length : Int) := by omega
    have hrr := HRR.out
    unfold textR at hrr
    rw [if_pos h64] at hrr
    injection hrr with e1 e2
    subst e1 e2
    clear h64
    go_enter Tryd.func24, Tryd.ntmps24
    go_wp2
    go_ret2
    exact ⟨rfl, Below.refl _ _⟩
  · have hI : ¬ (64 : Int) < (L.length : Int) := by omega
    have H0 : Hid (textGo [] (L.drop 0) = (R1, R2)) := by show _ = _; rw [← HRR.out]; unfold textR; rw [if_neg h64]; rfl
    have HLL : Hid (L.length ≤ 64) := by show _ ≤ _; omega
    have HB0 : Hid (Bld w.heap.size w.heap.size (Lib.byteCells []) (w.alloc (.cells #[.pointer none, .slice none 0 0] 64))) := bld_new w
    have HL0 : Hid (Below w.heap.size w (w.alloc (.cells #[.pointer none, .slice none 0 0] 64))) := (Below.refl _ _).alloc (Nat.le_refl _) _
    clear h64 HRR
    go_enter Tryd.func24, Tryd.ntmps24
    go_wp2
    go_loopw [14] (fun i wr => ∃ (k : Nat) (acc : L8), i = .int .i64 k ∧ Hid (k ≤ L.length) ∧ Hid (textGo acc (L.drop k) = (R1, R2)) ∧ Hid (acc.length ≤ k * 1000005) ∧ Hid (Bld w.heap.size w.heap.size (Lib.byteCells acc) wr) ∧ Hid (Below w.heap.size w wr)) (fun i _ => L.length - (intOf i).toNat)
    case atStart => exact ⟨0, [], rfl, Nat.zero_le _, H0, Nat.zero_le _, HB0, HL0⟩
    case round =>
      clear H0 HB0 HL0
      obtain ⟨k, acc, rfl, HK, HRK, HAC, HBD, HB⟩ := hrel
      by_cases hk : k < L.length
      · have hIk : (k : Int) < (L.length : Int) := by omega
        obtain ⟨r, hr⟩ : ∃ r, L[k]? = some r := ⟨_, List.getElem?_eq_getElem hk⟩
        have hw1 : IntKind.i64.wrap ((k : Int) + 1) = (k : Int) + 1 := IntWalk.i64_in _ (by have := HLL.out; omega)
        obtain ⟨g, off, ea, hg, hc⟩ := HROW.out (by intro e; rw [e] at hr; simp at hr)
        obtain ⟨c0, c1, c2, c3⟩ := hc k r hr
        have k0 := (HB.out.cell (p := ⟨g, off + k * 4, none⟩) hg).trans c0
        have k1 := (HB.out.cell (p := ⟨g, off + k * 4 + 1, none⟩) hg).trans c1
        have k2 := (HB.out.cell (p := ⟨g, off + k * 4 + 2, none⟩) hg).trans c2
        have k3 := (HB.out.cell (p := ⟨g, off + k * 4 + 3, none⟩) hg).trans c3
        have hd : L.drop k = r :: L.drop (k + 1) := by
          obtain ⟨h1, h2⟩ := List.getElem?_eq_some_iff.1 hr
          rw [List.drop_eq_getElem_cons h1, h2]
        have HRK2 : Hid ((if refE r.act r.pat ≠ 0 then ([], refE r.act r.pat) else textGo (acc ++ lineOf r ++ [10]) (L.drop (k + 1))) = (R1, R2)) := by show _ = _; rw [← HRK.out, hd, textGo]
        obtain ⟨w1, hw1'⟩ : ∃ w1, w1 = wr.alloc (.cells #[.int .i64 r.act, .string (mk r.pat), .bool r.dir, .bool r.anch] 42) := ⟨_, rfl⟩
        have hb1 : Below wr.heap.size wr w1 := by rw [hw1']; exact (Below.refl _ _).alloc (Nat.le_refl _) _
        have HFT : Hid (Calls Tryd.prog 26 #[.agg #[.int .i64 r.act, .string (mk r.pat), .bool r.dir, .bool r.anch]] w1 fun e w' => e = .returned (.tuple #[.string (mk (printR r).1), .int .i64 (printR r).2]) ∧ Bld w.heap.size w.heap.size (Lib.byteCells acc) w' ∧ Below w.heap.size w w') :=
          (HPR.out r (List.mem_of_getElem? hr) w1).mono fun e w' ⟨h1, h2⟩ => ⟨h1, bld_keep HBD.out (hb1.trans (h2.mono hb1.size)), HB.out.trans ((hb1.trans (h2.mono hb1.size)).mono HB.out.size)⟩
        rw [hw1'] at HFT
        have HKL := Lib.hid hk
        have hpl : r.pat.length ≤ 1000000 := HPL.out r (List.mem_of_getElem? hr)
        have hll := lineOf_len r
        have hln : (lineOf r).length ≤ 1000004 := by omega
        have HLN := Lib.hid hln
        subst ea
        clear hk hr hc c0 c1 c2 c3 hd hw1' hb1 HRK hpl hll hln
        by_cases hz : refE r.act r.pat = 0
        · have hpr : printR r = (lineOf r, 0) := by unfold printR; rw [if_neg (by simpa using hz)]
          rw [hpr] at HFT
          have HRN : Hid (textGo (acc ++ lineOf r ++ [10]) (L.drop (k + 1)) = (R1, R2)) := by show _ = _; rw [← HRK2.out, if_neg (by simpa using hz)]
          have HSZ : Hid ((mk (lineOf r)).size = (lineOf r).length) := mk_size _
          have HWS : Hid (∀ W, Bld w.heap.size w.heap.size (Lib.byteCells acc) W → Below w.heap.size w W → Calls Tryd.prog 47 #[.pointer (some ⟨w.heap.size, 0, none⟩), .string (mk (lineOf r))] W fun e w' => e = .returned (.tuple #[.int .i64 (mk (lineOf r)).size, .nilIface]) ∧ Bld w.heap.size w.heap.size (Lib.byteCells (acc ++ lineOf r)) w' ∧ Below w.heap.size w w') := by
            intro W h1 h2
            refine (writeString_any _ _ _ (mk (lineOf r)) W h1 (by have := HSZ.out; have := HLN.out; have := HAC.out; have := HKL.out; have := HLL.out; simp [Lib.byteCells]; omega) h2.size).mono ?_
            rintro e w' ⟨r1, r2, r3⟩
            refine ⟨r1, ?_, h2.trans r3⟩
            rw [cells_app]
            have : Lib.strCells (mk (lineOf r)) = Lib.byteCells (lineOf r) := by simp [Lib.strCells, Lib.byteCells, mk_list]
            rwa [← this]
          have HWB : Hid (∀ W, Bld w.heap.size w.heap.size (Lib.byteCells (acc ++ lineOf r)) W → Below w.heap.size w W → Calls Tryd.prog 44 #[.pointer (some ⟨w.heap.size, 0, none⟩), .int .u8 10] W fun e w' => e = .returned .nilIface ∧ Bld w.heap.size w.heap.size (Lib.byteCells (acc ++ lineOf r ++ [10])) w' ∧ Below w.heap.size w w') := by
            intro W h1 h2
            refine (writeByte_any _ _ _ 10 W h1 (by have := HLN.out; have := HAC.out; have := HKL.out; have := HLL.out; simp [Lib.byteCells]; omega) h2.size).mono ?_
            rintro e w' ⟨r1, r2, r3⟩
            refine ⟨r1, ?_, h2.trans r3⟩
            rw [cells_app]
            exact r2
          have HACN : Hid ((acc ++ lineOf r ++ [10]).length ≤ (k + 1) * 1000005) := by
            show _ ≤ _
            have := HLN.out; have := HAC.out
            simp only [List.length_append, List.length_cons, List.length_nil]
            omega
          obtain ⟨act, pat, rd, an⟩ := r
          simp only at k0 k1 k2 k3 HFT
          clear hpr hz HRK2 HPR
          generalize mk (lineOf ⟨act, pat, rd, an⟩) = ln at *
          generalize lineOf ⟨act, pat, rd, an⟩ = ll at *
          generalize mk pat = q at *
          go_wp2_with (first
            | (go_at_call 26; refine HFT.out.mono ?_; rintro e w3 ⟨rfl, h2, hb2⟩; have H2 := Lib.hid h2; have HB2 := Lib.hid hb2; clear h2 hb2)
            | (go_at_call 47; refine (HWS.out _ H2.out HB2.out).mono ?_; rintro e w4 ⟨rfl, h2, hb2⟩; have H2 := Lib.hid h2; have HB2 := Lib.hid hb2; clear h2 hb2)
            | (go_at_call 44; refine (HWB.out _ H2.out HB2.out).mono ?_; rintro e w5 ⟨rfl, h2, hb2⟩; have H2 := Lib.hid h2; have HB2 := Lib.hid hb2; clear h2 hb2))
          go_roundw
          case rel => exact ⟨k + 1, _, rfl, HKL.out, HRN, HACN, H2, HB2⟩
          case measure => have := HKL.out; simp [intOf]; omega
        · have hpr : printR r = ([], refE r.act r.pat) := by unfold printR; rw [if_pos hz]
          rw [hpr] at HFT
          have hrn := HRK2.out
          rw [if_pos hz] at hrn
          injection hrn with e1 e2
          have hne : (refE r.act r.pat == 0) = false := by simpa using hz
          obtain ⟨act, pat, rd, an⟩ := r
          simp only at k0 k1 k2 k3 HFT e2 hne
          clear hpr hz HRK2 HPR
          subst e1
          generalize refE act pat = er at *
          subst e2
          generalize mk pat = q at *
          go_wp2_with (go_at_call 26; refine HFT.out.mono ?_; rintro e w3 ⟨rfl, h2, hb2⟩; have HB2 := Lib.hid hb2; clear h2 hb2)
          go_ret2
          exact ⟨rfl, HB2.out⟩
      · have hIk : ¬ (k : Int) < (L.length : Int) := by omega
        have hrn := HRK.out
        rw [List.drop_of_length_le (by omega), textGo] at hrn
        injection hrn with e1 e2
        have HST : Hid (Calls Tryd.prog 45 #[.pointer (some ⟨w.heap.size, 0, none⟩)] wr fun e w' => e = .returned (.string (mk acc)) ∧ Below w.heap.size w w') := by
          refine (Tryd.Builder_String_any _ _ acc wr HBD.out HB.out.size).mono ?_
          rintro e w' ⟨r1, r2⟩
          exact ⟨r1, HB.out.trans r2⟩
        subst e1 e2
        clear hk HRK
        go_wp2_with (go_at_call 45; refine HST.out.mono ?_; rintro e w3 ⟨rfl, hb2⟩; have HB2 := Lib.hid hb2; clear hb2)
        go_ret2
        exact ⟨rfl, HB2.out⟩
end Go.Proofs.YtokocfoeohddfaaDoor.Pa
namespace Go.Proofs.YtokocfoeohddfaaDoor.Pa
open Go.RowKit Go.ChangeShapes Go.WideShapes
set_option linter.unusedVariables false
set_option linter.unusedSimpArgs false
set_option maxRecDepth 100000

instance : Inhabited Ru := ⟨⟨0, [], false, false⟩⟩
theorem add_none (g off n : Nat) : (⟨g, off, none⟩ : Addr).add n = ⟨g, off + n, none⟩ := by
  unfold Addr.add; split <;> simp_all
theorem add_twice (a : Addr) (i j : Nat) : (a.add i).add j = a.add (i + j) := by
  unfold Addr.add
  by_cases hi : i = 0
  · subst hi; simp
  · by_cases hj : j = 0
    · subst hj; simp
    · simp [hi, hj, Nat.add_assoc]
/-- what a row of rules that is handed in reads as -/
theorem open_rules {H : Type} {enc : TypeId × Value → H} {W : World} {base fuel : Nat} {sp : Nat → Bool} {held : Bool} {v : Value} {x : DataW H × List MemPlace}
    (h : DataW.trod enc Tryd.prog W base sp held fuel 37 [v] = some x) : ∃ L : List Ru, RuAt W v L ∧ L.length ≤ maxLen ∧ ∀ r ∈ L, r.pat.length ≤ maxLen := by
  rcases Deep.open_slice Tryd.underlying37 h with ⟨hcs, _⟩ | ⟨a, len, cap, m, n, D, Pl, hcs, hb, hl, hm, hmm, hx, hr⟩
  · simp at hcs
    subst hcs
    exact ⟨[], ⟨none, 0, rfl, fun h => absurd rfl h⟩, by simp, by simp⟩
  · simp at hcs
    subst hcs
    have hlm : len ≤ m := by rw [hmm]; split <;> omega
    have hc4 : Tryd.prog.cellsOf 42 = 4 := by kernel_rfl
    have kI : Tryd.prog.cellsOf 3 = 1 := by kernel_rfl
    have kS : Tryd.prog.cellsOf 9 = 1 := by kernel_rfl
    have kB : Tryd.prog.cellsOf 4 = 1 := by kernel_rfl
    rw [hc4] at hr
    have each : ∀ i, i < len → ∃ r : Ru, W.cell? (a.add (i * 4)) = some (.int .i64 r.act) ∧ W.cell? (a.add (i * 4 + 1)) = some (.string (mk r.pat)) ∧ W.cell? (a.add (i * 4 + 2)) = some (.bool r.dir) ∧ W.cell? (a.add (i * 4 + 3)) = some (.bool r.anch) ∧ r.pat.length ≤ maxLen := by
      intro i hi
      obtain ⟨cs', h1, h2⟩ := hr i (by omega)
      obtain ⟨_, hlen, hcell⟩ := World.cells?_some h1
      obtain ⟨xs, k, hk, hxy, _, hxl, hf⟩ := DataW.trod_struct Tryd.underlying42 h2
      match xs, hxl, cs', hlen with
      | [y0, y1, y2, y3], _, [v0, v1, v2, v3], _ =>
        have g0 := hf 0 _ rfl
        have g1 := hf 1 _ rfl
        have g2 := hf 2 _ rfl
        have g3 := hf 3 _ rfl
        simp [kI, kS, kB] at g0 g1 g2 g3
        obtain ⟨z0, e0, _, q0⟩ := DataW.trod_int Tryd.underlying3 g0
        obtain ⟨z1, e1, _, q1⟩ := DataW.trod_string Tryd.underlying9 g1
        obtain ⟨z2, e2, _⟩ := DataW.trod_bool Tryd.underlying4 g2
        obtain ⟨z3, e3, _⟩ := DataW.trod_bool Tryd.underlying4 g3
        simp only [List.cons.injEq, and_true] at e0 e1 e2 e3
        subst e0 e1 e2 e3
        have c0 := hcell 0 (by omega)
        have c1 := hcell 1 (by omega)
        have c2 := hcell 2 (by omega)
        have c3 := hcell 3 (by omega)
        rw [add_twice] at c0 c1 c2 c3
        refine ⟨⟨z0, z1.data.toList, z2, z3⟩, c0, ?_, c2, c3, ?_⟩
        · rw [mk_data]; exact c1
        · show z1.data.toList.length ≤ _
          rw [Array.length_toList]; exact q1
    obtain ⟨f, hf⟩ := Deep.choose_lt each
    refine ⟨(List.range len).map f, ⟨some a, cap, by simp, fun hne => ?_⟩, by simp; omega, ?_⟩
    · have h0 : 0 < len := by
        rcases Nat.eq_zero_or_pos len with h | h
        · subst h; simp at hne
        · exact h
      obtain ⟨g, off, spot⟩ := a
      have hs : spot = none ∧ g < W.heap.size := by
        have hc := (hf 0 h0).1
        simp only [Nat.zero_mul, Addr.add, if_pos] at hc
        unfold World.cell? at hc
        simp only at hc
        split at hc
        · next hh =>
          refine ⟨?_, (Array.getElem?_eq_some_iff.1 hh).1⟩
          cases spot with
          | none => rfl
          | some y => simp at hc
        · cases hc
      obtain ⟨rfl, hg⟩ := hs
      refine ⟨g, off, rfl, hg, fun i r hi => ?_⟩
      rw [List.getElem?_map] at hi
      have hlt : i < len := by
        rcases Nat.lt_or_ge i len with h | h
        · exact h
        · rw [List.getElem?_eq_none (by simpa using h)] at hi; cases hi
      rw [List.getElem?_range hlt] at hi
      simp at hi
      subst hi
      obtain ⟨c0, c1, c2, c3, _⟩ := hf i hlt
      rw [add_none] at c0 c1 c2 c3
      exact ⟨c0, c1, c2, c3⟩
    · intro r hr'
      obtain ⟨i, hi, rfl⟩ := List.mem_map.1 hr'
      exact (hf i (List.mem_range.1 hi)).2.2.2.2
def lightB (L : List Ru) : Bool := decide (L.length ≤ 80) && L.all (fun r => decide (r.pat.length ≤ 200))
theorem lightB_of {L : List Ru} (h : lightB L = true) : L.length ≤ 80 ∧ ∀ r ∈ L, r.pat.length ≤ 200 := by
  unfold lightB at h
  simpa using h
set_option maxHeartbeats 8000000 in
theorem light_any (L : List Ru) (v : Value) (w : World) (hv : RuAt w v L) :
    Calls Tryd.prog 22 #[v] w fun e w' => e = .returned (.bool (lightB L)) ∧ Below w.heap.size w w' := by
  obtain ⟨a, c, rfl, hrow⟩ := hv
  obtain ⟨R, hR⟩ : ∃ R, R = lightB L := ⟨_, rfl⟩
  rw [← hR]
  have HROW := Lib.hid hrow
  clear hrow
  by_cases h80 : 80 < L.length
  · have hI : (80 : Int) < (L.length : Int) := by omega
    have HRR : Hid (R = false) := by show _ = _; rw [hR]; unfold lightB; rw [decide_eq_false (by omega)]; rfl
    clear hR h80
    go_enter Tryd.func22, Tryd.ntmps22
    go_wp2
    go_ret
    exact ⟨by rw [HRR.out]; rfl, Below.refl _ _⟩
  · have hI : ¬ (80 : Int) < (L.length : Int) := by omega
    have H0 : Hid (R = (L.drop 0).all (fun r => decide (r.pat.length ≤ 200))) := by show _ = _; rw [hR]; unfold lightB; rw [decide_eq_true (by omega)]; rfl
    have HLL : Hid (L.length ≤ 80) := by show _ ≤ _; omega
    clear hR h80
    go_enter Tryd.func22, Tryd.ntmps22
    go_wp2
    go_loopw [10] (fun i wr => ∃ k : Nat, i = .int .i64 k ∧ Hid (k ≤ L.length) ∧ Hid (R = (L.drop k).all (fun r => decide (r.pat.length ≤ 200))) ∧ Hid (Below w.heap.size w wr)) (fun i _ => L.length - (intOf i).toNat)
    case atStart => exact ⟨0, rfl, Nat.zero_le _, H0, Below.refl _ _⟩
    case round =>
      clear H0
      obtain ⟨k, rfl, HK, HRK, HB⟩ := hrel
      by_cases hk : k < L.length
      · have hIk : (k : Int) < (L.length : Int) := by omega
        obtain ⟨r, hr⟩ : ∃ r, L[k]? = some r := ⟨_, List.getElem?_eq_getElem hk⟩
        have hw1 : IntKind.i64.wrap ((k : Int) + 1) = (k : Int) + 1 := IntWalk.i64_in _ (by have := HLL.out; omega)
        obtain ⟨g, off, ea, hg, hc⟩ := HROW.out (by intro e; rw [e] at hr; simp at hr)
        obtain ⟨c0, c1, c2, c3⟩ := hc k r hr
        have k0 := (HB.out.cell (p := ⟨g, off + k * 4, none⟩) hg).trans c0
        have k1 := (HB.out.cell (p := ⟨g, off + k * 4 + 1, none⟩) hg).trans c1
        have k2 := (HB.out.cell (p := ⟨g, off + k * 4 + 2, none⟩) hg).trans c2
        have k3 := (HB.out.cell (p := ⟨g, off + k * 4 + 3, none⟩) hg).trans c3
        have hd : L.drop k = r :: L.drop (k + 1) := by
          obtain ⟨h1, h2⟩ := List.getElem?_eq_some_iff.1 hr
          rw [List.drop_eq_getElem_cons h1, h2]
        have HRK2 : Hid (R = (decide (r.pat.length ≤ 200) && (L.drop (k + 1)).all (fun r => decide (r.pat.length ≤ 200)))) := by show _ = _; rw [HRK.out, hd]; rfl
        have HBA : Hid (Below w.heap.size w (wr.alloc (.cells #[.int .i64 r.act, .string (mk r.pat), .bool r.dir, .bool r.anch] 42))) := HB.out.trans ((Below.refl _ _).alloc HB.out.size _)
        have HKL := Lib.hid hk
        have hsz : (mk r.pat).size = r.pat.length := mk_size _
        subst ea
        clear hk hr hc c0 c1 c2 c3 hd HRK
        obtain ⟨act, pat, rd, an⟩ := r
        simp only at k0 k1 k2 k3 HRK2 hsz HBA
        by_cases hz : pat.length ≤ 200
        · have hI2 : ¬ (200 : Int) < ((mk pat).size : Int) := by omega
          have HRN : Hid (R = (L.drop (k + 1)).all (fun r => decide (r.pat.length ≤ 200))) := by show _ = _; rw [HRK2.out, decide_eq_true hz]; rfl
          clear HRK2 hz hsz
          generalize mk pat = q at *
          go_wp2
          go_roundw
          case rel => exact ⟨k + 1, rfl, HKL.out, HRN, HBA⟩
          case measure => have := HKL.out; simp [intOf]; omega
        · have hI2 : (200 : Int) < ((mk pat).size : Int) := by omega
          have HRN : Hid (R = false) := by show _ = _; rw [HRK2.out, decide_eq_false hz]; rfl
          clear HRK2 hz hsz
          generalize mk pat = q at *
          go_wp2
          go_ret
          exact ⟨by rw [HRN.out]; rfl, HBA.out⟩
      · have hIk : ¬ (k : Int) < (L.length : Int) := by omega
        have HRN : Hid (R = true) := by show _ = _; rw [HRK.out, List.drop_of_length_le (by omega)]; rfl
        clear hk HRK
        go_wp2
        go_ret
        exact ⟨by rw [HRN.out]; rfl, HB.out⟩
end Go.Proofs.YtokocfoeohddfaaDoor.Pa
namespace Go.Proofs.YtokocfoeohddfaaDoor.Pa
open Go.RowKit
set_option linter.unusedVariables false
set_option linter.unusedSimpArgs false
set_option maxRecDepth 1000000

def flatR (L : List Ru) : L8 := L.flatMap fun r => lineOf r ++ [10]
theorem flatR_snoc {L : List Ru} {k : Nat} {r : Ru} (h : L[k]? = some r) : flatR (L.take (k + 1)) = flatR (L.take k) ++ (lineOf r ++ [10]) := by
  rw [List.take_add_one, h]; simp [flatR]
theorem textGo_eq : ∀ (L : List Ru) (acc : L8), textGo acc L = if badE L ≠ 0 then ([], badE L) else (acc ++ flatR L, 0) := by
  intro L
  induction L with
  | nil => intro acc; simp [textGo, badE, flatR]
  | cons r L ih =>
    intro acc
    rw [textGo, badE]
    by_cases h : refE r.act r.pat = 0
    · have h' : ¬ (refE r.act r.pat ≠ 0) := by simpa using h
      simp only [if_neg h']
      rw [ih]
      simp [flatR]
    · rw [if_pos h, if_pos h, if_pos h]
theorem textR_eq (L : List Ru) : textR L = if checkE L ≠ 0 then ([], checkE L) else (flatR L, 0) := by
  unfold textR checkE
  by_cases h : 64 < L.length
  · rw [if_pos h, if_pos h]; rfl
  · rw [if_neg h, if_neg h, textGo_eq]; rfl
theorem bad_all : ∀ (L : List Ru), badE L = 0 → ∀ r ∈ L, refE r.act r.pat = 0 := by
  intro L
  induction L with
  | nil => intro _ r hr; simp at hr
  | cons x L ih =>
    intro h r hr
    rw [badE] at h
    by_cases hx : refE x.act x.pat = 0
    · rw [if_neg (by simpa using hx)] at h
      rcases List.mem_cons.1 hr with rfl | hr
      · exact hx
      · exact ih h r hr
    · rw [if_pos hx] at h; exact absurd h hx
theorem flatR_len (L : List Ru) (h : ∀ r ∈ L, r.pat.length ≤ 1000000) : (flatR L).length ≤ L.length * 1000005 := by
  induction L with
  | nil => simp [flatR]
  | cons r L ih =>
    have h1 := ih (fun x hx => h x (by simp [hx]))
    have h2 := lineOf_len r
    have h3 := h r (by simp)
    unfold flatR at *
    rw [List.flatMap_cons, List.length_append, List.length_append, List.length_cons]
    simp only [List.length_cons, List.length_nil]
    omega
set_option maxHeartbeats 8000000 in
theorem rtext_any (L : List Ru) (v : Value) (w : World) (hv : RuAt w v L) (hl : L.length ≤ 1000000 ∧ ∀ r ∈ L, r.pat.length ≤ 1000000) :
    Calls Tryd.prog 25 #[v] w fun e w' => e = .returned (.tuple #[.string (mk (textR L).1), .int .i64 (textR L).2]) ∧ Below w.heap.size w w' := by
  have HCK := Lib.hid (rcheckR_any L v w hv ⟨hl.1, fun r hr => by have := hl.2 r hr; omega⟩)
  have HAT : Hid (∀ W, Below w.heap.size w W → RuAt W v L) := fun W hW => hv.later hW
  obtain ⟨a, c, rfl, hrow⟩ := hv
  by_cases hz : checkE L = 0
  · have ht : textR L = (flatR L, 0) := by rw [textR_eq, if_neg (by simpa using hz)]
    rw [ht]
    rw [hz] at HCK
    have hz' := hz
    unfold checkE at hz'
    have h64 : L.length ≤ 64 := by
      by_cases h : 64 < L.length
      · rw [if_pos h] at hz'; omega
      · omega
    rw [if_neg (by omega)] at hz'
    have HALL : Hid (∀ r ∈ L, ∀ W, Calls Tryd.prog 27 #[.agg #[.int .i64 r.act, .string (mk r.pat), .bool r.dir, .bool r.anch]] W fun e w' => e = .returned (.tuple #[.string (mk (lineOf r)), .int .i64 0]) ∧ Below W.heap.size W w') := fun r hr W => by
      have h := rprint_any r W (by have := hl.2 r hr; omega)
      have hp : printR r = (lineOf r, 0) := by unfold printR; rw [if_neg (by simpa using bad_all L hz' r hr)]
      rw [hp] at h
      exact h
    have HPL := Lib.hid hl.2
    have H64 : Hid (L.length ≤ 64) := h64
    clear hz hz' ht h64 hrow hl
    go_enter Tryd.func25, Tryd.ntmps25
    go_wp2_with (go_at_call 29; refine HCK.out.mono ?_; rintro e w1 ⟨rfl, hb⟩; have HB1 := Lib.hid hb; clear hb)
    go_loopw [5, 17] (fun q i wr => ∃ k : Nat, i = .int .i64 k ∧ q = .string (mk (flatR (L.take k))) ∧ Hid (k ≤ L.length) ∧ Hid (Below w.heap.size w wr)) (fun _ i _ => L.length - (intOf i).toNat)
    case atStart => exact ⟨0, rfl, rfl, Nat.zero_le _, HB1⟩
    case round =>
      clear HB1
      obtain ⟨k, rfl, rfl, HK, HB⟩ := hrel
      by_cases hk : k < L.length
      · have hIk : (k : Int) < (L.length : Int) := by omega
        obtain ⟨r, hr⟩ : ∃ r, L[k]? = some r := ⟨_, List.getElem?_eq_getElem hk⟩
        have hw1 : IntKind.i64.wrap ((k : Int) + 1) = (k : Int) + 1 := IntWalk.i64_in _ (by have := H64.out; omega)
        obtain ⟨ga, gc, e4, hrow⟩ := HAT.out _ HB.out
        simp only [Value.slice.injEq, true_and] at e4
        obtain ⟨rfl, rfl⟩ := e4
        obtain ⟨g, off, rfl, hg, hc⟩ := hrow (by intro e; rw [e] at hr; simp at hr)
        obtain ⟨k0, k1, k2, k3⟩ := hc k r hr
        have hrm := List.mem_of_getElem? hr
        have hbA : Below wr.heap.size wr (wr.alloc (.cells #[.int .i64 r.act, .string (mk r.pat), .bool r.dir, .bool r.anch] 42)) := (Below.refl _ _).alloc (Nat.le_refl _) _
        have HPR : Hid (Calls Tryd.prog 27 #[.agg #[.int .i64 r.act, .string (mk r.pat), .bool r.dir, .bool r.anch]] (wr.alloc (.cells #[.int .i64 r.act, .string (mk r.pat), .bool r.dir, .bool r.anch] 42)) fun e w' => e = .returned (.tuple #[.string (mk (lineOf r)), .int .i64 0]) ∧ Below w.heap.size w w') :=
          (HALL.out r hrm _).mono fun e w' ⟨h1, h2⟩ => ⟨h1, HB.out.trans ((hbA.trans (h2.mono hbA.size)).mono HB.out.size)⟩
        have hfl := flatR_len (L.take k) (fun x hx => HPL.out x (List.mem_of_mem_take hx))
        rw [List.length_take] at hfl
        have hll := lineOf_len r
        have hpl := HPL.out r hrm
        have h64 := H64.out
        have hmul : (min k L.length) * 1000005 ≤ 64 * 1000005 := Nat.mul_le_mul_right _ (by omega)
        obtain ⟨fn, hfn⟩ : ∃ f, f = flatR (L.take (k + 1)) := ⟨_, rfl⟩
        have HFN := Lib.hid hfn
        have hsn := flatR_snoc hr
        rw [← hfn] at hsn
        have p1 : ∀ W, (Op.stringOp .add (mk (lineOf r)) { data := #[10] }).run Tryd.prog W = .ok (.string (mk (lineOf r ++ [10]))) W := fun W => run_plus (lineOf r) [10] (by simp; omega) W
        have p2 : ∀ W, (Op.stringOp .add (mk (flatR (L.take k))) (mk (lineOf r ++ [10]))).run Tryd.prog W = .ok (.string (mk fn)) W := fun W => by
          rw [hsn]; exact run_plus _ _ (by simp only [List.length_append, List.length_cons, List.length_nil]; omega) W
        have HKL : Hid (k < L.length) := hk
        obtain ⟨act, pat, rd, an⟩ := r
        simp only at k0 k1 k2 k3 HPR
        clear hk hr hrow hg hc hrm hbA hfl hll hpl h64 hmul hfn hsn
        generalize mk (lineOf ⟨act, pat, rd, an⟩) = y1 at *
        generalize mk (lineOf ⟨act, pat, rd, an⟩ ++ [10]) = y2 at *
        generalize mk (flatR (L.take k)) = y3 at *
        generalize mk pat = q at *
        go_wp2_with (go_at_call 27; refine HPR.out.mono ?_; rintro e w3 ⟨rfl, hb⟩; have HB3 := Lib.hid hb; clear hb)
        go_roundw
        case rel => exact ⟨k + 1, by go_num, by rw [HFN.out], by show _ ≤ _; have := HKL.out; omega, HB3⟩
        case measure => have := HKL.out; simp [intOf]; omega
      · have hIk : ¬ (k : Int) < (L.length : Int) := by omega
        have hke : k = L.length := by have := HK.out; omega
        rw [hke, List.take_length]
        rw [hke] at hIk
        clear hk hke
        go_wp2
        go_ret2
        exact ⟨rfl, HB.out⟩
  · have ht : textR L = ([], checkE L) := by rw [textR_eq, if_pos hz]
    rw [ht]
    have hne : (checkE L == 0) = false := by simpa using hz
    generalize checkE L = e0 at *
    clear ht hz hrow hl
    go_enter Tryd.func25, Tryd.ntmps25
    go_wp2_with (go_at_call 29; refine HCK.out.mono ?_; rintro e w1 ⟨rfl, hb⟩; have HB1 := Lib.hid hb; clear hb)
    go_ret2
    exact ⟨rfl, HB1.out⟩
set_option maxHeartbeats 32000000 in
theorem rulesMays_walk (L : List Ru) (v : Value) (w : World) (hv : RuAt w v L) :
    Calls Tryd.prog 7 #[v] w fun e w' => e = .returned (.bool true) ∧ Below w.heap.size w w' := by
  have HB : Hid (Below w.heap.size w w) := Below.refl _ _
  have HV : Hid (∀ W, Below w.heap.size w W → RuAt W v L) := fun W h => hv.later h
  have HAK : Hid (∀ W, Below w.heap.size w W → Calls Tryd.prog 23 #[] W fun e w' => e = .returned (.bool true) ∧ Below w.heap.size w w') := fun W hk => (awake_ru W).mono fun e w' ⟨h1, h2⟩ => ⟨h1, hk.trans (h2.mono hk.size)⟩
  have HLI : Hid (∀ W, Below w.heap.size w W → Calls Tryd.prog 22 #[v] W fun e w' => e = .returned (.bool (lightB L)) ∧ Below w.heap.size w w') := fun W hk => (light_any L v W (HV.out W hk)).mono fun e w' ⟨h1, h2⟩ => ⟨h1, hk.trans (h2.mono hk.size)⟩
  obtain ⟨a, c, rfl, hrow⟩ := hv
  clear hrow
  cases hA : lightB L with
  | false =>
    rw [hA] at HLI
    clear hA
    go_enter Tryd.func7, Tryd.ntmps7
    go_wp2_with (first
      | (go_at_call 22; (with_reducible refine (HLI.out _ HB.out).mono ?_); rintro e w1 ⟨rfl, hb⟩; have HB := Lib.hid hb; clear hb)
      | (go_at_call 23; (with_reducible refine (HAK.out _ HB.out).mono ?_); rintro e w1 ⟨rfl, hb⟩; have HB := Lib.hid hb; clear hb))
    go_ret
    exact ⟨rfl, HB.out⟩
  | true =>
    rw [hA] at HLI
    have hll := lightB_of hA
    have HLL := Lib.hid hll
    have HT1 : Hid (∀ W, Below w.heap.size w W → Calls Tryd.prog 24 #[.slice a L.length c] W fun e w' => e = .returned (.tuple #[.string (mk (textR L).1), .int .i64 (textR L).2]) ∧ Below w.heap.size w w') := fun W hk => (text_any L _ W (HV.out W hk) (fun r hr => by have := hll.2 r hr; omega)).mono fun e w' ⟨h1, h2⟩ => ⟨h1, hk.trans (h2.mono hk.size)⟩
    have HT2 : Hid (∀ W, Below w.heap.size w W → Calls Tryd.prog 25 #[.slice a L.length c] W fun e w' => e = .returned (.tuple #[.string (mk (textR L).1), .int .i64 (textR L).2]) ∧ Below w.heap.size w w') := fun W hk => (rtext_any L _ W (HV.out W hk) ⟨by omega, fun r hr => by have := hll.2 r hr; omega⟩).mono fun e w' ⟨h1, h2⟩ => ⟨h1, hk.trans (h2.mono hk.size)⟩
    have HC1 : Hid (∀ W, Below w.heap.size w W → Calls Tryd.prog 28 #[.slice a L.length c] W fun e w' => e = .returned (.int .i64 (checkE L)) ∧ Below w.heap.size w w') := fun W hk => (check_rules L _ W (HV.out W hk) ⟨by omega, fun r hr => by have := hll.2 r hr; omega⟩).mono fun e w' ⟨h1, h2⟩ => ⟨h1, hk.trans (h2.mono hk.size)⟩
    have HC2 : Hid (∀ W, Below w.heap.size w W → Calls Tryd.prog 29 #[.slice a L.length c] W fun e w' => e = .returned (.int .i64 (checkE L)) ∧ Below w.heap.size w w') := fun W hk => (rcheckR_any L _ W (HV.out W hk) ⟨by omega, fun r hr => by have := hll.2 r hr; omega⟩).mono fun e w' ⟨h1, h2⟩ => ⟨h1, hk.trans (h2.mono hk.size)⟩
    have HP1 : Hid (∀ (W : World) (r : Ru), r.pat.length ≤ 200 → Calls Tryd.prog 26 #[.agg #[.int .i64 r.act, .string (mk r.pat), .bool r.dir, .bool r.anch]] W fun e w' => e = .returned (.tuple #[.string (mk (printR r).1), .int .i64 (printR r).2]) ∧ Below W.heap.size W w') := fun W r hl => print_any r W (by omega)
    have HP2 : Hid (∀ (W : World) (r : Ru), r.pat.length ≤ 200 → Calls Tryd.prog 27 #[.agg #[.int .i64 r.act, .string (mk r.pat), .bool r.dir, .bool r.anch]] W fun e w' => e = .returned (.tuple #[.string (mk (printR r).1), .int .i64 (printR r).2]) ∧ Below W.heap.size W w') := fun W r hl => rprint_any r W (by omega)
    have q1 : ((mk (textR L).1).toList == (mk (textR L).1).toList) = true := by simp
    generalize mk (textR L).1 = T1 at *
    generalize (textR L).2 = T2 at *
    generalize checkE L = CE at *
    clear hA hll
    go_enter Tryd.func7, Tryd.ntmps7
    go_wp2_with (first
      | (go_at_call 22; (with_reducible refine (HLI.out _ HB.out).mono ?_); rintro e w1 ⟨rfl, hb⟩; have HB := Lib.hid hb; clear hb)
      | (go_at_call 24; (with_reducible refine (HT1.out _ HB.out).mono ?_); rintro e w1 ⟨rfl, hb⟩; have HB := Lib.hid hb; clear hb)
      | (go_at_call 25; (with_reducible refine (HT2.out _ HB.out).mono ?_); rintro e w1 ⟨rfl, hb⟩; have HB := Lib.hid hb; clear hb))
    go_loopw [29] (fun i wr => ∃ k : Nat, i = .int .i64 k ∧ Hid (k ≤ L.length) ∧ Hid (Below w.heap.size w wr)) (fun i _ => L.length - (intOf i).toNat)
    case atStart => exact ⟨0, rfl, Nat.zero_le _, HB⟩
    case round =>
      clear HB
      obtain ⟨k, rfl, HK, HB⟩ := hrel
      by_cases hk : k < L.length
      · have hIk : (k : Int) < (L.length : Int) := by omega
        obtain ⟨r, hr⟩ : ∃ r, L[k]? = some r := ⟨_, List.getElem?_eq_getElem hk⟩
        have hw1 : IntKind.i64.wrap ((k : Int) + 1) = (k : Int) + 1 := IntWalk.i64_in _ (by have := HLL.out.1; omega)
        obtain ⟨ga, gc, e4, hrow⟩ := HV.out _ HB.out
        simp only [Value.slice.injEq, true_and] at e4
        obtain ⟨rfl, rfl⟩ := e4
        obtain ⟨g, off, rfl, hg, hc⟩ := hrow (by intro e; rw [e] at hr; simp at hr)
        obtain ⟨k0, k1, k2, k3⟩ := hc k r hr
        have hpl := HLL.out.2 r (List.mem_of_getElem? hr)
        have hbA : Below wr.heap.size wr (wr.alloc (.cells #[.int .i64 r.act, .string (mk r.pat), .bool r.dir, .bool r.anch] 42)) := (Below.refl _ _).alloc (Nat.le_refl _) _
        have hrA : (wr.alloc (.cells #[.int .i64 r.act, .string (mk r.pat), .bool r.dir, .bool r.anch] 42)).heap[wr.heap.size]? = some (.cells #[.int .i64 r.act, .string (mk r.pat), .bool r.dir, .bool r.anch] 42) := heap_new _ _
        have HPR : Hid (Calls Tryd.prog 26 #[.agg #[.int .i64 r.act, .string (mk r.pat), .bool r.dir, .bool r.anch]] (wr.alloc (.cells #[.int .i64 r.act, .string (mk r.pat), .bool r.dir, .bool r.anch] 42)) fun e w' => e = .returned (.tuple #[.string (mk (printR r).1), .int .i64 (printR r).2]) ∧ w'.heap[wr.heap.size]? = some (.cells #[.int .i64 r.act, .string (mk r.pat), .bool r.dir, .bool r.anch] 42) ∧ Below w.heap.size w w') :=
          (HP1.out _ r hpl).mono fun e w' ⟨h1, h2⟩ => ⟨h1, (h2.block _ (Array.getElem?_eq_some_iff.1 hrA).1).trans hrA, HB.out.trans ((hbA.trans (h2.mono hbA.size)).mono HB.out.size)⟩
        have HPS : Hid (∀ W, Below w.heap.size w W → Calls Tryd.prog 27 #[.agg #[.int .i64 r.act, .string (mk r.pat), .bool r.dir, .bool r.anch]] W fun e w' => e = .returned (.tuple #[.string (mk (printR r).1), .int .i64 (printR r).2]) ∧ Below w.heap.size w w') := fun W hW =>
          (HP2.out W r hpl).mono fun e w' ⟨h1, h2⟩ => ⟨h1, hW.trans (h2.mono hW.size)⟩
        have HKL : Hid (k < L.length) := hk
        have q2 : ((mk (printR r).1).toList == (mk (printR r).1).toList) = true := by simp
        generalize mk (printR r).1 = y1 at *
        generalize (printR r).2 = y2 at *
        obtain ⟨act, pat, rd, an⟩ := r
        simp only at k0 k1 k2 k3 HPR HPS
        clear hk hr hrow hg hc hpl hbA hrA
        generalize mk pat = q at *
        go_wp2_with (first
          | (go_at_call 26; refine HPR.out.mono ?_; rintro e w3 ⟨rfl, hr3, hb⟩; obtain ⟨⟨y3, y4, y5, y6⟩, -⟩ := cells4 hr3; have HB3 := Lib.hid hb; clear hb hr3)
          | (go_at_call 27; refine (HPS.out _ HB3.out).mono ?_; rintro e w4 ⟨rfl, hb⟩; have HB4 := Lib.hid hb; clear hb))
        go_roundw
        case rel => exact ⟨k + 1, by go_num, by show _ ≤ _; have := HKL.out; omega, HB4⟩
        case measure => have := HKL.out; simp [intOf]; omega
      · have hIk : ¬ (k : Int) < (L.length : Int) := by omega
        clear hk
        go_wp2_with (first
          | (go_at_call 28; (with_reducible refine (HC1.out _ HB.out).mono ?_); rintro e w1 ⟨rfl, hb⟩; have HB := Lib.hid hb; clear hb)
          | (go_at_call 29; (with_reducible refine (HC2.out _ HB.out).mono ?_); rintro e w1 ⟨rfl, hb⟩; have HB := Lib.hid hb; clear hb)
          | (go_at_call 23; (with_reducible refine (HAK.out _ HB.out).mono ?_); rintro e w1 ⟨rfl, hb⟩; have HB := Lib.hid hb; clear hb))
        go_ret
        exact ⟨rfl, HB.out⟩
end Go.Proofs.YtokocfoeohddfaaDoor.Pa
