/- rules: rows of rules put behind one another, and what that turns. (A template.) -/
import Derived.Test.YtokocfoeohddfaaDoorRuLight
import Derived.Test.YtokocfoeohddfaaDoorRuRow
import Derived.Laws.AppendOwnNone
import Derived.Maps.AppendAt
namespace Go.Proofs.YtokocfoeohddfaaDoor.Pa
open Go.RowKit
set_option linter.unusedVariables false
set_option linter.unusedSimpArgs false
set_option maxRecDepth 100000

/-- a row of rules that may be cut -/
def RuCap (w : World) (v : Value) (L : List Ru) : Prop := RuAt w v L ∧ ∃ a c, v = .slice a L.length c ∧ L.length ≤ c ∧ c ≤ maxLen ∧ (a = none → c = 0)
theorem RuCap.later {w w' : World} {v : Value} {L : List Ru} (h : RuCap w v L) (hb : Below w.heap.size w w') : RuCap w' v L := ⟨h.1.later hb, h.2⟩
theorem open_cap {H : Type} {enc : TypeId × Value → H} {W : World} {base fuel : Nat} {sp : Nat → Bool} {held : Bool} {a : Option Addr} {n c : Nat} {x : DataW H × List MemPlace}
    (h : DataW.trod enc Tryd.prog W base sp held fuel 37 [.slice a n c] = some x) : n ≤ c ∧ c ≤ maxLen ∧ (a = none → c = 0) := by
  rcases Deep.open_slice Tryd.underlying37 h with ⟨hcs, _⟩ | ⟨a', len, cap, m, n', D, Pl, hcs, hb, hl, hm, hmm, hx, hr⟩
  · simp at hcs
    obtain ⟨rfl, rfl, rfl⟩ := hcs
    exact ⟨Nat.le_refl _, Nat.zero_le _, fun _ => rfl⟩
  · simp at hcs
    obtain ⟨rfl, rfl, rfl⟩ := hcs
    exact ⟨hl, hm, fun h => by cases h⟩
theorem elemRu : Tryd.prog.elem 37 = 42 := by kernel_rfl
theorem ru_size (W : World) : (sizeOf (Tryd.prog.elem 37)).run Tryd.prog W = .ok 4 W := by rw [elemRu]; rfl
/-- the rules ahead of a place -/
theorem cut_head {w : World} {a : Option Addr} {L : List Ru} {n c : Nat} (h : RuCap w (.slice a n c) L) (k : Nat) (hk : k ≤ n) :
    (∀ W, (Instr.slice 37 (.slice a n c) none (some (.int .i64 (k : Int))) none).run Tryd.prog W = .ok (.slice a k c) W) ∧ RuCap w (.slice a k c) (L.take k) := by
  obtain ⟨hat, a', c', e, h1, h2, h3⟩ := h
  simp only [Value.slice.injEq] at e
  obtain ⟨rfl, rfl, rfl⟩ := e
  have hl : (L.take k).length = k := by rw [List.length_take]; omega
  refine ⟨fun W => ?_, ?_, a, c, by rw [hl], by rw [hl]; omega, h2, h3⟩
  · have hr := run_slice_h (P := Tryd.prog) (w := W) 37 a L.length c (by rw [elemRu]; exact Tryd.underlying37) .i64 (k : Int) (by omega) (by omega)
    rw [ru_size] at hr
    simp only [Result.andThen, sliced, Int.toNat_natCast, Nat.sub_zero, Nat.zero_mul] at hr
    rw [hr]
    congr 2
    split
    · rfl
    · cases a <;> simp [Addr.add]
  · obtain ⟨a2, c2, e2, hrow⟩ := hat
    simp only [Value.slice.injEq, true_and] at e2
    obtain ⟨rfl, rfl⟩ := e2
    refine ⟨a, c, by rw [hl], fun hn => ?_⟩
    obtain ⟨g, off, ea, hg, hc⟩ := hrow (by intro e; rw [e] at hn; simp at hn)
    refine ⟨g, off, ea, hg, fun i r hr => hc i r ?_⟩
    rw [List.getElem?_take] at hr
    split at hr
    · exact hr
    · cases hr
/-- the rules from a place on -/
theorem cut_tail {w : World} {a : Option Addr} {L : List Ru} {n c : Nat} (h : RuCap w (.slice a n c) L) (k : Nat) (hk : k ≤ n) :
    ∃ a', (∀ W, (Instr.slice 37 (.slice a n c) (some (.int .i64 (k : Int))) none none).run Tryd.prog W = .ok (.slice a' (n - k) (c - k)) W) ∧ RuCap w (.slice a' (n - k) (c - k)) (L.drop k) := by
  obtain ⟨hat, a', c', e, h1, h2, h3⟩ := h
  simp only [Value.slice.injEq] at e
  obtain ⟨rfl, rfl, rfl⟩ := e
  have hl : (L.drop k).length = L.length - k := List.length_drop
  refine ⟨if c = k then a else a.map (·.add (k * 4)), fun W => ?_, ?_, _, c - k, by rw [hl], by rw [hl]; omega, by omega, ?_⟩
  · have hr := run_slice_l (P := Tryd.prog) (w := W) 37 a L.length c (by rw [elemRu]; exact Tryd.underlying37) .i64 (k : Int) (by omega) (by omega)
    rw [ru_size] at hr
    simp only [Result.andThen, sliced, Int.toNat_natCast] at hr
    exact hr
  · obtain ⟨a2, c2, e2, hrow⟩ := hat
    simp only [Value.slice.injEq, true_and] at e2
    obtain ⟨rfl, rfl⟩ := e2
    refine ⟨_, c - k, by rw [hl], fun hn => ?_⟩
    have hkl : k < L.length := by
      rcases Nat.lt_or_ge k L.length with h | h
      · exact h
      · rw [List.drop_eq_nil_of_le h] at hn; exact absurd rfl hn
    obtain ⟨g, off, rfl, hg, hc⟩ := hrow (by intro e; rw [e] at hkl; simp at hkl)
    refine ⟨g, off + k * 4, ?_, hg, fun i r hr => ?_⟩
    · rw [if_neg (by omega)]; simp [add_none]
    · rw [List.getElem?_drop] at hr
      have := hc (k + i) r hr
      rw [show off + (k + i) * 4 = off + k * 4 + i * 4 from by omega] at this
      exact this
  · intro e
    split at e
    · have := h3 e; omega
    · cases a with
      | none => have := h3 rfl; omega
      | some x => simp at e
theorem ruCells_src {w : World} {ad : Addr} {n c : Nat} {M : List Ru} (h : RuAt w (.slice (some ad) n c) M) : ∀ j u, (ruCells M)[j]? = some u → w.cell? (ad.add j) = some u := by
  intro j u hj
  obtain ⟨a', c', e, hrow⟩ := h
  simp only [Value.slice.injEq] at e
  obtain ⟨rfl, rfl, rfl⟩ := e
  have hlt : j < M.length * 4 := by rw [← ruCells_length]; exact (List.getElem?_eq_some_iff.1 hj).1
  obtain ⟨g, off, ea, hg, hc⟩ := hrow (by intro e; rw [e] at hlt; simp at hlt)
  injection ea with ea
  subst ea
  have hj4 := ruCells_get M (j / 4) (j % 4) (by omega)
  rw [show j / 4 * 4 + j % 4 = j from by omega, hj] at hj4
  cases hr : M[j / 4]? with
  | none => rw [hr] at hj4; simp at hj4
  | some r =>
    rw [hr] at hj4
    simp only [Option.bind_some] at hj4
    obtain ⟨c0, c1, c2, c3⟩ := hc (j / 4) r hr
    rw [add_none]
    have hm : j % 4 = 0 ∨ j % 4 = 1 ∨ j % 4 = 2 ∨ j % 4 = 3 := by omega
    have he : j = j / 4 * 4 + j % 4 := by omega
    rcases hm with h | h | h | h <;> rw [h] at hj4 he <;> simp [Ru.cs] at hj4 <;> subst hj4 <;> rw [he]
    · rw [Nat.add_zero]; exact c0
    · rw [← Nat.add_assoc]; exact c1
    · rw [← Nat.add_assoc]; exact c2
    · rw [← Nat.add_assoc]; exact c3
theorem ruCells_one (M : List Ru) : ∀ u ∈ ruCells M, u.oneCell' = true := by
  intro u hu
  obtain ⟨r, _, hr⟩ := List.mem_flatMap.1 hu
  simp [Ru.cs] at hr
  rcases hr with rfl | rfl | rfl | rfl <;> rfl
/-- an append of a row of rules to a row of one's own -/
theorem append_rus {w : World} {ops : Array Oper} {rest : List Oper} {o : Oper} {a : Act} {Q : Exit → Act → World → Prop}
    (hg : o.guard = none) (s x : Operand) (hop : o.op = Op.call { callee := Callee.builtin Builtin.append, args := #[s, x], argTypes := #[37, 37] })
    (base : Nat) (v u : Value) (L M : List Ru) (hs : a.eval s = v) (hown : RuOwn w base v L) (hx : a.eval x = u) (hu : RuCap w u M) (hl : L.length + M.length ≤ 1000000) (b3 : base ≤ w.heap.size)
    (hK : ∀ v' w', RuOwn w' base v' (L ++ M) → Below base w w' → wpList Tryd.prog ops Q rest (a.put o.dst v') w') :
    wpList Tryd.prog ops Q (o :: rest) a w := by
  obtain ⟨i0, hi, hz0, hz1, hz2⟩ := info_parts Tryd.infoRu
  obtain ⟨hat, ad, c, rfl, h1, h2, h3⟩ := hu
  rcases ad with _ | ad
  · have hc := h3 rfl
    subst hc
    have e2 : M = [] := List.eq_nil_of_length_eq_zero (by omega)
    subst e2
    refine wpList_append_own_none hg s x 37 hop base 42 i0 4 Tryd.underlying37 hi v _ _ hs hown hx (hK v w ?_ (Below.refl _ _))
    rw [List.append_nil]; exact hown
  · refine wpList_append_own_at (P := Tryd.prog) w hg s x 37 hop base 42 i0 _ 4 32 Tryd.underlying37 hi hz0 hz1 hz2 rfl (by decide) v L.length (ruCells L) hs hown ad M.length c (ruCells M) hx (by rw [ruCells_length])
      (ruCells_src hat) (ruCells_one M) (by unfold maxLen; omega) (by omega) b3 ?_
    intro v' w' r1 r2 r3 r4
    refine hK v' w' ?_ ((Below.refl _ _).grown r2 b3 (fun k hk => (World.ownsRow.lt hown k hk).1))
    show w'.ownsRow base 42 4 v' (L ++ M).length (ruCells (L ++ M))
    rw [List.length_append]
    have : ruCells (L ++ M) = ruCells L ++ ruCells M := by simp [ruCells]
    rw [this]
    exact r1
theorem RuOwn.cap {w : World} {base : Nat} {v : Value} {L : List Ru} (h : RuOwn w base v L) : RuCap w v L := by
  refine ⟨h.at, ?_⟩
  obtain ⟨h1, h2⟩ := id h
  rcases h2 with ⟨rfl, h0⟩ | ⟨g, cap, cur, rfl, h4, h5, h6, h7, h8, h9⟩
  · exact ⟨none, 0, by rw [h0], by omega, Nat.zero_le _, fun _ => rfl⟩
  · exact ⟨_, cap, rfl, h6, h7, fun h => by cases h⟩
theorem RuOwn.later {w w' : World} {base : Nat} {v : Value} {L : List Ru} (h : RuOwn w base v L) (hb : Below w.heap.size w w') : RuOwn w' base v L := by
  obtain ⟨h1, h2⟩ := h
  refine ⟨h1, ?_⟩
  rcases h2 with h2 | ⟨g, cap, cur, h3, h4, h5, h6⟩
  · exact .inl h2
  · exact .inr ⟨g, cap, cur, h3, h4, (hb.block _ (Array.getElem?_eq_some_iff.1 h5).1).trans h5, h6⟩
/-- a literal row of one rule -/
theorem own_one (w : World) (base : Nat) (r : Ru) (hb : base ≤ w.heap.size) : RuOwn (w.alloc (.cells #[.int .i64 r.act, .string (mk r.pat), .bool r.dir, .bool r.anch] 42)) base (.slice (some ⟨w.heap.size, 0, none⟩) 1 1) [r] := by
  refine ⟨by rw [ruCells_length], .inr ⟨w.heap.size, 1, _, rfl, hb, heap_new _ _, Nat.le_refl _, by unfold maxLen; omega, rfl, rfl⟩⟩
theorem own_zero (w : World) (base : Nat) (hb : base ≤ w.heap.size) : RuOwn (w.alloc (.cells #[] 42)) base (.slice (some ⟨w.heap.size, 0, none⟩) 0 0) [] := by
  refine ⟨rfl, .inr ⟨w.heap.size, 0, _, rfl, hb, heap_new _ _, Nat.le_refl _, by unfold maxLen; omega, rfl, rfl⟩⟩

/-! what is told of rows that are put together -/
theorem first_app (A B : List Ru) (p : L8) (dir drop : Bool) (h : ∀ r ∈ A, counts p dir drop r = false) : firstR (A ++ B) p dir drop = firstR B p dir drop := by
  unfold firstR
  rw [List.find?_append]
  have : A.find? (counts p dir drop) = none := by rw [List.find?_eq_none]; intro r hr; rw [h r hr]; simp
  rw [this]; rfl
theorem first_mid (A F B : List Ru) (p : L8) (dir drop : Bool) (h : ∀ r ∈ F, fitsB r p dir = false) : firstR (A ++ F ++ B) p dir drop = firstR (A ++ B) p dir drop := by
  unfold firstR
  have hf : F.find? (counts p dir drop) = none := by
    rw [List.find?_eq_none]; intro r hr; unfold counts; rw [h r hr]; simp
  rw [List.find?_append, List.find?_append, List.find?_append, hf]
  simp
theorem first_behind (A B : List Ru) (p : L8) (dir drop : Bool) (h : firstR A p dir drop ≠ 0) : firstR (A ++ B) p dir drop = firstR A p dir drop := by
  unfold firstR at h ⊢
  rw [List.find?_append]
  cases hf : A.find? (counts p dir drop) with
  | none => rw [hf] at h; exact absurd rfl h
  | some r => rfl
theorem hidN_same {L M : List Ru} (h : ∀ q d, firstR L q d false = firstR M q d false) : ∀ n p dir, hidN L n p dir = hidN M n p dir := by
  intro n
  induction n with
  | zero => intro p dir; rfl
  | succ n ih => intro p dir; rw [hidN_eq, hidN_eq, h, ih]
def guardR (r : Ru) : Ru := ⟨3, r.pat, r.dir, r.anch⟩
theorem hidden_guard (A L : List Ru) (p : L8) (dir : Bool) (h : ∀ r ∈ A, r.act = 3) : hiddenB (A ++ L) p dir = hiddenB L p dir := by
  unfold hiddenB
  rw [hidN_same (fun q d => first_app A L q d false (fun r hr => by unfold counts shows; rw [h r hr]; simp))]
/-- those of a row that do not match -/
def notM (M : List Ru) (p : L8) (dir : Bool) : List Ru := M.filter fun r => !matchR r p dir
theorem notM_snoc {M : List Ru} {k : Nat} {r : Ru} (h : M[k]? = some r) (p : L8) (dir : Bool) : notM (M.take (k + 1)) p dir = notM (M.take k) p dir ++ (if matchR r p dir then [] else [r]) := by
  rw [List.take_add_one, h]
  unfold notM
  simp only [Option.toList_some, List.filter_append]
  congr 1
  rw [List.filter_cons]
  cases matchR r p dir <;> rfl
theorem notM_fits {M : List Ru} {p : L8} {dir : Bool} (hr : ruledB p = true) : ∀ r ∈ notM M p dir, fitsB r p dir = false := by
  intro r h
  have := (List.mem_filter.1 h).2
  unfold matchR at this
  rw [hr] at this
  simpa using this
theorem idle_act (L M : List Ru) (k : Nat) (p : L8) (dir drop : Bool) (hr : ruledB p = true) : actR (L.take k ++ notM M p dir ++ L.drop k) p dir drop = actR L p dir drop := by
  unfold actR
  rw [first_mid _ _ _ _ _ _ (notM_fits hr), List.take_append_drop]
theorem behind_act (L M : List Ru) (p : L8) (dir drop : Bool) (h : actR L p dir drop ≠ 0) : actR (L ++ M) p dir drop = actR L p dir drop := by
  unfold actR at h ⊢
  by_cases hr : ruledB p = true
  · rw [if_pos hr] at h ⊢
    rw [if_pos hr, first_behind _ _ _ _ _ h]
  · rw [if_neg hr] at h; exact absurd rfl h
/-- guards, the last one ahead -/
def guards (M : List Ru) : List Ru := (M.map guardR).reverse
theorem guards_snoc {M : List Ru} {k : Nat} {r : Ru} (h : M[k]? = some r) : guards (M.take (k + 1)) = guardR r :: guards (M.take k) := by
  rw [List.take_add_one, h]; simp [guards]
theorem guards_act (M : List Ru) : ∀ r ∈ guards M, r.act = 3 := by
  intro r h
  unfold guards at h
  rw [List.mem_reverse, List.mem_map] at h
  obtain ⟨x, _, rfl⟩ := h
  rfl
theorem light_app {A B : List Ru} (hA : ∀ r ∈ A, r.pat.length ≤ 200) (hB : ∀ r ∈ B, r.pat.length ≤ 200) (hl : A.length + B.length ≤ 1000) : LightR (A ++ B) := by
  refine ⟨by rw [List.length_append]; omega, fun r hr => ?_⟩
  rcases List.mem_append.1 hr with h | h
  · have := hA r h; omega
  · have := hB r h; omega
end Go.Proofs.YtokocfoeohddfaaDoor.Pa
