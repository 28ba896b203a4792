/- path: the document's Sort. (A template.) -/
import Derived.Test.YteimbdbnipfmkaaPaCleans
import Derived.Test.YteimbdbnipfmkaaPaRTwo
import Derived.Deep.RegionHeld3
import Derived.Deep.DeepCutAuto
namespace Go.Proofs.Yteimbdbnipfmkaa.Pa
open Go.RowKit
set_option linter.unusedVariables false
set_option linter.unusedSimpArgs false
set_option maxRecDepth 1000000

def le8 (x y : L8) : Bool := !lessB y x
def msort : Nat → List L8 → List L8
  | 0, l => l
  | f + 1, l => if l.length < 2 then l else List.merge (msort f (l.take (l.length / 2))) (msort f (l.drop (l.length / 2))) le8
theorem le_trans8 (a b c : L8) (h1 : le8 a b = true) (h2 : le8 b c = true) : le8 a c = true := by
  unfold le8 at *
  simp only [Bool.not_eq_true'] at *
  cases h : lessB c a with
  | false => rfl
  | true =>
    cases h3 : lessB b a with
    | true => rw [h3] at h1; cases h1
    | false =>
      cases h4 : lessB a b with
      | true => rw [ord1 c a b h h4] at h2; cases h2
      | false =>
        have := ord4 a b h4 h3
        subst this
        rw [h] at h2; cases h2
theorem le_total8 (a b : L8) : (le8 a b || le8 b a) = true := by
  unfold le8
  cases h : lessB b a with
  | false => simp
  | true => rw [ord2 b a h]; simp
theorem le_anti8 {a b : L8} (h1 : le8 a b = true) (h2 : le8 b a = true) : a = b := by
  unfold le8 at *
  simp only [Bool.not_eq_true'] at *
  exact ord4 a b h2 h1
theorem msort_perm (f : Nat) (l : List L8) : (msort f l).Perm l := by
  induction f generalizing l with
  | zero => exact List.Perm.refl _
  | succ f ih =>
    rw [msort]
    split
    · exact List.Perm.refl _
    · refine (List.merge_perm_append le8).trans ?_
      refine ((ih _).append (ih _)).trans ?_
      rw [List.take_append_drop]
theorem msort_sorted (f : Nat) (l : List L8) (h : l.length ≤ f + 1) : (msort f l).Pairwise (fun a b => le8 a b = true) := by
  induction f generalizing l with
  | zero =>
    rw [msort]
    cases l with
    | nil => exact List.Pairwise.nil
    | cons x l =>
      cases l with
      | nil => simp
      | cons y l => simp at h
  | succ f ih =>
    rw [msort]
    split
    · cases l with
      | nil => exact List.Pairwise.nil
      | cons x l =>
        cases l with
        | nil => simp
        | cons y l => simp at *; omega
    · refine List.pairwise_merge le_trans8 le_total8 _ _ (ih _ ?_) (ih _ ?_)
      · rw [List.length_take]; omega
      · rw [List.length_drop]; omega
theorem sorted_eq {a b : List L8} (ha : a.Pairwise (fun x y => le8 x y = true)) (hb : b.Pairwise (fun x y => le8 x y = true)) (h : a.Perm b) : a = b :=
  List.Perm.eq_of_pairwise (le := fun x y => le8 x y = true) (fun x y _ _ h1 h2 => le_anti8 h1 h2) ha hb h

/-- a row that reads as these texts, with its room -/
def TxC (w : World) (v : Value) (ps : List L8) : Prop :=
  ∃ a c, v = .slice a ps.length c ∧ ps.length ≤ c ∧ (a = none → c = 0) ∧ (ps ≠ [] → ∃ g off, a = some ⟨g, off, none⟩ ∧ ∀ (j : Nat) (x : L8), ps[j]? = some x → w.cell? ⟨g, off + j, none⟩ = some (.string (mk x)))
theorem TxC.txt {w : World} {v : Value} {ps : List L8} (h : TxC w v ps) : Txt w v ps := by
  obtain ⟨a, c, h1, _, _, h4⟩ := h
  exact ⟨a, c, h1, h4⟩
theorem TxC.later {w w' : World} {v : Value} {ps : List L8} (h : TxC w v ps) (hb : Below w.heap.size w w') : TxC w' v ps := by
  obtain ⟨a, c, e, h2, h3, hc⟩ := h
  exact ⟨a, c, e, h2, h3, fun hn => by
    obtain ⟨g, off, ea, hx⟩ := hc hn
    exact ⟨g, off, ea, fun j x hj => cell_later hb (hx j x hj)⟩⟩
theorem SOwn.txc {w : World} {base : Nat} {v : Value} {ps : List L8} (h : SOwn w base v ps) : TxC w v ps := by
  rcases h.form with ⟨rfl, rfl⟩ | ⟨g, cap, rfl, _, _, hcap, _, hc⟩
  · exact ⟨none, 0, rfl, by simp, fun _ => rfl, fun h => absurd rfl h⟩
  · exact ⟨_, cap, rfl, hcap, (fun h => by cases h), fun _ => ⟨g, 0, rfl, hc⟩⟩
theorem txc_head {w : World} {a : Option Addr} {n c : Nat} {ps : List L8} (h : TxC w (.slice a n c) ps) (m : Nat) (hm : m ≤ ps.length) :
    ∃ a', (∀ W, (Instr.slice 24 (.slice a n c) none (some (.int .i64 (m : Int))) none).run Try.prog W = .ok (.slice a' m c) W) ∧ TxC w (.slice a' m c) (ps.take m) := by
  obtain ⟨a0, c0, e, hc, hnil, hx⟩ := h
  simp only [Value.slice.injEq] at e
  obtain ⟨rfl, rfl, rfl⟩ := e
  have hr : ∀ W, (Instr.slice 24 (.slice a ps.length c) none (some (.int .i64 (m : Int))) none).run Try.prog W = .ok (.slice (if c = 0 then a else a.map (·.add (0 * 1))) m c) W := by
    intro W
    have hr := run_slice_h (P := Try.prog) (w := W) 24 a ps.length c (by rw [hel24]; exact Try.underlying24) .i64 m (by omega) (by omega)
    have hsz : (sizeOf (Try.prog.elem 24)).run Try.prog W = .ok 1 W := by rw [hel24]; rfl
    rw [hsz] at hr
    simpa [Result.andThen, sliced] using hr
  refine ⟨_, hr, _, c, by rw [List.length_take, Nat.min_eq_left hm], by rw [List.length_take]; omega, ?_, fun hne => ?_⟩
  · intro h
    split at h
    · next h0 => exact h0
    · simp at h; exact hnil h
  have hn0 : ps ≠ [] := by intro e; subst e; simp at hne
  obtain ⟨g, off, rfl, hcell⟩ := hx hn0
  refine ⟨g, off, by split <;> simp [Addr.add], fun j x hj => ?_⟩
  rw [List.getElem?_take] at hj
  split at hj
  · exact hcell j x hj
  · cases hj
theorem txc_tail {w : World} {a : Option Addr} {n c : Nat} {ps : List L8} (h : TxC w (.slice a n c) ps) (k : Nat) (hk : k ≤ ps.length) :
    ∃ a', (∀ W, (Instr.slice 24 (.slice a n c) (some (.int .i64 (k : Int))) none none).run Try.prog W = .ok (.slice a' (n - k) (c - k)) W) ∧ TxC w (.slice a' (n - k) (c - k)) (ps.drop k) := by
  obtain ⟨a0, c0, e, hc, hnil, hx⟩ := h
  simp only [Value.slice.injEq] at e
  obtain ⟨rfl, rfl, rfl⟩ := e
  have hr : ∀ W, (Instr.slice 24 (.slice a ps.length c) (some (.int .i64 (k : Int))) none none).run Try.prog W = .ok (.slice (if c = k then a else a.map (·.add (k * 1))) (ps.length - k) (c - k)) W := by
    intro W
    have hr := run_slice_l (P := Try.prog) (w := W) 24 a ps.length c (by rw [hel24]; exact Try.underlying24) .i64 (k : Int) (by omega) (by omega)
    have hsz : (sizeOf (Try.prog.elem 24)).run Try.prog W = .ok 1 W := by rw [hel24]; rfl
    rw [hsz] at hr
    simp only [Result.andThen, sliced, Int.toNat_natCast] at hr
    exact hr
  refine ⟨_, hr, _, c - k, by rw [List.length_drop], by rw [List.length_drop]; omega, ?_, fun hne => ?_⟩
  · intro h
    split at h
    · next h0 => omega
    · simp at h; have := hnil h; omega
  have hn0 : ps ≠ [] := by intro e; subst e; simp at hne
  have hkl : k < ps.length := by
    rcases Nat.lt_or_ge k ps.length with h | h
    · exact h
    · rw [List.drop_eq_nil_of_le h] at hne; exact absurd rfl hne
  obtain ⟨g, off, rfl, hcell⟩ := hx hn0
  refine ⟨g, off + k, ?_, fun j x hj => ?_⟩
  · rw [if_neg (by omega)]
    by_cases h0 : k = 0
    · subst h0; simp [Addr.add]
    · simp [Addr.add, h0]
  · rw [List.getElem?_drop] at hj
    rw [Nat.add_assoc]
    exact hcell _ x hj
/-- an append of a row of texts, wherever it lies, to a row of one's own -/
theorem append_txc {w : World} {ops : Array Oper} {rest : List Oper} {o : Oper} {a : Act} {Q : Exit → Act → World → Prop}
    (hg : o.guard = none) (s x : Operand) (hop : o.op = Op.call { callee := Callee.builtin Builtin.append, args := #[s, x], argTypes := #[24, 24] })
    (base : Nat) (v u : Value) (ps qs : List L8) (hs : a.eval s = v) (hown : SOwn w base v ps) (hx : a.eval x = u) (hu : TxC w u qs)
    (hl : ps.length + qs.length ≤ 4398046511104) (b3 : base ≤ w.heap.size)
    (hK : ∀ v' w', Hid (SOwn w' base v' (ps ++ qs)) → Hid (Below base w w') → wpList Try.prog ops Q rest (a.put o.dst v') w') :
    wpList Try.prog ops Q (o :: rest) a w := by
  obtain ⟨i0, hi, hz0, hz1, hz2⟩ := info_parts Try.infoStr
  obtain ⟨ad, c, rfl, hc, hnil, hcell⟩ := hu
  rcases ad with _ | ad
  · have hc0 := hnil rfl
    subst hc0
    have e2 : qs = [] := List.eq_nil_of_length_eq_zero (by omega)
    subst e2
    refine wpList_append_own_none hg s x 24 hop base 9 i0 1 Try.underlying24 hi v _ _ hs hown hx (hK v w ?_ (Below.refl _ _))
    rw [List.append_nil]; exact hown
  · refine wpList_append_own w hg s x 24 hop base 9 i0 (.string ⟨#[]⟩) 1 16 Try.underlying24 hi hz0 hz1 hz2 rfl (by decide) v ps.length (strs ps) hs hown ad qs.length c (strs qs) hx (by rw [strs_length]; omega)
      (by intro j y hj
          unfold strs at hj
          rw [List.getElem?_map] at hj
          cases hq : qs[j]? with
          | none => rw [hq] at hj; cases hj
          | some z =>
            rw [hq] at hj
            injection hj with hj
            subst hj
            obtain ⟨g, off, e, hcl⟩ := hcell (by intro e; rw [e] at hq; simp at hq)
            injection e with e
            subst e
            have := hcl j z hq
            by_cases h0 : j = 0
            · subst h0; simpa [Addr.add] using this
            · simpa [Addr.add, h0] using this) (strs_one _) (by unfold maxLen; omega) (by omega) b3 ?_
    intro v' w' r1 r2 _
    refine hK v' w' ?_ ((Below.refl _ _).grown r2 b3 (fun j hj => (SOwn.base_le hown j hj).1))
    show w'.ownsRow base 9 1 v' (ps ++ qs).length (strs (ps ++ qs))
    rw [strs_app, List.length_append]
    exact r1

theorem append_nil_txc (w : World) (v : Value) (ss : List L8) (hT : TxC w v ss) (hlt : ss.length < 2) (f : Nat) :
    Calls Try.prog 36 #[v] w fun e w' => ∃ v', e = .returned v' ∧ SOwn w' w.heap.size v' ss ∧ Below w.heap.size w w' := by
  obtain ⟨a, c, rfl, hc, hnil, hcell⟩ := id hT
  have HT := Lib.hid hT
  obtain ⟨n, hn⟩ : ∃ n, n = ss.length := ⟨_, rfl⟩
  rw [← hn] at HT ⊢
  have hI : (n : Int) < 2 := by omega
  have HN := Lib.hid hn
  have HNIL : Hid (SOwn w w.heap.size (.slice none 0 0) []) := World.ownsRow_nil _ _ _ _
  clear hT hcell hnil hc hlt hn
  go_enter Try.func36, Try.ntmps36
  go_wp2_with (at_builtin; go_must (refine append_txc rfl (.tmp 10) (.tmp 11) rfl w.heap.size (.slice none 0 0) (.slice a n c) [] ss rfl HNIL.out rfl HT.out (by have := HN.out; simp; omega) (Nat.le_refl _) ?_))
  intro v5 w5 HO5 HB5
  obtain ⟨a5, c5, e5⟩ := HO5.out.slice
  subst e5
  go_wp2
  go_ret
  exact ⟨_, rfl, HO5.out, HB5.out⟩
def vlen : Value → Nat
  | .slice _ n _ => n
  | _ => 0
end Go.Proofs.Yteimbdbnipfmkaa.Pa
