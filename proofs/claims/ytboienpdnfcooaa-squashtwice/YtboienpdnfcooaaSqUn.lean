/- squash: what bytes make, in plain lists; putBehind. (A template: seatgen.py fills it.) -/
import Derived.Test.YtboienpdnfcooaaSqRead
namespace Go.Proofs.Ytboienpdnfcooaa.Sq
open Go.RowKit Go.Proofs.NumMath Go.Maps
open Num (trip)
set_option linter.unusedVariables false
set_option linter.unusedSimpArgs false
set_option maxRecDepth 1000000

theorem sl_form' {w : World} {v : Value} {l : List Int} (h : Sl w v l) : ∃ a c, v = .slice a l.length c := by
  obtain ⟨a, c, e, _⟩ := h; exact ⟨a, c, e⟩
def cpy (t : List Int) (d : Nat) : Nat → List Int
  | 0 => t
  | k + 1 => cpy t d k ++ [(cpy t d k).getD ((cpy t d k).length - d) 0]
theorem cpy_length (t : List Int) (d k : Nat) : (cpy t d k).length = t.length + k := by
  induction k with
  | zero => rfl
  | succ k ih => rw [cpy, List.length_append, ih]; simp; omega
theorem cpy_oct (t : List Int) (d k : Nat) (h : Oct t) : Oct (cpy t d k) := by
  induction k with
  | zero => exact h
  | succ k ih =>
    rw [cpy]
    refine oct_app ih (fun x hx => ?_)
    simp only [List.mem_singleton] at hx
    subst hx
    exact ih.getD _
def ex (t : List Int) (k d : Nat) (told : List Int) : List Int := if d = 0 then t ++ told else cpy t d k
def Rp (l : List Int) (p s k d : Nat) (told : List Int) (beh : Nat) : Prop := p < beh ∧ beh ≤ l.length ∧ k + s ≤ 65536 ∧ ((d = 0 ∧ told.length = k) ∨ (1 ≤ d ∧ d ≤ s ∧ told = [])) ∧ Oct told
theorem ex_length {t : List Int} {l : List Int} {p k d beh : Nat} {told : List Int} (h : Rp l p t.length k d told beh) : (ex t k d told).length = t.length + k := by
  obtain ⟨_, _, _, h, _⟩ := h
  unfold ex
  rcases h with ⟨rfl, h⟩ | ⟨h1, _, _⟩
  · rw [if_pos rfl, List.length_append, h]
  · rw [if_neg (by omega), cpy_length]
theorem ex_oct {t : List Int} {l : List Int} {p s k d beh : Nat} {told : List Int} (h : Rp l p s k d told beh) (ho : Oct t) : Oct (ex t k d told) := by
  unfold ex
  split
  · exact oct_app ho h.2.2.2.2
  · exact cpy_oct t d k ho
theorem G_ahead (l : List Int) (p : Nat) (h : (G l p).2.2 = 0) : (p : Int) < (G l p).2.1 := by
  unfold G at h ⊢
  split
  · next h1 => rw [if_pos h1] at h; cases h
  · next h1 =>
    rw [if_neg h1] at h
    unfold getR at h ⊢
    repeat' split at h
    all_goals first
      | (exfalso; revert h; decide)
      | (repeat' split
         all_goals first
          | (exfalso; omega)
          | (simp only [Int.toNat_natCast]; omega))
theorem rr_ok {l : List Int} {p s k k' d beh : Nat} {told : List Int} (hs : s ≤ 65536) (ho : Oct l) (hp : p ≤ l.length) (h : rr l p s k = .ok (k', d, told, beh)) :
    p + k = beh ∧ beh ≤ l.length ∧ k' = k ∧ k + s ≤ 65536 ∧ d = 0 ∧ told.length = k ∧ Oct told := by
  unfold rr at h
  split at h
  · cases h
  · split at h
    · cases h
    · injection h with h
      simp only [Prod.mk.injEq] at h
      obtain ⟨rfl, rfl, rfl, rfl⟩ := h
      refine ⟨rfl, by omega, rfl, by omega, rfl, ?_, (ho.drop _).take _⟩
      rw [List.length_take, List.length_drop]; omega
theorem rm_ok {l : List Int} {p s k k' d beh : Nat} {told : List Int} (hs : s ≤ 65536) (hl : l.length ≤ 140737488355328) (h : rm l p s k = .ok (k', d, told, beh)) :
    p < beh ∧ beh ≤ l.length ∧ k' = k ∧ k + s ≤ 65536 ∧ 1 ≤ d ∧ d ≤ s ∧ told = [] := by
  obtain ⟨b1, b2, b3, b4, b5, b6⟩ := G_bd l p (by omega)
  unfold rm at h
  split at h
  · cases h
  · split at h
    · cases h
    · next hE =>
      split at h
      · cases h
      · split at h
        · cases h
        · injection h with h
          simp only [Prod.mk.injEq] at h
          obtain ⟨rfl, rfl, rfl, rfl⟩ := h
          have ha := G_ahead l p (by omega)
          refine ⟨by omega, by omega, rfl, by omega, by omega, by omega, rfl⟩
theorem rp_ok {l : List Int} {p s k d beh : Nat} {told : List Int} {af : Bool} (hs : s ≤ 65536) (ho : Oct l) (hl : l.length ≤ 140737488355328) (h : rp l p s af = .ok (k, d, told, beh)) : Rp l p s k d told beh := by
  obtain ⟨b1, b2, b3, b4, b5, b6⟩ := G_bd l p (by omega)
  unfold rp at h
  split at h
  · cases h
  · next hE =>
    have ha := G_ahead l p (by omega)
    split at h
    · obtain ⟨h1, h2, rfl, h4, h5, h6, rfl⟩ := rm_ok hs hl h
      exact ⟨by omega, h2, h4, .inr ⟨h5, h6, rfl⟩, fun x hx => by cases hx⟩
    · split at h
      · cases h
      · obtain ⟨h1, h2, rfl, h4, rfl, h6, h7⟩ := rr_ok hs ho (by omega) h
        exact ⟨by omega, h2, h4, .inl ⟨rfl, h6⟩, h7⟩
/-- what bytes make from a place on, behind a text -/
def un (l : List Int) (p : Nat) (t : List Int) (af : Bool) : Except Int (List Int) :=
  if h : p < l.length then
    match rp l p t.length af with
    | .error er => .error er
    | .ok (k, d, told, beh) => un l (max (p + 1) beh) (ex t k d told) (decide (d = 0))
  else .ok t
termination_by l.length - p
decreasing_by omega
theorem un_end (l : List Int) (p : Nat) (t : List Int) (af : Bool) (h : l.length ≤ p) : un l p t af = .ok t := by rw [un, dif_neg (by omega)]
theorem un_err (l : List Int) (p : Nat) (t : List Int) (af : Bool) (er : Int) (h : p < l.length) (e : rp l p t.length af = .error er) : un l p t af = .error er := by rw [un, dif_pos h, e]
theorem un_ok {l : List Int} {p : Nat} {t : List Int} {af : Bool} {k d beh : Nat} {told : List Int} (h : p < l.length) (e : rp l p t.length af = .ok (k, d, told, beh)) (hb : p < beh) : un l p t af = un l beh (ex t k d told) (decide (d = 0)) := by
  rw [un, dif_pos h, e]
  show un l (max (p + 1) beh) _ _ = _
  rw [show max (p + 1) beh = beh from by omega]

/-- rows of other things stay -/
def Ot (w w' : World) : Prop := ∀ (b : Nat) (cs : Array Value) (ty : TypeId) (fr : Nat × Nat), w.heap[b]? = some (.cells cs ty fr) → ty ≠ 5 → w'.heap[b]? = some (.cells cs ty fr)
theorem Ot.refl (w : World) : Ot w w := fun _ _ _ _ h _ => h
theorem Ot.trans {a b c : World} (h : Ot a b) (h' : Ot b c) : Ot a c := fun x cs ty fr hx ht => h' x cs ty fr (h x cs ty fr hx ht) ht
theorem Ot.below {w w' : World} (h : Below w.heap.size w w') : Ot w w' := fun b cs ty fr hb _ => by rw [h.block b (heap_lt hb)]; exact hb
theorem own_other {W W' : World} {base : Nat} {v : Value} {l : List Int} (h : Own W base v l) (hg : W.grownBy W' v.ownBlock) : Ot W W' := by
  intro b c t fr hb ht
  rw [hg.block b (heap_lt hb) ?_]; exact hb
  intro e1
  rcases h.2 with ⟨rfl, _⟩ | ⟨g, cap, cur, rfl, h4, h5, h6⟩
  · simp [Value.ownBlock] at e1
  · simp [Value.ownBlock] at e1
    subst e1
    rw [hb] at h5
    cases h5
    exact ht rfl
theorem append_ot {w : World} {ops : Array Oper} {rest : List Oper} {o : Oper} {a : Act} {Q : Exit → Act → World → Prop} (hgd : o.guard = none)
    (s x : Operand) (ho : o.op = Op.call { callee := Callee.builtin Builtin.append, args := #[s, x], argTypes := #[22, 22] }) (base : Nat) (v u : Value) (l m : List Int) (hs : a.eval s = v) (hown : Own w base v l)
    (hx : a.eval x = u) (hS : Sl w u m) (hlen : l.length + m.length ≤ 140737488355328) (hbase : base ≤ w.heap.size)
    (h : ∀ (v' : Value) (w' : World), Hid (Own w' base v' (l ++ m)) → Below base w w' → Ot w w' → wpList Try.prog ops Q rest (a.put o.dst v') w') : wpList Try.prog ops Q (o :: rest) a w := by
  obtain ⟨i0, hi, hz0, hz1, hz2⟩ := info_parts Try.infoB
  obtain ⟨ad, cap, rfl, hB, hnil, hcap⟩ := hS
  rcases ad with _ | ad
  · have hc := hnil rfl
    subst hc
    have e2 : m = [] := List.eq_nil_of_length_eq_zero (by omega)
    subst e2
    refine wpList_append_own_none hgd s x 22 ho base 5 i0 1 Try.underlying22 hi v _ _ hs hown hx (h v w ?_ (Below.refl _ _) (Ot.refl _))
    rw [List.append_nil]; exact hown
  · refine wpList_append_own w hgd s x 22 ho base 5 i0 (.int .u8 0) 1 1 Try.underlying22 hi hz0 hz1 hz2 rfl (by decide) v _ _ hs hown ad m.length cap (m.map (Value.int .u8)) hx (by simp) (Bytes.src hB) (oneCells m) (by unfold maxLen; omega) (by omega) hbase ?_
    intro v' w' hown' hg _
    have r := own_more (m := m) hown hbase hown' hg
    exact h v' w' r.1 r.2 (own_other hown hg)

/-- a part, as a value -/
def partV (k d : Nat) (u : Value) : Value := .agg #[.int .i64 (k : Nat), .int .i64 (d : Nat), u]
set_option maxHeartbeats 8000000 in
theorem putBehind_any (k d : Nat) (u v : Value) (told t : List Int) (base : Nat) (w : World) (hv : Own w base v t) (hbase : base ≤ w.heap.size) (hu : Sl w u told) (ho : Oct t)
    (hd : d = 0 ∨ (1 ≤ d ∧ d ≤ t.length)) (hk : t.length + k ≤ 65536) (ht : told.length ≤ 65536) :
    Calls Try.prog 29 #[partV k d u, v] w fun e w' => ∃ v', e = .returned v' ∧ Own w' base v' (ex t k d told) ∧ Below base w w' ∧ Ot w w' := by
  obtain ⟨w1, hw1⟩ : ∃ w1, w1 = w.alloc (.cells #[.int .i64 (k : Nat), .int .i64 (d : Nat), u] 49) := ⟨_, rfl⟩
  have hb1 : Below w.heap.size w w1 := by rw [hw1]; exact (Below.refl _ _).alloc (Nat.le_refl _) _
  have hh1 : w1.heap[w.heap.size]? = some (.cells #[.int .i64 (k : Nat), .int .i64 (d : Nat), u] 49) := by rw [hw1]; exact heap_new _ _
  have HV := Lib.hid (hv.below hb1)
  have HU := Lib.hid (hu.later hb1)
  have HB1 : Hid (Below base w w1) := hb1.mono hbase
  have HO1 : Hid (Ot w w1) := Ot.below hb1
  have HH1 := Lib.hid hh1
  have HS1 : Hid (base ≤ w1.heap.size) := Nat.le_trans hbase hb1.size
  have HO := Lib.hid ho
  obtain ⟨ua, uc, eu⟩ : ∃ ua uc, u = .slice ua told.length uc := by obtain ⟨x, y, e, _⟩ := hu; exact ⟨x, y, e⟩
  have d0 : w1.cell? ⟨w.heap.size, 0, none⟩ = some (.int .i64 (k : Nat)) := by rw [cell_of_row w1 _ 0 _ _ (0, 0) hh1]; rfl
  have d1 : w1.cell? ⟨w.heap.size, 1, none⟩ = some (.int .i64 (d : Nat)) := by rw [cell_of_row w1 _ 1 _ _ (0, 0) hh1]; rfl
  have d2 : w1.cell? ⟨w.heap.size, 2, none⟩ = some u := by rw [cell_of_row w1 _ 2 _ _ (0, 0) hh1]; rfl
  obtain ⟨va, vc, ev⟩ := own_form hv
  have HLT : Hid (t.length + told.length ≤ 140737488355328) := by show _ ≤ _; omega
  obtain ⟨tn, htn⟩ : ∃ tn, tn = told.length := ⟨_, rfl⟩
  obtain ⟨n, hn⟩ : ∃ n, n = t.length := ⟨_, rfl⟩
  have HN := Lib.hid hn
  rw [← htn] at eu
  rw [← hn] at ev hd hk
  subst eu ev
  clear hv hu hb1 hh1 ho htn hn ht
  unfold partV
  rcases hd with rfl | ⟨hd1, hd2⟩
  · go_enter Try.func29, Try.ntmps29
    have hw1 : w1 = w.alloc (.cells #[.int .i64 (k : Nat), .int .i64 0, .slice ua tn uc] 49) := hw1
    go_wp2_with (at_builtin; rw [← hw1]; go_must (refine append_ot rfl (.tmp 8) (.tmp 10) rfl base _ _ t told rfl HV.out rfl HU.out HLT.out HS1.out ?_))
    intro v2 w2 HV2 hb2 ho2
    rw [← hw1] at hb2 ho2
    go_wp2
    go_ret
    exact ⟨_, rfl, by unfold ex; rw [if_pos rfl]; exact HV2.out, HB1.out.trans hb2, HO1.out.trans ho2⟩
  · have hd0 : ¬ d = 0 := by omega
    have hdI : ¬ (d : Int) = 0 := by omega
    have hdb : ((d : Int) == 0) = false := by simpa using hdI
    go_enter Try.func29, Try.ntmps29
    go_wp2_with fail
    rw [← hw1]
    clear hw1
    go_wp2
    clear d0 d1 d2
    go_loopw [1, 14] (fun vt vi wr => ∃ i : Nat, vi = .int .i64 i ∧ i ≤ k ∧ Hid (Own wr base vt (cpy t d i)) ∧ Hid (Below base w1 wr) ∧ Hid (Ot w1 wr)) (fun _ vi _ => k - (intOf vi).toNat)
    case atStart => exact ⟨0, rfl, by omega, HV, Below.refl _ _, Ot.refl _⟩
    case round =>
      obtain ⟨i, rfl, hi, HW, HBR, HOR⟩ := hrel
      by_cases hlt : i < k
      · have hltI : (i : Int) < (k : Int) := by omega
        have hh := HOR.out _ _ _ _ HH1.out (by decide)
        have d1 : wr.cell? ⟨w.heap.size, 1, none⟩ = some (.int .i64 (d : Nat)) := by rw [cell_of_row wr _ 1 _ _ (0, 0) hh]; rfl
        have hoc := cpy_oct t d i HO.out
        have hlen := cpy_length t d i
        rw [← HN.out] at hlen
        obtain ⟨xa, xc, ex1, hBx, -, -⟩ := HW.out.sl hoc
        rw [hlen] at ex1
        have hne : cpy t d i ≠ [] := by intro e; rw [e] at hlen; simp at hlen; omega
        obtain ⟨xb, xo, ea, hc⟩ := hBx.2 hne
        subst ea
        subst ex1
        have hcb := hc (n + i - d) (by omega)
        have hxb := hoc.getD (n + i - d)
        have HCP : Hid (cpy t d i ++ [(cpy t d i).getD (n + i - d) 0] = cpy t d (i + 1)) := by show _ = _; rw [cpy, hlen]
        generalize (cpy t d i).getD (n + i - d) 0 = x at *
        have hba : Below wr.heap.size wr (wr.alloc (.cells #[.int .u8 x] 5)) := (Below.refl _ _).alloc (Nat.le_refl _) _
        have HWA := Lib.hid (HW.out.below hba)
        have HON := Lib.hid (one_sl wr x hxb.1 hxb.2)
        have hsr : base ≤ wr.heap.size := Nat.le_trans HS1.out HBR.out.size
        have HBA : Hid (Below base w1 (wr.alloc (.cells #[.int .u8 x] 5))) := HBR.out.trans (hba.mono hsr)
        have HOA : Hid (Ot w1 (wr.alloc (.cells #[.int .u8 x] 5))) := HOR.out.trans (Ot.below hba)
        have HSA : Hid (base ≤ (wr.alloc (.cells #[.int .u8 x] 5)).heap.size) := Nat.le_trans hsr hba.size
        have HLL : Hid ((cpy t d i).length + ([x] : List Int).length ≤ 140737488355328) := by show _ ≤ _; rw [hlen]; simp; omega
        have w1' : IntKind.i64.wrap (((n + i : Nat) : Int) - (d : Int)) = ((n + i : Nat) : Int) - (d : Int) := by rw [IntKind.wrap_i64]; omega
        have n1' : (((n + i : Nat) : Int) - (d : Int)).toNat = n + i - d := by omega
        have n2' : (0 : Int) ≤ ((n + i : Nat) : Int) - (d : Int) := by omega
        have n3' : ((n + i : Nat) : Int) - (d : Int) < ((n + i : Nat) : Int) := by omega
        clear hh hoc hBx hc hne hba hsr hxb
        generalize hq : n + i = q at *
        go_wp2_with (at_builtin; go_must (refine append_ot rfl (.tmp 16) (.tmp 25) rfl base _ _ (cpy t d i) [x] rfl HWA.out rfl HON.out HLL.out HSA.out ?_))
        intro v2 w2 HV2 hb2 ho2
        go_wp2
        go_roundw
        case rel => exact ⟨i + 1, by go_num, by omega, by show Own _ _ _ _; rw [← HCP.out]; exact HV2.out, HBA.out.trans hb2, HOA.out.trans ho2⟩
        case measure => simp [intOf]; omega
      · have hltI : ¬ (i : Int) < (k : Int) := by omega
        have ei : i = k := by omega
        subst ei
        go_wp2
        go_ret
        exact ⟨_, rfl, by unfold ex; rw [if_neg hd0]; exact HW.out, HB1.out.trans HBR.out, HO1.out.trans HOR.out⟩
end Go.Proofs.Ytboienpdnfcooaa.Sq
