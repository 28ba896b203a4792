/- gear: rows of numbers; mayCut, Cuts and the document's; Same. (A template: seatgen.py fills it.) -/
import Derived.Test.YtheklipnnflnaaaDoorGrNext
namespace Go.Proofs.YtheklipnnflnaaaDoor.Gear
open Go.RowKit Go.Proofs.GearMath
set_option linter.unusedVariables false
set_option maxRecDepth 1000000

theorem Tryd.infoI : (Tryd.prog.info? 3).map (fun i => (i.zero, i.size, i.bytes)) = some (some (.int .i64 0), 1, 8) := by kernel_rfl
def ints (l : List Nat) : List Value := l.map (fun n => Value.int .i64 ((n : Nat) : Int))
def IOwn (w : World) (base : Nat) (v : Value) (l : List Nat) : Prop := w.ownsRow base 3 1 v l.length (ints l)
def ISl (w : World) (v : Value) (l : List Nat) : Prop := ∃ a cap, v = .slice a l.length cap ∧ (l ≠ [] → ∃ b off, a = some ⟨b, off, none⟩ ∧ ∀ i, i < l.length → w.cell? ⟨b, off + i, none⟩ = some (.int .i64 ((l.getD i 0 : Nat) : Int)))
theorem ISl.later {w w' : World} {v : Value} {l : List Nat} (h : ISl w v l) (hb : Below w.heap.size w w') : ISl w' v l := by
  obtain ⟨a, cap, e, h1⟩ := h
  refine ⟨a, cap, e, fun hne => ?_⟩
  obtain ⟨b, off, e, hc⟩ := h1 hne
  exact ⟨b, off, e, fun i hi => cell_later hb (hc i hi)⟩
theorem ints_length (l : List Nat) : (ints l).length = l.length := by unfold ints; simp
theorem ints_one (l : List Nat) : ∀ v ∈ ints l, v.oneCell' = true := by
  intro v hv
  obtain ⟨c, _, rfl⟩ := List.mem_map.1 hv
  rfl
theorem IOwn.nil (w : World) (base : Nat) : IOwn w base (.slice none 0 0) [] := World.ownsRow_nil _ _ _ _
theorem IOwn.below {w w' : World} {base : Nat} {v : Value} {l : List Nat} (h : IOwn w base v l) (hb : Below w.heap.size w w') : IOwn w' base v l := by
  obtain ⟨h1, h2⟩ := h
  refine ⟨h1, ?_⟩
  rcases h2 with h2 | ⟨g, cap, cur, h3, h4, h5, h6, h7, h8, h9⟩
  · exact .inl h2
  · refine .inr ⟨g, cap, cur, h3, h4, ?_, h6, h7, h8, h9⟩
    have hlt : g < w.heap.size := heap_lt h5
    rw [hb.block g hlt]; exact h5
theorem IOwn.lower {w : World} {base base' : Nat} {v : Value} {l : List Nat} (h : IOwn w base v l) (hb : base' ≤ base) : IOwn w base' v l := by
  obtain ⟨h1, h2⟩ := h
  refine ⟨h1, ?_⟩
  rcases h2 with h2 | ⟨g, cap, cur, h3, h4, h5, h6, h7, h8, h9⟩
  · exact .inl h2
  · exact .inr ⟨g, cap, cur, h3, by omega, h5, h6, h7, h8, h9⟩
theorem IOwn.sl {w : World} {base : Nat} {v : Value} {l : List Nat} (h : IOwn w base v l) : ISl w v l := by
  obtain ⟨h1, h2⟩ := h
  rcases h2 with ⟨rfl, h0⟩ | ⟨g, cap, cur, rfl, h4, h5, h6, h7, h8, h9⟩
  · have hl : l = [] := List.eq_nil_of_length_eq_zero h0
    subst hl
    exact ⟨none, 0, rfl, fun h => absurd rfl h⟩
  · refine ⟨some ⟨g, 0, none⟩, cap, rfl, fun _ => ⟨g, 0, rfl, fun i hi => ?_⟩⟩
    have hown : w.ownsRow base 3 1 (.slice (some ⟨g, 0, none⟩) l.length cap) l.length (ints l) := ⟨h1, .inr ⟨g, cap, cur, rfl, h4, h5, h6, h7, h8, h9⟩⟩
    rw [Nat.zero_add, hown.cellAt i (by omega)]
    unfold ints
    rw [List.getElem?_map, List.getElem?_eq_getElem hi, List.getD_eq_getElem?_getD, List.getElem?_eq_getElem hi]
    rfl
/-- one number more -/
theorem append_int {w : World} {ops : Array Oper} {rest : List Oper} {o : Oper} {a : Act} {Q : Exit → Act → World → Prop} (hgd : o.guard = none)
    (s x : Operand) (ho : o.op = Op.call { callee := Callee.builtin Builtin.append, args := #[s, x], argTypes := #[37, 37] }) (base g : Nat) (v : Value) (l : List Nat) (n : Nat) (hs : a.eval s = v) (hown : IOwn w base v l)
    (hx : a.eval x = .slice (some ⟨g, 0, none⟩) 1 1) (hc : w.cell? ⟨g, 0, none⟩ = some (.int .i64 ((n : Nat) : Int))) (hlen : l.length ≤ 200000) (hbase : base ≤ w.heap.size)
    (h : ∀ (v' : Value) (w' : World), Hid (IOwn w' base v' (l ++ [n])) → Below base w w' → wpList Tryd.prog ops Q rest (a.put o.dst v') w') : wpList Tryd.prog ops Q (o :: rest) a w := by
  obtain ⟨i0, hi, hz0, hz1, hz2⟩ := info_parts Tryd.infoI
  refine wpList_append_own w hgd s x 37 ho base 3 i0 (.int .i64 0) 1 8 Tryd.underlying37 hi hz0 hz1 hz2 rfl (by decide) v _ _ hs hown ⟨g, 0, none⟩ 1 1 [.int .i64 ((n : Nat) : Int)] hx (by simp) ?_ (by simp [Value.oneCell']) (by unfold maxLen; omega) (by omega) hbase ?_
  · intro j u hj
    rcases j with _ | j
    · simp at hj; subst hj; simpa [Addr.add] using hc
    · simp at hj
  · intro v' w' hown' hg _
    refine h v' w' ?_ ((Below.refl _ _).grown hg (by omega) (fun j hj => (World.ownsRow.lt hown j hj).1))
    show IOwn w' base v' (l ++ [n])
    unfold IOwn ints
    unfold ints at hown'
    simpa using hown'

def mc (L M B : Int) (n : Nat) : Int := if ok L M B then (if n ≤ 65536 then 0 else 7) else 2
theorem mayCut_any (a : Option Addr) (n cap : Nat) (L M B : Int) (w : World) (hn : n ≤ 9223372036854775807) :
    Calls Tryd.prog 26 #[.slice a n cap, P3 L M B] w fun e w' => e = .returned (.int .i64 (mc L M B n)) ∧ Below w.heap.size w w' := by
  have HC := Lib.hid (fun W => check_any L M B W)
  obtain ⟨w1, hw1⟩ : ∃ w1, w1 = w.alloc (Obj.cells #[.int .i64 L, .int .i64 M, .int .i64 B] 28) := ⟨_, rfl⟩
  have HB1 : Hid (Below w.heap.size w w1) := by rw [hw1]; exact (Below.refl _ _).alloc (Nat.le_refl _) _
  by_cases hok : ok L M B
  · have hc : chk L M B = 0 := if_pos hok
    rw [hc] at HC
    by_cases hn2 : n ≤ 65536
    · have hm : mc L M B n = 0 := by unfold mc; rw [if_pos hok, if_pos hn2]
      have hI : ¬ (65536 : Int) < (n : Int) := by omega
      rw [hm]
      clear hok hc hm
      unfold P3 at *
      go_enter Tryd.func26, Tryd.ntmps26
      go_wp2_with fail
      rw [← hw1]
      clear hw1
      refine (HC.out _).mono ?_
      rintro e w2 ⟨rfl, hb2⟩
      go_wp2
      go_ret
      exact ⟨rfl, HB1.out.trans (hb2.mono HB1.out.size)⟩
    · have hm : mc L M B n = 7 := by unfold mc; rw [if_pos hok, if_neg hn2]
      have hI : (65536 : Int) < (n : Int) := by omega
      rw [hm]
      clear hok hc hm
      unfold P3 at *
      go_enter Tryd.func26, Tryd.ntmps26
      go_wp2_with fail
      rw [← hw1]
      clear hw1
      refine (HC.out _).mono ?_
      rintro e w2 ⟨rfl, hb2⟩
      go_wp2
      go_ret
      exact ⟨rfl, HB1.out.trans (hb2.mono HB1.out.size)⟩
  · have hc : chk L M B = 2 := if_neg hok
    have hm : mc L M B n = 2 := by unfold mc; rw [if_neg hok]
    rw [hc] at HC
    rw [hm]
    clear hok hc hm
    unfold P3 at *
    go_enter Tryd.func26, Tryd.ntmps26
    go_wp2_with fail
    rw [← hw1]
    clear hw1
    refine (HC.out _).mono ?_
    rintro e w2 ⟨rfl, hb2⟩
    go_wp2
    go_ret
    exact ⟨rfl, HB1.out.trans (hb2.mono HB1.out.size)⟩

/-- what is answered: the cuts, or none -/
def cutsE (L M B : Int) (l : List Int) : List Nat := if mc L M B l.length = 0 then cuts L M B l 0 else []
theorem mc_zero {L M B : Int} {n : Nat} (h : mc L M B n = 0) : ok L M B ∧ n ≤ 65536 := by
  unfold mc at h
  split at h
  · split at h
    · exact ⟨by assumption, by assumption⟩
    · cases h
  · cases h
theorem cuts_no (a : Option Addr) (n cap : Nat) (L M B : Int) (w : World) (hn : n ≤ 9223372036854775807) (h : mc L M B n ≠ 0) :
    Calls Tryd.prog 18 #[.slice a n cap, P3 L M B] w fun e w' => e = .returned (.tuple #[.slice none 0 0, .int .i64 (mc L M B n)]) ∧ Below w.heap.size w w' := by
  have HC := Lib.hid (fun W => mayCut_any a n cap L M B W hn)
  obtain ⟨w1, hw1⟩ : ∃ w1, w1 = w.alloc (Obj.cells #[.int .i64 L, .int .i64 M, .int .i64 B] 28) := ⟨_, rfl⟩
  have HB1 : Hid (Below w.heap.size w w1) := by rw [hw1]; exact (Below.refl _ _).alloc (Nat.le_refl _) _
  generalize mc L M B n = r at *
  have hb : (r == 0) = false := by simpa using h
  unfold P3 at *
  go_enter Tryd.func18, Tryd.ntmps18
  go_wp2_with fail
  rw [← hw1]
  clear hw1
  refine (HC.out _).mono ?_
  rintro e w2 ⟨rfl, hb2⟩
  go_wp2
  refine bodyPost_ret (v := .tuple #[.slice none 0 0, .int .i64 r]) (by simp [results, go_sem]) rfl ⟨rfl, HB1.out.trans (hb2.mono HB1.out.size)⟩

theorem one_at (w : World) (x : Value) (t : TypeId) : (w.alloc (.cells #[x] t)).cell? ⟨w.heap.size, 0, none⟩ = some x := by
  rw [cell_of_row _ _ 0 _ _ (0, 0) (heap_new w _)]; rfl
set_option maxHeartbeats 4000000 in
theorem cuts_yes (u : Value) (l : List Int) (L M B : Int) (w : World) (hT : Tab w) (hS : Sl w u l) (ho : Oct l) (h : mc L M B l.length = 0) :
    Calls Tryd.prog 18 #[u, P3 L M B] w fun e w' => ∃ v, e = .returned (.tuple #[v, .int .i64 0]) ∧ IOwn w' w.heap.size v (cuts L M B l 0) ∧ Below w.heap.size w w' := by
  obtain ⟨hok, hl⟩ := mc_zero h
  obtain ⟨a, cap, rfl, hB, hnil, hcap⟩ := hS
  have HC := Lib.hid (fun W => mayCut_any a l.length cap L M B W (by omega))
  rw [h] at HC
  obtain ⟨w1, hw1⟩ : ∃ w1, w1 = w.alloc (Obj.cells #[.int .i64 L, .int .i64 M, .int .i64 B] 28) := ⟨_, rfl⟩
  obtain ⟨f0, f1, f2⟩ := three_at hw1
  have HB1 : Hid (Below w.heap.size w w1) := by rw [hw1]; exact (Below.refl _ _).alloc (Nat.le_refl _) _
  have HT := Lib.hid hT
  have HO := Lib.hid ho
  have HB := Lib.hid hB
  have HOK := Lib.hid hok
  have HNIL := Lib.hid hnil
  have hM : 1 ≤ M := by unfold ok at hok; omega
  have HM := Lib.hid hM
  obtain ⟨N, hN⟩ : ∃ N, N = l.length := ⟨_, rfl⟩
  have HN := Lib.hid hN
  have HFE : Hid (∀ W u' q, Below w.heap.size w W → q < N → Sl W u' (l.drop q) → Calls Tryd.prog 25 #[u', P3 L M B] W fun e w' => e = .returned (.int .i64 (fe L M B (l.drop q) : Nat)) ∧ Below W.heap.size W w') := fun W u' q hb hq hs => firstEnd_any u' (l.drop q) L M B W (HT.out.later hb) hs (HO.out.drop q) HOK.out (by rw [List.length_drop]; omega)
  rw [← hN] at hcap hl HC ⊢
  clear hT ho hB hok hnil hN h hM
  unfold P3 at *
  go_enter Tryd.func18, Tryd.ntmps18
  go_wp2_with fail
  rw [← hw1]
  clear hw1
  refine (HC.out _).mono ?_
  rintro e w2 ⟨rfl, hb2⟩
  have HB2 : Hid (Below w.heap.size w w2) := HB1.out.trans (hb2.mono HB1.out.size)
  have HBX := Lib.hid hb2
  clear hb2 HC
  go_wp2
  obtain ⟨s1, hs1⟩ : ∃ s1, s1 = w1.heap.size := ⟨_, rfl⟩
  have HB12 : Hid (Below s1 w1 w2) := by rw [hs1]; exact HBX.out
  have HS1 := Lib.hid hs1
  have HF0 := Lib.hid f0
  have HF1 := Lib.hid f1
  have HF2 := Lib.hid f2
  clear f0 f1 f2
  go_loopw [7, 8] (fun vo vp wr => ∃ (p : Nat) (out : List Nat), vp = .int .i64 p ∧ p ≤ N ∧ Hid (IOwn wr s1 vo out) ∧ out.length ≤ p ∧ Hid (out ++ cuts L M B l p = cuts L M B l 0) ∧ Hid (Below s1 w1 wr)) (fun _ vp _ => N - (intOf vp).toNat)
  case atStart => exact ⟨0, [], rfl, by omega, (show IOwn _ _ _ _ from IOwn.nil _ _), by simp, (show _ = _ from rfl), HB12⟩
  case round =>
    obtain ⟨p, out, rfl, hpN, HV, hout, HK, HBR⟩ := hrel
    have hb1r : Below w1.heap.size w1 wr := by rw [← HS1.out]; exact HBR.out
    have hbel : Below w.heap.size w wr := HB1.out.trans (hb1r.mono HB1.out.size)
    have HBEL := Lib.hid hbel
    have q0 := cell_later hb1r HF0.out
    have q1 := cell_later hb1r HF1.out
    have q2 := cell_later hb1r HF2.out
    clear hb1r
    by_cases hlt : p < N
    · have hltI : (p : Int) < (N : Int) := by omega
      obtain ⟨a', hrs, hsl⟩ := run_from (HB.out.later hbel) cap N HN.out hcap HNIL.out p (N - p) p rfl (by omega)
      have hcm := cuts_more L M B l p HM.out (by rw [← HN.out]; exact hlt)
      have hin := fe_in L M B l p (by rw [← HN.out]; omega)
      have hps := fe_pos L M B (l.drop p) HM.out (by rw [List.length_drop, ← HN.out]; omega)
      rw [← HN.out] at hin
      have hF : ∀ W, (Below wr.heap.size wr W ∧ W.cell? ⟨w.heap.size, 0, none⟩ = some (.int .i64 L) ∧ W.cell? ⟨w.heap.size, 1, none⟩ = some (.int .i64 M) ∧ W.cell? ⟨w.heap.size, 2, none⟩ = some (.int .i64 B)) → Calls Tryd.prog 25 #[.slice a' (N - p) (cap - p), .agg #[.int .i64 L, .int .i64 M, .int .i64 B]] W fun e w' => e = .returned (.int .i64 (fe L M B (l.drop p) : Nat)) ∧ (Below wr.heap.size wr w' ∧ w'.cell? ⟨w.heap.size, 0, none⟩ = some (.int .i64 L) ∧ w'.cell? ⟨w.heap.size, 1, none⟩ = some (.int .i64 M) ∧ w'.cell? ⟨w.heap.size, 2, none⟩ = some (.int .i64 B)) := by
        rintro W ⟨hb, d0, d1, d2⟩
        refine (HFE.out W _ p (HBEL.out.trans (hb.mono HBEL.out.size)) hlt (hsl.later hb)).mono ?_
        rintro e w' ⟨rfl, h⟩
        exact ⟨rfl, hb.trans (h.mono hb.size), cell_later h d0, cell_later h d1, cell_later h d2⟩
      have HF := Lib.hid hF
      have HCM := Lib.hid hcm
      generalize fe L M B (l.drop p) = f at *
      obtain ⟨E, hE⟩ : ∃ E, E = p + f := ⟨_, rfl⟩
      have HEI : Hid ((p : Int) + (f : Int) = (E : Int)) := by show _ = _; omega
      have hEw : IntKind.i64.wrap ((p : Int) + (f : Int)) = (p : Int) + (f : Int) := by apply IntWalk.i64_in; omega
      have HEN : Hid (E ≤ N ∧ p < E) := by refine ⟨?_, ?_⟩ <;> omega
      have hS0 : Below wr.heap.size wr wr ∧ wr.cell? ⟨w.heap.size, 0, none⟩ = some (.int .i64 L) ∧ wr.cell? ⟨w.heap.size, 1, none⟩ = some (.int .i64 M) ∧ wr.cell? ⟨w.heap.size, 2, none⟩ = some (.int .i64 B) := ⟨Below.refl _ _, q0, q1, q2⟩
      have hS1 : Below wr.heap.size wr wr.drew ∧ wr.drew.cell? ⟨w.heap.size, 0, none⟩ = some (.int .i64 L) ∧ wr.drew.cell? ⟨w.heap.size, 1, none⟩ = some (.int .i64 M) ∧ wr.drew.cell? ⟨w.heap.size, 2, none⟩ = some (.int .i64 B) := ⟨Below.drew (Below.refl _ _), q0, q1, q2⟩
      rw [← hE] at HCM
      clear hF hcm hsl hbel HFE q0 q1 q2 hE hin hps
      go_wp2_with fail
      go_region_held3 (fun W => Below wr.heap.size wr W ∧ W.cell? ⟨w.heap.size, 0, none⟩ = some (.int .i64 L) ∧ W.cell? ⟨w.heap.size, 1, none⟩ = some (.int .i64 M) ∧ W.cell? ⟨w.heap.size, 2, none⟩ = some (.int .i64 B)) (first | assumption | exact hS0 | exact hS1) (first
        | (go_at_call 25; (with_reducible refine (HF.out _ ?_).mono ?_); (focus (first | assumption | exact hS0 | exact hS1)); rintro e w9 ⟨rfl, hb9⟩))
      rw [HEI.out]
      clear hEw
      obtain ⟨hb9, d0, d1, d2⟩ := hb9
      have hba : Below w9.heap.size w9 (w9.alloc (.cells #[.int .i64 ((E : Nat) : Int)] 3)) := (Below.refl _ _).alloc (Nat.le_refl _) _
      have hbwa : Below wr.heap.size wr (w9.alloc (.cells #[.int .i64 ((E : Nat) : Int)] 3)) := hb9.trans (hba.mono hb9.size)
      have HVA : Hid (IOwn (w9.alloc (.cells #[.int .i64 ((E : Nat) : Int)] 3)) s1 _ out) := HV.out.below hbwa
      have hsr : s1 ≤ wr.heap.size := by rw [HS1.out]; have := HBR.out.size; exact this
      have HBA : Hid (Below s1 w1 (w9.alloc (.cells #[.int .i64 ((E : Nat) : Int)] 3))) := HBR.out.trans (hbwa.mono hsr)
      have HSA : Hid (s1 ≤ (w9.alloc (.cells #[.int .i64 ((E : Nat) : Int)] 3)).heap.size) := Nat.le_trans hsr hbwa.size
      have HON := Lib.hid (one_at w9 (.int .i64 ((E : Nat) : Int)) 3)
      have HLO : Hid (out.length ≤ 200000) := by show _ ≤ _; omega
      clear hb9 hba hbwa d0 d1 d2 hS0 hS1 HF hrs hsr
      go_wp2_with (at_builtin; refine append_int rfl (.tmp 26) (.tmp 28) rfl s1 w9.heap.size _ out E rfl HVA.out rfl HON.out HLO.out HSA.out ?_; intro v3 w3 HV3 hb3)
      refine ⟨⟨E, out ++ [E], rfl, HEN.out.1, HV3, ?_, ?_, HBA.out.trans hb3⟩, ?_⟩
      · have := HEN.out.2; rw [List.length_append, List.length_singleton]; omega
      · show _ = _
        rw [List.append_assoc, ← HK.out, HCM.out]; rfl
      · have := HEN.out; simp [intOf]; omega
    · have hltI : ¬ (p : Int) < (N : Int) := by omega
      have hce := cuts_end L M B l p (by rw [← HN.out]; omega)
      have hk := HK.out
      rw [hce, List.append_nil] at hk
      rw [hk] at HV
      have HVL : Hid (IOwn wr w.heap.size _ (cuts L M B l 0)) := HV.out.lower (by rw [HS1.out]; exact HB1.out.size)
      clear hk hce
      go_wp2
      refine bodyPost_ret (v := .tuple #[_, .int .i64 0]) (by simp [results, go_sem]) rfl ⟨_, rfl, HVL.out, hbel⟩
end Go.Proofs.YtheklipnnflnaaaDoor.Gear
