/- path: the document's Sort, a step of it. (A template.) -/
import Derived.Test.YteimbdbnipfmkaaPaRSort
namespace Go.Proofs.Yteimbdbnipfmkaa.Pa
open Go.RowKit
set_option linter.unusedVariables false
set_option linter.unusedSimpArgs false
set_option maxRecDepth 1000000

theorem SOwn.mono {w : World} {base base' : Nat} {v : Value} {ps : List L8} (h : SOwn w base v ps) (hb : base' ≤ base) : SOwn w base' v ps := by
  obtain ⟨h1, h2⟩ := h
  refine ⟨h1, ?_⟩
  rcases h2 with h2 | ⟨g, cap, cur, e, hg, r⟩
  · exact .inl h2
  · exact .inr ⟨g, cap, cur, e, Nat.le_trans hb hg, r⟩
set_option maxHeartbeats 16000000 in
theorem rsort_step (ss A B : List L8) (n m c : Nat) (a ah at' : Option Addr) (w : World) (hm : m = n / 2) (h2 : 2 ≤ n) (h3 : n ≤ 300)
    (hAl : A.length + B.length ≤ 300) (hAs : ∀ s ∈ A, s.length ≤ 4000) (hBs : ∀ s ∈ B, s.length ≤ 4000)
    (hh : ∀ W, (Instr.slice 24 (.slice a n c) none (some (.int .i64 (m : Int))) none).run Try.prog W = .ok (.slice ah m c) W)
    (ht : ∀ W, (Instr.slice 24 (.slice a n c) (some (.int .i64 (m : Int))) none none).run Try.prog W = .ok (.slice at' (n - m) (c - m)) W)
    (hS1 : ∀ W, Below w.heap.size w W → Calls Try.prog 36 #[.slice ah m c] W fun e w' => ∃ v', e = .returned v' ∧ SOwn w' W.heap.size v' A ∧ Below W.heap.size W w')
    (hS2 : ∀ W, Below w.heap.size w W → Calls Try.prog 36 #[.slice at' (n - m) (c - m)] W fun e w' => ∃ v', e = .returned v' ∧ SOwn w' W.heap.size v' B ∧ Below W.heap.size W w') :
    Calls Try.prog 36 #[.slice a n c] w fun e w' => ∃ v', e = .returned v' ∧ SOwn w' w.heap.size v' (List.merge A B le8) ∧ Below w.heap.size w w' := by
  have HS1 := Lib.hid hS1
  have HS2 := Lib.hid hS2
  have hI2 : ¬ (n : Int) < 2 := by omega
  have hq : (n : Int) / 2 = (m : Int) := by omega
  have hq2 : Int.tdiv (n : Int) 2 = (m : Int) := by rw [Int.tdiv_eq_ediv_of_nonneg (by omega)]; exact hq
  obtain ⟨M, hM⟩ : ∃ M, M = List.merge A B le8 := ⟨_, rfl⟩
  rw [← hM]
  have HMM := Lib.hid hM
  obtain ⟨nm, hnm⟩ : ∃ nm, nm = n - m := ⟨_, rfl⟩
  obtain ⟨cm, hcm⟩ : ∃ cm, cm = c - m := ⟨_, rfl⟩
  rw [← hnm, ← hcm] at ht HS2
  have HAL := Lib.hid hAl
  have HAS := Lib.hid hAs
  have HBS := Lib.hid hBs
  have hmb : m ≤ 150 := by omega
  have hw1 : IntKind.i64.wrap (m : Int) = (m : Int) := IntWalk.i64_in _ (by omega)
  clear hS1 hS2 hM hm hnm hcm hAl hAs hBs
  go_enter Try.func36, Try.ntmps36
  go_wp2_with fail
  go_region_held3 (fun W => Below w.heap.size w W) (first | assumption | exact (Below.refl _ _).drew | exact Below.refl _ _) (first
    | (go_at_call 36; (with_reducible refine (HS1.out _ ?_).mono ?_); (focus (first | assumption | exact (Below.refl _ _).drew | exact Below.refl _ _)); rintro e w1 ⟨v1, rfl, hO1, hb1⟩; have hb1 : Below w.heap.size w w1 := by first | exact hb1 | exact (Below.refl _ _).drew.trans hb1)
    | (go_at_call 36; (with_reducible refine (HS2.out _ ?_).mono ?_); (focus (first | assumption | exact (Below.refl _ _).drew | exact Below.refl _ _)); rintro e w2 ⟨v2, rfl, hO2, hb2⟩; have hT1 := hO1.txc.later hb2; have hb3 : Below w.heap.size w w2 := Below.trans hb1 (hb2.mono (Below.size hb1))))
  have HT1 := Lib.hid hT1
  have HT2 := Lib.hid hO2.txc
  have HB := Lib.hid hb3
  clear hT1 hO2 hO1 hb1 hb2 hb3
  obtain ⟨a1, c1, e1, -, -, -⟩ := id HT1.out
  obtain ⟨a2, c2, e2, -, -, -⟩ := id HT2.out
  subst e1 e2
  obtain ⟨nA, hnA⟩ : ∃ nA, nA = A.length := ⟨_, rfl⟩
  obtain ⟨nB, hnB⟩ : ∃ nB, nB = B.length := ⟨_, rfl⟩
  rw [← hnA] at HT1 ⊢
  rw [← hnB] at HT2 ⊢
  have HNA := Lib.hid hnA
  have HNB := Lib.hid hnB
  have hsz2 := HB.out.size
  have HSZ := Lib.hid hsz2
  clear hnA hnB hsz2 hh ht hw1 hI2 hq hq2 hmb h2 h3 HS1 HS2
  go_wp2
  go_loopw [4, 5, 6] (fun va vb vo wr => ∃ (na nb no : Nat) (a1 a2 a3 : Option Addr) (c1 c2 c3 : Nat) (xs ys os : List L8), va = .slice a1 na c1 ∧ vb = .slice a2 nb c2 ∧ vo = .slice a3 no c3 ∧ na + nb + no ≤ 300 ∧ Hid (na = xs.length ∧ nb = ys.length ∧ no = os.length) ∧ Hid (∀ s ∈ xs, s.length ≤ 4000) ∧ Hid (∀ s ∈ ys, s.length ≤ 4000) ∧ Hid (os ++ List.merge xs ys le8 = M) ∧ Hid (TxC w2 (.slice a1 na c1) xs) ∧ Hid (TxC w2 (.slice a2 nb c2) ys) ∧ Hid (SOwn wr w2.heap.size (.slice a3 no c3) os) ∧ Hid (Below w2.heap.size w2 wr)) (fun va vb _ _ => vlen va + vlen vb)
  case atStart => exact ⟨nA, nB, 0, a1, a2, none, c1, c2, 0, A, B, [], rfl, rfl, rfl, by have := HAL.out; rw [HNA.out, HNB.out]; omega, ⟨HNA.out, HNB.out, rfl⟩, HAS, HBS, HMM.out.symm, HT1, HT2, World.ownsRow_nil _ _ _ _, Below.refl _ _⟩
  case round =>
    clear HT1 HT2 HNA HNB HAL HAS HBS HMM
    obtain ⟨na, nb, no, a1, a2, a3, c1, c2, c3, xs, ys, os, rfl, rfl, rfl, hsum, HLEN, HXS, HYS, HM, HT1, HT2, HO, HBR⟩ := hrel
    have hszr := HBR.out.size
    by_cases hx0 : na = 0
    · have hI0 : ¬ (0 : Int) < (na : Int) := by omega
      have exs : xs = [] := List.eq_nil_of_length_eq_zero (by have := HLEN.out; omega)
      have HM2 : Hid (os ++ ys = M) := by have h := HM.out; rw [exs, List.nil_merge] at h; exact h
      have HM3 : Hid ((os ++ xs) ++ ys = M) := by show _ = _; rw [exs, List.append_nil]; exact HM2.out
      have HSM : Hid (na + nb + no ≤ 300) := hsum
      have HRZ : Hid (w2.heap.size ≤ wr.heap.size) := hszr
      clear exs HM2 hx0 hsum hszr
      have HT1r : Hid (TxC wr (.slice a1 na c1) xs) := HT1.out.later HBR.out
      have HT2r : Hid (TxC wr (.slice a2 nb c2) ys) := HT2.out.later HBR.out
      go_wp2_with (at_builtin; go_must (refine append_txc rfl (.tmp 56) (.tmp 57) rfl w2.heap.size (.slice a3 no c3) (.slice a1 na c1) os xs rfl HO.out rfl HT1r.out (by have := HLEN.out; have := HSM.out; omega) HRZ.out ?_))
      intro v5 w5 HO5 HB5
      obtain ⟨a5, c5, e5⟩ := HO5.out.slice
      obtain ⟨m5, hm5⟩ : ∃ m5, m5 = (os ++ xs).length := ⟨_, rfl⟩
      rw [← hm5] at e5
      obtain ⟨o5, ho5⟩ : ∃ o5, o5 = os ++ xs := ⟨_, rfl⟩
      rw [← ho5] at HO5 HM3 hm5
      have HL5 : Hid (o5.length = os.length + xs.length) := by show _ = _; rw [ho5, List.length_append]
      subst e5
      have HM5 := Lib.hid hm5
      have HRZ5 : Hid (w2.heap.size ≤ w5.heap.size) := Nat.le_trans HRZ.out HB5.out.size
      have HT2s : Hid (TxC w5 (.slice a2 nb c2) ys) := HT2.out.later (HBR.out.trans HB5.out)
      clear hm5 ho5
      go_wp2_with (at_builtin; go_must (refine append_txc rfl (.tmp 58) (.tmp 59) rfl w2.heap.size (.slice a5 m5 c5) (.slice a2 nb c2) o5 ys rfl HO5.out rfl HT2s.out (by have := HLEN.out; have := HSM.out; have := HL5.out; omega) HRZ5.out ?_))
      intro v6 w6 HO6 HB6
      obtain ⟨a6, c6, e6⟩ := HO6.out.slice
      obtain ⟨m6, hm6⟩ : ∃ m6, m6 = (o5 ++ ys).length := ⟨_, rfl⟩
      rw [← hm6] at e6
      subst e6
      have HFIN : Hid (SOwn w6 w.heap.size (.slice a6 m6 c6) M) := by show SOwn _ _ _ _; rw [← HM3.out]; exact HO6.out.mono HSZ.out
      clear hm6
      go_wp2
      go_ret
      exact ⟨_, rfl, HFIN.out, HB.out.trans ((HBR.out.trans (HB5.out.trans HB6.out)).mono HSZ.out)⟩
    · by_cases hy0 : nb = 0
      · have hI0 : (0 : Int) < (na : Int) := by omega
        have hI1 : ¬ (0 : Int) < (nb : Int) := by omega
        have eys : ys = [] := List.eq_nil_of_length_eq_zero (by have := HLEN.out; omega)
        have HM3 : Hid ((os ++ xs) ++ ys = M) := by
          have h := HM.out
          show _ = _
          rw [eys, show List.merge xs [] le8 = xs from by cases xs <;> simp [List.merge]] at h
          rw [eys, List.append_nil]; exact h
        have HSM : Hid (na + nb + no ≤ 300) := hsum
        have HRZ : Hid (w2.heap.size ≤ wr.heap.size) := hszr
        clear eys hy0 hx0 hsum hszr
        have HT1r : Hid (TxC wr (.slice a1 na c1) xs) := HT1.out.later HBR.out
        have HT2r : Hid (TxC wr (.slice a2 nb c2) ys) := HT2.out.later HBR.out
        go_wp2_with (at_builtin; go_must (refine append_txc rfl (.tmp 56) (.tmp 57) rfl w2.heap.size (.slice a3 no c3) (.slice a1 na c1) os xs rfl HO.out rfl HT1r.out (by have := HLEN.out; have := HSM.out; omega) HRZ.out ?_))
        intro v5 w5 HO5 HB5
        obtain ⟨a5, c5, e5⟩ := HO5.out.slice
        obtain ⟨m5, hm5⟩ : ∃ m5, m5 = (os ++ xs).length := ⟨_, rfl⟩
        rw [← hm5] at e5
        obtain ⟨o5, ho5⟩ : ∃ o5, o5 = os ++ xs := ⟨_, rfl⟩
        rw [← ho5] at HO5 HM3 hm5
        have HL5 : Hid (o5.length = os.length + xs.length) := by show _ = _; rw [ho5, List.length_append]
        subst e5
        have HM5 := Lib.hid hm5
        have HRZ5 : Hid (w2.heap.size ≤ w5.heap.size) := Nat.le_trans HRZ.out HB5.out.size
        have HT2s : Hid (TxC w5 (.slice a2 nb c2) ys) := HT2.out.later (HBR.out.trans HB5.out)
        clear hm5 ho5
        go_wp2_with (at_builtin; go_must (refine append_txc rfl (.tmp 58) (.tmp 59) rfl w2.heap.size (.slice a5 m5 c5) (.slice a2 nb c2) o5 ys rfl HO5.out rfl HT2s.out (by have := HLEN.out; have := HSM.out; have := HL5.out; omega) HRZ5.out ?_))
        intro v6 w6 HO6 HB6
        obtain ⟨a6, c6, e6⟩ := HO6.out.slice
        obtain ⟨m6, hm6⟩ : ∃ m6, m6 = (o5 ++ ys).length := ⟨_, rfl⟩
        rw [← hm6] at e6
        subst e6
        have HFIN : Hid (SOwn w6 w.heap.size (.slice a6 m6 c6) M) := by show SOwn _ _ _ _; rw [← HM3.out]; exact HO6.out.mono HSZ.out
        clear hm6
        go_wp2
        go_ret
        exact ⟨_, rfl, HFIN.out, HB.out.trans ((HBR.out.trans (HB5.out.trans HB6.out)).mono HSZ.out)⟩
      · obtain ⟨x, xs', exs⟩ : ∃ x xs', xs = x :: xs' := by
          cases xs with
          | nil => exact absurd HLEN.out.1 hx0
          | cons x xs' => exact ⟨x, xs', rfl⟩
        obtain ⟨y, ys', eys⟩ : ∃ y ys', ys = y :: ys' := by
          cases ys with
          | nil => exact absurd HLEN.out.2.1 hy0
          | cons y ys' => exact ⟨y, ys', rfl⟩
        subst exs eys
        have hI0 : (0 : Int) < (na : Int) := by omega
        have hI1 : (0 : Int) < (nb : Int) := by omega
        have hxl := HXS.out x (by simp)
        have hyl := HYS.out y (by simp)
        obtain ⟨b1, d1, q1, -, -, z1⟩ := id HT1.out
        obtain ⟨b2, d2, q2, -, -, z2⟩ := id HT2.out
        simp only [Value.slice.injEq] at q1 q2
        obtain ⟨rfl, -, rfl⟩ := q1
        obtain ⟨rfl, -, rfl⟩ := q2
        obtain ⟨g1, o1, ea1, y1⟩ := z1 (by simp)
        obtain ⟨g2, o2, ea2, y2⟩ := z2 (by simp)
        subst ea1 ea2
        have f1 := cell_later HBR.out (y1 0 x rfl)
        have f2 := cell_later HBR.out (y2 0 y rfl)
        rw [Nat.add_zero] at f1 f2
        obtain ⟨na', r1, t1⟩ := txc_tail HT1.out 1 (by simp)
        obtain ⟨nb', r2, t2⟩ := txc_tail HT2.out 1 (by simp)
        have r1 : ∀ W, (Instr.slice 24 (.slice (some ⟨g1, o1, none⟩) na c1) (some (.int .i64 1)) none none).run Try.prog W = .ok (.slice na' (na - 1) (c1 - 1)) W := fun W => r1 W
        have r2 : ∀ W, (Instr.slice 24 (.slice (some ⟨g2, o2, none⟩) nb c2) (some (.int .i64 1)) none none).run Try.prog W = .ok (.slice nb' (nb - 1) (c2 - 1)) W := fun W => r2 W
        have HTA := Lib.hid (show TxC w2 (.slice na' (na - 1) (c1 - 1)) xs' from t1)
        have HTB := Lib.hid (show TxC w2 (.slice nb' (nb - 1) (c2 - 1)) ys' from t2)
        have HL := Lib.hid (fun W => rless_any y x W (by omega) (by omega))
        have HSM : Hid (na + nb + no ≤ 300) := hsum
        have HRZ : Hid (w2.heap.size ≤ wr.heap.size) := hszr
        have HPA : Hid (0 < na) := Nat.pos_of_ne_zero hx0
        have HPB : Hid (0 < nb) := Nat.pos_of_ne_zero hy0
        obtain ⟨R, hR⟩ : ∃ R, R = lessB y x := ⟨_, rfl⟩
        have HM1 : Hid (R = true → (os ++ [y]) ++ List.merge (x :: xs') ys' le8 = M) := by
          intro hr
          have h := HM.out
          rw [List.cons_merge_cons, if_neg (by unfold le8; rw [← hR, hr]; decide)] at h
          rw [List.append_assoc]; exact h
        have HM2 : Hid (R = false → (os ++ [x]) ++ List.merge xs' (y :: ys') le8 = M) := by
          intro hr
          have h := HM.out
          rw [List.cons_merge_cons, if_pos (by unfold le8; rw [← hR, hr]; decide)] at h
          rw [List.append_assoc]; exact h
        rw [← hR] at HL
        obtain ⟨pa, hpa⟩ : ∃ pa, pa = na - 1 := ⟨_, rfl⟩
        obtain ⟨pb, hpb⟩ : ∃ pb, pb = nb - 1 := ⟨_, rfl⟩
        rw [← hpa] at r1 HTA
        rw [← hpb] at r2 HTB
        generalize c1 - 1 = k1 at r1 HTA
        generalize c2 - 1 = k2 at r2 HTB
        have HPX := Lib.hid hpa
        have HPY := Lib.hid hpb
        clear hx0 hy0 hsum hszr z1 z2 y1 y2 t1 t2 hxl hyl hR HM hpa hpb
        rcases R with _ | _
        · go_wp2_with fail
          go_region_held3 (fun W => Below wr.heap.size wr W ∧ W.cell? ⟨g2, o2, none⟩ = some (.string (mk y)) ∧ W.cell? ⟨g1, o1, none⟩ = some (.string (mk x))) (first | assumption | exact ⟨(Below.refl _ _).drew, f2, f1⟩ | exact ⟨Below.refl _ _, f2, f1⟩) (first
            | (go_at_call 30; (with_reducible refine (HL.out _).mono ?_); rintro e w3 ⟨rfl, hb3⟩; have hb4 : Below wr.heap.size wr w3 := by { exact (Below.refl _ _).drew.trans hb3 }; have hb5 : Below wr.heap.size wr w3 ∧ w3.cell? ⟨g2, o2, none⟩ = some (.string (mk y)) ∧ w3.cell? ⟨g1, o1, none⟩ = some (.string (mk x)) := ⟨hb4, cell_later hb4 f2, cell_later hb4 f1⟩))
          have HB4 : Hid (Below w2.heap.size w2 w3) := HBR.out.trans (hb4.mono HRZ.out)
          have HO3 : Hid (SOwn w3 w2.heap.size (.slice a3 no c3) os) := (KeepCD.below hb4).row HO.out
          have p1 := hb5.2.1
          have p2 := hb5.2.2
          have hba : Below w3.heap.size w3 (w3.alloc (.cells #[.string (mk x)] 9)) := (Below.refl _ _).alloc (Nat.le_refl _) _
          have HBA := Lib.hid hba
          have HOA : Hid (SOwn (w3.alloc (.cells #[.string (mk x)] 9)) w2.heap.size (.slice a3 no c3) os) := (KeepCD.below hba).row HO3.out
          have HCA : Hid ((w3.alloc (.cells #[.string (mk x)] 9)).cell? ⟨w3.heap.size, 0, none⟩ = some (.string (mk x))) := cell1 (heap_new _ _)
          have HR3 : Hid (w2.heap.size ≤ w3.heap.size) := HB4.out.size
          have HMN := Lib.hid (HM2.out (by trivial))
          clear hb3 hb4 hb5 hba f1 f2
          go_wp2_with (at_builtin; go_must (refine append_str2 rfl (.tmp 48) (.tmp 52) rfl w2.heap.size (.slice a3 no c3) os x rfl HOA.out ⟨w3.heap.size, 0, none⟩ 1 rfl HCA.out (by have := HLEN.out; have := HSM.out; omega) (by have := HR3.out; simp; omega) ?_))
          intro v5 w5 HO5 HG5
          have HB5 : Hid (Below w2.heap.size w2 w5) := Below.grown (w := w3.alloc (.cells #[.string (mk x)] 9)) (HB4.out.trans (HBA.out.mono HR3.out)) HG5.out (by have := HR3.out; simp; omega) (fun q hq => (HOA.out.base_le q hq).1)
          obtain ⟨a5, c5, e5⟩ := HO5.out.slice
          have hl5 : (os ++ [x]).length = no + 1 := by rw [List.length_append, ← HLEN.out.2.2]; rfl
          rw [hl5] at e5
          subst e5
          have HL5 := Lib.hid hl5
          clear hl5
          go_wp2
          go_roundw
          case rel => exact ⟨pa, nb, no + 1, _, _, a5, _, _, c5, xs', y :: ys', os ++ [x], rfl, rfl, rfl, by have := HSM.out; have := HPX.out; have := HPA.out; omega, ⟨by have := HLEN.out.1; have := HPX.out; simp at *; omega, HLEN.out.2.1, HL5.out.symm⟩, fun s hs => HXS.out s (by simp [hs]), HYS, HMN, HTA, HT2, HO5, HB5⟩
          case measure => show vlen _ + vlen _ < vlen _ + vlen _; simp only [vlen]; have := HPX.out; have := HPA.out; omega
        · go_wp2_with fail
          go_region_held3 (fun W => Below wr.heap.size wr W ∧ W.cell? ⟨g2, o2, none⟩ = some (.string (mk y)) ∧ W.cell? ⟨g1, o1, none⟩ = some (.string (mk x))) (first | assumption | exact ⟨(Below.refl _ _).drew, f2, f1⟩ | exact ⟨Below.refl _ _, f2, f1⟩) (first
            | (go_at_call 30; (with_reducible refine (HL.out _).mono ?_); rintro e w3 ⟨rfl, hb3⟩; have hb4 : Below wr.heap.size wr w3 := by { exact (Below.refl _ _).drew.trans hb3 }; have hb5 : Below wr.heap.size wr w3 ∧ w3.cell? ⟨g2, o2, none⟩ = some (.string (mk y)) ∧ w3.cell? ⟨g1, o1, none⟩ = some (.string (mk x)) := ⟨hb4, cell_later hb4 f2, cell_later hb4 f1⟩))
          have HB4 : Hid (Below w2.heap.size w2 w3) := HBR.out.trans (hb4.mono HRZ.out)
          have HO3 : Hid (SOwn w3 w2.heap.size (.slice a3 no c3) os) := (KeepCD.below hb4).row HO.out
          have p1 := hb5.2.1
          have p2 := hb5.2.2
          have hba : Below w3.heap.size w3 (w3.alloc (.cells #[.string (mk y)] 9)) := (Below.refl _ _).alloc (Nat.le_refl _) _
          have HBA := Lib.hid hba
          have HOA : Hid (SOwn (w3.alloc (.cells #[.string (mk y)] 9)) w2.heap.size (.slice a3 no c3) os) := (KeepCD.below hba).row HO3.out
          have HCA : Hid ((w3.alloc (.cells #[.string (mk y)] 9)).cell? ⟨w3.heap.size, 0, none⟩ = some (.string (mk y))) := cell1 (heap_new _ _)
          have HR3 : Hid (w2.heap.size ≤ w3.heap.size) := HB4.out.size
          have HMN := Lib.hid (HM1.out (by trivial))
          clear hb3 hb4 hb5 hba f1 f2
          go_wp2_with (at_builtin; go_must (refine append_str2 rfl (.tmp 40) (.tmp 44) rfl w2.heap.size (.slice a3 no c3) os y rfl HOA.out ⟨w3.heap.size, 0, none⟩ 1 rfl HCA.out (by have := HLEN.out; have := HSM.out; omega) (by have := HR3.out; simp; omega) ?_))
          intro v5 w5 HO5 HG5
          have HB5 : Hid (Below w2.heap.size w2 w5) := Below.grown (w := w3.alloc (.cells #[.string (mk y)] 9)) (HB4.out.trans (HBA.out.mono HR3.out)) HG5.out (by have := HR3.out; simp; omega) (fun q hq => (HOA.out.base_le q hq).1)
          obtain ⟨a5, c5, e5⟩ := HO5.out.slice
          have hl5 : (os ++ [y]).length = no + 1 := by rw [List.length_append, ← HLEN.out.2.2]; rfl
          rw [hl5] at e5
          subst e5
          have HL5 := Lib.hid hl5
          clear hl5
          go_wp2
          go_roundw
          case rel => exact ⟨na, pb, no + 1, _, _, a5, _, _, c5, x :: xs', ys', os ++ [y], rfl, rfl, rfl, by have := HSM.out; have := HPY.out; have := HPB.out; omega, ⟨HLEN.out.1, by have := HLEN.out.2.1; have := HPY.out; simp at *; omega, HL5.out.symm⟩, HXS, fun s hs => HYS.out s (by simp [hs]), HMN, HT1, HTB, HO5, HB5⟩
          case measure => show vlen _ + vlen _ < vlen _ + vlen _; simp only [vlen]; have := HPY.out; have := HPB.out; omega
end Go.Proofs.Yteimbdbnipfmkaa.Pa
