/- The document's Common; the law PathTwo. (A template.) -/
import Derived.Test.YteimbdbnipfmkaaPaRTwo
import Derived.Test.YteimbdbnipfmkaaPaClean
namespace Go.Proofs.Yteimbdbnipfmkaa.Pa
open Go.RowKit
set_option linter.unusedVariables false
set_option linter.unusedSimpArgs false
set_option maxRecDepth 1000000

theorem cp_stop {xs ys : List L8} {k : Nat} (h : ∀ j, j < k → xs[j]? = ys[j]?) (hx : k ≤ xs.length) (hy : k ≤ ys.length) (hs : xs[k]? = none ∨ ys[k]? = none ∨ xs[k]? ≠ ys[k]?) : cp xs ys = xs.take k := by
  have e1 : xs = xs.take k ++ xs.drop k := (List.take_append_drop k xs).symm
  have e2 : ys = xs.take k ++ ys.drop k := by
    have : ys.take k = xs.take k := by
      apply List.ext_getElem?
      intro j
      rw [List.getElem?_take, List.getElem?_take]
      split
      · next g => exact (h j g).symm
      · rfl
    rw [← this, List.take_append_drop]
  have e3 : cp (xs.drop k) (ys.drop k) = [] := by
    cases hxk : xs[k]? with
    | none =>
      rw [List.drop_eq_nil_of_le (by rw [List.getElem?_eq_none_iff] at hxk; exact hxk)]; rfl
    | some x =>
      cases hyk : ys[k]? with
      | none =>
        have e : ys.drop k = [] := List.drop_eq_nil_of_le (by rw [List.getElem?_eq_none_iff] at hyk; exact hyk)
        rw [e, cp_nil]
      | some y =>
        rw [drop_at hxk, drop_at hyk]
        have : x ≠ y := by
          intro e
          subst e
          rw [hxk, hyk] at hs
          simp at hs
        simp [cp, this]
  conv => lhs; rw [e1, e2]
  rw [cp_app, e3, List.append_nil]
set_option maxHeartbeats 8000000 in
theorem rcommon_any (a b : L8) (w : World) (ha : a.length ≤ 1048576) (hb : b.length ≤ 1048576) :
    Calls Try.prog 34 #[.string (mk a), .string (mk b)] w fun e w' => e = .returned (.string (mk (commonL a b))) ∧ Below w.heap.size w w' := by
  have hr := common_parts a b
  have HS1 := Lib.hid (rsplit_any a w (by omega))
  have HS2 := Lib.hid (fun W => rsplit_any b W (by omega))
  obtain ⟨n, hn⟩ : ∃ n, n = (parts a).length := ⟨_, rfl⟩
  obtain ⟨m, hm⟩ : ∃ m, m = (parts b).length := ⟨_, rfl⟩
  have hna := parts_len a
  have hmb := parts_len b
  have hnb : n ≤ 1048577 := by omega
  have hmm : m ≤ 1048577 := by omega
  have HN := Lib.hid hn
  have HM := Lib.hid hm
  have HG : Hid (∀ k W v, cp (parts a) (parts b) = (parts a).take k → Txt W v ((parts a).take k) → Calls Try.prog 40 #[v] W fun e w' => e = .returned (.string (mk (commonL a b))) ∧ Below W.heap.size W w') := by
    intro k W v hk h
    rw [hr, hk]
    exact glue_of W v a _ ha h ⟨[], (parts a).drop k, by simp⟩
  clear hr hn hm hna hmb
  generalize commonL a b = R at *
  go_enter Try.func34, Try.ntmps34
  go_wp2_with (first
    | (go_at_call 14; with_reducible refine HS1.out.mono ?_; rintro e w1 ⟨v1, rfl, hO, hb⟩; obtain ⟨a1, c1, e1⟩ := hO.slice; rw [← HN.out] at e1; have HT0 := Lib.hid hO.txt; have HO0 := Lib.hid hO; have HB1 := Lib.hid hb; clear hO hb; subst e1)
    | (go_at_call 14; refine (HS2.out _).mono ?_; rintro e w2 ⟨v2, rfl, hO, hb⟩; obtain ⟨a2, c2, e2⟩ := hO.slice; rw [← HM.out] at e2; have HT2 := Lib.hid hO.txt; have HT1 := Lib.hid (HT0.out.later hb); have HB2 := Lib.hid hb; have HB : Hid (Below w.heap.size w w2) := HB1.out.trans (hb.mono HB1.out.size); clear hO hb; subst e2))
  go_loopw [7] (fun c wr => ∃ k : Nat, c = .int .i64 k ∧ k ≤ n ∧ k ≤ m ∧ Hid (∀ j, j < k → (parts a)[j]? = (parts b)[j]?) ∧ Hid (Drew w2 wr)) (fun c _ => n - (intOf c).toNat)
  case atStart => exact ⟨0, rfl, Nat.zero_le _, Nat.zero_le _, (fun j hj => by omega), Drew.refl _⟩
  case round =>
    obtain ⟨k, rfl, hk1, hk2, HS, HD⟩ := hrel
    have HBR : Hid (Below w.heap.size w wr) := HB.out.trans (HD.out.below.mono HB.out.size)
    -- where the loop ends
    have HEND : Hid (((parts a)[k]? = none ∨ (parts b)[k]? = none ∨ (parts a)[k]? ≠ (parts b)[k]?) → ∃ a', (∀ W, (Instr.slice 24 (.slice a1 n c1) none (some (.int .i64 (k : Int))) none).run Try.prog W = .ok (.slice a' k c1) W) ∧ ∀ q, Calls Try.prog 40 #[.slice a' k c1] (wr.drewN q) fun e w' => e = .returned (.string (mk R)) ∧ Below w.heap.size w w') := by
      intro hs
      have hcp := cp_stop HS.out (by have := HN.out; omega) (by have := HM.out; omega) hs
      obtain ⟨a', h1, h2⟩ := run_head HO0.out k (by have := HN.out; omega)
      refine ⟨a', h1, fun q => ?_⟩
      have hb1 : Below w1.heap.size w1 (wr.drewN q) := HB2.out.trans ((below_drewN HD.out.below q).mono HB2.out.size)
      exact (HG.out k _ _ hcp (h2.later hb1)).mono fun e w' ⟨g1, g2⟩ => ⟨g1, (below_drewN HBR.out q).trans (g2.mono (below_drewN HBR.out q).size)⟩
    by_cases h1 : k < n
    · have hI1 : (k : Int) < (n : Int) := by omega
      obtain ⟨x, hx⟩ : ∃ x, (parts a)[k]? = some x := ⟨_, List.getElem?_eq_getElem (by rw [← HN.out]; exact h1)⟩
      by_cases h2 : k < m
      · have hI2 : (k : Int) < (m : Int) := by omega
        obtain ⟨y, hy⟩ : ∃ y, (parts b)[k]? = some y := ⟨_, List.getElem?_eq_getElem (by rw [← HM.out]; exact h2)⟩
        obtain ⟨a1', c1', e1, t1⟩ := HT1.out
        obtain ⟨a2', c2', e2, t2⟩ := HT2.out
        obtain ⟨g1, o1, ea1, z1⟩ := t1 (by intro e; rw [e] at hx; simp at hx)
        obtain ⟨g2, o2, ea2, z2⟩ := t2 (by intro e; rw [e] at hy; simp at hy)
        have d1 := cell_later HD.out.below (z1 k x hx)
        have d2 := cell_later HD.out.below (z2 k y hy)
        rw [← HN.out] at e1
        rw [← HM.out] at e2
        simp only [Value.slice.injEq] at e1 e2
        obtain ⟨rfl, -, rfl⟩ := e1
        obtain ⟨rfl, -, rfl⟩ := e2
        subst ea1
        subst ea2
        have HX := Lib.hid hx
        have HY := Lib.hid hy
        clear z1 z2 t1 t2 hx hy
        by_cases hxy : x = y
        · have hq := eqTT hxy
          have HS2' : Hid (∀ j, j < k + 1 → (parts a)[j]? = (parts b)[j]?) := by
            intro j hj
            rcases Nat.lt_or_ge j k with h | h
            · exact HS.out j h
            · have : j = k := by omega
              subst this; rw [HX.out, HY.out, hxy]
          clear hxy
          try go_wp2
          go_quiet (fail)
          go_wp2
          go_roundw
          case rel => exact ⟨k + 1, by go_num, by omega, by omega, HS2', HD.out.more _⟩
          case measure => simp [intOf]; omega
        · have hq := eqFF hxy
          obtain ⟨a', hsl, hgl⟩ := HEND.out (.inr (.inr (by rw [HX.out, HY.out]; intro e; injection e with e; exact hxy e)))
          have HGL := Lib.hid hgl
          clear hxy hgl
          try go_wp2
          go_quiet (fail)
          go_wp2_with (go_at_call 40; refine (HGL.out _).mono ?_; rintro e w5 ⟨rfl, hb⟩; have HBX := Lib.hid hb; clear hb)
          go_ret
          exact ⟨rfl, HBX.out⟩
      · have hI2 : ¬ (k : Int) < (m : Int) := by omega
        have hI2d : decide ((k : Int) < (m : Int)) = false := decide_eq_false (by omega)
        have hI2n : decide (k < m) = false := decide_eq_false (by omega)
        obtain ⟨a', hsl, hgl⟩ := HEND.out (.inr (.inl (List.getElem?_eq_none (by have := HM.out; omega))))
        have HGL := Lib.hid hgl
        clear hgl hx
        try go_wp2
        go_quiet (fail)
        go_wp2_with (go_at_call 40; refine (HGL.out _).mono ?_; rintro e w5 ⟨rfl, hb⟩; have HBX := Lib.hid hb; clear hb)
        go_ret
        exact ⟨rfl, HBX.out⟩
    · have hI1 : ¬ (k : Int) < (n : Int) := by omega
      have hI1d : decide ((k : Int) < (n : Int)) = false := decide_eq_false (by omega)
      have hI1n : decide (k < n) = false := decide_eq_false (by omega)
      obtain ⟨a', hsl, hgl⟩ := HEND.out (.inl (List.getElem?_eq_none (by have := HN.out; omega)))
      have HGL := Lib.hid hgl
      clear hgl
      try go_wp2
      go_quiet (fail)
      go_wp2_with (go_at_call 40; refine (HGL.out _).mono ?_; rintro e w5 ⟨rfl, hb⟩; have HBX := Lib.hid hb; clear hb)
      go_ret
      exact ⟨rfl, HBX.out⟩

set_option maxHeartbeats 16000000 in
theorem pathTwo_walk (a b : L8) (w : World) (ha : a.length ≤ 1048576) (hb : b.length ≤ 1048576) :
    Calls Try.prog 5 #[.string (mk a), .string (mk b)] w fun e w' => e = .returned (.bool true) ∧ Below w.heap.size w w' := by
  have HA := Lib.hid (acc (w := w) awake_pa)
  have HB : Hid (Below w.heap.size w w) := Below.refl _ _
  have H1 := Lib.hid (acc (w := w) (fun W => (rel_any a b W).mono fun e w' ⟨h1, h2⟩ => ⟨h1, h2 ▸ Below.refl _ _⟩))
  have H2 := Lib.hid (acc (w := w) (fun W => rrel_any a b W ha hb))
  have H3 := Lib.hid (acc (w := w) (fun W => (less_any a b W (by omega) (by omega)).mono fun e w' ⟨h1, h2⟩ => ⟨h1, h2.below⟩))
  have H4 := Lib.hid (acc (w := w) (fun W => rless_any a b W ha hb))
  have H5 := Lib.hid (acc (w := w) (fun W => (under_any a b W).mono fun e w' ⟨h1, h2⟩ => ⟨h1, h2 ▸ Below.refl _ _⟩))
  have H6 := Lib.hid (acc (w := w) (fun W => runder_any a b W ha hb))
  have H7 := Lib.hid (acc (w := w) (fun W => (common_any a b W (by omega) (by omega)).mono fun e w' ⟨h1, h2⟩ => ⟨h1, h2.below⟩))
  have H8 := Lib.hid (acc (w := w) (fun W => rcommon_any a b W ha hb))
  have q1 : ((mk (relL a b)).toList == (mk (relL a b)).toList) = true := eqTT rfl
  have q2 : ((mk (commonL a b)).toList == (mk (commonL a b)).toList) = true := eqTT rfl
  generalize relL a b = r at *
  generalize commonL a b = c at *
  generalize lessB a b = lb at *
  generalize underB a b = ub at *
  have q3 : (lb == lb) = true := by simp
  have q4 : (ub == ub) = true := by simp
  go_enter Try.func5, Try.ntmps5
  go_wp2_with (first
    | (go_at_call 27; refine (H1.out _ HB.out).mono ?_; rintro e w1 ⟨rfl, hb⟩; have HB := Lib.hid hb; clear hb)
    | (go_at_call 28; refine (H2.out _ HB.out).mono ?_; rintro e w1 ⟨rfl, hb⟩; have HB := Lib.hid hb; clear hb)
    | (go_at_call 29; refine (H3.out _ HB.out).mono ?_; rintro e w1 ⟨rfl, hb⟩; have HB := Lib.hid hb; clear hb)
    | (go_at_call 30; refine (H4.out _ HB.out).mono ?_; rintro e w1 ⟨rfl, hb⟩; have HB := Lib.hid hb; clear hb)
    | (go_at_call 31; refine (H5.out _ HB.out).mono ?_; rintro e w1 ⟨rfl, hb⟩; have HB := Lib.hid hb; clear hb)
    | (go_at_call 32; refine (H6.out _ HB.out).mono ?_; rintro e w1 ⟨rfl, hb⟩; have HB := Lib.hid hb; clear hb)
    | (go_at_call 33; refine (H7.out _ HB.out).mono ?_; rintro e w1 ⟨rfl, hb⟩; have HB := Lib.hid hb; clear hb)
    | (go_at_call 34; refine (H8.out _ HB.out).mono ?_; rintro e w1 ⟨rfl, hb⟩; have HB := Lib.hid hb; clear hb)
    | (go_at_call 21; refine (HA.out _ HB.out).mono ?_; rintro e w4 ⟨rfl, hb⟩; have HB := Lib.hid hb; clear hb))
  go_ret
  exact ⟨rfl, HB.out⟩
end Go.Proofs.Yteimbdbnipfmkaa.Pa
