/- The law PathSorts. (A template.) -/
import Derived.Test.YteimbdbnipfmkaaPaSort
namespace Go.Proofs.Yteimbdbnipfmkaa.Pa
open Go.RowKit
set_option linter.unusedVariables false
set_option linter.unusedSimpArgs false
set_option maxRecDepth 1000000

set_option maxHeartbeats 16000000 in
theorem pathSorts_walk (a : Option Addr) (n c : Nat) (ss : List L8) (w : World) (h : Txt w (.slice a n c) ss) (hn : n = ss.length) (hb : n ≤ 9223372036854775807) (hs : ∀ s ∈ ss, s.length ≤ 9223372036854775807) (hcl : n ≤ c ∧ (a = none → c = 0)) :
    Calls Try.prog 6 #[.slice a n c] w fun e w' => e = .returned (.bool true) ∧ Below w.heap.size w w' := by
  have HA := Lib.hid (acc (w := w) awake_pa)
  have HB : Hid (Below w.heap.size w w) := Below.refl _ _
  have HGR := Lib.hid (great_any a n c ss w h hn hb hs)
  cases hgr : greatB ss
  · have hgd := of_decide_eq_false hgr
    have g1 : ∀ s ∈ ss, s.length ≤ 4000 := fun s hs' => by
      rcases Nat.lt_or_ge 4000 s.length with h | h
      · exact absurd (.inl ⟨s, hs', h⟩) hgd
      · exact h
    have g2 : ss.length ≤ 300 := by
      rcases Nat.lt_or_ge 300 ss.length with h | h
      · exact absurd (.inr h) hgd
      · exact h
    rw [hgr] at HGR
    have hT : TxC w (.slice a n c) ss := by
      obtain ⟨a', c', e, hx⟩ := h
      simp only [Value.slice.injEq] at e
      obtain ⟨rfl, -, rfl⟩ := e
      exact ⟨a, c, by rw [hn], by omega, hcl.2, hx⟩
    have HS1 : Hid (∀ W, Below w.heap.size w W → Calls Try.prog 35 #[.slice a n c] W fun e w' => ∃ v, e = .returned v ∧ (∃ aa cc, v = .slice aa (msort ss.length ss).length cc) ∧ Txt w' v (msort ss.length ss) ∧ Below W.heap.size W w' ∧ Below w.heap.size w w') := by
      intro W hW
      refine (sort_any _ ss W (hT.later hW) g1 g2).mono ?_
      rintro e w' ⟨v, h1, h2, h3⟩
      exact ⟨v, h1, (by obtain ⟨aa, cc, e, _⟩ := h2; exact ⟨aa, cc, e⟩), h2, h3, hW.trans (h3.mono hW.size)⟩
    have HS2 : Hid (∀ W, Below w.heap.size w W → Calls Try.prog 36 #[.slice a n c] W fun e w' => ∃ v, e = .returned v ∧ (∃ aa cc, v = .slice aa (msort ss.length ss).length cc) ∧ Txt w' v (msort ss.length ss) ∧ Below W.heap.size W w' ∧ Below w.heap.size w w') := by
      intro W hW
      refine (rsort_any ss.length _ ss W (hT.later hW) (by omega) g2 g1).mono ?_
      rintro e w' ⟨v, h1, h2, h3⟩
      exact ⟨v, h1, h2.slice, h2.txt, h3, hW.trans (h3.mono hW.size)⟩
    have hml : (msort ss.length ss).length ≤ 300 := by rw [msort_len]; exact g2
    have HTX : Hid (∀ W v9 v7, Below w.heap.size w W → Txt W v9 (msort ss.length ss) → Txt W v7 (msort ss.length ss) → Calls Try.prog 12 #[v9, v7] W fun e w' => e = .returned (.bool true) ∧ Below w.heap.size w w') := by
      intro W v9 v7 hW h9 h7
      have h := texts_any v9 v7 _ _ W h9 h7 (by omega) (by omega)
      rw [decide_eq_true rfl] at h
      exact h.mono fun e w' ⟨h1, h2⟩ => ⟨h1, hW.trans (h2.below.mono hW.size)⟩
    generalize msort ss.length ss = M at *
    clear hT h hn hb hs hcl g1 g2 hgd hgr hml
    go_enter Try.func6, Try.ntmps6
    go_wp2_with (first
      | (go_at_call 22; refine HGR.out.mono ?_; rintro e w0 ⟨rfl, rfl⟩)
      | (go_at_call 35; refine (HS1.out _ HB.out).mono ?_; rintro e w2 ⟨v2, rfl, ⟨a2, c2, e2⟩, ht, hb1, hb⟩; have HT0 := Lib.hid ht; have HB := Lib.hid hb; clear ht hb1 hb; subst e2)
      | (go_at_call 36; refine (HS2.out _ HB.out).mono ?_; rintro e w3 ⟨v3, rfl, ⟨a3, c3, e3⟩, ht, hb1, hb⟩; have HT1 := Lib.hid (HT0.out.later hb1); have HT2 := Lib.hid ht; have HB := Lib.hid hb; clear ht hb1 hb; subst e3)
      | (go_at_call 12; refine (HTX.out _ _ _ HB.out HT1.out HT2.out).mono ?_; rintro e w6 ⟨rfl, hb⟩; have HB := Lib.hid hb; clear hb)
      | (go_at_call 21; refine (HA.out _ HB.out).mono ?_; rintro e w4 ⟨rfl, hb⟩; have HB := Lib.hid hb; clear hb))
    go_ret
    exact ⟨rfl, HB.out⟩
  · rw [hgr] at HGR
    clear h hn hb hs hcl hgr
    go_enter Try.func6, Try.ntmps6
    go_wp2_with (go_at_call 22; refine HGR.out.mono ?_; rintro e w0 ⟨rfl, rfl⟩)
    go_ret
    exact ⟨rfl, HB.out⟩
end Go.Proofs.Yteimbdbnipfmkaa.Pa
