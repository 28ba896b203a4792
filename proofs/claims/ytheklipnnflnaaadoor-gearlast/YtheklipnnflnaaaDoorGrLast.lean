/- gear: the last 64 bytes alone; the law GearLast. (A template: seatgen.py fills it.) -/
import Derived.Test.YtheklipnnflnaaaDoorGrLaws
import Derived.BigQuiet
namespace Go.Proofs.GearMath
/-- between two sums of like bytes: what is ahead is doubled away -/
def Rel (t k : Nat) (g g' : Int) : Prop := k < t ∨ ∃ d q : Int, g - g' = 2 ^ (k - t) * d + 18446744073709551616 * q
theorem gs_diff (g g' c : Int) : ∃ q : Int, gs g c - gs g' c = 2 * (g - g') + 18446744073709551616 * q := by
  refine ⟨(2 * g' + gt c) / 18446744073709551616 - (2 * g + gt c) / 18446744073709551616, ?_⟩
  unfold gs
  omega
theorem rel_step (t k : Nat) (g g' c c' : Int) (h : Rel t k g g') (hc : t ≤ k → c = c') : Rel t (k + 1) (gs g c) (gs g' c') := by
  by_cases hk : k < t
  · by_cases hk1 : k + 1 < t
    · exact .inl hk1
    · refine .inr ⟨gs g c - gs g' c', 0, ?_⟩
      rw [show k + 1 - t = 0 from by omega]; simp
  · rcases h with h | ⟨d, q, h⟩
    · omega
    · have e := hc (by omega)
      subst e
      obtain ⟨q', h'⟩ := gs_diff g g' c
      refine .inr ⟨d, 2 * q + q', ?_⟩
      rw [h', h, show k + 1 - t = (k - t) + 1 from by omega, Int.pow_succ]
      rw [Int.mul_assoc (2 ^ (k - t)) 2 d, Int.mul_comm 2 d, ← Int.mul_assoc]
      generalize (2 : Int) ^ (k - t) * d = p
      omega
theorem rel_eq (t k : Nat) (g g' : Int) (h : Rel t k g g') (hk : t + 64 ≤ k) (b0 : 0 ≤ g ∧ g ≤ 18446744073709551615) (b1 : 0 ≤ g' ∧ g' ≤ 18446744073709551615) : g = g' := by
  rcases h with h | ⟨d, q, h⟩
  · omega
  · rw [show k - t = (k - t - 64) + 64 from by omega, Int.pow_add] at h
    have e : (2 : Int) ^ 64 = 18446744073709551616 := by decide
    rw [e, Int.mul_comm (2 ^ (k - t - 64)) 18446744073709551616, Int.mul_assoc] at h
    generalize (2 : Int) ^ (k - t - 64) * d = p at h
    omega
theorem scan_last (L B : Int) (l l' : List Int) (t : Nat) (hL : L = (t : Int) + 64) (d : Nat) (ha : ∀ j, t ≤ j → l.getD j 0 = l'.getD j 0) :
    ∀ k g g', Rel t k g g' → scan L B l d k g = scan L B l' d k g' := by
  induction d with
  | zero => intro k g g' _; rfl
  | succ d ih =>
    intro k g g' h
    have hr := rel_step t k g g' (l.getD k 0) (l'.getD k 0) h (ha k)
    have hh : hit L B (k + 1) (gs g (l.getD k 0)) ↔ hit L B (k + 1) (gs g' (l'.getD k 0)) := by
      by_cases hk : L ≤ ((k + 1 : Nat) : Int)
      · rw [rel_eq t (k + 1) _ _ hr (by omega) (gs_bd _ _) (gs_bd _ _)]
      · unfold hit
        constructor
        · intro h; exact absurd h.1 hk
        · intro h; exact absurd h.1 hk
    by_cases hy : hit L B (k + 1) (gs g (l.getD k 0))
    · rw [scan_yes _ _ _ _ _ _ (by omega) hy, scan_yes _ _ _ _ _ _ (by omega) (hh.1 hy)]
    · rw [scan_no _ _ _ _ _ _ (by omega) hy, scan_no _ _ _ _ _ _ (by omega) (fun h => hy (hh.2 h))]
      exact ih _ _ _ hr
theorem nxt_last (L M B : Int) (l l' : List Int) (t : Nat) (hL : L = (t : Int) + 64) (hl : l.length = l'.length) (ha : ∀ j, t ≤ j → l.getD j 0 = l'.getD j 0) : fe L M B l = fe L M B l' := by
  unfold fe
  rw [hl]
  refine scan_last L B l l' t hL _ ha 0 0 0 ?_
  by_cases h : 0 < t
  · exact .inl h
  · exact .inr ⟨0, 0, by simp⟩
end Go.Proofs.GearMath

namespace Go.Proofs.YtheklipnnflnaaaDoor.Gear
open Go.RowKit Go.Proofs.GearMath
set_option linter.unusedVariables false
set_option maxRecDepth 1000000

/-- one byte of owned memory, written -/
theorem own_put {W : World} {b g cap k n : Nat} {c : Int} {m : List Int} (h : Own W b (.slice (some ⟨g, 0, none⟩) n cap) m) (hk : k < m.length) : ∃ cur, W.heap[g]? = some (.cells cur 5) ∧ b ≤ g ∧ Own (W.setCell ⟨g, k, none⟩ (.int .u8 c)) b (.slice (some ⟨g, 0, none⟩) n cap) (m.set k c) := by
  obtain ⟨q1, q2⟩ := h
  rcases q2 with ⟨q0, q3⟩ | ⟨g', cap', cur', e, q4, q5, q6, q7, q8, q9⟩
  · omega
  · simp only [Value.slice.injEq, Option.some.injEq, Addr.mk.injEq] at e
    obtain ⟨⟨rfl, -, -⟩, rfl, rfl⟩ := e
    refine ⟨cur', q5, q4, by simp, .inr ⟨g, cap, cur'.setIfInBounds k (.int .u8 c), by simp, q4, ?_, by simpa using q6, q7, by simpa using q8, ?_⟩⟩
    · rw [Joins.block_setCell q5 _]
    · rw [Array.toList_setIfInBounds, List.map_set, ← q9, List.length_set, List.take_set]

set_option maxHeartbeats 8000000 in
theorem gearLast_yes (a ah : Option Addr) (n cap nh caph : Nat) (l lh : List Int) (L M B : Int) (w : World) (hT : Tab w) (hB : Bytes w a l) (hnil : a = none → cap = 0) (hcap : n ≤ cap) (hn : n = l.length)
    (hBh : Bytes w ah lh) (hnh : nh = lh.length) (hbig : n ≤ 1000) (hok : ok L M B) (hL : 64 ≤ L) (hnh2 : nh ≤ 9223372036854775807) :
    Calls Tryd.prog 9 #[.slice a n cap, .slice ah nh caph, P3 L M B] w fun e w' => e = .returned (.bool true) ∧ Below w.heap.size w w' := by
  obtain ⟨w1, hw1⟩ : ∃ w1, w1 = w.alloc (Obj.cells #[.int .i64 L, .int .i64 M, .int .i64 B] 23) := ⟨_, rfl⟩
  obtain ⟨f0, f1, f2⟩ := three_at hw1
  have hb1 : Below w.heap.size w w1 := by rw [hw1]; exact (Below.refl _ _).alloc (Nat.le_refl _) _
  have hs1 : w1.heap.size = w.heap.size + 1 := by rw [hw1]; simp
  have hS : Sl w (.slice a n cap) l := ⟨a, cap, by rw [hn], hB, hnil, by rw [← hn]; exact hcap⟩
  have ho := hB.1
  have hLM : L ≤ 65536 := by unfold ok at hok; omega
  have HRK := Lib.hid (rcheck_any L M B)
  rw [show chk L M B = 0 from if_pos hok] at HRK
  have HOF := Lib.hid (fun W => of_any L M B W)
  have HNB := Lib.hid (fun W (hb : Below w.heap.size w W) => next_any _ l L M B W (hT.later hb) (hS.later hb) ho (by omega))
  have HNC := Lib.hid (fun W v (m : List Int) (hb : Below w.heap.size w W) (hs : Sl W v m) (hm : m.length = n) => next_any v m L M B W (hT.later hb) hs hs.choose_spec.choose_spec.2.1.1 (by omega))
  have HAW := Lib.hid (fun W (hb : Below w.heap.size w W) => awake_any W (hT.later hb))
  obtain ⟨t, ht⟩ : ∃ t : Nat, L = (t : Int) + 64 := ⟨(L - 64).toNat, by omega⟩
  have HNX : Hid (∀ m : List Int, m.length = n → (∀ j, t ≤ j → m.getD j 0 = l.getD j 0) → nxt L M B m = nxt L M B l) := by
    intro m hm ha
    unfold nxt
    rw [if_pos hok, if_pos hok]
    exact nxt_last L M B m l t ht (by rw [hm, hn]) ha
  have HTL := Lib.hid ht
  have HO := Lib.hid ho
  have HB := Lib.hid hB
  have HL := Lib.hid hn
  have HBH := Lib.hid hBh
  have HLH := Lib.hid hnh
  have HB1 := Lib.hid hb1
  have HS0 := Lib.hid (hS.later hb1)
  have hI : ¬ (1000 : Int) < (n : Int) := by omega
  have hL2 : ¬ L < 64 := by omega
  clear hT hS ho hok hB hnil hcap hb1 hn hBh hnh ht
  unfold P3 at *
  go_enter Tryd.func9, Tryd.ntmps9
  go_wp2_with fail
  rw [← hw1]
  clear hw1
  refine (HRK.out _).mono ?_
  rintro e w2 ⟨rfl, hb2⟩
  have HB2 : Hid (Below w.heap.size w w2) := HB1.out.trans (hb2.mono HB1.out.size)
  have g0 := cell_later hb2 f0
  have g1 := cell_later hb2 f1
  have g2 := cell_later hb2 f2
  have hs2 : w.heap.size + 1 ≤ w2.heap.size := by have := hb2.size; omega
  have hbe : Below w2.heap.size w2 (w2.alloc (.cells #[] 5)) := (Below.refl _ _).alloc (Nat.le_refl _) _
  have HSA := Lib.hid ((HS0.out.later hb2).later hbe)
  have HE := Lib.hid (empty_own w2)
  have HBE := Lib.hid hbe
  clear hb2 f0 f1 f2 hbe HRK HS0
  go_wp2_with (at_builtin; go_must (refine append_sl rfl (.tmp 23) (.tmp 24) rfl w2.heap.size _ _ [] l rfl HE.out rfl HSA.out (by have := HL.out; simp; omega) (by simp) ?_); intro vc w3 HVC hb3)
  obtain ⟨ac, cc, ec⟩ := own_form HVC.out
  rw [List.nil_append, ← HL.out] at ec
  subst ec
  have HC3 : Hid (Own w3 w2.heap.size (.slice ac n cc) l) := HVC.out
  have hb23 : Below w2.heap.size w2 w3 := HBE.out.trans hb3
  have HB23 := Lib.hid hb23
  have f0 := cell_later hb23 g0
  have f1 := cell_later hb23 g1
  have f2 := cell_later hb23 g2
  have HF : Hid (w2.cell? ⟨w.heap.size, 0, none⟩ = some (.int .i64 L) ∧ w2.cell? ⟨w.heap.size, 1, none⟩ = some (.int .i64 M) ∧ w2.cell? ⟨w.heap.size, 2, none⟩ = some (.int .i64 B)) := ⟨g0, g1, g2⟩
  clear hb3 hb23 g0 g1 g2 HVC HSA HE HBE f0 f1 f2
  go_wp2
  go_loopw [8] (fun vi wr => ∃ (i : Nat) (m : List Int), vi = .int .i64 i ∧ i ≤ nh ∧ Hid (m.length = n) ∧ Hid (Oct m) ∧ Hid (∀ j, t ≤ j → m.getD j 0 = l.getD j 0) ∧ Hid (Own wr w2.heap.size (.slice ac n cc) m) ∧ Hid (Below w2.heap.size w2 wr)) (fun vi _ => nh - (intOf vi).toNat)
  case atStart => exact ⟨0, l, rfl, by omega, HL.out.symm, HO.out, (fun _ _ => rfl), HC3.out, HB23.out⟩
  case round =>
    obtain ⟨i, m, rfl, hi, HML, HMO, HMA, HOW, HBR⟩ := hrel
    have hbw : Below w.heap.size w wr := HB2.out.trans (HBR.out.mono HB2.out.size)
    have HBW := Lib.hid hbw
    have f0 := cell_later HBR.out HF.out.1
    have f1 := cell_later HBR.out HF.out.2.1
    have f2 := cell_later HBR.out HF.out.2.2
    have hlw : IntKind.i64.wrap (L - 64) = L - 64 := by rw [IntKind.wrap_i64]; omega
    by_cases hc : (i : Int) < (nh : Int) ∧ (i : Int) < (n : Int) ∧ (i : Int) < L - 64
    · obtain ⟨hc1, hc2, hc3⟩ := hc
      have hin : i < n := by omega
      have hih : i < lh.length := by rw [← HLH.out]; omega
      obtain ⟨bh, offh, eh, hch⟩ := HBH.out.2 (by intro e; rw [e] at hih; simp at hih)
      subst eh
      have hci := cell_later hbw (hch i hih)
      have hxo := HBH.out.1.getD i
      have hac : ∃ g, ac = some ⟨g, 0, none⟩ := by
        rcases HOW.out.2 with ⟨q0, q3⟩ | ⟨g, cp, cur, e, _⟩
        · have := HML.out; simp at q3; subst q3; simp at this; omega
        · simp only [Value.slice.injEq] at e; exact ⟨g, e.1⟩
      obtain ⟨g, rfl⟩ := hac
      obtain ⟨cur, hheap, hge, HNEW⟩ := own_put (k := i) (c := lh.getD i 0) HOW.out (by rw [HML.out]; exact hin)
      have hfr : wr.frozen? ⟨g, i, none⟩ = false := unfrozen hheap
      have hck : wr.cell? ⟨g, i, none⟩ = some (.int .u8 (m.getD i 0)) := by
        obtain ⟨x, y, e, hb, _, _⟩ := HOW.out.sl HMO.out
        simp only [Value.slice.injEq] at e
        obtain ⟨rfl, -, rfl⟩ := e
        obtain ⟨b', o', e', hcc⟩ := hb.2 (by intro e; have := HML.out; rw [e] at this; simp at this; omega)
        simp only [Option.some.injEq, Addr.mk.injEq] at e'
        obtain ⟨rfl, rfl, -⟩ := e'
        have := hcc i (by rw [HML.out]; exact hin)
        simpa using this
      have HNEW' := Lib.hid HNEW
      have HSET : Hid (Oct (m.set i (lh.getD i 0)) ∧ (m.set i (lh.getD i 0)).length = n ∧ ∀ j, t ≤ j → (m.set i (lh.getD i 0)).getD j 0 = l.getD j 0) := by
        refine ⟨?_, by simp [HML.out], fun j hj => ?_⟩
        · intro x hx
          rcases List.mem_or_eq_of_mem_set hx with hx | rfl
          · exact HMO.out x hx
          · exact hxo
        · have := HTL.out
          rw [← HMA.out j hj, List.getD_eq_getElem?_getD, List.getElem?_set, if_neg (by omega), ← List.getD_eq_getElem?_getD]
      generalize lh.getD i 0 = x at *
      have hge0 : (0 : Int) ≤ (i : Int) := by omega
      clear hch hheap hbw HNEW hxo
      go_wp2
      go_roundw
      case rel => exact ⟨i + 1, m.set i x, by go_num, by omega, HSET.out.2.1, HSET.out.1, HSET.out.2.2, HNEW'.out, HBR.out.setCell hge _⟩
      case measure => simp [intOf]; omega
    · have HNE := Lib.hid (HNX.out m HML.out HMA.out)
      have h1 := Lib.hid (toS (w1 := wr) (g := w.heap.size) (x := .int .i64 L) (y := .int .i64 M) (z := .int .i64 B) fun W hb => HNB.out W (HBW.out.trans (hb.mono HBW.out.size)))
      have h2 := Lib.hid (toS (w1 := wr) (g := w.heap.size) (x := .int .i64 L) (y := .int .i64 M) (z := .int .i64 B) fun W hb => HNC.out W _ m (HBW.out.trans (hb.mono HBW.out.size)) ((HOW.out.sl HMO.out).later hb) HML.out)
      have h3 := Lib.hid (toS (w1 := wr) (g := w.heap.size) (x := .int .i64 L) (y := .int .i64 M) (z := .int .i64 B) fun W hb => HOF.out W)
      have h4 := Lib.hid (toS (w1 := wr) (g := w.heap.size) (x := .int .i64 L) (y := .int .i64 M) (z := .int .i64 B) fun W hb => HAW.out W (HBW.out.trans (hb.mono HBW.out.size)))
      rw [HNE.out] at h2
      generalize nxt L M B l = r at *
      have hS0 : Below wr.heap.size wr wr ∧ wr.cell? ⟨w.heap.size, 0, none⟩ = some (.int .i64 L) ∧ wr.cell? ⟨w.heap.size, 1, none⟩ = some (.int .i64 M) ∧ wr.cell? ⟨w.heap.size, 2, none⟩ = some (.int .i64 B) := ⟨Below.refl _ _, f0, f1, f2⟩
      have hS1 : Below wr.heap.size wr wr.drew ∧ wr.drew.cell? ⟨w.heap.size, 0, none⟩ = some (.int .i64 L) ∧ wr.drew.cell? ⟨w.heap.size, 1, none⟩ = some (.int .i64 M) ∧ wr.drew.cell? ⟨w.heap.size, 2, none⟩ = some (.int .i64 B) := ⟨Below.drew (Below.refl _ _), f0, f1, f2⟩
      clear hbw HNE HNX HNC HNB
      have hend : ∀ {K : Prop}, ((¬ (i : Int) < (nh : Int)) → K) → (((i : Int) < (nh : Int)) → (¬ (i : Int) < (n : Int)) → K) → (((i : Int) < (nh : Int)) → ((i : Int) < (n : Int)) → (¬ (i : Int) < L - 64) → K) → K := by
        intro K k1 k2 k3
        by_cases c1 : (i : Int) < (nh : Int)
        · by_cases c2 : (i : Int) < (n : Int)
          · exact k3 c1 c2 (fun c3 => hc ⟨c1, c2, c3⟩)
          · exact k2 c1 c2
        · exact k1 c1
      clear hc
      refine hend ?_ ?_ ?_
      all_goals
        intros
        clear hend
        go_wp2_with fail
        go_region_held3 (fun W => Below wr.heap.size wr W ∧ W.cell? ⟨w.heap.size, 0, none⟩ = some (.int .i64 L) ∧ W.cell? ⟨w.heap.size, 1, none⟩ = some (.int .i64 M) ∧ W.cell? ⟨w.heap.size, 2, none⟩ = some (.int .i64 B)) (first | assumption | exact hS0 | exact hS1) (first
          | (go_at_call 16; (with_reducible refine (h1.out _ ?_).mono ?_); (focus (first | assumption | exact hS0 | exact hS1)); rintro e w9 ⟨rfl, hb9⟩)
          | (go_at_call 16; (with_reducible refine (h2.out _ ?_).mono ?_); (focus (first | assumption | exact hS0 | exact hS1)); rintro e w9 ⟨rfl, hb9⟩)
          | (go_at_call 13; (with_reducible refine (h3.out _ ?_).mono ?_); (focus (first | assumption | exact hS0 | exact hS1)); rintro e w9 ⟨rfl, hb9⟩)
          | (go_at_call 15; (with_reducible refine (h4.out _ ?_).mono ?_); (focus (first | assumption | exact hS0 | exact hS1)); rintro e w9 ⟨rfl, hb9⟩))
        all_goals go_wp2
        all_goals go_ret
        all_goals exact ⟨rfl, HBW.out.trans (Below.mono (And.left (by assumption)) HBW.out.size)⟩

set_option maxHeartbeats 4000000 in
theorem gearLast_walk (a ah : Option Addr) (n cap nh caph : Nat) (l lh : List Int) (L M B : Int) (w : World) (hT : Tab w) (hB : Bytes w a l) (hnil : a = none → cap = 0) (hcap : n ≤ cap) (hn : n = l.length)
    (hBh : Bytes w ah lh) (hnh : nh = lh.length) (hnh2 : nh ≤ 9223372036854775807) :
    Calls Tryd.prog 9 #[.slice a n cap, .slice ah nh caph, P3 L M B] w fun e w' => e = .returned (.bool true) ∧ Below w.heap.size w w' := by
  by_cases hbig : n ≤ 1000
  · have hI : ¬ (1000 : Int) < (n : Int) := by omega
    obtain ⟨w1, hw1⟩ : ∃ w1, w1 = w.alloc (Obj.cells #[.int .i64 L, .int .i64 M, .int .i64 B] 23) := ⟨_, rfl⟩
    obtain ⟨f0, f1, f2⟩ := three_at hw1
    have hb1 : Below w.heap.size w w1 := by rw [hw1]; exact (Below.refl _ _).alloc (Nat.le_refl _) _
    have HRK := Lib.hid (rcheck_any L M B)
    have HAW := Lib.hid (fun W (hb : Below w.heap.size w W) => awake_any W (hT.later hb))
    have HB1 := Lib.hid hb1
    by_cases hok : ok L M B
    · by_cases hL : 64 ≤ L
      · exact gearLast_yes a ah n cap nh caph l lh L M B w hT hB hnil hcap hn hBh hnh hbig hok hL hnh2
      · have hL2 : L < 64 := by omega
        rw [show chk L M B = 0 from if_pos hok] at HRK
        clear hT hB hnil hcap hn hBh hnh hb1 hok hL
        unfold P3 at *
        go_enter Tryd.func9, Tryd.ntmps9
        go_wp2_with fail
        rw [← hw1]
        clear hw1
        refine (HRK.out _).mono ?_
        rintro e w2 ⟨rfl, hb2⟩
        have g0 := cell_later hb2 f0
        have HB2 : Hid (Below w.heap.size w w2) := HB1.out.trans (hb2.mono HB1.out.size)
        clear hb2 f0 f1 f2
        go_wp2_with fail
        refine (HAW.out _ HB2.out).mono ?_
        rintro e w9 ⟨rfl, hb9⟩
        go_wp2
        go_ret
        exact ⟨rfl, HB2.out.trans (hb9.mono HB2.out.size)⟩
    · rw [show chk L M B = 2 from if_neg hok] at HRK
      clear hT hB hnil hcap hn hBh hnh hb1 hok
      unfold P3 at *
      go_enter Tryd.func9, Tryd.ntmps9
      go_wp2_with fail
      rw [← hw1]
      clear hw1
      refine (HRK.out _).mono ?_
      rintro e w2 ⟨rfl, hb2⟩
      have HB2 : Hid (Below w.heap.size w w2) := HB1.out.trans (hb2.mono HB1.out.size)
      clear hb2 f0 f1 f2
      go_wp2_with fail
      refine (HAW.out _ HB2.out).mono ?_
      rintro e w9 ⟨rfl, hb9⟩
      go_wp2
      go_ret
      exact ⟨rfl, HB2.out.trans (hb9.mono HB2.out.size)⟩
  · have hI : (1000 : Int) < (n : Int) := by omega
    obtain ⟨w1, hw1⟩ : ∃ w1, w1 = w.alloc (Obj.cells #[.int .i64 L, .int .i64 M, .int .i64 B] 23) := ⟨_, rfl⟩
    have hb1 : Below w.heap.size w w1 := by rw [hw1]; exact (Below.refl _ _).alloc (Nat.le_refl _) _
    have H6 := Lib.hid (awake_any w1 (hT.later hb1))
    have HB1 := Lib.hid hb1
    clear hT hb1 hB hnil hcap hn hBh hnh
    unfold P3 at *
    go_enter Tryd.func9, Tryd.ntmps9
    go_wp2_with fail
    rw [← hw1]
    clear hw1
    refine H6.out.mono ?_
    rintro e w9 ⟨rfl, hb9⟩
    go_wp2
    go_ret
    exact ⟨rfl, HB1.out.trans (hb9.mono HB1.out.size)⟩
end Go.Proofs.YtheklipnnflnaaaDoor.Gear
