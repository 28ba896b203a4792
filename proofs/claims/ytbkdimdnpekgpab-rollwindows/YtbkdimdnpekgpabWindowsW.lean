/- The law RollWindows's own walk. -/
import Derived.Test.YtbkdimdnpekgpabRefWin
namespace Go.Proofs.Ytbkdimdnpekgpab
open Go.RowKit Go.Proofs.RollMath
set_option linter.unusedVariables false

/-- both windows, with the same bytes, apart from each other -/
def Two (W : World) (g n : Nat) (v : Value) (R : List Int) (f : Nat) (u : Value) : Prop :=
  Win W g n v R f ∧ RWin W (g + 1) n u (R.drop f) ∧ some (g + 1) ≠ v.ownBlock ∧ (∀ k, u.ownBlock = some k → k < W.heap.size ∧ k ≠ g ∧ some k ≠ v.ownBlock)

theorem Two.later {W W' : World} {g n : Nat} {v : Value} {R : List Int} {f : Nat} {u : Value} (h : Two W g n v R f u) (hb : Below W.heap.size W W') : Two W' g n v R f u := by
  obtain ⟨h1, h2, h3, h4⟩ := h
  exact ⟨h1.later hb, h2.later hb, h3, fun k hk => ⟨Nat.lt_of_lt_of_le (h4 k hk).1 hb.size, (h4 k hk).2⟩⟩

/-- the document's window behind a push of the other one -/
theorem two_push {W w' : World} {g n : Nat} {v v' : Value} {R : List Int} {f : Nat} {u : Value} (h : Two W g n v R f u) (hfr : Fr W w' g v v') :
    RWin w' (g + 1) n u (R.drop f) ∧ some (g + 1) ≠ v'.ownBlock ∧ (∀ k, u.ownBlock = some k → k < w'.heap.size ∧ k ≠ g ∧ some k ≠ v'.ownBlock) := by
  obtain ⟨h1, ⟨r1, r2, r3⟩, h3, h4⟩ := h
  have hg1 := heap_lt r1
  have hsz := hfr.1.size
  have hap : ∀ k, k < W.heap.size → some k ≠ v.ownBlock → some k ≠ v'.ownBlock := by
    intro k hk hv e
    rcases hfr.2.2 with h | h
    · exact hv (e.trans h)
    · have := h k e.symm; omega
  refine ⟨⟨?_, ?_, r3⟩, hap _ hg1 h3, fun k hk => ⟨Nat.lt_of_lt_of_le (h4 k hk).1 hsz, (h4 k hk).2.1, hap k (h4 k hk).1 (h4 k hk).2.2⟩⟩
  · rw [hfr.2.1 (g + 1) hg1 (by omega) h3]; exact r1
  · exact sl_other r2 (fun k hk => hfr.2.1 k (h4 k hk).1 (h4 k hk).2.1 (h4 k hk).2.2)

/-- a window behind a change of other blocks -/
theorem win_other {W w' : World} {g n : Nat} {v : Value} {R : List Int} {f : Nat} (h : Win W g n v R f) (hk : ∀ k, k < W.heap.size → k ≠ g + 1 → w'.heap[k]? = W.heap[k]?) (hv : some (g + 1) ≠ v.ownBlock) : Win w' g n v R f := by
  obtain ⟨h1, h2, h3⟩ := h
  refine ⟨by rw [hk g (heap_lt h1) (by omega)]; exact h1, ?_, h3⟩
  obtain ⟨o1, o2⟩ := h2
  refine ⟨o1, ?_⟩
  rcases o2 with o2 | ⟨gb, cap, cur, rfl, o4, o5, o6⟩
  · exact .inl o2
  · exact .inr ⟨gb, cap, cur, rfl, o4, by rw [hk gb (heap_lt o5) (by intro e; subst e; exact hv rfl)]; exact o5, o6⟩

/-- both behind both pushes -/
theorem two_both {w3 w4 : World} {g n : Nat} {v3 : Value} {R3 : List Int} {f3 : Nat} {u4 : Value} {L : List Int} (hw : Win w3 g n v3 R3 f3) (hv : some (g + 1) ≠ v3.ownBlock) (hd : R3.drop f3 = L)
    (hr : RWin w4 (g + 1) n u4 L) (hk : ∀ k, k < w3.heap.size → k ≠ g + 1 → w4.heap[k]? = w3.heap[k]?) (hb : Below (g + 1) w3 w4) (hn : ∀ k, u4.ownBlock = some k → w3.heap.size ≤ k) (hL : L ≠ []) : Two w4 g n v3 R3 f3 u4 := by
  have hw4 := win_other hw hk hv
  refine ⟨hw4, hd ▸ hr, hv, fun k hk4 => ⟨?_, ?_, ?_⟩⟩
  · obtain ⟨_, ⟨a, cap, rfl, hB, _⟩, _⟩ := hr
    cases a with
    | none => simp [Value.ownBlock] at hk4
    | some ad =>
      obtain ⟨b, off, e, hc⟩ := hB.2 hL
      simp only [Option.some.injEq] at e
      subst e
      simp only [Value.ownBlock, Option.some.injEq] at hk4
      subst hk4
      have h0 := hc 0 (List.length_pos_iff.2 hL)
      rcases Nat.lt_or_ge b w4.heap.size with h | h
      · exact h
      · simp [World.cell?, Array.getElem?_eq_none h] at h0
  · have := hn k hk4
    have := heap_lt hw.1
    omega
  · intro e
    have h1 := hn k hk4
    have h2 := (World.ownsRow.lt hw.2.1 k e.symm).2
    omega

theorem rnew_win (n : Nat) (w : World) (g : Nat) (hg : w.heap.size = g + 1) (hw : Win w g n (.slice none 0 0) [] 0) (h1 : 1 ≤ n) (h2 : n ≤ 65536) :
    Two (w.alloc (.cells #[.int .i64 n, .slice none 0 0] 58)) g n (.slice none 0 0) [] 0 (.slice none 0 0) := by
  refine ⟨hw.later ((Below.refl _ _).alloc (Nat.le_refl _) _), ⟨?_, ⟨none, 0, rfl, ⟨by intro c hc; simp at hc, fun h => absurd rfl h⟩, fun _ => rfl, by simp⟩, by simp, h1, h2⟩, by simp [Value.ownBlock], by intro k hk; simp [Value.ownBlock] at hk⟩
  rw [← hg]; exact heap_new _ _

theorem two_len {W : World} {g n : Nat} {v : Value} {R : List Int} {f : Nat} {u : Value} (h : Two W g n v R f u) :
    Calls Try.prog 25 #[.pointer (some ⟨g, 0, none⟩)] W fun e w' => e = .returned (.int .i64 ((R.drop f).length : Int)) ∧ Qt W w' := by
  obtain ⟨a, cap, e1, hS1, c0, c1, c2, c3⟩ := h.1.cells
  obtain ⟨_, _, _, h2, h3, h4, h5⟩ := h.1
  refine (len_win W g n a R.length cap f c1 c2 (by omega) h2).mono ?_
  rintro e w' ⟨rfl, rfl⟩
  exact ⟨by rw [List.length_drop]; congr 2; omega, Qt.drew _⟩
theorem two_full {W : World} {g n : Nat} {v : Value} {R : List Int} {f : Nat} {u : Value} (h : Two W g n v R f u) :
    Calls Try.prog 27 #[.pointer (some ⟨g, 0, none⟩)] W fun e w' => e = .returned (.bool (decide ((R.drop f).length = n))) ∧ Qt W w' := by
  obtain ⟨a, cap, e1, hS1, c0, c1, c2, c3⟩ := h.1.cells
  obtain ⟨_, _, _, h2, h3, h4, h5⟩ := h.1
  refine (full_win W g n a R.length cap f c0 c1 c2 (by omega) h2).mono ?_
  rintro e w' ⟨rfl, hq⟩
  refine ⟨?_, hq⟩
  have : decide (R.length = f + n) = decide ((R.drop f).length = n) := by rw [List.length_drop]; congr 1; apply propext; omega
  rw [this]
theorem two_sum {W : World} {g n : Nat} {v : Value} {R : List Int} {f : Nat} {u : Value} (h : Two W g n v R f u) :
    Calls Try.prog 24 #[.pointer (some ⟨g, 0, none⟩)] W fun e w' => e = .returned (.int .u32 (sumOf (R.drop f))) ∧ Qt W w' := by
  obtain ⟨a, cap, e1, hS1, c0, c1, c2, c3⟩ := h.1.cells
  refine (sum_win W g _ c3).mono ?_
  rintro e w' ⟨rfl, rfl⟩
  exact ⟨rfl, Qt.refl _⟩
theorem Two.qt {W W' : World} {g n : Nat} {v : Value} {R : List Int} {f : Nat} {u : Value} (h : Two W g n v R f u) (hq : Qt W W') : Two W' g n v R f u := h.later hq.1

theorem two_clear {W w' : World} {g n : Nat} {v v' : Value} {R : List Int} {f : Nat} {u : Value} (h : Two W g n v R f u) (hw : Win w' g n v' [] 0) (hfr : Fr W w' g v v') :
    Two (w'.setCell ⟨g + 1, 1, none⟩ (.slice none 0 0)) g n v' [] 0 (.slice none 0 0) ∧ Below g w' (w'.setCell ⟨g + 1, 1, none⟩ (.slice none 0 0)) ∧ RWin w' (g + 1) n u (R.drop f) := by
  have hp := two_push h hfr
  refine ⟨⟨win_other hw (fun k _ hk => Below.heap_setCell _ _ _ _ hk) hp.2.1, ⟨heap2_set1 hp.1.1, ⟨none, 0, rfl, ⟨by intro c hc; simp at hc, fun h => absurd rfl h⟩, fun _ => rfl, by simp⟩, by simp, hp.1.2.2.2⟩, hp.2.1, by intro k hk; simp [Value.ownBlock] at hk⟩, Below.setCell (p := ⟨g + 1, 1, none⟩) (Below.refl _ _) (by show g ≤ g + 1; omega) _, hp.1⟩

/-- what both tell, in every later world -/
theorem two_all {w4 : World} {g n : Nat} {v : Value} {R : List Int} {f : Nat} {u : Value} {P : List Int} (h : Two w4 g n v R f u) (hd : R.drop f = P) (W : World) (hb : Below w4.heap.size w4 W) :
    (Calls Try.prog 24 #[.pointer (some ⟨g, 0, none⟩)] W fun e w' => e = .returned (.int .u32 (sumOf P)) ∧ Below w4.heap.size w4 w') ∧
    (Calls Try.prog 30 #[.pointer (some ⟨g + 1, 0, none⟩)] W fun e w' => e = .returned (.int .u32 (sumOf P)) ∧ Below w4.heap.size w4 w') ∧
    (Calls Try.prog 25 #[.pointer (some ⟨g, 0, none⟩)] W fun e w' => e = .returned (.int .i64 (P.length : Int)) ∧ Below w4.heap.size w4 w') ∧
    (Calls Try.prog 31 #[.pointer (some ⟨g + 1, 0, none⟩)] W fun e w' => e = .returned (.int .i64 (P.length : Int)) ∧ Below w4.heap.size w4 w') ∧
    (Calls Try.prog 27 #[.pointer (some ⟨g, 0, none⟩)] W fun e w' => e = .returned (.bool (decide (P.length = n))) ∧ Below w4.heap.size w4 w') ∧
    (Calls Try.prog 32 #[.pointer (some ⟨g + 1, 0, none⟩)] W fun e w' => e = .returned (.bool (decide (P.length = n))) ∧ Below w4.heap.size w4 w') ∧
    (Calls Try.prog 26 #[.pointer (some ⟨g, 0, none⟩)] W fun e w' => ∃ x : Option Addr × Nat, e = .returned (.slice x.1 P.length x.2) ∧ Sl w' (.slice x.1 P.length x.2) P ∧ Below w4.heap.size w4 w') ∧
    (Calls Try.prog 34 #[.pointer (some ⟨g + 1, 0, none⟩)] W fun e w' => e = .returned u ∧ W = w') ∧ Sl W u P := by
  have hw := h.later hb
  subst hd
  have tr : ∀ {w'}, Below W.heap.size W w' → Below w4.heap.size w4 w' := fun h => hb.trans (h.mono hb.size)
  refine ⟨?_, ?_, ?_, ?_, ?_, ?_, ?_, ?_, hw.2.1.2.1⟩
  · exact (two_sum hw).mono fun e w' ⟨h1, h2⟩ => ⟨h1, tr h2.1⟩
  · exact (rsum_win W _ _ _ _ hw.2.1).mono fun e w' ⟨h1, h2⟩ => ⟨h1, by subst h2; exact hb⟩
  · exact (two_len hw).mono fun e w' ⟨h1, h2⟩ => ⟨h1, tr h2.1⟩
  · exact (rlen_win W _ _ _ _ hw.2.1).mono fun e w' ⟨h1, h2⟩ => ⟨h1, by subst h2; exact hb⟩
  · exact (two_full hw).mono fun e w' ⟨h1, h2⟩ => ⟨h1, tr h2.1⟩
  · exact (rfull_win W _ _ _ _ hw.2.1).mono fun e w' ⟨h1, h2⟩ => ⟨h1, tr h2.1⟩
  · refine (bytes_win W _ _ _ _ _ hw.1).mono ?_
    rintro e w' ⟨x, rfl, hs, hb2⟩
    obtain ⟨a, cap, rfl, _⟩ := id hs
    exact ⟨(a, cap), rfl, hs, tr hb2⟩
  · exact rbytes_win W _ _ _ _ hw.2.1

theorem pushed_ne (n : Nat) (L : List Int) (c : Int) : pushed n L c ≠ [] := by unfold pushed; simp

set_option maxHeartbeats 8000000 in
set_option maxRecDepth 1000000 in
theorem windows_walk (a1 : Option Addr) (len cap : Nat) (L : List Int) (N : Nat) (a2 : Int) (w : World) (hlen : len = L.length) (hS : Sl w (.slice a1 len cap) L) (hN1 : 1 ≤ N) (hN2 : N ≤ 65536) (hbig : len ≤ 300) (h20 : 0 ≤ a2) (h21 : a2 ≤ 65535) :
    Calls Try.prog 7 #[.int .i64 N, .slice a1 len cap, .int .u16 a2] w fun e w' => e = .returned (.bool true) ∧ Below w.heap.size w w' := by
  have HNEW := Lib.hid (new_good N w (by omega) (by omega))
  have HW1 := Lib.hid (new_win N w hN1 (by omega))
  have HB1 : Hid (Below w.heap.size w (w.alloc (.cells #[.int .i64 N, .slice none 0 0, .int .i64 0, .int .u32 0] 56))) := (Below.refl _ _).alloc (Nat.le_refl _) _
  have hsz1 : (w.alloc (.cells #[.int .i64 N, .slice none 0 0, .int .i64 0, .int .u32 0] 56)).heap.size = w.heap.size + 1 := by simp
  generalize w.alloc (.cells #[.int .i64 N, .slice none 0 0, .int .i64 0, .int .u32 0] 56) = w1 at HNEW HW1 HB1 hsz1
  have HNEW2 := Lib.hid (rnew_good N w1 (by omega) (by omega))
  have HT2 := Lib.hid (rnew_win N w1 w.heap.size hsz1 HW1.out hN1 hN2)
  have HB2 : Hid (Below w.heap.size w (w1.alloc (.cells #[.int .i64 N, .slice none 0 0] 58))) := HB1.out.alloc (by omega) _
  generalize w1.alloc (.cells #[.int .i64 N, .slice none 0 0] 58) = w2 at HNEW2 HT2 HB2
  rw [hsz1] at HNEW2
  have HS := Lib.hid hS
  have HL := Lib.hid hlen
  clear hS hlen hsz1
  obtain ⟨g, hg⟩ : ∃ g, g = w.heap.size := ⟨_, rfl⟩
  rw [← hg] at HNEW HNEW2 HT2 HW1
  have HG := Lib.hid hg
  clear hg
  go_enter Try.func7, Try.ntmps7
  go_wp2_with (first | (go_at_call 20; refine HNEW.out.mono ?_; rintro e w' ⟨rfl, rfl⟩) | (go_at_call 21; refine HNEW2.out.mono ?_; rintro e w' ⟨rfl, rfl⟩))
  go_loopw [11] (fun c wr => ∃ i : Nat, i ≤ len ∧ c = .int .i64 i ∧ Below w.heap.size w wr ∧ ∃ v R f u, Two wr g N v R f u) (fun c _ => len - (intOf c).toNat)
  case atStart => exact ⟨0, by omega, rfl, HB2.out, _, _, _, _, HT2.out⟩
  case round =>
    obtain ⟨i, hi, rfl, hbel, v, R, f, u, htwo⟩ := hrel
    have HBEL := Lib.hid hbel
    have HTWO := Lib.hid htwo
    clear hbel htwo
    by_cases hlt : i < len
    · obtain ⟨a', cap', e', hB, hnil, hcap⟩ := HS.out
      simp only [Value.slice.injEq] at e'
      obtain ⟨rfl, -, rfl⟩ := e'
      obtain ⟨b, off, rfl, hc⟩ := hB.2 (by intro e; have := HL.out; rw [e] at this; simp at this; omega)
      have hcw := hc i (by have := HL.out; omega)
      have h8 := hB.1.getD i
      obtain ⟨c, hcd⟩ : ∃ c, c = L.getD i 0 := ⟨_, rfl⟩
      rw [← hcd] at hcw h8
      have hi0 : (0 : Int) ≤ (i : Int) := by omega
      have hi1 : (i : Int) < (len : Int) := by omega
      clear hcd hc hB hnil
      go_upto_if 48 with (fail)
      go_cut [] from 39 to 112 (fun wx => Below w.heap.size w wx ∧ ∃ v R f u, Two wx g N v R f u)
      case first =>
        by_cases hcl : (i : Int) = a2
        · have hcl' : ((i : Int) == a2) = true := by simp [hcl]
          clear hcl
          have HCL := Lib.hid (clear_win wr g N v R f HTWO.out.1)
          go_wp2_with fail
          refine HCL.out.mono ?_
          rintro e w3 ⟨⟨u3, rfl⟩, v3, hw3, hfr3⟩
          obtain ⟨ht4, hb4, hr3⟩ := two_clear HTWO.out hw3 hfr3
          have HT4 := Lib.hid ht4
          have HB4 : Hid (Below w.heap.size w (w3.setCell ⟨g + 1, 1, none⟩ (.slice none 0 0))) := (HBEL.out.trans (hfr3.1.mono (by have := HG.out; omega))).trans (hb4.mono (by have := HG.out; omega))
          have HRC := Lib.hid (rclear_win w3 (g + 1) N u (R.drop f) hr3)
          clear ht4 hb4 hr3 hw3 hfr3
          go_wp2_with fail
          refine HRC.out.mono ?_
          rintro e w4 ⟨⟨u4, rfl⟩, hw4⟩
          rw [hw4] at HT4 HB4
          have KK := Lib.hid (two_all (P := []) HT4.out (by simp))
          have hb40 := Below.refl w4.heap.size w4
          clear hw4
          have e0 : sumOf ([] : List Int) = 0 := by decide
          have e1 : decide (([] : List Int).length = N) = false := by simp; omega
          rw [e0, e1] at KK
          simp only [List.length_nil] at KK
          go_wp2_with (first
            | (go_at_call 24; (refine ((KK.out _ (by assumption)).1).mono ?_); rintro e w5 ⟨rfl, hb5⟩)
            | (go_at_call 25; (refine ((KK.out _ (by assumption)).2.2.1).mono ?_); rintro e w5 ⟨rfl, hb5⟩)
            | (go_at_call 26; (refine ((KK.out _ (by assumption)).2.2.2.2.2.2.1).mono ?_); rintro e w5 ⟨x6, rfl, hs6, hb5⟩)
            | (go_at_call 27; (refine ((KK.out _ (by assumption)).2.2.2.2.1).mono ?_); rintro e w5 ⟨rfl, hb5⟩))
          go_meet
          exact ⟨HB4.out.trans (Below.mono (by assumption) HB4.out.size), _, _, _, _, HT4.out.later (by assumption)⟩
        · have hcl' : ((i : Int) == a2) = false := by simp [hcl]
          clear hcl
          go_wp2
          go_meet
          exact ⟨HBEL.out, _, _, _, _, HTWO.out⟩
      case rest =>
      obtain ⟨hbel2, v, R, f, u, htwo2⟩ := hcut
      clear HBEL HTWO
      have HBEL := Lib.hid hbel2
      have HTWO := Lib.hid htwo2
      clear hbel2 htwo2
      have hcell := cell_later HBEL.out hcw
      have HTD : Hid (Two wc.drew g N v R f u) := HTWO.out
      have HPU := Lib.hid (fun W (hw : Win W g N v R f) => push_win W g N v R f c hw h8.1 h8.2)
      have HRP := Lib.hid (fun W (hw : RWin W (g + 1) N u (R.drop f)) => rpush_win W (g + 1) N u (R.drop f) c hw h8.1 h8.2)
      have HPN := Lib.hid (pushed_ne N (R.drop f) c)
      generalize pushed N (R.drop f) c = P' at HPU HRP HPN
      go_wp2
      go_region_with (first
        | (go_at_call 28; (refine (HPU.out _ HTD.out.1).mono ?_); rintro e w3 ⟨rfl, v3, R3, f3, hw3, hd3, hfr3⟩; have HP3 := Lib.hid (two_push HTD.out hfr3); have hb3 : Below w.heap.size w w3 := (Below.drew HBEL.out).trans (hfr3.1.mono (by have := HG.out; omega)); have hcell3 := cell_later hb3 hcw; have HW3 := Lib.hid hw3; have HD3 := Lib.hid hd3; have HB3 := Lib.hid hb3; clear hw3 hd3 hfr3 hb3)
        | (go_at_call 29; (refine (HRP.out _ HP3.out.1).mono ?_); rintro e w4 ⟨rfl, u4, hr4, hk4, hb4, hn4⟩; have HT4 := Lib.hid (two_both HW3.out HP3.out.2.1 HD3.out hr4 hk4 hb4 hn4 HPN.out); have HB4 : Hid (Below w.heap.size w w4) := HB3.out.trans (hb4.mono (by have := HG.out; omega)); have KK := Lib.hid (two_all HT4.out HD3.out); clear hr4 hk4 hb4 hn4)
        | (go_at_call 24; (refine ((KK.out _ (by first | exact Below.refl _ _ | assumption)).1).mono ?_); rintro e w5 ⟨rfl, hb5⟩)
        | (go_at_call 30; (refine ((KK.out _ (by first | exact Below.refl _ _ | assumption)).2.1).mono ?_); rintro e w5 ⟨rfl, hb5⟩)
        | (go_at_call 25; (refine ((KK.out _ (by first | exact Below.refl _ _ | assumption)).2.2.1).mono ?_); rintro e w5 ⟨rfl, hb5⟩)
        | (go_at_call 31; (refine ((KK.out _ (by first | exact Below.refl _ _ | assumption)).2.2.2.1).mono ?_); rintro e w5 ⟨rfl, hb5⟩)
        | (go_at_call 27; (refine ((KK.out _ (by first | exact Below.refl _ _ | assumption)).2.2.2.2.1).mono ?_); rintro e w5 ⟨rfl, hb5⟩)
        | (go_at_call 32; (refine ((KK.out _ (by first | exact Below.refl _ _ | assumption)).2.2.2.2.2.1).mono ?_); rintro e w5 ⟨rfl, hb5⟩)
        | (go_at_call 26; (refine ((KK.out _ (by first | exact Below.refl _ _ | assumption)).2.2.2.2.2.2.1).mono ?_); rintro e w6 ⟨x6, rfl, hs6, hb6⟩; have HS6 := Lib.hid hs6; clear hs6)
        | (go_at_call 34; (refine ((KK.out _ (by first | exact Below.refl _ _ | assumption)).2.2.2.2.2.2.2.1).mono ?_); rintro e w' ⟨rfl, rfl⟩)
        | (go_at_call 33; (refine (same_sl _ _ P' P' _ HS6.out ((KK.out _ (by first | exact Below.refl _ _ | assumption)).2.2.2.2.2.2.2.2) rfl).mono ?_); rintro e w' ⟨rfl, rfl⟩))
      all_goals go_wp2
      all_goals (go_roundw <;> first
        | exact ⟨i + 1, by omega, by go_num, HB4.out.trans (Below.mono (by assumption) HB4.out.size), v3, R3, f3, u4, HT4.out.later (by assumption)⟩
        | (simp [intOf]; omega))
    · have hie : i = len := by omega
      subst hie
      go_wp2_with (go_at_call 11; refine (awake_any _).mono ?_; rintro e w9 ⟨rfl, hb9⟩)
      go_ret
      exact ⟨rfl, HBEL.out.trans (hb9.mono HBEL.out.size)⟩
end Go.Proofs.Ytbkdimdnpekgpab
