/- The law RollTexts's own walk. -/
import Derived.Test.YtbkdimdnpekgpabOwn
import Derived.Deep.DeepCutAuto
import Derived.Deep.RegionWith
import Derived.Deep.RegionHeld3
namespace Go.Proofs.Ytbkdimdnpekgpab
open Go.RowKit Go.Proofs.RollMath
set_option linter.unusedVariables false

theorem of_sl (v : Value) (l : List Int) (W : World) (hS : Sl W v l) (hl : l.length ≤ 9223372036854775807) :
    Calls Try.prog 9 #[v] W fun e w' => e = .returned (.int .u32 (sumOf l)) ∧ W = w' := by
  obtain ⟨a, cap, rfl, hB, _, _⟩ := hS
  exact of_any a _ cap l W rfl hl hB
theorem join_eq (l m r : List Int) (n : Int) (W : World) (hr : l ++ m = r) (h : n = (m.length : Int)) :
    Calls Try.prog 18 #[.int .u32 (sumOf l), .int .u32 (sumOf m), .int .i64 n] W fun e w' => e = .returned (.int .u32 (sumOf r)) ∧ W = w' := by
  have b1 := sumOf_bd l
  have b2 := sumOf_bd m
  have h1 := join_any (sumOf l) (sumOf m) n W b1.1 b1.2 b2.1 b2.2
  rw [h, join_sum, hr] at h1
  rw [h]; exact h1
theorem in_eq (l r : List Int) (n c : Int) (W : World) (hr : l ++ [c] = r) (h0 : 0 ≤ c) (h1 : c ≤ 255) :
    Calls Try.prog 12 #[.int .u32 (sumOf l), .int .i64 n, .int .u8 c] W fun e w' => e = .returned (.int .u32 (sumOf r)) ∧ W = w' := by
  have b1 := sumOf_bd l
  have h2 := in_any (sumOf l) n c W b1.1 b1.2 h0 h1
  rw [in_sum, hr] at h2
  exact h2
theorem out_eq (l r : List Int) (n c : Int) (W : World) (hr : l = c :: r) (hn : n = (l.length : Int)) (h0 : 0 ≤ c) (h1 : c ≤ 255) :
    Calls Try.prog 14 #[.int .u32 (sumOf l), .int .i64 n, .int .u8 c] W fun e w' => e = .returned (.int .u32 (sumOf r)) ∧ W = w' := by
  have b1 := sumOf_bd l
  have h2 := out_any (sumOf l) n c W b1.1 b1.2 h0 h1
  have e : outS (sumOf l) n c = sumOf r := by subst hr hn; rw [← out_sum r c]; congr 1
  rw [e] at h2
  exact h2
theorem roll_eq (l r : List Int) (n c d : Int) (W : World) (hr : l = c :: r) (hn : n = (l.length : Int)) (h0 : 0 ≤ c) (h1 : c ≤ 255) (h2 : 0 ≤ d) (h3 : d ≤ 255) :
    Calls Try.prog 16 #[.int .u32 (sumOf l), .int .i64 n, .int .u8 c, .int .u8 d] W fun e w' => e = .returned (.int .u32 (sumOf (r ++ [d]))) ∧ W = w' := by
  have b1 := sumOf_bd l
  have h4 := roll_any (sumOf l) n c d W b1.1 b1.2 h0 h1 h2 h3
  have e : inS (outS (sumOf l) n c) d = sumOf (r ++ [d]) := by subst hr hn; rw [← roll_sum r c d]; congr 2
  rw [e] at h4
  exact h4

set_option maxRecDepth 1000000 in
set_option maxHeartbeats 4000000 in
theorem texts_walk (a0 a1 : Option Addr) (n0 n1 cap0 cap1 : Nat) (L0 L1 : List Int) (c : Int) (w : World) (hn0 : n0 = L0.length) (hn1 : n1 = L1.length)
    (hS0 : Sl w (.slice a0 n0 cap0) L0) (hS1 : Sl w (.slice a1 n1 cap1) L1) (hc0 : 0 ≤ c) (hc1 : c ≤ 255) (hb0 : n0 ≤ 100000) (hb1 : n1 ≤ 100000) :
    Calls Try.prog 5 #[.slice a0 n0 cap0, .slice a1 n1 cap1, .int .u8 c] w fun e w' => e = .returned (.bool true) ∧ Below w.heap.size w w' := by
  have H0 := Lib.hid (Own.nil w w.heap.size)
  have HS0 := Lib.hid hS0
  have HS1 := Lib.hid hS1
  have HN0 := Lib.hid hn0
  have HN1 := Lib.hid hn1
  clear hS0 hS1 hn0 hn1
  go_enter Try.func5, Try.ntmps5
  go_wp2_with (at_builtin; refine append_sl rfl (.tmp 20) (.tmp 21) rfl w.heap.size _ _ [] L0 rfl H0.out rfl HS0.out (by have := HN0.out; simp; omega) (Nat.le_refl _) ?_)
  intro v1 w1 HO1 hb1'
  have HT1 := Lib.hid (HS1.out.later hb1')
  have HT0 := Lib.hid (HS0.out.later hb1')
  have hz1 := hb1'.size
  go_wp2_with (at_builtin; refine append_sl rfl (.tmp 22) (.tmp 23) rfl w.heap.size _ _ _ L1 rfl HO1.out rfl HT1.out (by have := HN0.out; have := HN1.out; simp; omega) hz1 ?_)
  intro v2 w2 HO2 hb2'
  have hz2 := hb2'.size
  have hB2 : Below w.heap.size w w2 := hb1'.trans hb2'
  have HN2 := Lib.hid (Own.nil w2 w2.heap.size)
  have HU0 := Lib.hid (HS0.out.later hB2)
  have oc0 : Hid (Oct L0) := by obtain ⟨_, _, _, h, _⟩ := HS0.out; exact h.1
  have oc1 : Hid (Oct L1) := by obtain ⟨_, _, _, h, _⟩ := HS1.out; exact h.1
  have HV2 : Hid (Sl w2 v2 (L0 ++ L1)) := by
    have h := HO2.out
    try rw [List.nil_append] at h
    exact h.sl (oc0.out.append oc1.out)
  clear HO1 HO2 HT0 HT1
  go_wp2_with (at_builtin; refine append_sl rfl (.tmp 25) (.tmp 26) rfl w2.heap.size _ _ [] L0 rfl HN2.out rfl HU0.out (by have := HN0.out; simp; omega) (Nat.le_refl _) ?_)
  intro v3 w3 HO3 hb3
  have hz3 := hb3.size
  have H1 := Lib.hid (one_sl w3 c hc0 hc1)
  have HO3' : Hid (Own (w3.alloc (.cells #[.int .u8 c] 5)) w2.heap.size v3 ([] ++ L0)) := World.ownsRow.alloc HO3.out _
  go_wp2_with (at_builtin; refine append_sl rfl (.tmp 27) (.tmp 29) rfl w2.heap.size _ _ _ [c] rfl HO3'.out rfl H1.out (by have := HN0.out; simp; omega) (by simp; omega) ?_)
  intro v4 w4 HO4 hb4
  have hB4 : Below w2.heap.size w2 w4 := (hb3.alloc hz3 _).trans hb4
  have hB : Below w.heap.size w w4 := hB2.trans (hB4.mono hB2.size)
  have HX0 := Lib.hid (HS0.out.later hB)
  have HX1 := Lib.hid (HS1.out.later hB)
  have HX2 := Lib.hid (HV2.out.later hB4)
  have HX4 : Hid (Sl w4 v4 (L0 ++ [c])) := by
    have h := HO4.out
    try rw [List.nil_append] at h
    exact h.sl (oc0.out.append (by intro x hx; simp at hx; omega))
  clear HO3 HO3' HO4 H1 HV2 HU0 HN2 H0
  have HB := Lib.hid hB
  have hz4 := hB.size
  have hz5 := Lib.hid hz4
  clear hb1' hb2' hb3 hb4 hB2 hB4 hB hz1 hz2 hz3 hz4
  have C0 := Lib.hid (fun W (hb : Below w4.heap.size w4 W) => of_sl (.slice a0 n0 cap0) L0 W (HX0.out.later hb) (by have := HN0.out; omega))
  have C1 := Lib.hid (fun W (hb : Below w4.heap.size w4 W) => of_sl (.slice a1 n1 cap1) L1 W (HX1.out.later hb) (by have := HN1.out; omega))
  have C2 := Lib.hid (fun W (hb : Below w4.heap.size w4 W) => of_sl v2 (L0 ++ L1) W (HX2.out.later hb) (by have := HN0.out; have := HN1.out; simp; omega))
  have C4 := Lib.hid (fun W (hb : Below w4.heap.size w4 W) => of_sl v4 (L0 ++ [c]) W (HX4.out.later hb) (by have := HN0.out; simp; omega))
  have CJ := Lib.hid (fun W => join_eq L0 L1 (L0 ++ L1) n1 W rfl (by have := HN1.out; omega))
  have CI := Lib.hid (fun W => in_eq L0 (L0 ++ [c]) n0 c W rfl hc0 hc1)
  obtain ⟨a2, cap2, ev2, hz7⟩ := HX2.out
  clear hz7
  obtain ⟨a4, cap4, ev4, hB4, hnil4, hcap4⟩ := HX4.out
  obtain ⟨a0', cap0', ev0, hB0, hnil0, hcap0⟩ := HX0.out
  simp only [Value.slice.injEq] at ev0
  obtain ⟨rfl, hx0, rfl⟩ := ev0
  clear hx0
  rw [List.length_append, ← HN0.out, List.length_singleton] at ev4
  rw [List.length_append, ← HN0.out, List.length_singleton] at hcap4
  rw [← HN0.out] at hcap0
  obtain ⟨n2, hn2⟩ : ∃ n2, n2 = (L0 ++ L1).length := ⟨_, rfl⟩
  rw [← hn2] at ev2
  clear hn2
  subst ev2 ev4
  by_cases h0 : n0 = 0
  · have h0' : ((n0 : Int) == 0) = true := by simp [h0]
    clear h0 hB4 hnil4 hcap4 hB0 hnil0 hcap0
    go_wp2_with (first | (go_at_call 9; with_reducible refine (C0.out _ (Below.refl _ _)).mono ?_; rintro e w' ⟨rfl, rfl⟩) | (go_at_call 9; with_reducible refine (C1.out _ (Below.refl _ _)).mono ?_; rintro e w' ⟨rfl, rfl⟩) | (go_at_call 9; with_reducible refine (C2.out _ (Below.refl _ _)).mono ?_; rintro e w' ⟨rfl, rfl⟩) | (go_at_call 9; with_reducible refine (C4.out _ (Below.refl _ _)).mono ?_; rintro e w' ⟨rfl, rfl⟩) | (go_at_call 18; with_reducible refine (CJ.out _).mono ?_; rintro e w' ⟨rfl, rfl⟩) | (go_at_call 12; with_reducible refine (CI.out _).mono ?_; rintro e w' ⟨rfl, rfl⟩) | (go_at_call 11; refine (awake_any _).mono ?_; rintro e w' ⟨rfl, hb⟩))
    go_ret
    exact ⟨rfl, HB.out.trans (hb.mono hz5.out)⟩
  · have h0' : ((n0 : Int) == 0) = false := by simp [h0]
    obtain ⟨d, r, hr⟩ : ∃ d r, L0 = d :: r := by
      cases hL : L0 with
      | nil => have := HN0.out; rw [hL] at this; simp at this; exact absurd this h0
      | cons d r => exact ⟨d, r, rfl⟩
    have hd8 := oc0.out.getD 0
    have hcell : w4.cell? ⟨0, 0, none⟩ = w4.cell? ⟨0, 0, none⟩ := rfl
    obtain ⟨b0, off0, ea, hcs⟩ := hB0.2 (by rw [hr]; simp)
    have hcell0 := hcs 0 (by rw [hr]; simp)
    rw [hr] at hd8 hcell0
    simp only [List.getD_cons_zero, Nat.add_zero] at hd8 hcell0
    subst ea
    obtain ⟨m, hm⟩ : ∃ m, 1 + m = n0 := ⟨n0 - 1, by omega⟩
    obtain ⟨x0, r0, s0⟩ := run_from hB0 cap0 n0 HN0.out hcap0 (fun h => by cases h) 1 m 1 rfl hm
    obtain ⟨x4, r4, s4⟩ := run_from hB4 cap4 (n0 + 1) (by simp [← HN0.out]) hcap4 hnil4 1 n0 1 rfl (by omega)
    have hm1 : r.length = m := by have := HN0.out; rw [hr] at this; simp at this; omega
    have e1 : L0.drop 1 = r := by rw [hr]; rfl
    have e2 : (L0 ++ [c]).drop 1 = r ++ [c] := by rw [hr]; rfl
    rw [e1] at s0
    rw [e2] at s4
    have hpos : (0 : Int) < (n0 : Int) := by omega
    have hpos2 : 0 < n0 := by omega
    have D0 := Lib.hid (fun W (hb : Below w4.heap.size w4 W ∧ W.cell? ⟨b0, off0, none⟩ = some (.int .u8 d)) => of_sl _ r W (s0.later hb.1) (by omega))
    have D4 := Lib.hid (fun W (hb : Below w4.heap.size w4 W ∧ W.cell? ⟨b0, off0, none⟩ = some (.int .u8 d)) => of_sl _ (r ++ [c]) W (s4.later hb.1) (by simp; omega))
    have CO := Lib.hid (fun W => out_eq L0 r n0 d W hr (by rw [HN0.out]) hd8.1 hd8.2)
    have CR := Lib.hid (fun W => roll_eq L0 r n0 d c W hr (by rw [HN0.out]) hd8.1 hd8.2 hc0 hc1)
    have HAK := Lib.hid (fun (W : World) (hb : Below w4.heap.size w4 W ∧ W.cell? ⟨b0, off0, none⟩ = some (.int .u8 d)) => awake_any W)
    generalize cap0 - 1 = y0 at r0 D0
    generalize cap4 - 1 = y4 at r4 D4
    clear hB4 hnil4 hcap4 hB0 hnil0 s0 s4 e1 e2 hr hcs hcell hm1
    go_wp2_with (first | (go_at_call 9; with_reducible refine (C0.out _ (Below.refl _ _)).mono ?_; rintro e w' ⟨rfl, rfl⟩) | (go_at_call 9; with_reducible refine (C1.out _ (Below.refl _ _)).mono ?_; rintro e w' ⟨rfl, rfl⟩) | (go_at_call 9; with_reducible refine (C2.out _ (Below.refl _ _)).mono ?_; rintro e w' ⟨rfl, rfl⟩) | (go_at_call 9; with_reducible refine (C4.out _ (Below.refl _ _)).mono ?_; rintro e w' ⟨rfl, rfl⟩) | (go_at_call 18; with_reducible refine (CJ.out _).mono ?_; rintro e w' ⟨rfl, rfl⟩) | (go_at_call 12; with_reducible refine (CI.out _).mono ?_; rintro e w' ⟨rfl, rfl⟩))
    go_region_held3 (fun W => Below w4.heap.size w4 W ∧ W.cell? ⟨b0, off0, none⟩ = some (.int .u8 d)) (first | assumption | exact ⟨Below.refl _ _, hcell0⟩ | exact ⟨Below.drew (Below.refl _ _), hcell0⟩ | exact ⟨Below.drew (And.left (by assumption)), And.right (by assumption)⟩) (first
      | (go_at_call 9; (with_reducible refine (D0.out _ ?_).mono ?_); (focus (assumption)); rintro e w' ⟨rfl, rfl⟩)
      | (go_at_call 9; (with_reducible refine (D4.out _ ?_).mono ?_); (focus (assumption)); rintro e w' ⟨rfl, rfl⟩)
      | (go_at_call 14; (with_reducible refine (CO.out _).mono ?_); rintro e w' ⟨rfl, rfl⟩)
      | (go_at_call 16; (with_reducible refine (CR.out _).mono ?_); rintro e w' ⟨rfl, rfl⟩)
      | (go_at_call 11; (with_reducible refine (HAK.out _ ?_).mono ?_); (focus (assumption)); rintro e w9 ⟨rfl, hb9⟩; have hb10 : Below w.heap.size w w9 := (HB.out.trans (Below.mono (And.left (by assumption)) HB.out.size)).trans (hb9.mono (Nat.le_trans HB.out.size (Below.size (And.left (by assumption))))); have hb11 : Below w4.heap.size w4 w9 ∧ w9.cell? ⟨b0, off0, none⟩ = some (.int .u8 d) := ⟨Below.trans (And.left (by assumption)) (hb9.mono (Below.size (And.left (by assumption)))), cell_later hb9 (And.right (by assumption))⟩))
    all_goals go_wp2
    all_goals go_ret
    all_goals exact ⟨rfl, by assumption⟩
end Go.Proofs.Ytbkdimdnpekgpab
