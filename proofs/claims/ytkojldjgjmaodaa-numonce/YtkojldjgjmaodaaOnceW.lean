/- The law NumOnce's own walk. -/
import Derived.Test.YtkojldjgjmaodaaOnce
import Derived.Deep.RegionHeld3
namespace Go.Proofs.Ytkojldjgjmaodaa
open Go.RowKit Go.Proofs.NumMath
set_option linter.unusedVariables false

theorem G_err (l : List Int) (p : Int) (h : (G l p).2.2 ≠ 0) : G l p = (0, 0, (G l p).2.2) := by
  revert h
  unfold G getR
  repeat' split
  all_goals simp

/-- Put of nothing, of a number that may be -/
theorem put_nil' (x : Int) (w : World) (h0 : 0 ≤ x) (h1 : x ≤ 4611686018427387903) :
    Calls Try.prog 11 #[.slice none 0 0, .int .i64 x] w fun e w' => ∃ a' cap, e = .returned (.slice a' (sizeN x.toNat) cap) ∧ Sl w' (.slice a' (sizeN x.toNat) cap) (encR x.toNat) ∧ Below w.heap.size w w' := by
  have hx : heldN x = x.toNat := by unfold heldN; omega
  refine (put_any none 0 [] x w ⟨fun i => by simp, fun h => absurd rfl h⟩ (by simp)).mono ?_
  rintro e w' ⟨v, rfl, hown, hb⟩
  rw [List.nil_append, hx] at hown
  have hs := hown.sl (encR_oct _)
  obtain ⟨a', cap', rfl, h⟩ := hs
  exact ⟨a', cap', by rw [encR_length], ⟨a', cap', by rw [encR_length], h⟩, hb⟩
theorem putint_nil (y : Int) (w : World) (m : Nat) (hm : zig y = m) :
    Calls Try.prog 13 #[.slice none 0 0, .int .i64 y] w fun e w' => ∃ a' cap, e = .returned (.slice a' (sizeN m) cap) ∧ Sl w' (.slice a' (sizeN m) cap) (encR m) ∧ Below w.heap.size w w' := by
  refine (putint_any none 0 [] y w ⟨fun i => by simp, fun h => absurd rfl h⟩ (by simp)).mono ?_
  rintro e w' ⟨v, rfl, hown, hb⟩
  rw [List.nil_append, hm] at hown
  have hs := hown.sl (encR_oct _)
  obtain ⟨a', cap', rfl, h⟩ := hs
  exact ⟨a', cap', by rw [encR_length], ⟨a', cap', by rw [encR_length], h⟩, hb⟩

set_option maxRecDepth 1000000 in
set_option maxHeartbeats 8000000 in
theorem once_walk (a0 : Option Addr) (cap0 n : Nat) (L : List Int) (p : Int) (w : World) (hn : n = L.length) (hB : Bytes w a0 L) (hS : Sl w (.slice a0 n cap0) L) (hcap : n ≤ cap0) (hl : n ≤ 9223372036854775807) :
    Calls Try.prog 7 #[.slice a0 n cap0, .int .i64 p] w fun e w' => e = .returned (.bool true) ∧ Below w.heap.size w w' := by
  have h20 := get_any a0 cap0 L p w (by omega) hB
  have h22 := getint_any a0 cap0 L p w (by omega) hB
  have hgb := G_bd L p (by omega)
  rw [← hn] at h20 h22
  obtain ⟨x, i, er, hG⟩ : ∃ x i er, G L p = (x, i, er) := ⟨_, _, _, rfl⟩
  by_cases he : er = 0
  · subst he
    obtain ⟨q1, q2, q3, q4, q5, q6, q7⟩ := G_once L hB.oct p x i hG
    obtain ⟨y, hy⟩ : ∃ y, GI (x, i, 0) = (y, i, 0) := by unfold GI; simp only [if_true]; split <;> exact ⟨_, rfl⟩
    have hzy : zig y = x.toNat := by have := zig_back x q4 q5 i; rw [hy] at this; exact this
    rw [hG, hy] at h22
    rw [hG] at h20
    simp only [trip] at h20 h22
    have H20 := Lib.hid h20
    have H22 := Lib.hid h22
    obtain ⟨c, hrun, hBc, hcn⟩ := run_cut_any hB cap0 (by omega) p i q1 (by omega) q3
    rw [← q6] at hBc
    rw [← hn] at hrun
    have hm2 : (i - p).toNat = (encR x.toNat).length := by rw [encR_length]; omega
    have hnil : a0 = none → cap0 = 0 := by
      obtain ⟨a1, c1, e1, _, h2, _⟩ := hS
      simp at e1
      obtain ⟨rfl, _, rfl⟩ := e1
      exact h2
    have hSc : Sl w (.slice c (i - p).toNat (cap0 - p.toNat)) (encR x.toNat) := ⟨c, cap0 - p.toNat, by rw [hm2], hBc, (fun h => by have := hnil (hcn h); omega), by rw [← hm2]; omega⟩
    have hsz : ∀ W, Calls Try.prog 17 #[.int .i64 x] W fun e w' => e = .returned (.int .i64 (i - p)) ∧ Below W.heap.size W w' := by
      intro W
      have h := size_any x W
      rw [show heldN x = x.toNat from by unfold heldN; omega, q7] at h
      exact h
    have hpn := fun W => put_nil' x W q4 q5
    have hpi := fun W => putint_nil y W x.toNat hzy
    generalize encR x.toNat = E at *
    generalize sizeN x.toNat = m1 at *
    generalize (i - p).toNat = m2 at *
    generalize cap0 - p.toNat = c2 at *
    have HSc := Lib.hid hSc
    have HSZ := Lib.hid hsz
    have HPN := Lib.hid hpn
    have HPI := Lib.hid hpi
    have q3' : i ≤ (n : Int) := by omega
    have t1 : decide (0 ≤ p) = true := by simp; omega
    have t2 : decide (p < i) = true := by simp; omega
    have t3 : decide (i ≤ (n : Int)) = true := by simp; omega
    clear hSc hsz hpn hpi hBc hm2 q6 q7 hy hG hzy hn hB hS hcn hnil h20 h22 hgb q3
    go_enter Try.func7, Try.ntmps7
    go_wp2_with (first | (go_at_call 20; refine H20.out.mono ?_; rintro e w' ⟨rfl, rfl⟩) | (go_at_call 22; refine H22.out.mono ?_; rintro e w' ⟨rfl, rfl⟩))
    have hwr : IntKind.i64.wrap (i - p) = i - p := IntWalk.i64_in _ (by omega)
    go_region_held3 (fun W => Below w.heap.size w W) (first | assumption | exact (Below.refl _ _).drew | exact Below.refl _ _) (first
      | (go_at_call 11; refine (HPN.out _).mono ?_; rintro e w1 ⟨a1, k1, rfl, hs1, hb1⟩; have hbA := (Below.refl _ w).drew.trans hb1; have hsA := HSc.out.later hbA)
      | (go_at_call 10; refine (same_any _ _ E _ (by assumption) (by assumption)).mono ?_; rintro e w' ⟨rfl, rfl⟩)
      | (go_at_call 13; refine (HPI.out _).mono ?_; rintro e w2 ⟨a2, k2, rfl, hs2, hb2⟩; have hsB := hsA.later hb2; have hbB := hbA.trans (hb2.mono hbA.size))
      | (go_at_call 17; refine (HSZ.out _).mono ?_; rintro e w3 ⟨rfl, hb3⟩; have hbC := hbB.trans (hb3.mono hbB.size))
      | (go_at_call 19; refine (awake_any _).mono ?_; rintro e w4 ⟨rfl, hb4⟩; have hbD := hbC.trans (hb4.mono hbC.size)))
    all_goals go_wp2
    all_goals go_ret
    all_goals exact ⟨rfl, by assumption⟩
  · have hG0 := G_err L p (by rw [hG]; exact he)
    rw [hG] at hG0
    simp only [Prod.mk.injEq] at hG0
    obtain ⟨rfl, rfl, -⟩ := hG0
    have hy : GI (0, 0, er) = (0, 0, er) := by unfold GI; simp only [he, if_false]
    rw [hG, hy] at h22
    rw [hG] at h20
    simp only [trip] at h20 h22
    have H20 := Lib.hid h20
    have H22 := Lib.hid h22
    have b1 : (er == 0) = false := by simp [he]
    have b2 : (er != 0) = true := by simp [he]
    clear h20 h22 hG hy hgb hn hB hS he
    go_enter Try.func7, Try.ntmps7
    go_wp2_with (first | (go_at_call 20; refine H20.out.mono ?_; rintro e w' ⟨rfl, rfl⟩) | (go_at_call 22; refine H22.out.mono ?_; rintro e w' ⟨rfl, rfl⟩) | (go_at_call 19; refine (awake_any _).mono ?_; rintro e w4 ⟨rfl, hb4⟩))
    go_ret
    exact ⟨rfl, hb4⟩
end Go.Proofs.Ytkojldjgjmaodaa
