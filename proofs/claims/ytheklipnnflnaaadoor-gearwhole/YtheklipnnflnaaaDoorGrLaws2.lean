/- gear: the law GearCuts. (A template: seatgen.py fills it.) -/
import Derived.Test.YtheklipnnflnaaaDoorGrPieces
import Derived.Test.YtheklipnnflnaaaDoorGrLaws
import Derived.BigQuiet
import Derived.Deep.QuietTactic
namespace Go.Proofs.YtheklipnnflnaaaDoor.Gear
open Go.RowKit Go.Proofs.GearMath
open GRows (MadeR madeR_none append_made clone_any run_cut2 made_row cell_new1)
set_option linter.unusedVariables false
set_option maxRecDepth 1000000

theorem pcs_oct (l : List Int) (cs : List Nat) (ho : Oct l) (j : Nat) : Oct ((pcs l cs).getD j []) := by
  by_cases h : j < cs.length
  · rw [pcs_get l cs j h]; exact (ho.drop _).take _
  · rw [List.getD_eq_getElem?_getD, List.getElem?_eq_none (by rw [pcs_length]; omega)]
    intro c hc; simp at hc
theorem cuts_bound (L M B : Int) (l : List Int) (hM : 1 ≤ M) (k : Nat) (hk : k < (cuts L M B l 0).length) : atp (cuts L M B l 0) k ≤ (cuts L M B l 0).getD k 0 ∧ (cuts L M B l 0).getD k 0 ≤ l.length := by
  have h1 := cuts_get L M B l hM k hk
  have h2 := fe_in L M B l (atp (cuts L M B l 0) k) (by omega)
  omega

set_option maxHeartbeats 8000000 in
theorem gearCuts_yes (a : Option Addr) (n cap : Nat) (l : List Int) (L M B : Int) (w : World) (hT : Tab w) (hB : Bytes w a l) (hnil : a = none → cap = 0) (hcap : n ≤ cap) (hn : n = l.length) (hbig : n ≤ 2000) (hm : mc L M B l.length = 0) :
    Calls Tryd.prog 5 #[.slice a n cap, P3 L M B] w fun e w' => e = .returned (.bool true) ∧ Below w.heap.size w w' := by
  obtain ⟨w1, hw1⟩ : ∃ w1, w1 = w.alloc (Obj.cells #[.int .i64 L, .int .i64 M, .int .i64 B] 23) := ⟨_, rfl⟩
  obtain ⟨f0, f1, f2⟩ := three_at hw1
  have hb1 : Below w.heap.size w w1 := by rw [hw1]; exact (Below.refl _ _).alloc (Nat.le_refl _) _
  have hS : Sl w (.slice a n cap) l := ⟨a, cap, by rw [hn], hB, hnil, by rw [← hn]; exact hcap⟩
  have ho := hB.1
  have hM : 1 ≤ M := by obtain ⟨h, _⟩ := mc_zero hm; unfold ok at h; omega
  have HOF := Lib.hid (fun W => of_any L M B W)
  have HCU := Lib.hid (fun W (hb : Below w.heap.size w W) => cuts_yes _ l L M B W (hT.later hb) (hS.later hb) ho hm)
  have HRC := Lib.hid (fun W (hb : Below w.heap.size w W) => rcuts_yes _ l L M B W (hS.later hb) ho hm)
  have HPI := Lib.hid (fun W (hb : Below w.heap.size w W) => pieces_yes _ l L M B W (hT.later hb) (hS.later hb) ho hm)
  have HAW := Lib.hid (fun W (hb : Below w.heap.size w W) => awake_any W (hT.later hb))
  have HIN := Lib.hid (cuts_bound L M B l hM)
  have hcl := cuts_length L M B l hM l.length 0 (by omega)
  have HOC := Lib.hid (pcs_oct l (cuts L M B l 0) ho)
  generalize cuts L M B l 0 = cs at *
  obtain ⟨N, hN⟩ : ∃ N, N = cs.length := ⟨_, rfl⟩
  have HB := Lib.hid hB
  have HNIL := Lib.hid hnil
  have HN := Lib.hid hN
  have HL := Lib.hid hn
  have HB1 := Lib.hid hb1
  rw [← hN] at hcl
  rw [← hn] at hcl
  have hI : ¬ (2000 : Int) < (n : Int) := by omega
  clear hT hS ho hm hM hB hnil hb1 hN hn
  unfold P3 at *
  go_enter Tryd.func5, Tryd.ntmps5
  go_wp2_with fail
  rw [← hw1]
  clear hw1
  refine (HOF.out _).mono ?_
  rintro e w2 ⟨rfl, hb2⟩
  have HB2 : Hid (Below w.heap.size w w2) := HB1.out.trans (hb2.mono HB1.out.size)
  have g0 := cell_later hb2 f0
  have g1 := cell_later hb2 f1
  have g2 := cell_later hb2 f2
  clear hb2 f0 f1 f2
  go_wp2_with fail
  refine (HCU.out _ HB2.out).mono ?_
  rintro e w3 ⟨v1, rfl, hv1, hb3⟩
  obtain ⟨a1, c1, e1⟩ := iown_form hv1
  rw [← HN.out] at e1
  subst e1
  have HV1 := Lib.hid hv1.sl
  have HB3 : Hid (Below w.heap.size w w3) := HB2.out.trans (hb3.mono HB2.out.size)
  have f0 := cell_later hb3 g0
  have f1 := cell_later hb3 g1
  have f2 := cell_later hb3 g2
  clear hb3 g0 g1 g2 hv1 HCU
  go_wp2_with fail
  refine (HRC.out _ HB3.out).mono ?_
  rintro e w4 ⟨v2, rfl, hv2, hb4⟩
  obtain ⟨a2, c2, e2⟩ := iown_form hv2
  rw [← HN.out] at e2
  subst e2
  have HV2 := Lib.hid hv2.sl
  have HV14 := Lib.hid (HV1.out.later hb4)
  have HB4 : Hid (Below w.heap.size w w4) := HB3.out.trans (hb4.mono HB3.out.size)
  have g0 := cell_later hb4 f0
  have g1 := cell_later hb4 f1
  have g2 := cell_later hb4 f2
  clear hb4 f0 f1 f2 hv2 HRC HV1
  go_wp2_with fail
  refine (HOF.out _).mono ?_
  rintro e w5 ⟨rfl, hb5⟩
  have HB5 : Hid (Below w.heap.size w w5) := HB4.out.trans (hb5.mono HB4.out.size)
  have HV15 := Lib.hid (HV14.out.later hb5)
  have HV25 := Lib.hid (HV2.out.later hb5)
  clear hb5 g0 g1 g2 HV14 HV2 HOF
  go_wp2_with fail
  refine (HPI.out _ HB5.out).mono ?_
  rintro e w6 ⟨v3, rfl, hv3, hb6⟩
  obtain ⟨a3, c3, e3⟩ := hv3.form
  rw [pcs_length, ← HN.out] at e3
  subst e3
  have HV3 := Lib.hid hv3
  have HB6 : Hid (Below w.heap.size w w6) := HB5.out.trans (hb6.mono HB5.out.size)
  have HSM := Lib.hid (isame_any _ _ cs w6 (HV15.out.later hb6) (HV25.out.later hb6) (by rw [← HN.out]; omega))
  have HV26 := Lib.hid (HV25.out.later hb6)
  clear hv3 hb6 HV15 HV25 HPI
  go_wp2_with fail
  refine HSM.out.mono ?_
  rintro e w7 ⟨rfl, hb7⟩
  have HB7 : Hid (Below w.heap.size w w7) := HB6.out.trans (hb7.mono HB6.out.size)
  have HV27 := Lib.hid (HV26.out.later hb7)
  have HV37 := Lib.hid (HV3.out.below hb7)
  clear hb7 HSM HV26 HV3
  go_wp2
  go_loopw [11, 12] (fun vp vi wr => ∃ i p : Nat, vp = .int .i64 p ∧ vi = .int .i64 i ∧ i ≤ N ∧ Hid (p = atp cs i) ∧ Hid (Below w7.heap.size w7 wr)) (fun _ vi _ => N - (intOf vi).toNat)
  case atStart => exact ⟨0, 0, rfl, rfl, by omega, (show _ = _ from rfl), Below.refl _ _⟩
  case round =>
    obtain ⟨i, p, rfl, rfl, hi, HP, HBR⟩ := hrel
    have hbw : Below w.heap.size w wr := HB7.out.trans (HBR.out.mono HB7.out.size)
    have HBW := Lib.hid hbw
    by_cases hlt : i < N
    · have hltI : (i : Int) < (N : Int) := by omega
      have hic : i < cs.length := by rw [← HN.out]; exact hlt
      have ⟨hi1, hi2⟩ := HIN.out i hic
      rw [← HP.out] at hi1
      rw [← HL.out] at hi2
      obtain ⟨x1, x2, ex, hcl2⟩ := HV27.out
      rw [← HN.out] at ex
      simp only [Value.slice.injEq] at ex
      obtain ⟨rfl, -, rfl⟩ := ex
      obtain ⟨b, off, e2, hcell⟩ := hcl2 (by intro e; rw [e] at hic; simp at hic)
      subst e2
      have hck := cell_later HBR.out (hcell i hic)
      have HE : Hid (cs.getD i 0 = atp cs (i + 1)) := by show _ = _; unfold atp; rw [if_neg (by omega)]; rfl
      have hpg := pcs_get l cs i hic
      rw [← HP.out] at hpg
      obtain ⟨g, pa, pc, ea, hcp, hsp⟩ := (HV37.out.below HBR.out).at HOC.out i (by rw [pcs_length]; exact hic)
      subst ea
      rw [hpg] at hcp hsp
      generalize cs.getD i 0 = E at *
      obtain ⟨pl, hpl⟩ : ∃ pl, pl = ((l.drop p).take (E - p)).length := ⟨_, rfl⟩
      rw [← hpl] at hcp hsp
      obtain ⟨a', hrs, hsl⟩ := run_cut2 (HB.out.later hbw) cap n HL.out hcap HNIL.out p E hi1 hi2
      obtain ⟨y1, y2, ey, hy, -, -⟩ := hsp
      simp only [Value.slice.injEq] at ey
      obtain ⟨rfl, -, rfl⟩ := ey
      obtain ⟨z1, z2, ez, hz, -, -⟩ := hsl
      rw [← hpl] at ez
      simp only [Value.slice.injEq] at ez
      obtain ⟨rfl, ez2, rfl⟩ := ez
      have r1 : ∀ q, (convert 33 9 (.slice pa pl pc)).run Tryd.prog (wr.drewN q) = .ok (.string (strOfNums ((l.drop p).take (E - p)))) (wr.drewN q) := fun q => run_str (w := wr.drewN q) hy pl pc hpl
      have r2 : ∀ q, (convert 33 9 (.slice a' (E - p) (cap - p))).run Tryd.prog (wr.drewN q) = .ok (.string (strOfNums ((l.drop p).take (E - p)))) (wr.drewN q) := fun q => run_str (w := wr.drewN q) hz (E - p) (cap - p) (ez2.trans hpl)
      generalize strOfNums ((l.drop p).take (E - p)) = S at r1 r2
      have hi0 : (0 : Int) ≤ (i : Int) := by omega
      have HCK := Lib.hid hck
      clear hcell hcl2 hbw hy hz ez2 hpl hpg HP
      go_wp2
      go_big_quiet (fail)
      clear r1 r2 hrs
      have hck2 := (fun q => HCK.out : ∀ q, (wr.drewN q).cell? ⟨b, off + i, none⟩ = some (.int .i64 ((E : Nat) : Int)))
      go_wp2
      go_roundw
      case rel => exact ⟨i + 1, E, rfl, by go_num, by omega, HE, below_dN HBR.out _⟩
      case measure => simp [intOf]; omega
    · have hltI : ¬ (i : Int) < (N : Int) := by omega
      clear hbw
      go_wp2_with fail
      refine (HAW.out _ HBW.out).mono ?_
      rintro e w9 ⟨rfl, hb9⟩
      go_wp2
      go_ret
      exact ⟨rfl, HBW.out.trans (hb9.mono HBW.out.size)⟩

set_option maxHeartbeats 4000000 in
theorem gearCuts_no (a : Option Addr) (n cap : Nat) (L M B : Int) (w : World) (hT : Tab w) (hbig : n ≤ 2000) (hm : mc L M B n ≠ 0) :
    Calls Tryd.prog 5 #[.slice a n cap, P3 L M B] w fun e w' => e = .returned (.bool true) ∧ Below w.heap.size w w' := by
  obtain ⟨w1, hw1⟩ : ∃ w1, w1 = w.alloc (Obj.cells #[.int .i64 L, .int .i64 M, .int .i64 B] 23) := ⟨_, rfl⟩
  obtain ⟨f0, f1, f2⟩ := three_at hw1
  have hb1 : Below w.heap.size w w1 := by rw [hw1]; exact (Below.refl _ _).alloc (Nat.le_refl _) _
  have HOF := Lib.hid (fun W => of_any L M B W)
  have HCU := Lib.hid (fun W => cuts_no a n cap L M B W (by omega) hm)
  have HRC := Lib.hid (fun W => rcuts_no a n cap L M B W (by omega) hm)
  have HPI := Lib.hid (fun W => pieces_no a n cap L M B W (by omega) hm)
  have HAW := Lib.hid (fun W (hb : Below w.heap.size w W) => awake_any W (hT.later hb))
  have HSM := Lib.hid (fun W => isame_any (.slice none 0 0) (.slice none 0 0) [] W ⟨none, 0, rfl, fun h => absurd rfl h⟩ ⟨none, 0, rfl, fun h => absurd rfl h⟩ (by simp))
  have HB1 := Lib.hid hb1
  have hI : ¬ (2000 : Int) < (n : Int) := by omega
  generalize mc L M B n = r at *
  clear hT hm hb1
  unfold P3 at *
  go_enter Tryd.func5, Tryd.ntmps5
  go_wp2_with fail
  rw [← hw1]
  clear hw1
  refine (HOF.out _).mono ?_
  rintro e w2 ⟨rfl, hb2⟩
  have HB2 : Hid (Below w.heap.size w w2) := HB1.out.trans (hb2.mono HB1.out.size)
  have g0 := cell_later hb2 f0
  have g1 := cell_later hb2 f1
  have g2 := cell_later hb2 f2
  clear hb2 f0 f1 f2
  go_wp2_with fail
  refine (HCU.out _).mono ?_
  rintro e w3 ⟨rfl, hb3⟩
  have HB3 : Hid (Below w.heap.size w w3) := HB2.out.trans (hb3.mono HB2.out.size)
  have f0 := cell_later hb3 g0
  have f1 := cell_later hb3 g1
  have f2 := cell_later hb3 g2
  clear hb3 g0 g1 g2 HCU
  go_wp2_with fail
  refine (HRC.out _).mono ?_
  rintro e w4 ⟨rfl, hb4⟩
  have HB4 : Hid (Below w.heap.size w w4) := HB3.out.trans (hb4.mono HB3.out.size)
  have g0 := cell_later hb4 f0
  have g1 := cell_later hb4 f1
  have g2 := cell_later hb4 f2
  clear hb4 f0 f1 f2 HRC
  go_wp2_with fail
  refine (HOF.out _).mono ?_
  rintro e w5 ⟨rfl, hb5⟩
  have HB5 : Hid (Below w.heap.size w w5) := HB4.out.trans (hb5.mono HB4.out.size)
  clear hb5 g0 g1 g2 HOF
  go_wp2_with fail
  refine (HPI.out _).mono ?_
  rintro e w6 ⟨rfl, hb6⟩
  have HB6 : Hid (Below w.heap.size w w6) := HB5.out.trans (hb6.mono HB5.out.size)
  clear hb6 HPI
  go_wp2_with fail
  refine (HSM.out _).mono ?_
  rintro e w7 ⟨rfl, hb7⟩
  have HB7 : Hid (Below w.heap.size w w7) := HB6.out.trans (hb7.mono HB6.out.size)
  clear hb7 HSM
  go_wp2
  go_loopw [12] (fun vi wr => vi = .int .i64 0 ∧ wr = w7) (fun _ _ => 0)
  case atStart => exact ⟨rfl, rfl⟩
  case round =>
    obtain ⟨rfl, rfl⟩ := hrel
    go_wp2_with fail
    refine (HAW.out _ HB7.out).mono ?_
    rintro e w9 ⟨rfl, hb9⟩
    go_wp2
    go_ret
    exact ⟨rfl, HB7.out.trans (hb9.mono HB7.out.size)⟩

theorem gearCuts_walk (a : Option Addr) (n cap : Nat) (l : List Int) (L M B : Int) (w : World) (hT : Tab w) (hB : Bytes w a l) (hnil : a = none → cap = 0) (hcap : n ≤ cap) (hn : n = l.length) :
    Calls Tryd.prog 5 #[.slice a n cap, P3 L M B] w fun e w' => e = .returned (.bool true) ∧ Below w.heap.size w w' := by
  by_cases hbig : n ≤ 2000
  · by_cases hm : mc L M B l.length = 0
    · exact gearCuts_yes a n cap l L M B w hT hB hnil hcap hn hbig hm
    · exact gearCuts_no a n cap L M B w hT hbig (by rw [hn]; exact hm)
  · have hI : (2000 : Int) < (n : Int) := by omega
    obtain ⟨w1, hw1⟩ : ∃ w1, w1 = w.alloc (Obj.cells #[.int .i64 L, .int .i64 M, .int .i64 B] 23) := ⟨_, rfl⟩
    have hb1 : Below w.heap.size w w1 := by rw [hw1]; exact (Below.refl _ _).alloc (Nat.le_refl _) _
    have H6 := Lib.hid (awake_any w1 (hT.later hb1))
    have HB1 := Lib.hid hb1
    clear hT hb1 hB hnil hcap hn
    unfold P3 at *
    go_enter Tryd.func5, Tryd.ntmps5
    go_wp2_with fail
    rw [← hw1]
    clear hw1
    refine H6.out.mono ?_
    rintro e w9 ⟨rfl, hb9⟩
    go_wp2
    go_ret
    exact ⟨rfl, HB1.out.trans (hb9.mono HB1.out.size)⟩
end Go.Proofs.YtheklipnnflnaaaDoor.Gear
