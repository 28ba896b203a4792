/- squash: the law SquashBack. (A template: seatgen.py fills it.) -/
import Derived.Test.YtboienpdnfcooaaSqBackM
import Derived.Test.YtboienpdnfcooaaSqUnLaw
namespace Go.Proofs.Ytboienpdnfcooaa.Sq
open Go.RowKit Go.Proofs.NumMath Go.Maps
open Num (trip)
set_option linter.unusedVariables false
set_option linter.unusedSimpArgs false
set_option maxRecDepth 1000000

set_option maxHeartbeats 8000000 in
theorem squashBack_walk (a : Option Addr) (n cap : Nat) (less : Int) (l : List Int) (w : World) (hS : Sl w (.slice a n cap) l) (hn : n = l.length) (hm : n ≤ 9223372036854775807) :
    Calls Try.prog 5 #[.slice a n cap, .int .i64 less] w fun e w' => e = .returned (.bool true) ∧ Below w.heap.size w w' := by
  have hA := Lib.hid (fun W => awake_sq W)
  by_cases hbig : n ≤ 65536
  · have hI : ¬ (65536 : Int) < (n : Int) := by omega
    have hl : l.length ≤ 65536 := by omega
    have HS := Lib.hid hS
    have HP := Lib.hid (pack_any _ l w hS hl)
    have hpl := pack_len l hl
    have hun := un_pack l hl
    rw [← hn] at hpl
    obtain ⟨P, hP⟩ : ∃ P, P = (packL l).length := ⟨_, rfl⟩
    have HPL := Lib.hid hP
    have HUN := Lib.hid hun
    have HU := Lib.hid (fun W v (m : Int) (hs : Sl W v (packL l)) => unpack_any v (packL l) m W hs (by omega))
    have HC := Lib.hid (fun W v (hs : Sl W v (packL l)) => check_any v (packL l) W hs (by omega))
    rw [hun] at HU HC
    have HBD := Lib.hid (fun W => bound_any (n : Int) W)
    have hbn : bnd (n : Int) = (n : Int) + (n : Int) / 64 + 3 := by unfold bnd; rw [if_neg (by omega)]
    rw [hbn] at HBD
    rw [← hP] at hpl
    have hPI : ¬ (n : Int) + (n : Int) / 64 + 3 < (P : Int) := by omega
    have HN := Lib.hid hn
    clear hS hpl hun hP hbn hl hn
    go_enter Try.func5, Try.ntmps5
    go_wp2_with fail
    refine HP.out.mono ?_
    rintro e w2 ⟨vp, rfl, hvp, hb2⟩
    obtain ⟨pa, pc, ep⟩ := sl_form' hvp
    rw [← HPL.out] at ep
    subst ep
    have HVP := Lib.hid hvp
    have HB2 := Lib.hid hb2
    have HSB := Lib.hid (HS.out.later hb2)
    have HU2 := Lib.hid (HU.out w2 _ (n : Int) hvp)
    clear hvp hb2 HP
    go_wp2_with fail
    refine HU2.out.mono ?_
    rintro e w3 ⟨hu, hb3⟩
    have hu' : ∃ v, e = .returned (.tuple #[v, .int .i64 0]) ∧ Sl w3 v l := by
      unfold UE at hu
      simp only at hu
      rw [if_neg (by have := HN.out; omega)] at hu
      exact hu
    obtain ⟨v3, rfl, hv3⟩ := hu'
    obtain ⟨ta, tc, et⟩ := sl_form' hv3
    rw [← HN.out] at et
    subst et
    have HV3 := Lib.hid hv3
    have HVP3 := Lib.hid (HVP.out.later hb3)
    have HSB3 := Lib.hid (HSB.out.later hb3)
    have HB3 : Hid (Below w.heap.size w w3) := HB2.out.trans (hb3.mono HB2.out.size)
    have HC3 := Lib.hid (HC.out w3 _ HVP3.out)
    clear hu hv3 hb3 HU2 HVP HSB
    go_wp2_with fail
    refine HC3.out.mono ?_
    rintro e w4 ⟨he, hb4⟩
    simp only [EP, ← HN.out] at he
    subst he
    have HSM := Lib.hid (same10 _ _ l w4 (HV3.out.later hb4) (HSB3.out.later hb4))
    have HVP4 := Lib.hid (HVP3.out.later hb4)
    have HB4 : Hid (Below w.heap.size w w4) := HB3.out.trans (hb4.mono HB3.out.size)
    clear hb4 HC3 HV3 HSB3 HVP3
    go_wp2_with fail
    refine HSM.out.mono ?_
    rintro e w5 ⟨rfl, rfl⟩
    go_wp2_with fail
    refine (HBD.out _).mono ?_
    rintro e w6 ⟨rfl, rfl⟩
    clear HSM HBD
    by_cases h1 : (n : Int) ≤ less
    · go_wp2_with fail
      refine (hA.out _).mono ?_
      rintro e w9 ⟨rfl, hb9⟩
      go_wp2
      go_ret
      exact ⟨rfl, HB4.out.trans (hb9.mono HB4.out.size)⟩
    · by_cases h2 : n = 0
      · have h2I : (n : Int) = 0 := by omega
        have h2b : ((n : Int) == 0) = true := by simpa using h2I
        clear h2
        go_wp2_with fail
        refine (hA.out _).mono ?_
        rintro e w9 ⟨rfl, hb9⟩
        go_wp2
        go_ret
        exact ⟨rfl, HB4.out.trans (hb9.mono HB4.out.size)⟩
      · have h2I : ¬ (n : Int) = 0 := by omega
        have h2b : ((n : Int) == 0) = false := by simpa using h2I
        have HU4 := Lib.hid (HU.out _ _ less HVP4.out)
        go_wp2_with fail
        refine HU4.out.mono ?_
        rintro e w7 ⟨hu, hb7⟩
        have hu' : e = .returned (.tuple #[.slice none 0 0, .int .i64 7]) := by
          unfold UE at hu
          simp only at hu
          rw [if_pos (by have := HN.out; omega)] at hu
          exact hu
        subst hu'
        have HB7 : Hid (Below w.heap.size w w7) := HB4.out.trans (hb7.mono HB4.out.size)
        clear hu hb7 HU4
        go_wp2_with fail
        refine (hA.out _).mono ?_
        rintro e w9 ⟨rfl, hb9⟩
        go_wp2
        go_ret
        exact ⟨rfl, HB7.out.trans (hb9.mono HB7.out.size)⟩
  · have hI : (65536 : Int) < (n : Int) := by omega
    have HP := Lib.hid (pack_big a n cap w (by omega) (by omega))
    clear hS hn
    go_enter Try.func5, Try.ntmps5
    go_wp2_with fail
    refine HP.out.mono ?_
    rintro e w2 ⟨rfl, rfl⟩
    go_wp2_with fail
    refine (hA.out _).mono ?_
    rintro e w9 ⟨rfl, hb9⟩
    go_wp2
    go_ret
    exact ⟨rfl, hb9⟩
end Go.Proofs.Ytboienpdnfcooaa.Sq
