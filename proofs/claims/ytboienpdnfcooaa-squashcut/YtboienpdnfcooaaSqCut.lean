/- squash: the law SquashCut. (A template: seatgen.py fills it.) -/
import Derived.Test.YtboienpdnfcooaaSqCutM
import Derived.Test.YtboienpdnfcooaaSqUnLaw
namespace Go.Proofs.Ytboienpdnfcooaa.Sq
open Go.RowKit Go.Proofs.NumMath Go.Maps
open Num (trip)
set_option linter.unusedVariables false
set_option linter.unusedSimpArgs false
set_option maxRecDepth 1000000

set_option maxHeartbeats 8000000 in
theorem squashCut_walk (a : Option Addr) (n cap : Nat) (c : Int) (l : List Int) (w : World) (hS : Sl w (.slice a n cap) l) (hn : n = l.length) (h0 : 0 ≤ c) (h1 : c ≤ 65535) :
    Calls Try.prog 6 #[.slice a n cap, .int .u16 c] w fun e w' => e = .returned (.bool true) ∧ Below w.heap.size w w' := by
  have hA := Lib.hid (fun W => awake_sq W)
  by_cases hbig : n ≤ 4000
  · have hI : ¬ (4000 : Int) < (n : Int) := by omega
    have hl : l.length ≤ 65536 := by omega
    have HS := Lib.hid hS
    have HP := Lib.hid (pack_any _ l w hS hl)
    have hpl := pack_len l hl
    obtain ⟨P, hP⟩ : ∃ P, P = (packL l).length := ⟨_, rfl⟩
    have HPL := Lib.hid hP
    obtain ⟨k, hk⟩ : ∃ k : Nat, c % ((P : Int) + 1) = (k : Int) := ⟨(c % ((P : Int) + 1)).toNat, by have := Int.emod_nonneg c (show (P : Int) + 1 ≠ 0 by omega); omega⟩
    have hkP : k ≤ P := by have := Int.emod_lt_of_pos c (show (0 : Int) < (P : Int) + 1 by omega); omega
    have hrem : c.tmod ((P : Int) + 1) = (k : Int) := by rw [Int.tmod_eq_emod_of_nonneg h0]; exact hk
    have hP1 : ¬ (P : Int) + 1 = 0 := by omega
    have hPw : IntKind.i64.wrap ((P : Int) + 1) = (P : Int) + 1 := by rw [IntKind.wrap_i64]; omega
    have HU := Lib.hid (fun W v (m : Int) (hs : Sl W v ((packL l).take k)) => unpack_any v ((packL l).take k) m W hs (by rw [List.length_take]; omega))
    have HCUT := Lib.hid (un_cut l hl k)
    have HFULL : Hid (k = P → un ((packL l).take k) 0 [] false = .ok l) := by
      intro e
      rw [List.take_of_length_le (by omega)]
      exact un_pack l hl
    have HN := Lib.hid hn
    clear hS hpl hP hk hl hn
    go_enter Try.func6, Try.ntmps6
    go_wp2_with fail
    refine HP.out.mono ?_
    rintro e w2 ⟨vp, rfl, hvp, hb2⟩
    obtain ⟨pa, pc, ep, hBp, hnp, hcp⟩ := id hvp
    rw [← HPL.out] at ep hcp
    subst ep
    obtain ⟨pa', hrf, hsf⟩ := run_first hBp pc (by rw [← HPL.out]; exact hcp) hnp k (by rw [← HPL.out]; exact hkP)
    rw [← HPL.out] at hrf
    have HB2 := Lib.hid hb2
    have HSB := Lib.hid (HS.out.later hb2)
    have HU2 := Lib.hid (HU.out w2 _ (n : Int) hsf)
    have hk0 : (0 : Int) ≤ (k : Int) := by omega
    clear hvp hb2 HP hBp hnp hcp hsf
    go_wp2_with fail
    refine HU2.out.mono ?_
    rintro e w3 ⟨hu, hb3⟩
    have HSB3 := Lib.hid (HSB.out.later hb3)
    have HB3 : Hid (Below w.heap.size w w3) := HB2.out.trans (hb3.mono HB2.out.size)
    clear hb3 HU2 HSB hrf hrem hPw hP1
    rcases HCUT.out with hc | ⟨m, hm, hc⟩
    · rw [hc] at hu
      have hkl : k < P := by
        rcases Nat.lt_or_ge k P with h | h
        · exact h
        · have := HFULL.out (by omega); rw [hc] at this; cases this
      have hklI : (k : Int) < (P : Int) := by omega
      unfold UE at hu
      simp only at hu
      subst hu
      clear hc HCUT
      go_wp2_with fail
      refine (hA.out _).mono ?_
      rintro e w9 ⟨rfl, hb9⟩
      go_wp2
      go_ret
      exact ⟨rfl, HB3.out.trans (hb9.mono HB3.out.size)⟩
    · have hn := HN.out
      have hT : (l.take m).length = m := by rw [List.length_take]; omega
      have hmn : m ≤ n := by omega
      have hu' : ∃ v, e = .returned (.tuple #[v, .int .i64 0]) ∧ Sl w3 v (l.take m) := by
        rw [hc] at hu
        unfold UE at hu
        simp only at hu
        rw [if_neg (by rw [hT]; omega)] at hu
        exact hu
      obtain ⟨v3, rfl, hv3⟩ := hu'
      have hend : k < P ∨ m = n := by
        rcases Nat.lt_or_ge k P with h | h
        · exact .inl h
        · right
          have := HFULL.out (by omega)
          rw [hc] at this
          injection this with this
          have h2 := congrArg List.length this
          rw [hT] at h2
          omega
      obtain ⟨ta, tc, et⟩ := sl_form' hv3
      rw [hT] at et
      subst et
      obtain ⟨sa, sc, es, hBs, hns, hcs⟩ := HSB3.out
      rw [← hn] at es hcs
      simp only [Value.slice.injEq] at es
      obtain ⟨rfl, -, rfl⟩ := es
      obtain ⟨sa', hrs, hss⟩ := run_first hBs cap (by rw [← hn]; exact hcs) hns m (by rw [← hn]; exact hmn)
      rw [← hn] at hrs
      have HSM := Lib.hid (same10 _ _ _ w3 hv3 hss)
      have hm0 : (0 : Int) ≤ (m : Int) := by omega
      have hmI : (m : Int) ≤ (n : Int) := by omega
      clear hu hc hv3 hBs hns hcs hss hT hn hm HCUT
      by_cases hkl : k < P
      · have hklI : (k : Int) < (P : Int) := by omega
        clear hend
        go_wp2_with fail
        refine HSM.out.mono ?_
        rintro e w4 ⟨rfl, rfl⟩
        go_wp2_with fail
        refine (hA.out _).mono ?_
        rintro e w9 ⟨rfl, hb9⟩
        go_wp2
        go_ret
        exact ⟨rfl, HB3.out.trans (hb9.mono HB3.out.size)⟩
      · have hmn2 : m = n := by rcases hend with h | h; exact absurd h hkl; exact h
        have hklI : ¬ (k : Int) < (P : Int) := by omega
        subst hmn2
        clear hend
        go_wp2_with fail
        refine HSM.out.mono ?_
        rintro e w4 ⟨rfl, rfl⟩
        go_wp2_with fail
        refine (hA.out _).mono ?_
        rintro e w9 ⟨rfl, hb9⟩
        go_wp2
        go_ret
        exact ⟨rfl, HB3.out.trans (hb9.mono HB3.out.size)⟩
  · have hI : (4000 : Int) < (n : Int) := by omega
    clear hS hn
    go_enter Try.func6, Try.ntmps6
    go_wp2_with fail
    refine (hA.out _).mono ?_
    rintro e w9 ⟨rfl, hb9⟩
    go_wp2
    go_ret
    exact ⟨rfl, hb9⟩
end Go.Proofs.Ytboienpdnfcooaa.Sq
