/- The law GlobEscapes. (A template.) -/
import Derived.Test.YthkpncieelpfdaaDoorGlAwake
import Derived.Test.YthkpncieelpfdaaDoorGlLawM
namespace Go.Proofs.YthkpncieelpfdaaDoor.Pa
open Go.RowKit
set_option linter.unusedVariables false
set_option linter.unusedSimpArgs false
set_option maxRecDepth 1000000

set_option maxHeartbeats 16000000 in
theorem globEscapes_walk (s o : L8) (w : World) (hls : s.length ≤ 9223372036854775807) (hlo : o.length ≤ 9223372036854775807) :
    Calls Tryd.prog 7 #[.string (mk s), .string (mk o)] w fun e w' => e = .returned (.bool true) ∧ Below w.heap.size w w' := by
  have HA := Lib.hid (acc (w := w) awake_gl)
  have HB : Hid (Below w.heap.size w w) := Below.refl _ _
  have hzs : (mk s).size = s.length := mk_size s
  have hzo : (mk o).size = o.length := mk_size o
  by_cases hb1 : 400 < s.length
  · have hI : (400 : Int) < ((mk s).size : Int) := by omega
    have hD : decide ((400 : Int) < ((mk s).size : Int)) = true := decide_eq_true hI
    clear hzs hzo hb1 hls hlo
    go_enter Tryd.func7, Tryd.ntmps7
    go_wp2_with (go_at_call 11; refine (HA.out _ HB.out).mono ?_; rintro e w' ⟨rfl, hb⟩; have HB := Lib.hid hb; clear hb)
    go_ret
    exact ⟨rfl, HB.out⟩
  · have hD : decide ((400 : Int) < ((mk s).size : Int)) = false := decide_eq_false (by omega)
    have hI1 : ¬ (400 : Int) < ((mk s).size : Int) := by omega
    by_cases hb2 : 400 < o.length
    · have hI : (400 : Int) < ((mk o).size : Int) := by omega
      clear hzs hzo hb1 hb2 hls hlo
      go_enter Tryd.func7, Tryd.ntmps7
      go_wp2_with (go_at_call 11; refine (HA.out _ HB.out).mono ?_; rintro e w' ⟨rfl, hb⟩; have HB := Lib.hid hb; clear hb)
      go_ret
      exact ⟨rfl, HB.out⟩
    · have hI2 : ¬ (400 : Int) < ((mk o).size : Int) := by omega
      have HE := Lib.hid (acc (w := w) (fun W => escape_any s W (by omega)))
      have hel := escB_len s
      have hze : (mk (escB s)).size = (escB s).length := mk_size _
      have HC := Lib.hid (acc (w := w) (fun W => check_any (escB s) W (by omega)))
      have HM := Lib.hid (acc (w := w) (fun W => gmatch_any (escB s) s W (by omega) (by omega)))
      by_cases hbig : (escB s).length ≤ 100
      · have hI3 : ¬ (100 : Int) < ((mk (escB s)).size : Int) := by omega
        obtain ⟨e1, e2, e3⟩ := esc_small hbig
        have HP := Lib.hid (acc (w := w) (fun W => plain_of (escB s) W (by omega)))
        have HO := Lib.hid (acc (w := w) (fun W => gmatch_any (escB s) o W (by omega) (by omega)))
        rw [e1] at HC
        rw [e2] at HP
        rw [e3 s, decide_eq_true rfl] at HM
        rw [e3 o] at HO
        have hq : ((mk s).toList == (mk s).toList) = true := by simp
        by_cases hso : o = s
        · rw [decide_eq_true hso] at HO
          clear hzs hzo hb1 hb2 hls hlo hel hze hbig e1 e2 e3 HO
          subst hso
          generalize mk (escB o) = p at *
          generalize mk o = x at *
          go_enter Tryd.func7, Tryd.ntmps7
          go_wp2_with (first
            | (go_at_call 11; refine (HA.out _ HB.out).mono ?_; rintro e w' ⟨rfl, hb⟩; have HB := Lib.hid hb; clear hb)
            | (go_at_call 20; refine (HE.out _ HB.out).mono ?_; rintro e w' ⟨rfl, hb⟩; have HB := Lib.hid hb; clear hb)
            | (go_at_call 12; refine (HC.out _ HB.out).mono ?_; rintro e w' ⟨rfl, hb⟩; have HB := Lib.hid hb; clear hb)
            | (go_at_call 16; refine (HP.out _ HB.out).mono ?_; rintro e w' ⟨rfl, hb⟩; have HB := Lib.hid hb; clear hb)
            | (go_at_call 14; with_reducible refine (HM.out _ HB.out).mono ?_; rintro e w' ⟨rfl, hb⟩; have HB := Lib.hid hb; clear hb))
          go_ret
          exact ⟨rfl, HB.out⟩
        · rw [decide_eq_false hso] at HO
          have hne : ((mk s).toList == (mk o).toList) = false := by rw [eqs]; exact decide_eq_false (fun h => hso h.symm)
          clear hzs hzo hb1 hb2 hls hlo hel hze hbig e1 e2 e3 hso
          generalize mk (escB s) = p at *
          generalize mk s = x at *
          generalize mk o = y at *
          go_enter Tryd.func7, Tryd.ntmps7
          go_wp2_with (first
            | (go_at_call 11; refine (HA.out _ HB.out).mono ?_; rintro e w' ⟨rfl, hb⟩; have HB := Lib.hid hb; clear hb)
            | (go_at_call 20; refine (HE.out _ HB.out).mono ?_; rintro e w' ⟨rfl, hb⟩; have HB := Lib.hid hb; clear hb)
            | (go_at_call 12; refine (HC.out _ HB.out).mono ?_; rintro e w' ⟨rfl, hb⟩; have HB := Lib.hid hb; clear hb)
            | (go_at_call 16; refine (HP.out _ HB.out).mono ?_; rintro e w' ⟨rfl, hb⟩; have HB := Lib.hid hb; clear hb)
            | (go_at_call 14; with_reducible refine (HM.out _ HB.out).mono ?_; rintro e w' ⟨rfl, hb⟩; have HB := Lib.hid hb; clear hb)
            | (go_at_call 14; with_reducible refine (HO.out _ HB.out).mono ?_; rintro e w' ⟨rfl, hb⟩; have HB := Lib.hid hb; clear hb))
          go_ret
          exact ⟨rfl, HB.out⟩
      · have hI3 : (100 : Int) < ((mk (escB s)).size : Int) := by omega
        obtain ⟨e1, e2⟩ := esc_big (s := s) hbig
        rw [e1] at HC
        rw [e2] at HM
        clear hzs hzo hb1 hb2 hls hlo hel hze hbig e1 e2
        generalize mk (escB s) = p at *
        generalize mk s = x at *
        go_enter Tryd.func7, Tryd.ntmps7
        go_wp2_with (first
          | (go_at_call 11; refine (HA.out _ HB.out).mono ?_; rintro e w' ⟨rfl, hb⟩; have HB := Lib.hid hb; clear hb)
          | (go_at_call 20; refine (HE.out _ HB.out).mono ?_; rintro e w' ⟨rfl, hb⟩; have HB := Lib.hid hb; clear hb)
          | (go_at_call 12; refine (HC.out _ HB.out).mono ?_; rintro e w' ⟨rfl, hb⟩; have HB := Lib.hid hb; clear hb)
          | (go_at_call 14; refine (HM.out _ HB.out).mono ?_; rintro e w' ⟨rfl, hb⟩; have HB := Lib.hid hb; clear hb))
        go_ret
        exact ⟨rfl, HB.out⟩
end Go.Proofs.YthkpncieelpfdaaDoor.Pa
