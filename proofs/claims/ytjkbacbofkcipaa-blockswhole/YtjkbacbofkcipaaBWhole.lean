/- The law BlocksWhole's own walk. -/
import Derived.Test.YtjkbacbofkcipaaBCut2
import Derived.BigQuiet
import Derived.Deep.QuietTactic
import Derived.WalkSmall
import Derived.ProofKit
namespace Go.Proofs.Ytjkbacbofkcipaa
open Go.RowKit Go.Proofs.BlkMath
set_option linter.unusedVariables false

theorem Sl.drewN {w : World} {v : Value} {l : List Int} (h : Sl w v l) (n : Nat) : Sl (w.drewN n) v l := h

set_option maxHeartbeats 2000000 in
set_option maxRecDepth 1000000 in
theorem whole_yes (a : Option Addr) (len cap : Nat) (l : List Int) (blk : Nat) (w : World) (hlen : len = l.length) (hS : Sl w (.slice a len cap) l) (ho : Oct l) (hR : Rt len blk) :
    Calls Try.prog 7 #[.slice a len cap, .int .i64 blk] w fun e w' => e = .returned (.bool true) ∧ Below w.heap.size w w' := by
  have hR' : Rt l.length blk := by rw [← hlen]; exact hR
  have HCUT := Lib.hid (cut_yes (.slice a len cap) l blk w hS ho hR')
  have hcs := cnt_spec hR'
  obtain ⟨N, hN⟩ : ∃ N : Nat, (N : Int) = cnt l.length blk := ⟨(cnt l.length blk).toNat, by omega⟩
  have hNt : (cnt l.length blk).toNat = N := by omega
  have hNb : N ≤ 131072 := by unfold Rt at hR'; omega
  rw [hNt] at HCUT
  have hcn : cntB len blk = (N : Int) := by unfold cntB; rw [if_pos hR, hN, hlen]
  have HCN : Hid (∀ W, Calls Try.prog 14 #[.int .i64 len, .int .i64 blk] W fun e w' => e = .returned (.int .i64 N) ∧ W = w') := by
    intro W; have h := count_any len blk W; rw [hcn] at h; exact h
  have HA := Lib.hid (fun W => awake5_any W)
  have hb16 : 16 ≤ blk ∧ blk ≤ 4096 := by unfold Rt at hR'; omega
  have hlb : len ≤ 131072 := by unfold Rt at hR; omega
  have HLT : Hid (∀ k : Nat, k < N → k * blk < len) := by
    intro k hk; have h := cnt_lt hR' (k := k) (by omega); rw [← hlen] at h; exact_mod_cast h
  have HGE : Hid (len ≤ N * blk) := by
    show _ ≤ _
    have h := cnt_ge hR' (k := N) (by omega); rw [← hlen] at h; exact_mod_cast h
  have HS := Lib.hid hS
  have HO := Lib.hid ho
  have HL := Lib.hid hlen
  clear hS ho hlen hR hR' hcs hN hNt hcn
  go_enter Try.func7, Try.ntmps7
  go_wp2_with (go_at_call 21; refine HCUT.out.mono ?_; rintro e w1 ⟨v, rfl, hM, hb1⟩; obtain ⟨av, cv, ev, hcells⟩ := made_form hM HO.out; subst ev; have HC := Lib.hid hcells; have HB1 := Lib.hid hb1; clear hcells hb1 hM HCUT)
  go_loopw [7, 8] (fun p c wr => ∃ i q : Nat, i ≤ N ∧ p = .int .i64 q ∧ c = .int .i64 i ∧ Hid (q = min (i * blk) len) ∧ Hid (Below w1.heap.size w1 wr)) (fun _ c _ => N - (intOf c).toNat)
  case atStart => exact ⟨0, 0, by omega, rfl, rfl, by show _ = _; simp, Below.refl _ _⟩
  case round =>
    obtain ⟨i, q, hi, rfl, rfl, HQ, HB⟩ := hrel
    by_cases hlt : i < N
    · obtain ⟨g, pa, pc, eg, hcell, hsl⟩ := HC.out i hlt
      subst eg
      have hiq := HLT.out i hlt
      have hq : q = i * blk := by have := HQ.out; omega
      obtain ⟨pl, hpl⟩ : ∃ pl, pl = (piece l blk i).length := ⟨_, rfl⟩
      have hpl2 : pl = min blk (len - i * blk) := by rw [hpl, piece_len, HL.out]
      rw [← hpl] at hcell hsl
      have hcw : wr.cell? ⟨g, i, none⟩ = some (.slice pa pl pc) := (KeepC.of_below HB.out).cell hcell
      have hslw := hsl.later HB.out
      obtain ⟨pa', pc', ep, hPB, hPn, hPc⟩ := hslw
      rw [← hpl] at ep hPc
      simp only [Value.slice.injEq] at ep
      obtain ⟨rfl, -, rfl⟩ := ep
      have hs2 : ∀ n, (convert 31 9 (.slice pa pl pc)).run Try.prog (wr.drewN n) = .ok (.string (strOfNums (piece l blk i))) (wr.drewN n) := fun n => run_str (w := wr.drewN n) hPB pl pc hpl
      obtain ⟨a', cap', e', hB, hnil, hcap⟩ := (HS.out.later HB1.out).later HB.out
      rw [← HL.out] at e' hcap
      simp only [Value.slice.injEq] at e'
      obtain ⟨rfl, -, rfl⟩ := e'
      obtain ⟨x, hcut, hSx⟩ := run_cut hB cap len HL.out hcap hnil q pl (by omega)
      have ex : (l.drop q).take pl = piece l blk i := by
        unfold piece
        rw [hq, hpl2, List.take_eq_take_iff, List.length_drop, ← HL.out]
        omega
      rw [ex] at hSx
      obtain ⟨x', cx', ex', hXB, -, -⟩ := hSx
      simp only [Value.slice.injEq] at ex'
      obtain ⟨rfl, -, rfl⟩ := ex'
      have hs1 : ∀ n, (convert 31 9 (.slice x pl (cap - q))).run Try.prog (wr.drewN n) = .ok (.string (strOfNums (piece l blk i))) (wr.drewN n) := fun n => run_str (w := wr.drewN n) hXB pl (cap - q) hpl
      generalize strOfNums (piece l blk i) = S at hs1 hs2
      generalize cap - q = cx at hcut hs1 hXB
      have hqn : min ((i + 1) * blk) len = q + pl := by
        rw [hq, hpl2, Nat.add_mul]; omega
      have HQN := Lib.hid hqn
      have hp1 : 1 ≤ pl := by omega
      have hp2 : pl ≤ blk := by omega
      have hp3 : q + pl ≤ len := by omega
      have hp4 : i + 1 < N → pl = blk := by
        intro h
        have := HLT.out (i + 1) h
        rw [Nat.add_mul] at this
        omega
      clear hcell hsl hPB hPn hPc hB hnil hcap hXB hqn ex hpl hpl2 hq hiq
      have d1 : decide ((pl : Int) < 1) = false := decide_eq_false (by omega)
      have d2 : decide ((blk : Int) < (pl : Int)) = false := decide_eq_false (by omega)
      have d2n : decide (blk < pl) = false := decide_eq_false (by omega)
      have d3 : decide ((len : Int) < (q : Int) + (pl : Int)) = false := decide_eq_false (by omega)
      have w1' : IntKind.i64.wrap ((i : Int) + 1) = (i : Int) + 1 := by rw [IntKind.wrap_i64]; omega
      have w2' : IntKind.i64.wrap ((q : Int) + (pl : Int)) = (q : Int) + (pl : Int) := by rw [IntKind.wrap_i64]; omega
      have hI : (i : Int) < (N : Int) := by omega
      by_cases hm : i + 1 < N
      · have hpb := hp4 hm
        subst hpb
        have d4 : decide ((i : Int) + 1 < (N : Int)) = true := decide_eq_true (by omega)
        clear hp4
        go_wp2
        go_big_quiet (fail)
        clear d1 d2 d2n d3 d4 w1' w2' hs1 hs2 hcut
        go_wp2
        go_roundw
        case rel => exact ⟨i + 1, q + pl, by omega, by simp, by simp, HQN.out.symm, below_drewN HB.out _⟩
        case measure => simp [intOf]; omega
      · have d4 : decide ((i : Int) + 1 < (N : Int)) = false := decide_eq_false (by omega)
        clear hp4
        go_wp2
        go_big_quiet (fail)
        clear d1 d2 d2n d3 d4 w1' w2' hs1 hs2 hcut
        go_wp2
        go_roundw
        case rel => exact ⟨i + 1, q + pl, by omega, by simp, by simp, HQN.out.symm, below_drewN HB.out _⟩
        case measure => simp [intOf]; omega
    · have hiN : i = N := by omega
      subst hiN
      have hql : q = len := by have := HQ.out; have := HGE.out; omega
      subst hql
      clear hlt hi
      go_wp2_with (first | (go_at_call 14; refine (HCN.out _).mono ?_; rintro e w' ⟨rfl, rfl⟩) | (go_at_call 16; refine (HA.out _).mono ?_; rintro e w' ⟨rfl, rfl⟩))
      go_ret
      exact ⟨rfl, HB1.out.trans (HB.out.mono HB1.out.size)⟩
end Go.Proofs.Ytjkbacbofkcipaa
