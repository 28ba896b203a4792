/- The law BlocksCut's own walk. -/
import Derived.Test.YtjkbacbofkcipaaBRCut
namespace Go.Proofs.Ytjkbacbofkcipaa
open Go.RowKit Go.Proofs.BlkMath
set_option linter.unusedVariables false

/-- blocks of these lengths, whatever bytes they hold -/
def Loose (W : World) (n0 : Nat) (v : Value) (N : Nat) (lens : Nat → Nat) : Prop :=
  ∃ vs : List Value, vs.length = N ∧ W.ownsRow n0 31 1 v N vs ∧ ∀ j, j < N → ∃ m, m.length = lens j ∧ Oct m ∧ Own W n0 (vs.getD j undef) m
theorem MadeR.loose {w : World} {n0 : Nat} {v : Value} {ps : List (List Int)} (h : MadeR w n0 v ps) (ho : ∀ j, Oct (ps.getD j [])) : Loose w n0 v ps.length (fun j => (ps.getD j []).length) := by
  obtain ⟨vs, h1, h2, h3⟩ := h
  exact ⟨vs, h1, h2, fun j hj => ⟨_, rfl, ho j, h3 j hj⟩⟩
theorem Loose.keep {W W' : World} {n0 : Nat} {v : Value} {N : Nat} {lens : Nat → Nat} (h : Loose W n0 v N lens) (hk : KeepC W W') : Loose W' n0 v N lens := by
  obtain ⟨vs, h1, h2, h3⟩ := h
  refine ⟨vs, h1, hk.row h2, fun j hj => ?_⟩
  obtain ⟨m, m1, m2, m3⟩ := h3 j hj
  exact ⟨m, m1, m2, hk.own m3⟩
theorem own_set {W : World} {b g k : Nat} {c : Int} {cur : Array Value} {v : Value} {m : List Int} (h : Own W b v m) (ho : Oct m) (h0 : 0 ≤ c) (h1 : c ≤ 255) (hg : W.heap[g]? = some (.cells cur 5)) :
    ∃ m', m'.length = m.length ∧ Oct m' ∧ Own (W.setCell ⟨g, k, none⟩ (.int .u8 c)) b v m' := by
  obtain ⟨q1, q2⟩ := h
  rcases q2 with ⟨rfl, q0⟩ | ⟨g', cap, cur', rfl, q4, q5, q6, q7, q8, q9⟩
  · have hm : m = [] := List.eq_nil_of_length_eq_zero q0
    subst hm
    exact ⟨[], rfl, ho, Own.nil _ _⟩
  · by_cases hgg : g' = g
    · subst hgg
      rw [q5] at hg
      injection hg with hg
      injection hg with hg _
      subst hg
      refine ⟨m.set k c, by simp, ?_, by simp, .inr ⟨g', cap, cur'.setIfInBounds k (.int .u8 c), by simp, q4, ?_, by simpa using q6, q7, by simpa using q8, ?_⟩⟩
      · intro x hx
        rcases List.mem_or_eq_of_mem_set hx with hx | rfl
        · exact ho x hx
        · exact ⟨h0, h1⟩
      · rw [Joins.block_setCell q5 _]
      · rw [Array.toList_setIfInBounds, List.map_set, ← q9, List.length_set, List.take_set]
    · refine ⟨m, rfl, ho, q1, .inr ⟨g', cap, cur', rfl, q4, ?_, q6, q7, q8, q9⟩⟩
      rw [Below.heap_setCell _ _ _ _ hgg]
      exact q5
theorem Loose.set {W : World} {n0 : Nat} {v : Value} {N : Nat} {lens : Nat → Nat} (h : Loose W n0 v N lens) {g k : Nat} {c : Int} {cur : Array Value} (h0 : 0 ≤ c) (h1 : c ≤ 255) (hg : W.heap[g]? = some (.cells cur 5)) :
    Loose (W.setCell ⟨g, k, none⟩ (.int .u8 c)) n0 v N lens := by
  obtain ⟨vs, q1, q2, q3⟩ := h
  refine ⟨vs, q1, ?_, fun j hj => ?_⟩
  · obtain ⟨r1, r2⟩ := q2
    refine ⟨r1, ?_⟩
    rcases r2 with r2 | ⟨g', cap, cur', r3, r4, r5, r6⟩
    · exact .inl r2
    · refine .inr ⟨g', cap, cur', r3, r4, ?_, r6⟩
      rw [Below.heap_setCell _ _ _ _ (by
        intro e
        subst e
        rw [r5] at hg
        injection hg with hg
        injection hg with _ hg
        revert hg
        decide)]
      exact r5
  · obtain ⟨m, m1, m2, m3⟩ := q3 j hj
    obtain ⟨m', p1, p2, p3⟩ := own_set (k := k) m3 m2 h0 h1 hg
    exact ⟨m', by rw [p1, m1], p2, p3⟩
theorem Loose.at {W : World} {n0 : Nat} {a : Option Addr} {cp N : Nat} {lens : Nat → Nat} (h : Loose W n0 (.slice a N cp) N lens) (i : Nat) (hi : i < N) :
    ∃ rg pa pc m, a = some ⟨rg, 0, none⟩ ∧ W.cell? ⟨rg, i, none⟩ = some (.slice pa (lens i) pc) ∧ m.length = lens i ∧ Oct m ∧ Own W n0 (.slice pa (lens i) pc) m := by
  obtain ⟨vs, h1, h2, h3⟩ := h
  have hf := h2
  obtain ⟨q1, q2⟩ := h2
  obtain ⟨m, m1, m2, m3⟩ := h3 i hi
  obtain ⟨pa, pc, e⟩ := own_form m3
  rw [m1] at e
  rcases q2 with ⟨_, h0⟩ | ⟨g, cap, cur, r1, q4⟩
  · omega
  · simp only [Value.slice.injEq] at r1
    obtain ⟨rfl, -, rfl⟩ := r1
    refine ⟨g, pa, pc, m, rfl, ?_, m1, m2, by rw [← e]; exact m3⟩
    rw [hf.cellAt i (by omega), ← e, List.getD_eq_getElem?_getD, List.getElem?_eq_getElem (by omega)]
    rfl
theorem own_at {W : World} {b : Nat} {pa : Option Addr} {n pc : Nat} {m : List Int} (h : Own W b (.slice pa n pc) m) (hn : m.length = n) (k : Nat) (hk : k < n) :
    ∃ g cur, pa = some ⟨g, 0, none⟩ ∧ b ≤ g ∧ W.heap[g]? = some (.cells cur 5) ∧ W.cell? ⟨g, k, none⟩ = some (.int .u8 (m.getD k 0)) := by
  have hf := h
  obtain ⟨q1, q2⟩ := h
  rcases q2 with ⟨_, h0⟩ | ⟨g, cap, cur, r1, q4, q5, q6⟩
  · omega
  · simp only [Value.slice.injEq] at r1
    obtain ⟨rfl, -, rfl⟩ := r1
    refine ⟨g, cur, rfl, q4, q5, ?_⟩
    have hf' : W.ownsRow b 5 1 (.slice (some ⟨g, 0, none⟩) n pc) m.length (m.map (Value.int .u8)) := hf
    rw [hn] at hf'
    rw [hf'.cellAt k (by omega), List.getElem?_map, List.getElem?_eq_getElem (by omega), List.getD_eq_getElem?_getD, List.getElem?_eq_getElem (by omega)]
    rfl
theorem pieces_oct (l : List Int) (blk N : Nat) (ho : Oct l) (j : Nat) : Oct ((pieces l blk N).getD j []) := by
  by_cases h : j < N
  · rw [pieces_get l blk N j h]; exact (ho.drop _).take _
  · rw [List.getD_eq_getElem?_getD, List.getElem?_eq_none (by rw [pieces_len]; omega)]
    intro c hc; simp at hc

set_option maxHeartbeats 2000000 in
set_option maxRecDepth 1000000 in
theorem cutlaw_yes (a : Option Addr) (len cap : Nat) (l : List Int) (blk : Nat) (w : World) (hlen : len = l.length) (hS : Sl w (.slice a len cap) l) (ho : Oct l) (hR : Rt len blk) :
    Calls Try.prog 5 #[.slice a len cap, .int .i64 blk] w fun e w' => e = .returned (.bool true) ∧ Below w.heap.size w w' := by
  have hR' : Rt l.length blk := by rw [← hlen]; exact hR
  have HCUT := Lib.hid (cut_yes (.slice a len cap) l blk w hS ho hR')
  have HRC := Lib.hid (fun W (hb : Below w.heap.size w W) => rcut_yes a len cap l blk W hlen (hS.later hb) hR)
  have hcs := cnt_spec hR
  obtain ⟨N, hN⟩ : ∃ N : Nat, (N : Int) = cnt len blk := ⟨(cnt len blk).toNat, by omega⟩
  have hNt : (cnt len blk).toNat = N := by omega
  have hNb : N ≤ 131072 := by unfold Rt at hR; omega
  rw [hNt] at HRC
  rw [← hlen, hNt] at HCUT
  have HA := Lib.hid (fun W => awake5_any W)
  have hlb : len ≤ 131072 := by unfold Rt at hR; omega
  have HS := Lib.hid hS
  have HL := Lib.hid hlen
  have HO := Lib.hid (pieces_oct l blk N ho)
  have HPN := Lib.hid (pieces_len l blk N)
  have HPL : Hid (∀ j, ((pieces l blk N).getD j []).length ≤ 4096) := by
    intro j
    by_cases h : j < N
    · rw [pieces_get l blk N j h, piece_len]; unfold Rt at hR; omega
    · rw [List.getD_eq_getElem?_getD, List.getElem?_eq_none (by rw [pieces_len]; omega)]; simp
  generalize pieces l blk N = ps at HCUT HRC HO HPN HPL
  clear hS ho hlen hR hR' hcs hN hNt
  go_enter Try.func5, Try.ntmps5
  go_wp2_with (go_at_call 21; refine HCUT.out.mono ?_; rintro e w1 ⟨v, rfl, hM, hb1⟩; obtain ⟨av, cv, ev⟩ := row_form hM.choose_spec.2.1; rw [HPN.out] at ev; subst ev; have HM1 := Lib.hid hM.r; have HB1 := Lib.hid hb1; clear hM hb1 HCUT)
  go_wp2_with (go_at_call 22; refine (HRC.out _ HB1.out).mono ?_; rintro e w2 ⟨v2, rfl, hM2, hb2⟩; obtain ⟨av2, cv2, ev2⟩ := row_form hM2.choose_spec.2.1; rw [HPN.out] at ev2; subst ev2; have HM2 := Lib.hid hM2; have HB2 := Lib.hid hb2; clear hM2 hb2 HRC)
  refine (same_made _ _ ps _ _ w2 (HM1.out.keep (KeepC.of_below HB2.out)) HM2.out HO.out (by rw [HPN.out]; exact hNb)).mono ?_
  rintro e w3 ⟨rfl, hb3⟩
  have HB3 : Hid (Below w.heap.size w w3) := (HB1.out.trans (HB2.out.mono HB1.out.size)).trans (hb3.mono (by have := HB1.out.size; have := HB2.out.size; omega))
  have HL3 : Hid (Loose w3 w.heap.size (.slice av N cv) N (fun j => (ps.getD j []).length)) := by
    have h := ((HM1.out.keep (KeepC.of_below HB2.out)).keep (KeepC.of_below hb3)).loose HO.out
    rw [HPN.out] at h
    exact h
  clear hb3 HM1 HM2 HB1 HB2
  have HST : Hid (∀ W, Below w.heap.size w W → (convert 31 9 (.slice a len cap)).run Try.prog W = .ok (.string (strOfNums l)) W) := by
    intro W hb
    obtain ⟨a', cap', e', hB, hnil, hcap⟩ := HS.out.later hb
    rw [← HL.out] at e'
    simp only [Value.slice.injEq] at e'
    obtain ⟨rfl, -, rfl⟩ := e'
    exact run_str hB len cap HL.out
  generalize strOfNums l = S at HST
  generalize hlens : (fun j => (ps.getD j []).length) = lens at HL3
  have HLE : Hid (∀ j, lens j ≤ 4096) := by intro j; rw [← hlens]; exact HPL.out j
  clear hlens
  have hst := HST.out w3 HB3.out
  go_wp2
  clear hst
  go_loopw [10] (fun c wr => ∃ i : Nat, c = .int .i64 i ∧ i ≤ N ∧ Hid (Loose wr w.heap.size (.slice av N cv) N lens) ∧ Hid (Below w.heap.size w wr)) (fun c _ => N - (intOf c).toNat)
  case atStart => exact ⟨0, rfl, by omega, HL3, HB3⟩
  case round =>
    obtain ⟨i, rfl, hi, HLO, HB⟩ := hrel
    by_cases hlt : i < N
    · obtain ⟨rg, pa0, pc0, m0, eav, -⟩ := HLO.out.at i hlt
      subst eav
      have hI : (i : Int) < (N : Int) := by omega
      have hp96 := HLE.out i
      go_wp2
      go_loopw [11] (fun c wq => ∃ k : Nat, c = .int .i64 k ∧ k ≤ lens i ∧ Hid (Loose wq w.heap.size (.slice (some ⟨rg, 0, none⟩) N cv) N lens) ∧ Hid (Below w.heap.size w wq)) (fun c _ => lens i - (intOf c).toNat)
      case atStart => exact ⟨0, rfl, by omega, HLO, HB⟩
      case round =>
        obtain ⟨k, rfl, hk, HLQ, HBQ⟩ := hrel
        obtain ⟨rg', pa, pc, m, eav, hc, hm, hmo, hown⟩ := HLQ.out.at i hlt
        simp only [Option.some.injEq, Addr.mk.injEq] at eav
        obtain ⟨rfl, -, -⟩ := eav
        obtain ⟨pl, hpl⟩ : ∃ pl, pl = lens i := ⟨_, rfl⟩
        rw [← hpl] at hc hm hown hk hp96
        have HPLI := Lib.hid hpl
        clear hpl
        by_cases hkl : k < pl
        · obtain ⟨g, cur, epa, hge, hheap, hck⟩ := own_at hown hm k hkl
          subst epa
          have hx := hmo.getD k
          generalize m.getD k 0 = x at hck hx
          have hfr : wr.frozen? ⟨g, k, none⟩ = false := unfrozen hheap
          have HHEAP := Lib.hid hheap
          have hKl : (k : Int) < (pl : Int) := by omega
          clear hheap hm hmo hown
          go_wp2
          go_roundw
          case rel =>
            rw [← HPLI.out]
            refine ⟨k + 1, by simp, by omega, HLQ.out.set ?_ ?_ HHEAP.out, HBQ.out.setCell hge _⟩
            · omega
            · omega
          case measure => rw [← HPLI.out]; simp [intOf]; omega
        · have hKl : ¬ ((k : Int) < (pl : Int)) := by omega
          clear hm hmo hown
          go_wp2
          go_roundw
          case rel => exact ⟨i + 1, by simp, by omega, HLQ, HBQ⟩
          case measure => simp [intOf]; omega
    · have hst := HST.out wr HB.out
      go_wp2_with (go_at_call 16; refine (HA.out _).mono ?_; rintro e w' ⟨rfl, rfl⟩)
      go_ret
      exact ⟨rfl, HB.out⟩
end Go.Proofs.Ytjkbacbofkcipaa
