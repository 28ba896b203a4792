/- sig.Check, and the document's. -/
import Derived.Test.YtkppnbehkmpogaaDoorBRCut
import Derived.BigQuiet
namespace Go.Proofs.YtkppnbehkmpogaaDoor
open Go.RowKit Go.Shelf Go.Proofs.BlkMath Go.Proofs.RangeLaw
set_option linter.unusedVariables false
set_option maxRecDepth 100000

theorem box4 (w : World) (x0 x1 x2 x3 : Value) (t : TypeId) : (w.alloc (.cells #[x0, x1, x2, x3] t)).cell? ⟨w.heap.size, 0, none⟩ = some x0 ∧ (w.alloc (.cells #[x0, x1, x2, x3] t)).cell? ⟨w.heap.size, 1, none⟩ = some x1 ∧ (w.alloc (.cells #[x0, x1, x2, x3] t)).cell? ⟨w.heap.size, 2, none⟩ = some x2 ∧ (w.alloc (.cells #[x0, x1, x2, x3] t)).cell? ⟨w.heap.size, 3, none⟩ = some x3 := by
  have hh := heap_new w (.cells #[x0, x1, x2, x3] t)
  refine ⟨?_, ?_, ?_, ?_⟩ <;> (simp only [World.cell?, hh]; rfl)
def sigV (sz blk st : Int) (m : Value) : Value := .agg #[.int .i64 sz, .int .i64 blk, .int .i64 st, m]

theorem rightStrength_any (st : Int) (w : World) :
    Calls Tryd.prog 30 #[.int .i64 st] w fun e w' => e = .returned (.bool (decide (1 ≤ st ∧ st ≤ 32))) ∧ w = w' := by
  by_cases h1 : 1 ≤ st
  · by_cases h2 : st ≤ 32
    · rw [decide_eq_true (show 1 ≤ st ∧ st ≤ 32 from ⟨h1, h2⟩)]
      go_enter Tryd.func30, Tryd.ntmps30
      go_wp2
      go_ret
      exact ⟨rfl, rfl⟩
    · rw [decide_eq_false (show ¬ (1 ≤ st ∧ st ≤ 32) from fun h => h2 h.2)]
      go_enter Tryd.func30, Tryd.ntmps30
      go_wp2
      go_ret
      exact ⟨rfl, rfl⟩
  · rw [decide_eq_false (show ¬ (1 ≤ st ∧ st ≤ 32) from fun h => h1 h.1)]
    go_enter Tryd.func30, Tryd.ntmps30
    go_wp2
    go_ret
    exact ⟨rfl, rfl⟩

/-- what is wrong with a signature's numbers -/
def numE (sz blk st : Int) : Int := if (1 ≤ st ∧ st ≤ 32) ∧ Rt sz blk then 0 else 2

set_option maxHeartbeats 1000000 in
theorem checkNumbers_any (sz blk st : Int) (m : Value) (w : World) (hm : m.oneCell' = true) :
    Calls Tryd.prog 44 #[sigV sz blk st m] w fun e w' => e = .returned (.int .i64 (numE sz blk st)) ∧ Below w.heap.size w w' := by
  have h1 := fun W => rightStrength_any st W
  have h2 := fun W => right_any sz blk W
  obtain ⟨r, hr⟩ : ∃ r, r = numE sz blk st := ⟨_, rfl⟩
  rw [← hr]
  by_cases c1 : 1 ≤ st ∧ st ≤ 32
  · by_cases c2 : Rt sz blk
    · rw [decide_eq_true c1] at h1
      rw [decide_eq_true c2] at h2
      have HV : Hid (r = 0) := by show _ = _; rw [hr, numE, if_pos ⟨c1, c2⟩]
      have H1 := Lib.hid h1
      have H2 := Lib.hid h2
      clear h1 h2 c1 c2 hr
      unfold sigV
      go_enter Tryd.func44, Tryd.ntmps44
      go_wp2_with (first | (go_at_call 30; refine (H1.out _).mono ?_; rintro e w' ⟨rfl, rfl⟩) | (go_at_call 31; refine (H2.out _).mono ?_; rintro e w' ⟨rfl, rfl⟩))
      go_ret
      exact ⟨by rw [HV.out]; rfl, (Below.refl _ _).alloc (Nat.le_refl _) _⟩
    · rw [decide_eq_true c1] at h1
      rw [decide_eq_false c2] at h2
      have HV : Hid (r = 2) := by show _ = _; rw [hr, numE, if_neg (fun h => c2 h.2)]
      have H1 := Lib.hid h1
      have H2 := Lib.hid h2
      clear h1 h2 c1 c2 hr
      unfold sigV
      go_enter Tryd.func44, Tryd.ntmps44
      go_wp2_with (first | (go_at_call 30; refine (H1.out _).mono ?_; rintro e w' ⟨rfl, rfl⟩) | (go_at_call 31; refine (H2.out _).mono ?_; rintro e w' ⟨rfl, rfl⟩))
      go_ret
      exact ⟨by rw [HV.out]; rfl, (Below.refl _ _).alloc (Nat.le_refl _) _⟩
  · rw [decide_eq_false c1] at h1
    have HV : Hid (r = 2) := by show _ = _; rw [hr, numE, if_neg (fun h => c1 h.1)]
    have H1 := Lib.hid h1
    clear h1 h2 c1 hr
    unfold sigV
    go_enter Tryd.func44, Tryd.ntmps44
    go_wp2_with (go_at_call 30; refine (H1.out _).mono ?_; rintro e w' ⟨rfl, rfl⟩)
    go_ret
    exact ⟨by rw [HV.out]; rfl, (Below.refl _ _).alloc (Nat.le_refl _) _⟩

/-- marks: rolling sums, strong bytes -/
abbrev Mk := Int × ByteArray
def mkD : Mk := (0, ByteArray.empty)
def Marks (w : World) (a : Option Addr) (ms : List Mk) : Prop :=
  (∀ m ∈ ms, 0 ≤ m.1 ∧ m.1 ≤ 4294967295) ∧ (ms ≠ [] → ∃ b off, a = some ⟨b, off, none⟩ ∧ ∀ i, i < ms.length → w.cell? ⟨b, off + i * 2, none⟩ = some (.int .u32 (ms.getD i mkD).1) ∧ w.cell? ⟨b, off + i * 2 + 1, none⟩ = some (.string (ms.getD i mkD).2))
theorem Marks.later {w w' : World} {a : Option Addr} {ms : List Mk} (h : Marks w a ms) (hb : Below w.heap.size w w') : Marks w' a ms :=
  ⟨h.1, fun hne => by
    obtain ⟨b, off, e, hc⟩ := h.2 hne
    exact ⟨b, off, e, fun i hi => ⟨cell_later hb (hc i hi).1, cell_later hb (hc i hi).2⟩⟩⟩

/-- whether a signature may be -/
def chkE (sz blk st : Int) (ms : List Mk) : Int := if numE sz blk st = 0 then (if (ms.length : Int) = cntB sz blk then (if ∀ m ∈ ms, (m.2.size : Int) = st then 0 else 5) else 5) else 2

theorem numE_cases (sz blk st : Int) : numE sz blk st = 0 ∨ numE sz blk st = 2 := by unfold numE; split <;> simp

set_option maxHeartbeats 4000000 in
theorem check_any (sz blk st : Int) (a : Option Addr) (cap : Nat) (ms : List Mk) (w : World) (hM : Marks w a ms) (hl : ms.length ≤ 9223372036854775807) (hs : ∀ m ∈ ms, m.2.size ≤ 9223372036854775807) :
    Calls Tryd.prog 17 #[sigV sz blk st (.slice a ms.length cap)] w fun e w' => e = .returned (.int .i64 (chkE sz blk st ms)) ∧ Below w.heap.size w w' := by
  have HN : Hid (∀ W, Calls Tryd.prog 44 #[sigV sz blk st (.slice a ms.length cap)] W fun e w' => e = .returned (.int .i64 (numE sz blk st)) ∧ Below W.heap.size W w') := fun W => checkNumbers_any sz blk st _ W rfl
  obtain ⟨r, hr⟩ : ∃ r, r = chkE sz blk st ms := ⟨_, rfl⟩
  rw [← hr]
  obtain ⟨n, hn⟩ : ∃ n, n = ms.length := ⟨_, rfl⟩
  obtain ⟨W0, hW0⟩ : ∃ W0, W0 = w.alloc (Obj.cells #[Value.int IntKind.i64 sz, Value.int IntKind.i64 blk, Value.int IntKind.i64 st, .slice a n cap] 26) := ⟨_, rfl⟩
  have hb0 : Below w.heap.size w W0 := by rw [hW0]; exact (Below.refl _ _).alloc (Nat.le_refl _) _
  rcases numE_cases sz blk st with h0 | h0
  · rw [h0] at HN
    have hcE := fun W => count_any sz blk W
    have hcb := cntB_bd sz blk
    by_cases hc : (ms.length : Int) = cntB sz blk
    · rw [← hc] at hcE
      rw [← hn] at hcE HN ⊢
      unfold sigV at *
      have HC : Hid (∀ W, Calls Tryd.prog 45 #[.int .i64 sz, .int .i64 blk] W fun e w' => e = .returned (.int .i64 n) ∧ w' = W) := fun W => (hcE W).mono fun e w' h => ⟨h.1, h.2.symm⟩
      have HR : Hid (r = if ∀ m ∈ ms, (m.2.size : Int) = st then 0 else 5) := by show _ = _; rw [hr, chkE, if_pos h0, if_pos hc]
      have HM := Lib.hid hM
      have HN' := Lib.hid hn
      have HS := Lib.hid hs
      rw [← hn] at hl
      clear hcE hr hc hn hM hcb hs h0
      go_enter Tryd.func17, Tryd.ntmps17
      go_wp2_with (go_at_call 44; refine (HN.out _).mono ?_; rintro e w1 ⟨rfl, hb1⟩)
      rw [← hW0] at hb1
      have hbw : Below w.heap.size w w1 := hb0.trans (hb1.mono hb0.size)
      have hz1 := hbw.size
      have hz0 : w.heap.size < w1.heap.size := by have := hb1.size; rw [hW0] at this; simp at this; omega
      have c0 : w1.cell? ⟨w.heap.size, 0, none⟩ = some (.int .i64 sz) := cell_later hb1 (by rw [hW0]; exact (box4 _ _ _ _ _ _).1)
      have c1 : w1.cell? ⟨w.heap.size, 1, none⟩ = some (.int .i64 blk) := cell_later hb1 (by rw [hW0]; exact (box4 _ _ _ _ _ _).2.1)
      have c2 : w1.cell? ⟨w.heap.size, 2, none⟩ = some (.int .i64 st) := cell_later hb1 (by rw [hW0]; exact (box4 _ _ _ _ _ _).2.2.1)
      have c3 : w1.cell? ⟨w.heap.size, 3, none⟩ = some (.slice a n cap) := cell_later hb1 (by rw [hW0]; exact (box4 _ _ _ _ _ _).2.2.2)
      have HBW := Lib.hid hbw
      clear hb0 hb1 hW0 hbw
      go_quiet (first | (go_at_call 45; exact Calls.quiet_of_same (HC.out _)))
      have d2 : (w1.drewN nq).cell? ⟨w.heap.size, 2, none⟩ = some (.int .i64 st) := c2
      have d3 : (w1.drewN nq).cell? ⟨w.heap.size, 3, none⟩ = some (.slice a n cap) := c3
      have hb2 : Below w.heap.size w (w1.drewN nq) := ⟨HBW.out.os, HBW.out.tape, HBW.out.output, HBW.out.size, HBW.out.block⟩
      have HM2 : Hid (Marks (w1.drewN nq) a ms) := HM.out.later hb2
      have HB2 := Lib.hid hb2
      generalize w1.drewN nq = w2 at d2 d3 HM2 HB2
      clear c0 c1 c2 c3 hb2 HBW hz0 hz1 HM HC HN
      go_wp2
      go_loopw [23] (fun i wr => ∃ k : Nat, i = .int .i64 k ∧ k ≤ n ∧ Hid (∀ j, j < k → ((ms.getD j mkD).2.size : Int) = st) ∧ Below w2.heap.size w2 wr) (fun i _ => n - (intOf i).toNat)
      case atStart => exact ⟨0, rfl, by omega, (fun j hj => by omega), Below.refl _ _⟩
      case round =>
        obtain ⟨k, rfl, hk, HJ, hbel⟩ := hrel
        have d2' := cell_later hbel d2
        by_cases hlt : k < n
        · have hlt2 : (k : Int) < (n : Int) := by omega
          have hne : ms ≠ [] := by intro e; have := HN'.out; rw [e] at this; simp at this; omega
          obtain ⟨b, off, ea, hcell⟩ := HM2.out.2 hne
          subst ea
          have x0 := cell_later hbel (hcell k (by rw [← HN'.out]; exact hlt)).1
          have x1 := cell_later hbel (hcell k (by rw [← HN'.out]; exact hlt)).2
          have hsk : (ms.getD k mkD).2.size ≤ 9223372036854775807 := HS.out _ (by
            have hk2 : k < ms.length := by rw [← HN'.out]; exact hlt
            rw [List.getD_eq_getElem?_getD, List.getElem?_eq_getElem hk2]; exact List.getElem_mem hk2)
          obtain ⟨sk, hsk'⟩ : ∃ sk, sk = (ms.getD k mkD).2 := ⟨_, rfl⟩
          obtain ⟨xk, hxk'⟩ : ∃ xk, xk = (ms.getD k mkD).1 := ⟨_, rfl⟩
          rw [← hxk'] at x0
          rw [← hsk'] at x1 hsk
          have HBL := Lib.hid hbel
          have HSK := Lib.hid hsk'
          clear hbel hcell hxk' hsk' HM2 d2 d3
          have e2 : ∀ o, (wr.alloc o).cell? ⟨w.heap.size, 2, none⟩ = some (.int .i64 st) := fun o => by exact cell_later ((Below.refl _ _).alloc (Nat.le_refl _) o) d2'
          by_cases hst : (sk.size : Int) = st
          · subst hst
            go_wp2
            go_roundw
            case rel =>
              refine ⟨k + 1, by go_num, by omega, fun j hj => ?_, HBL.out.alloc HBL.out.size _⟩
              by_cases hj2 : j < k
              · exact HJ.out j hj2
              · have : j = k := by omega
                rw [this, ← HSK.out]
            case measure => simp [intOf]; omega
          · have HV : Hid (r = 5) := by
              show _ = _
              rw [HR.out, if_neg]
              intro h
              have hk2 : k < ms.length := by rw [← HN'.out]; exact hlt
              have := h (ms.getD k mkD) (by rw [List.getD_eq_getElem?_getD, List.getElem?_eq_getElem hk2]; exact List.getElem_mem hk2)
              rw [← HSK.out] at this
              exact hst this
            go_wp2
            go_ret
            exact ⟨by rw [HV.out]; rfl, HB2.out.trans ((HBL.out.alloc HBL.out.size _).mono HB2.out.size)⟩
        · have hkk : ¬ (k : Int) < (n : Int) := by omega
          have HV : Hid (r = 0) := by
            show _ = _
            rw [HR.out, if_pos]
            intro m hm
            obtain ⟨j, hj, e⟩ := List.mem_iff_getElem.1 hm
            have := HJ.out j (by have := HN'.out; omega)
            rw [List.getD_eq_getElem?_getD, List.getElem?_eq_getElem hj] at this
            rw [← e]; exact this
          have HBL := Lib.hid hbel
          clear hbel d2 d3
          go_wp2
          go_ret
          exact ⟨by rw [HV.out]; rfl, HB2.out.trans (HBL.out.mono HB2.out.size)⟩
    · have HV : Hid (r = 5) := by show _ = _; rw [hr, chkE, if_pos h0, if_neg hc]
      obtain ⟨c, hcc⟩ : ∃ c, c = cntB sz blk := ⟨_, rfl⟩
      rw [← hcc] at hcE hcb hc
      rw [← hn] at hc HN ⊢
      unfold sigV at *
      have HC : Hid (∀ W, Calls Tryd.prog 45 #[.int .i64 sz, .int .i64 blk] W fun e w' => e = .returned (.int .i64 c) ∧ w' = W) := fun W => (hcE W).mono fun e w' h => ⟨h.1, h.2.symm⟩
      rw [← hn] at hl
      clear hcE hr hn hM hs h0 hcc
      go_enter Tryd.func17, Tryd.ntmps17
      go_wp2_with (go_at_call 44; refine (HN.out _).mono ?_; rintro e w1 ⟨rfl, hb1⟩)
      rw [← hW0] at hb1
      have hbw : Below w.heap.size w w1 := hb0.trans (hb1.mono hb0.size)
      have c0 : w1.cell? ⟨w.heap.size, 0, none⟩ = some (.int .i64 sz) := cell_later hb1 (by rw [hW0]; exact (box4 _ _ _ _ _ _).1)
      have c1 : w1.cell? ⟨w.heap.size, 1, none⟩ = some (.int .i64 blk) := cell_later hb1 (by rw [hW0]; exact (box4 _ _ _ _ _ _).2.1)
      have c3 : w1.cell? ⟨w.heap.size, 3, none⟩ = some (.slice a n cap) := cell_later hb1 (by rw [hW0]; exact (box4 _ _ _ _ _ _).2.2.2)
      have HBW := Lib.hid hbw
      clear hb0 hb1 hW0 hbw
      go_quiet (first | (go_at_call 45; exact Calls.quiet_of_same (HC.out _)))
      have hb2 : Below w.heap.size w (w1.drewN nq) := ⟨HBW.out.os, HBW.out.tape, HBW.out.output, HBW.out.size, HBW.out.block⟩
      have HB2 := Lib.hid hb2
      clear c0 c1 c3 hb2 HBW
      go_wp2
      go_ret
      exact ⟨by rw [HV.out]; rfl, HB2.out⟩
  · rw [h0] at HN
    have HV : Hid (r = 2) := by show _ = _; rw [hr, chkE, h0, if_neg (by omega)]
    rw [← hn] at HN ⊢
    unfold sigV at *
    clear hr hn hM hs h0 hl
    go_enter Tryd.func17, Tryd.ntmps17
    go_wp2_with (go_at_call 44; refine (HN.out _).mono ?_; rintro e w1 ⟨rfl, hb1⟩)
    rw [← hW0] at hb1
    go_ret
    exact ⟨by rw [HV.out]; rfl, hb0.trans (hb1.mono hb0.size)⟩
end Go.Proofs.YtkppnbehkmpogaaDoor
