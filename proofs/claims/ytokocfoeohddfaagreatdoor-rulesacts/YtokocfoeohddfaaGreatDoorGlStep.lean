/- glob: one byte more. (A template.) -/
import Derived.Test.YtokocfoeohddfaaGreatDoorGlReach
namespace Go.Proofs.YtokocfoeohddfaaGreatDoor.Pa
open Go.RowKit
set_option linter.unusedVariables false
set_option linter.unusedSimpArgs false
set_option maxRecDepth 100000

/-- the world of a step -/
structure SI (w wr : World) (g ga gr go : Nat) (L : List Sg) (T U : Nat → Bool) : Prop where
  out : SetAt wr go 0 U
  res : wr.heap[gr]? = some (.cells #[.int .u64 0, .int .u64 0, .int .u64 0, .int .u64 0] 75)
  gs : GsAt wr g L
  at_ : SetAt wr ga 0 T
  bel : Below gr w wr
theorem stepK_succ (L : List Sg) (T : Nat → Bool) (c k : Nat) {x : Sg} (hx : L[k]? = some x) : stepK L T c (k + 1) = if T k = true ∧ x.S c = true then reachS L (stepK L T c k) (if x.many then k else k + 1) else stepK L T c k := by
  rw [stepK, hx]
set_option maxHeartbeats 8000000 in
theorem step_any (L : List Sg) (g c ga ch : Nat) (T : Nat → Bool) (w : World) (hG : GsAt w g L) (hL : L.length ≤ 100) (hS : SetAt w ga 0 T) (hga : ga < w.heap.size) (hch : ch < 256) :
    Calls Tryz.prog 66 #[.slice (some ⟨g, 0, none⟩) L.length c, .pointer (some ⟨ga, 0, none⟩), .int .u8 (ch : Int)] w fun e w' => e = .returned (.agg #[.int .u64 (wd (stepS L T ch) 0 : Int), .int .u64 (wd (stepS L T ch) 1 : Int), .int .u64 (wd (stepS L T ch) 2 : Int), .int .u64 (wd (stepS L T ch) 3 : Int)]) ∧ Below w.heap.size w w' := by
  obtain ⟨s0, hs0⟩ : ∃ s, s = wd (stepS L T ch) 0 := ⟨_, rfl⟩
  obtain ⟨s1, hs1⟩ : ∃ s, s = wd (stepS L T ch) 1 := ⟨_, rfl⟩
  obtain ⟨s2, hs2⟩ : ∃ s, s = wd (stepS L T ch) 2 := ⟨_, rfl⟩
  obtain ⟨s3, hs3⟩ : ∃ s, s = wd (stepS L T ch) 3 := ⟨_, rfl⟩
  rw [← hs0, ← hs1, ← hs2, ← hs3]
  have HSS := Lib.hid (And.intro hs0 (And.intro hs1 (And.intro hs2 hs3)))
  clear hs0 hs1 hs2 hs3
  obtain ⟨gr, hgr⟩ : ∃ gr, gr = w.heap.size := ⟨_, rfl⟩
  have hglt := hG.lt
  obtain ⟨w2, hw2⟩ : ∃ w2, w2 = (w.alloc (.cells #[.int .u64 0, .int .u64 0, .int .u64 0, .int .u64 0] 75)).alloc (.cells #[.int .u64 0, .int .u64 0, .int .u64 0, .int .u64 0] 75) := ⟨_, rfl⟩
  have hb2 : Below gr w w2 := by rw [hw2, hgr]; exact ((Below.refl _ _).alloc (Nat.le_refl _) _).alloc (by simp) _
  have HI0 : Hid (SI w w2 g ga gr (gr + 1) L T noneS) := by
    refine ⟨?_, ?_, hG.later hb2 (by omega), hS.later hb2 (by omega), hb2⟩
    · have := set_zero (w.alloc (.cells #[.int .u64 0, .int .u64 0, .int .u64 0, .int .u64 0] 75))
      rw [World.size_alloc] at this
      rw [hw2, hgr]; exact this
    · rw [hw2, Below.heap_alloc _ _ _ (by simp; omega), hgr]; exact heap_new _ _
  have HGA : Hid (g ≠ gr + 1 ∧ ga ≠ gr + 1 ∧ g ≠ gr) := by show _ ∧ _; omega
  have HLL := Lib.hid hL
  have HGR := Lib.hid hgr
  have HWW := Lib.hid hw2
  clear hG hS hga hglt hb2 hgr
  rw [← HGR.out]
  have HRCH : Hid (∀ W U i, SI w W g ga gr (gr + 1) L T U → i ≤ L.length → Calls Tryz.prog 65 #[.slice (some ⟨g, 0, none⟩) L.length c, .pointer (some ⟨gr + 1, 0, none⟩), .int .i64 ((i : Nat) : Int)] W fun e w' => e = .returned (.tuple #[]) ∧ SI w w' g ga gr (gr + 1) L T (reachS L U i)) := by
    intro W U i h hi
    refine (reach_any L g c (gr + 1) i U W h.gs HLL.out hi h.out HGA.out.1).mono ?_
    rintro e w' ⟨h1, h2, h3⟩
    refine ⟨h1, h2, (h3.block gr (by omega)).trans h.res, h.gs.but h3 HGA.out.1, h.at_.but h3 HGA.out.2.1, h.bel.trans (h3.below (by omega))⟩
  go_enter Tryz.func66, Tryz.ntmps66
  go_wp2
  rw [← HGR.out, ← HWW.out]
  clear hw2 HWW
  go_loopw [11] (fun v wr => ∃ k : Nat, v = .int .i64 k ∧ Hid (k ≤ L.length) ∧ Hid (SI w wr g ga gr (gr + 1) L T (stepK L T ch k))) (fun v _ => L.length - (intOf v).toNat)
  case atStart => exact ⟨0, rfl, Nat.zero_le _, HI0⟩
  case round =>
    clear HI0
    obtain ⟨k, rfl, HK, HI⟩ := hrel
    by_cases hk : k < L.length
    · have hIk : (k : Int) < (L.length : Int) := by omega
      obtain ⟨x, hx⟩ : ∃ x, L[k]? = some x := ⟨_, List.getElem?_eq_getElem hk⟩
      have hLL := HLL.out
      have hw8 : IntKind.u8.wrap (k : Int) = (k : Int) := by simp [IntKind.wrap, IntKind.bits, IntKind.signed]; omega
      have hw1 : IntKind.i64.wrap ((k : Int) + 1) = (k : Int) + 1 := IntWalk.i64_in _ (by omega)
      have HH1 := Lib.hid (has_set T ga 0 k wr (by omega) HI.out.at_)
      have HSK : Hid (stepK L T ch (k + 1) = if T k = true ∧ x.S ch = true then reachS L (stepK L T ch k) (if x.many then k else k + 1) else stepK L T ch k) := stepK_succ L T ch k hx
      have HKL := Lib.hid hk
      cases ht : T k with
      | false =>
        rw [ht] at HH1
        have HS2 : Hid (stepK L T ch (k + 1) = stepK L T ch k) := by show _ = _; rw [HSK.out, if_neg (by rw [ht]; simp)]
        clear hk hx hLL ht HSK
        go_wp2_with (go_at_call 67; refine HH1.out.mono ?_; rintro e w3 ⟨rfl, rfl⟩)
        go_roundw
        case rel => exact ⟨k + 1, by go_num, by show _ ≤ _; have := HKL.out; omega, by rw [HS2.out]; exact HI⟩
        case measure => have := HKL.out; simp [intOf]; omega
      | true =>
        rw [ht] at HH1
        have HH2 := Lib.hid (has_set x.S g (k * 7) ch wr hch (HI.out.gs.set hx))
        cases hin : x.S ch with
        | false =>
          rw [hin] at HH2
          have HS2 : Hid (stepK L T ch (k + 1) = stepK L T ch k) := by show _ = _; rw [HSK.out, if_neg (by rw [hin]; simp)]
          clear hk hx hLL ht hin HSK
          go_wp2_with (first
            | (go_at_call 67; with_reducible refine HH1.out.mono ?_; rintro e w3 ⟨rfl, rfl⟩)
            | (go_at_call 67; refine HH2.out.mono ?_; rintro e w3 ⟨rfl, rfl⟩))
          go_roundw
          case rel => exact ⟨k + 1, by go_num, by show _ ≤ _; have := HKL.out; omega, by rw [HS2.out]; exact HI⟩
          case measure => have := HKL.out; simp [intOf]; omega
        | true =>
          rw [hin] at HH2
          have hcm := HI.out.gs.many hx
          cases hm : x.many with
          | true =>
            rw [hm] at hcm
            have HS2 : Hid (stepK L T ch (k + 1) = reachS L (stepK L T ch k) k) := by show _ = _; rw [HSK.out, if_pos ⟨ht, hin⟩, hm]; rfl
            have HRC := Lib.hid (HRCH.out wr _ k HI.out HK.out)
            clear hk hx hLL ht hin HSK hm
            go_wp2_with (first
              | (go_at_call 67; with_reducible refine HH1.out.mono ?_; rintro e w3 ⟨rfl, rfl⟩)
              | (go_at_call 67; refine HH2.out.mono ?_; rintro e w3 ⟨rfl, rfl⟩)
              | (go_at_call 65; refine HRC.out.mono ?_; rintro e w3 ⟨rfl, hi3⟩; have HI3 := Lib.hid hi3; clear hi3))
            go_roundw
            case rel => exact ⟨k + 1, by go_num, by show _ ≤ _; have := HKL.out; omega, by rw [HS2.out]; exact HI3⟩
            case measure => have := HKL.out; simp [intOf]; omega
          | false =>
            rw [hm] at hcm
            have HS2 : Hid (stepK L T ch (k + 1) = reachS L (stepK L T ch k) (k + 1)) := by show _ = _; rw [HSK.out, if_pos ⟨ht, hin⟩, hm]; rfl
            have hrc := HRCH.out wr _ (k + 1) HI.out HKL.out
            rw [show ((k + 1 : Nat) : Int) = (k : Int) + 1 from by omega] at hrc
            have HRC := Lib.hid hrc
            clear hk hx hLL ht hin HSK hm hrc
            go_wp2_with (first
              | (go_at_call 67; with_reducible refine HH1.out.mono ?_; rintro e w3 ⟨rfl, rfl⟩)
              | (go_at_call 67; refine HH2.out.mono ?_; rintro e w3 ⟨rfl, rfl⟩)
              | (go_at_call 65; refine HRC.out.mono ?_; rintro e w3 ⟨rfl, hi3⟩; have HI3 := Lib.hid hi3; clear hi3))
            go_roundw
            case rel => exact ⟨k + 1, by go_num, by show _ ≤ _; have := HKL.out; omega, by rw [HS2.out]; exact HI3⟩
            case measure => have := HKL.out; simp [intOf]; omega
    · have hIk : ¬ (k : Int) < (L.length : Int) := by omega
      have hke : k = L.length := by have := HK.out; omega
      have HI2 : Hid (SI w wr g ga gr (gr + 1) L T (stepS L T ch)) := by show SI _ _ _ _ _ _ _ _ _; unfold stepS; rw [← hke]; exact HI.out
      clear hk HI HK
      have k0 := HI2.out.out.cell 0 (by omega)
      have k1 := HI2.out.out.cell 1 (by omega)
      have k2 := HI2.out.out.cell 2 (by omega)
      have k3 := HI2.out.out.cell 3 (by omega)
      simp only [Nat.zero_add] at k0 k1 k2 k3
      rw [← HSS.out.1] at k0
      rw [← HSS.out.2.1] at k1
      rw [← HSS.out.2.2.1] at k2
      rw [← HSS.out.2.2.2] at k3
      have hr := HI2.out.res
      have j0 : wr.cell? ⟨gr, 0, none⟩ = some (.int .u64 0) := by rw [cell_of_row _ _ 0 _ _ (0, 0) hr]; rfl
      have j1 : wr.cell? ⟨gr, 1, none⟩ = some (.int .u64 0) := by rw [cell_of_row _ _ 1 _ _ (0, 0) hr]; rfl
      have j2 : wr.cell? ⟨gr, 2, none⟩ = some (.int .u64 0) := by rw [cell_of_row _ _ 2 _ _ (0, 0) hr]; rfl
      have j3 : wr.cell? ⟨gr, 3, none⟩ = some (.int .u64 0) := by rw [cell_of_row _ _ 3 _ _ (0, 0) hr]; rfl
      have f0 : wr.frozen? ⟨gr, 0, none⟩ = false := unfrozen hr
      have f1 : wr.frozen? ⟨gr, 1, none⟩ = false := unfrozen hr
      have f2 : wr.frozen? ⟨gr, 2, none⟩ = false := unfrozen hr
      have f3 : wr.frozen? ⟨gr, 3, none⟩ = false := unfrozen hr
      have HR := Lib.hid hr
      clear hr hke
      go_wp2
      try simp only [Exit.inBlock, Exit.then]
      refine bodyPost_ret (v := .agg #[.int .u64 (s0 : Int), .int .u64 (s1 : Int), .int .u64 (s2 : Int), .int .u64 (s3 : Int)]) (results_cell_row (p := 6) rfl _ _ gr 75 #[.int .u64 (s0 : Int), .int .u64 (s1 : Int), .int .u64 (s2 : Int), .int .u64 (s3 : Int)] (0, 0) _ rfl (by simpa using row_set (row_set (row_set (row_set HR.out 0 (.int .u64 (s0 : Int))) 1 (.int .u64 (s1 : Int))) 2 (.int .u64 (s2 : Int))) 3 (.int .u64 (s3 : Int))) Tryz.underlying75 rfl (by kernel_rfl)) rfl ?_
      exact ⟨rfl, (((HI2.out.bel.setCell (Nat.le_refl _) _).setCell (Nat.le_refl _) _).setCell (Nat.le_refl _) _).setCell (Nat.le_refl _) _⟩
end Go.Proofs.YtokocfoeohddfaaGreatDoor.Pa
