/- The document's sum. -/
import Derived.Test.YtkojldjgjmaodaaDoorJoin
namespace Go.Proofs.YtkojldjgjmaodaaDoor
open Go.RowKit Go.Proofs.CrcMath
set_option linter.unusedVariables false

set_option maxHeartbeats 1000000 in
theorem rof_walk (b off n cap : Nat) (ps : List (List Int)) (w : World) (hn : n = ps.length) (hn63 : n ≤ 9223372036854775807) (hpos : 0 < n) (ho : ∀ k, Oct (ps.getD k [])) (hlen : ∀ k, (ps.getD k []).length ≤ 9223372036854775807)
    (hc : ∀ k, k < ps.length → ∃ a' cap', w.cell? ⟨b, off + k, none⟩ = some (.slice a' (ps.getD k []).length cap') ∧ Bytes w a' (ps.getD k [])) :
    Calls Tryd.prog 10 #[.slice (some ⟨b, off, none⟩) n cap] w fun e w' => e = .returned (.int .u32 ((crcN ps.flatten : Nat) : Int)) ∧ w = w' := by
  have HC := Lib.hid hc
  have HN := Lib.hid hn
  have HO := Lib.hid ho
  have HLEN := Lib.hid hlen
  clear hc hn ho hlen
  go_enter Tryd.func10, Tryd.ntmps10
  go_wp2
  go_loop [3, 4] (fun r i => ∃ k x : Nat, k ≤ n ∧ i = .int .i64 k ∧ r = .int .u32 x ∧ Hid (x = reg 4294967295 (ps.take k).flatten)) (fun _ i => n - (intOf i).toNat)
  case atStart => exact ⟨0, 4294967295, by omega, rfl, rfl, rfl⟩
  case round =>
    obtain ⟨k, x, hk, rfl, rfl, HX⟩ := hrel
    have hx32 : x < 2 ^ 32 := by rw [HX.out]; exact reg_lt _ (flat_oct ps HO.out k) _ (by decide)
    by_cases hlt : k < n
    · obtain ⟨a', cap', hcell, hBy⟩ := HC.out k (by have := HN.out; omega)
      obtain ⟨l, hl⟩ : ∃ l, l = ps.getD k [] := ⟨_, rfl⟩
      have hl63 := HLEN.out k
      rw [← hl] at hcell hBy hl63
      obtain ⟨m, hm⟩ : ∃ m, m = l.length := ⟨_, rfl⟩
      rw [← hm] at hcell hl63
      have HL := Lib.hid hl
      have HM := Lib.hid hm
      have HBy := Lib.hid hBy
      have HX32 := Lib.hid hx32
      clear hl hm hBy hx32
      by_cases hm0 : m = 0
      · subst hm0
        go_wp2
        refine wp_loop_rounds 1 ?_
        rw [rounds_succ]
        go_wp2
        go_round
        case rel => exact ⟨k + 1, x, by omega, by go_num, rfl, (by
          show _ = _
          rw [flat_snoc _ _ (by have := HN.out; omega), ← HL.out, List.eq_nil_of_length_eq_zero HM.out.symm, List.append_nil]; exact HX.out)⟩
        case measure => simp [intOf]; omega
      · obtain ⟨b2, off2, ha, hcb⟩ := HBy.out.2 (by intro e; have := HM.out; rw [e] at this; simp at this; omega)
        rw [ha] at hcell
        have HCB := Lib.hid hcb
        clear ha hcb
        go_wp2
        go_loop [3, 5] (fun r i => ∃ j y : Nat, j ≤ m ∧ i = .int .i64 j ∧ r = .int .u32 y ∧ Hid (y = reg x (l.take j))) (fun _ i => m - (intOf i).toNat)
        case atStart => exact ⟨0, x, by omega, rfl, rfl, rfl⟩
        case round =>
          obtain ⟨j, y, hj, rfl, rfl, HY⟩ := hrel
          have hy32 : y < 2 ^ 32 := by rw [HY.out]; exact reg_lt _ (HBy.out.1.take j) _ HX32.out
          by_cases hlt2 : j < m
          · have hcj := HCB.out j (by have := HM.out; omega)
            have hc8 := HBy.out.1.getD j
            obtain ⟨c, hcv⟩ : ∃ c : Nat, l.getD j 0 = (c : Int) := ⟨(l.getD j 0).toNat, by omega⟩
            rw [hcv] at hcj
            have hc255 : c ≤ 255 := by omega
            obtain ⟨v, hv⟩ : ∃ v, v = y ^^^ c := ⟨_, rfl⟩
            have hv32 : v < 2 ^ 32 := by rw [hv]; exact Nat.xor_lt_two_pow hy32 (by omega)
            have q1 : bits .xor .u32 (y : Int) (c : Int) = (v : Int) := by rw [hv]; exact u32_xorN y c hy32 (by omega)
            have HF : Hid (shN 8 v = reg x (l.take (j + 1))) := by
              show _ = _
              rw [reg_snoc _ _ _ (by have := HM.out; omega), ← HY.out, hcv, hv]; rfl
            have HV := Lib.hid hv32
            clear hv hcv hc8 hy32 hv32
            go_wp2_with (go_at_call 17; refine (rshift_any v 8 _ HV.out (by omega)).mono ?_; rintro e w' ⟨rfl, rfl⟩)
            go_round
            case rel => exact ⟨j + 1, shN 8 v, by omega, by go_num, rfl, HF⟩
            case measure => simp [intOf]; omega
          · have hjm : j = m := by omega
            subst hjm
            go_wp2
            go_round
            case rel => exact ⟨k + 1, y, by omega, by go_num, rfl, (by
              show _ = _
              rw [flat_snoc _ _ (by have := HN.out; omega), reg_append, ← HX.out, ← HL.out, HY.out, List.take_of_length_le (by rw [HM.out]; exact Nat.le_refl _)])⟩
            case measure => simp [intOf]; omega
    · have hkn : k = n := by omega
      subst hkn
      go_wp2
      go_ret
      refine ⟨?_, rfl⟩
      show Ending.returned (.int .u32 (4294967295 - (x : Int))) = _
      have e : crcN ps.flatten = 4294967295 - x := by
        unfold crcN
        rw [show ps.flatten = (ps.take k).flatten from by rw [List.take_of_length_le (by have := HN.out; omega)], ← HX.out, ones_xor x hx32]
      rw [e, Int.ofNat_sub (by omega)]; rfl

set_option maxHeartbeats 400000 in
theorem rof_empty (a : Option Addr) (cap : Nat) (w : World) :
    Calls Tryd.prog 10 #[.slice a 0 cap] w fun e w' => e = .returned (.int .u32 0) ∧ w = w' := by
  go_enter Tryd.func10, Tryd.ntmps10
  go_wp2
  refine wp_loop_rounds 1 ?_
  rw [rounds_succ]
  go_wp2
  go_ret
  exact ⟨rfl, rfl⟩

theorem rof_any (a : Option Addr) (cap : Nat) (ps : List (List Int)) (w : World) (hn63 : ps.length ≤ 9223372036854775807) (hP : Parts w a ps) :
    Calls Tryd.prog 10 #[.slice a ps.length cap] w fun e w' => e = .returned (.int .u32 ((crcN ps.flatten : Nat) : Int)) ∧ w = w' := by
  by_cases h0 : ps = []
  · subst h0
    refine (rof_empty a cap w).mono ?_
    rintro e w' ⟨rfl, rfl⟩
    exact ⟨rfl, rfl⟩
  · obtain ⟨b, off, rfl, hc⟩ := hP.2.2 h0
    exact rof_walk b off ps.length cap ps w rfl hn63 (by cases ps with | nil => exact absurd rfl h0 | cons => simp) hP.1 hP.2.1 hc

theorem rof_one (w : World) (a : Option Addr) (n cap : Nat) (l : List Int) (t : TypeId) (hn : n = l.length) (hB : Bytes w a l) (hl : l.length ≤ 9223372036854775807) :
    Calls Tryd.prog 10 #[.slice (some ⟨w.heap.size, 0, none⟩) 1 1] (w.alloc (.cells #[.slice a n cap] t)) fun e w' => e = .returned (.int .u32 ((crcN l : Nat) : Int)) ∧ w.alloc (.cells #[.slice a n cap] t) = w' := by
  subst hn
  have h := rof_any (some ⟨w.heap.size, 0, none⟩) 1 [l] (w.alloc (.cells #[.slice a l.length cap] t)) (by simp) (parts_one w a cap l t hB hl)
  have e : ([l] : List (List Int)).flatten = l := by simp
  rw [e] at h
  exact h
end Go.Proofs.YtkojldjgjmaodaaDoor
