/- glob: the document's Escape, and whether a sign takes a byte. (A template.) -/
import Derived.Test.YtokocfoeohddfaaDoorGlRSmall
import Derived.BigQuiet
namespace Go.Proofs.YtokocfoeohddfaaDoor.Pa
open Go.RowKit
set_option linter.unusedVariables false
set_option linter.unusedSimpArgs false
set_option maxRecDepth 1000000

theorem bel_drewN {B : Nat} {w W : World} (h : Below B w W) (n : Nat) : Below B w (W.drewN n) := ⟨h.os, h.tape, h.output, h.size, h.block⟩
theorem ints_app (a b : L8) : ints (a ++ b) = ints a ++ ints b := by simp [ints]
set_option maxHeartbeats 8000000 in
theorem rescape_any (s : L8) (w : World) (hs : s.length ≤ 1000000) :
    Calls Tryd.prog 20 #[.string (mk s)] w fun e w' => e = .returned (.string (mk (escB s))) ∧ Below w.heap.size w w' := by
  have hz : (mk s).size = s.length := mk_size s
  have HZ := Lib.hid hz
  have HSL := Lib.hid hs
  clear hz hs
  go_enter Tryd.func20, Tryd.ntmps20
  go_wp2
  go_loopw [3, 4] (fun v i wr => ∃ k : Nat, i = .int .i64 k ∧ (∃ a n c, v = .slice a n c) ∧ Hid (k ≤ s.length) ∧ Hid (Own wr w.heap.size v (ints (escB (s.take k)))) ∧ Hid (Below w.heap.size w wr)) (fun _ i _ => s.length - (intOf i).toNat)
  case atStart => exact ⟨0, rfl, ⟨none, 0, 0, rfl⟩, Nat.zero_le _, Own.nil _ _, Below.refl _ _⟩
  case round =>
    obtain ⟨k, rfl, ⟨a3, n3, c3, rfl⟩, HK, HO, HB⟩ := hrel
    by_cases hk : k < s.length
    · have hIk : (k : Int) < ((mk s).size : Int) := by rw [HZ.out]; omega
      obtain ⟨c, hc⟩ : ∃ c, s[k]? = some c := ⟨_, List.getElem?_eq_getElem hk⟩
      have hx := run_at s k hk
      have hSL := HSL.out
      have hw1 : IntKind.i64.wrap ((k : Int) + 1) = (k : Int) + 1 := IntWalk.i64_in _ (by omega)
      have q1 : (bt s k == 63) = (c == 63) := bt_special hc 63
      have q2 : (bt s k == 42) = (c == 42) := bt_special hc 42
      have q3 : (bt s k == 91) = (c == 91) := bt_special hc 91
      have q4 : (bt s k == 92) = (c == 92) := bt_special hc 92
      have hbt : bt s k = (c.toNat : Int) := bt_of hc
      have HN : Hid (escB (s.take (k + 1)) = escB (s.take k) ++ escC c) := escB_snoc hc
      have HKL := Lib.hid hk
      have hel := escB_len (s.take k)
      rw [List.length_take] at hel
      have hil : (ints (escB (s.take k))).length ≤ 2000000 := by unfold ints; rw [List.length_map]; omega
      have HIL := Lib.hid hil
      rw [hbt] at hx q1 q2 q3 q4
      have hc8 := c.toNat_lt
      obtain ⟨ci, hci⟩ : ∃ ci : Int, ci = (c.toNat : Int) := ⟨_, rfl⟩
      rw [← hci] at hx q1 q2 q3 q4
      have HCI : Hid (0 ≤ ci ∧ ci ≤ 255) := by show _ ∧ _; omega
      have HCV : Hid (ints [c] = [ci]) := by show _ = _; rw [hci]; rfl
      clear hk hel hbt hc hil hc8 hci
      go_upto_region 5 with (fail)
      go_cut [32] (fun v wx => v = .bool (special c) ∧ wr = wx)
      case first =>
        cases h1 : c == 63 with
        | true =>
          rw [h1] at q1
          clear hSL q2 q3 q4
          go_wp2
          go_meet
          exact ⟨by unfold special; simp [*], rfl⟩
        | false =>
          rw [h1] at q1
          cases h2 : c == 42 with
          | true =>
            rw [h2] at q2
            clear hSL q3 q4
            go_wp2
            go_meet
            exact ⟨by unfold special; simp [*], rfl⟩
          | false =>
            rw [h2] at q2
            cases h3 : c == 91 with
            | true =>
              rw [h3] at q3
              clear hSL q4
              go_wp2
              go_meet
              exact ⟨by unfold special; simp [*], rfl⟩
            | false =>
              rw [h3] at q3
              cases h4 : c == 92 with
              | true =>
                rw [h4] at q4
                clear hSL
                go_wp2
                go_meet
                exact ⟨by unfold special; simp [*], rfl⟩
              | false =>
                rw [h4] at q4
                clear hSL
                go_wp2
                go_meet
                exact ⟨by unfold special; simp [*], rfl⟩
      case rest =>
      obtain ⟨rfl, rfl⟩ := hcut
      clear q1 q2 q3 q4 hSL
      go_upto_if 32 with (fail)
      go_cut [3] (fun v wx => (∃ a n c, v = .slice a n c) ∧ Hid (Own wx w.heap.size v (ints (escB (s.take k)) ++ if special c then [92] else [])) ∧ Hid (Below w.heap.size w wx))
      case first =>
        cases hsp : special c with
        | false =>
          have HO2 : Hid (Own wr w.heap.size (.slice a3 n3 c3) (ints (escB (s.take k)) ++ if false = true then [92] else [])) := by show Own _ _ _ _; simpa using HO.out
          go_wp2
          go_meet
          exact ⟨⟨_, _, _, rfl⟩, by rw [hsp]; show Own _ _ _ _; simpa using HO.out, HB⟩
        | true =>
          have hb3 : Below wr.heap.size wr (wr.alloc (.cells #[.int .u8 92] 5)) := (Below.refl _ _).alloc (Nat.le_refl _) _
          have HO3 := Lib.hid (HO.out.below hb3)
          have HB3 := Lib.hid (HB.out.trans (hb3.mono HB.out.size))
          have HSL1 := Lib.hid (one_sl wr 92 (by omega) (by omega))
          have HSZ : Hid (w.heap.size ≤ (wr.alloc (.cells #[.int .u8 92] 5)).heap.size) := HB3.out.size
          have HLN : Hid ((ints (escB (s.take k))).length + [(92 : Int)].length ≤ 140737488355328) := by show _ ≤ _; have := HIL.out; simp; omega
          clear hb3
          go_wp2_with (at_builtin; go_must (refine append_sl rfl (.tmp 33) (.tmp 34) rfl w.heap.size (.slice a3 n3 c3) (.slice (some ⟨wr.heap.size, 0, none⟩) 1 1) (ints (escB (s.take k))) [92] rfl HO3.out rfl HSL1.out HLN.out HSZ.out ?_); intro v5 w5 HO5 hb5; have HB5 := Lib.hid (HB3.out.trans hb5); clear hb5)
          obtain ⟨a5, c5, rfl⟩ := own_form HO5.out
          go_meet
          exact ⟨⟨_, _, _, rfl⟩, by rw [hsp]; exact HO5, HB5⟩
      case rest =>
      obtain ⟨⟨a4, n4, c4, rfl⟩, HO4, HB4⟩ := hcut
      have HIE : Hid (ints (escB (s.take (k + 1))) = ints (escB (s.take k)) ++ (if special c then [92] else []) ++ [ci]) := by
        show _ = _
        rw [HN.out, ints_app]
        unfold escC
        cases special c
        · simp only [Bool.false_eq_true, if_false, List.append_nil]; rw [HCV.out]
        · simp only [if_true]; rw [show ([92, c] : L8) = [92] ++ [c] from rfl, ints_app, HCV.out, List.append_assoc]; rfl
      obtain ⟨J, hJ⟩ : ∃ J, J = ints (escB (s.take k)) ++ (if special c then [92] else []) := ⟨_, rfl⟩
      have hJl : J.length ≤ 2000001 := by rw [hJ, List.length_append]; have := HIL.out; split <;> simp <;> omega
      rw [← hJ] at HO4 HIE
      have hb3 : Below wc.heap.size wc (wc.alloc (.cells #[.int .u8 ci] 5)) := (Below.refl _ _).alloc (Nat.le_refl _) _
      have HO3 := Lib.hid (HO4.out.below hb3)
      have HB3 := Lib.hid (HB4.out.trans (hb3.mono HB4.out.size))
      have HSL1 := Lib.hid (one_sl wc ci HCI.out.1 HCI.out.2)
      have HSZ : Hid (w.heap.size ≤ (wc.alloc (.cells #[.int .u8 ci] 5)).heap.size) := HB3.out.size
      have HLN : Hid (J.length + [ci].length ≤ 140737488355328) := by show _ ≤ _; simp; omega
      clear hb3 hJ hJl HO HB
      go_wp2_with (at_builtin; go_must (refine append_sl rfl (.tmp 36) (.tmp 40) rfl w.heap.size (.slice a4 n4 c4) (.slice (some ⟨wc.heap.size, 0, none⟩) 1 1) J [ci] rfl HO3.out rfl HSL1.out HLN.out HSZ.out ?_); intro v5 w5 HO5 hb5; have HB5 := Lib.hid (HB3.out.trans hb5); clear hb5)
      obtain ⟨a5, c5, rfl⟩ := own_form HO5.out
      go_roundw
      case rel => exact ⟨k + 1, by go_num, ⟨_, _, _, rfl⟩, by show _ ≤ _; have := HKL.out; omega, by rw [HIE.out]; exact HO5, HB5⟩
      case measure => have := HKL.out; simp [intOf]; omega
    · have hIk : ¬ (k : Int) < ((mk s).size : Int) := by rw [HZ.out]; omega
      have hke : k = s.length := by have := HK.out; omega
      have ho := HO.out
      rw [hke, List.take_length] at ho
      obtain ⟨a', c', e', hby, hnil, hcap⟩ := ho.sl (ints_oct _)
      simp only [Value.slice.injEq] at e'
      obtain ⟨rfl, rfl, rfl⟩ := e'
      have hstr := run_str hby (ints (escB s)).length c3 rfl
      rw [ints_str] at hstr
      generalize (ints (escB s)).length = nn at *
      clear hk hke ho hby hnil hcap
      go_wp2
      go_ret
      exact ⟨rfl, HB.out⟩
/-- does a sign take a byte? -/
theorem takes_eq (x : Rg) (d : Nat) : takesB x d = if x.kind = 0 then d == x.c else if x.kind = 3 then true else if x.kind = 4 then (d != 47 && (x.S d != x.nt)) else d != 47 := by
  unfold takesB Rg.sg
  split
  · simp [addS, noneS]
  · split
    · rfl
    · split
      · unfold classSg dropS turnS
        cases x.nt <;> simp [Bool.and_comm]
      · simp [dropS, allS]
set_option maxHeartbeats 8000000 in
theorem takes_any (x : Rg) (d : Nat) (hd : d < 256) (w : World) :
    Calls Tryd.prog 42 #[.agg x.cs.toArray, .int .u8 (d : Int)] w fun e w' => e = .returned (.bool (takesB x d)) ∧ Below w.heap.size w w' := by
  have hh : (w.alloc (.cells x.cs.toArray 35)).heap[w.heap.size]? = some (.cells x.cs.toArray 35) := heap_new _ _
  have hb : Below w.heap.size w (w.alloc (.cells x.cs.toArray 35)) := (Below.refl _ _).alloc (Nat.le_refl _) _
  have c0 : (w.alloc (.cells x.cs.toArray 35)).cell? ⟨w.heap.size, 0, none⟩ = some (.int .i64 (x.kind : Int)) := by rw [cell_of_row _ _ 0 _ _ (0, 0) hh]; rfl
  have c1 : (w.alloc (.cells x.cs.toArray 35)).cell? ⟨w.heap.size, 1, none⟩ = some (.int .u8 (x.c : Int)) := by rw [cell_of_row _ _ 1 _ _ (0, 0) hh]; rfl
  have c2 : (w.alloc (.cells x.cs.toArray 35)).cell? ⟨w.heap.size, 2, none⟩ = some (.bool x.nt) := by rw [cell_of_row _ _ 2 _ _ (0, 0) hh]; rfl
  have c3 : (w.alloc (.cells x.cs.toArray 35)).cell? ⟨w.heap.size, 3 + d, none⟩ = some (.bool (x.S d)) := by rw [cell_of_row _ _ (3 + d) _ _ (0, 0) hh]; exact sgC_get _ _ _ _ _ hd
  have HBW := Lib.hid hb
  obtain ⟨R, hR⟩ : ∃ R, R = takesB x d := ⟨_, rfl⟩
  rw [← hR]
  rw [takes_eq] at hR
  obtain ⟨X, hX⟩ : ∃ X, X = x.cs := ⟨_, rfl⟩
  rw [← hX] at c0 c1 c2 c3 HBW ⊢
  obtain ⟨kind, c, nt, S⟩ := x
  simp only at hR c0 c1 c2 c3
  clear hh hb hX
  by_cases h0 : kind = 0
  · rw [if_pos h0] at hR
    have HE : Hid (R = (d == c)) := hR
    have hde : ((c : Int) == (d : Int)) = (d == c) := by
      rw [Bool.eq_iff_iff]; simp; omega
    rw [h0] at c0
    clear hR h0 c2 c3
    go_enter Tryd.func42, Tryd.ntmps42
    go_wp2
    go_ret
    exact ⟨by rw [HE.out]; first | rfl | (rw [← hde]) | simp [hde], HBW.out⟩
  · rw [if_neg h0] at hR
    have k0 : ((kind : Int) == 0) = false := by simpa using fun e => h0 (by omega)
    by_cases h3 : kind = 3
    · rw [if_pos h3] at hR
      have HE : Hid (R = true) := hR
      rw [h3] at c0
      clear hR h0 h3 c1 c2 c3 k0
      go_enter Tryd.func42, Tryd.ntmps42
      go_wp2
      go_ret
      exact ⟨by rw [HE.out]; rfl, HBW.out⟩
    · rw [if_neg h3] at hR
      have k3 : ((kind : Int) == 3) = false := by simpa using fun e => h3 (by omega)
      by_cases h4 : kind = 4
      · rw [if_pos h4] at hR
        rw [h4] at c0
        by_cases h47 : d = 47
        · have HE : Hid (R = false) := by show _ = _; rw [hR, h47]; rfl
          subst h47
          clear hR h0 h3 h4 c1 c2 c3 k0 k3 hd
          go_enter Tryd.func42, Tryd.ntmps42
          go_wp2
          go_quiet (fail)
          go_wp2
          go_ret
          exact ⟨by rw [HE.out]; rfl, bel_drewN HBW.out _⟩
        · have q47 : ((d : Int) == 47) = false := by simpa using fun e => h47 (by omega)
          have q47' : ((d : Int) != 47) = true := by simp [bne, q47]
          have hdN : (d != 47) = true := by simp [h47]
          have HE : Hid (R = (S d != nt)) := by show _ = _; rw [hR, hdN, Bool.true_and]
          have hd0 : (0 : Int) ≤ (d : Int) := by omega
          have hd1 : (d : Int) < 256 := by omega
          generalize S d = sd at *
          clear hR h0 h3 h4 c1 k0 k3 hd h47 hdN
          go_enter Tryd.func42, Tryd.ntmps42
          go_wp2
          go_quiet (fail)
          go_wp2
          go_ret
          exact ⟨by rw [HE.out]; rfl, bel_drewN HBW.out _⟩
      · rw [if_neg h4] at hR
        have k4 : ((kind : Int) == 4) = false := by simpa using fun e => h4 (by omega)
        have HE : Hid (R = (d != 47)) := hR
        have hde : ((d : Int) != 47) = (d != 47) := by rw [Bool.eq_iff_iff]; simp; omega
        clear hR h0 h3 h4 c1 c2 c3
        go_enter Tryd.func42, Tryd.ntmps42
        go_wp2
        go_ret
        exact ⟨by rw [HE.out]; first | rfl | (rw [← hde]) | simp [hde], HBW.out⟩
end Go.Proofs.YtokocfoeohddfaaDoor.Pa
