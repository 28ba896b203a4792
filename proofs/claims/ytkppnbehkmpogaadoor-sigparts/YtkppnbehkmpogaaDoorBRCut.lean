/- The document's Cut and Same. -/
import Derived.Test.YtkppnbehkmpogaaDoorBCut2
import Derived.BigQuiet
import Derived.Deep.QuietTactic
import Derived.WalkSmall
import Derived.ProofKit
namespace Go.Proofs.YtkppnbehkmpogaaDoor
open Go.RowKit Go.Proofs.BlkMath
set_option linter.unusedVariables false

/-- blocks that lie in memory made since -/
def MadeR (w : World) (n0 : Nat) (v : Value) (ps : List (List Int)) : Prop :=
  ∃ vs : List Value, vs.length = ps.length ∧ w.ownsRow n0 22 1 v ps.length vs ∧ ∀ j, j < ps.length → Own w n0 (vs.getD j undef) (ps.getD j [])
theorem Made.r {w : World} {n0 : Nat} {v : Value} {ps : List (List Int)} (h : Made w n0 v ps) : MadeR w n0 v ps := by
  obtain ⟨vs, h1, h2, h3⟩ := h
  exact ⟨vs, h1, h2, fun j hj => (h3 j hj).lower (by omega)⟩
theorem MadeR.keep {w w' : World} {n0 : Nat} {v : Value} {ps : List (List Int)} (h : MadeR w n0 v ps) (hk : KeepC w w') : MadeR w' n0 v ps := by
  obtain ⟨vs, h1, h2, h3⟩ := h
  exact ⟨vs, h1, hk.row h2, fun j hj => hk.own (h3 j hj)⟩
theorem MadeR.none (w : World) (n0 : Nat) : MadeR w n0 (.slice none 0 0) [] := ⟨[], rfl, World.ownsRow_nil _ _ _ _, fun j hj => by simp at hj⟩
theorem row_form {w : World} {base : Nat} {e : TypeId} {size : Nat} {v : Value} {n : Nat} {xs : List Value} (h : w.ownsRow base e size v n xs) : ∃ a c, v = .slice a n c := by
  obtain ⟨h1, h2⟩ := h
  rcases h2 with ⟨rfl, h0⟩ | ⟨g, cap, cur, rfl, _⟩
  · exact ⟨_, 0, by rw [h0]⟩
  · exact ⟨_, cap, rfl⟩
theorem row_ne {w : World} {b b' : Nat} {e e' : TypeId} {s s' : Nat} {v v' : Value} {n n' : Nat} {xs xs' : List Value} (h : w.ownsRow b e s v n xs) (h' : w.ownsRow b' e' s' v' n' xs') (he : e ≠ e') :
    v.ownBlock = none ∨ v.ownBlock ≠ v'.ownBlock := by
  rcases h.2 with ⟨rfl, h0⟩ | ⟨g, cap, cur, rfl, _, q, _⟩
  · exact .inl rfl
  · rcases h'.2 with ⟨rfl, h0⟩ | ⟨g', cap', cur', rfl, _, q', _⟩
    · exact .inr (by simp [Value.ownBlock])
    · refine .inr (fun hg => ?_)
      simp only [Value.ownBlock, Option.some.injEq] at hg
      subst hg
      rw [q] at q'
      injection q' with q'
      injection q' with _ q'
      exact he q'
theorem madeR_form {w : World} {n0 : Nat} {v : Value} {ps : List (List Int)} (h : MadeR w n0 v ps) (ho : ∀ j, Oct (ps.getD j [])) :
    ∃ av cv, v = .slice av ps.length cv ∧ ∀ j, j < ps.length → ∃ g pa pc, av = some ⟨g, 0, none⟩ ∧ w.cell? ⟨g, j, none⟩ = some (.slice pa (ps.getD j []).length pc) ∧ Sl w (.slice pa (ps.getD j []).length pc) (ps.getD j []) := by
  obtain ⟨vs, h1, h2, h3⟩ := h
  have hf := h2
  obtain ⟨q1, q2⟩ := h2
  rcases q2 with ⟨rfl, h0⟩ | ⟨g, cap, cur, rfl, q4⟩
  · exact ⟨_, 0, by rw [h0], fun j hj => by omega⟩
  · refine ⟨_, cap, rfl, fun j hj => ?_⟩
    have ho3 := h3 j hj
    obtain ⟨pa, pc, e⟩ := own_form ho3
    have hs := ho3.sl (ho j)
    rw [e] at hs
    refine ⟨g, pa, pc, rfl, ?_, hs⟩
    rw [hf.cellAt j (by omega), ← e, List.getD_eq_getElem?_getD, List.getElem?_eq_getElem (by omega)]
    rfl

theorem rcut_no (a : Option Addr) (len cap : Nat) (blk : Int) (w : World) (hl : len ≤ 9223372036854775807) (h : refB len blk ≠ 0) :
    Calls Tryd.prog 36 #[.slice a len cap, .int .i64 blk] w fun e w' => e = .returned (.tuple #[.slice none 0 0, .int .i64 (refB len blk)]) ∧ w = w' := by
  have hM := fun W => may_any blk W
  by_cases c1 : 16 ≤ blk ∧ blk ≤ 4096
  · by_cases c2 : (len : Int) ≤ 131072
    · exfalso; apply h; unfold refB; rw [if_pos c1, if_pos c2]
    · have e : refB len blk = 7 := by unfold refB; rw [if_pos c1, if_neg c2]
      rw [decide_eq_true c1] at hM
      have HM := Lib.hid hM
      rw [e]
      clear hM e h c1
      go_enter Tryd.func36, Tryd.ntmps36
      go_wp2_with (go_at_call 64; refine (HM.out _).mono ?_; rintro e w' ⟨rfl, rfl⟩)
      go_ret2
      exact ⟨rfl, rfl⟩
  · have e : refB len blk = 2 := by unfold refB; rw [if_neg c1]
    rw [decide_eq_false c1] at hM
    have HM := Lib.hid hM
    rw [e]
    clear hM e h c1
    go_enter Tryd.func36, Tryd.ntmps36
    go_wp2_with (go_at_call 64; refine (HM.out _).mono ?_; rintro e w' ⟨rfl, rfl⟩)
    go_ret2
    exact ⟨rfl, rfl⟩

def lenV : Value → Nat
  | .slice _ n _ => n
  | _ => 0
theorem pieces_succ (l : List Int) (blk k : Nat) : pieces l blk (k + 1) = pieces l blk k ++ [piece l blk k] := by
  unfold pieces; rw [List.range_succ, List.map_append]; rfl

set_option maxHeartbeats 2000000 in
set_option maxRecDepth 1000000 in
theorem rcut_yes (a : Option Addr) (len cap : Nat) (l : List Int) (blk : Nat) (w : World) (hlen : len = l.length) (hS : Sl w (.slice a len cap) l) (hR : Rt len blk) :
    Calls Tryd.prog 36 #[.slice a len cap, .int .i64 blk] w fun e w' => ∃ v, e = .returned (.tuple #[v, .int .i64 0]) ∧ MadeR w' w.heap.size v (pieces l blk (cnt len blk).toNat) ∧ Below w.heap.size w w' := by
  have hM := fun W => may_any blk W
  rw [decide_eq_true hR.2] at hM
  have HM := Lib.hid hM
  have hcs := cnt_spec hR
  obtain ⟨N, hN⟩ : ∃ N : Nat, (N : Int) = cnt len blk := ⟨(cnt len blk).toNat, by omega⟩
  have hNt : (cnt len blk).toNat = N := by omega
  rw [hNt]
  have hb16 : 16 ≤ blk ∧ blk ≤ 4096 := by unfold Rt at hR; omega
  have hlb : len ≤ 131072 := by unfold Rt at hR; omega
  have hNb : N ≤ 131072 := by omega
  have HLT : Hid (∀ k : Nat, k < N → k * blk < len) := by
    intro k hk; have h := cnt_lt hR (k := k) (by omega); exact_mod_cast h
  have HGE : Hid (len ≤ N * blk) := by
    show _ ≤ _
    have h := cnt_ge hR (k := N) (by omega); exact_mod_cast h
  have HS := Lib.hid hS
  have HL := Lib.hid hlen
  obtain ⟨i0, hi0, hz0, hz1, hzz⟩ := info_parts Tryd.infoS
  have HI := Lib.hid (And.intro hi0 (And.intro hz0 (And.intro hz1 hzz)))
  clear hS hlen hR hcs hN hNt hM hi0 hz0 hz1 hzz
  go_enter Tryd.func36, Tryd.ntmps36
  go_wp2_with (go_at_call 64; refine (HM.out _).mono ?_; rintro e w' ⟨rfl, rfl⟩)
  go_loopw [6, 7] (fun v c wr => ∃ (k p : Nat) (av : Option Addr) (cv : Nat), v = .slice av k cv ∧ c = .int .i64 p ∧ k ≤ N ∧ Hid (p = k * blk) ∧ Hid (MadeR wr w.heap.size (.slice av k cv) (pieces l blk k)) ∧ Hid (Below w.heap.size w wr)) (fun v _ _ => N - lenV v)
  case atStart => exact ⟨0, 0, none, 0, rfl, rfl, by omega, by show _ = _; simp, MadeR.none _ _, Below.refl _ _⟩
  case round =>
    obtain ⟨k, p, av, cv, rfl, rfl, hk, HP, HMD, HB⟩ := hrel
    by_cases hlt : k < N
    · have hkl := HLT.out k hlt
      have hp : p = k * blk := HP.out
      obtain ⟨pl, hpl⟩ : ∃ pl, pl = (piece l blk k).length := ⟨_, rfl⟩
      have hpl2 : pl = min blk (len - k * blk) := by rw [hpl, piece_len, HL.out]
      obtain ⟨a', cap', e', hB, hnil, hcap⟩ := HS.out.later HB.out
      rw [← HL.out] at e' hcap
      simp only [Value.slice.injEq] at e'
      obtain ⟨rfl, -, rfl⟩ := e'
      obtain ⟨x, hcut, hSx⟩ := run_cut hB cap len HL.out hcap hnil p pl (by omega)
      have ex : (l.drop p).take pl = piece l blk k := by
        unfold piece
        rw [hp, hpl2, List.take_eq_take_iff, List.length_drop, ← HL.out]
        omega
      rw [ex] at hSx
      have hw1 : IntKind.i64.wrap ((p : Int) + (blk : Int)) = (p : Int) + (blk : Int) := by rw [IntKind.wrap_i64]; omega
      have hmin : ∀ W, (Builtin.min_ #[3, 3] 3 #[.int .i64 ((p : Int) + (blk : Int)), .int .i64 (len : Int)]).run Tryd.prog W = .ok (.int .i64 ((p : Int) + (pl : Int))) W := by
        intro W
        by_cases hq : (p : Int) + (blk : Int) ≤ (len : Int)
        · have e : (pl : Int) = (blk : Int) := by omega
          rw [e]
          simp [Builtin.min_, Builtin.min2]
          try omega
        · have e : (p : Int) + (pl : Int) = (len : Int) := by omega
          rw [e]
          simp [Builtin.min_, Builtin.min2]
          try omega
      have hplt : (p : Int) < (len : Int) := by omega
      have hpn : p + blk = (k + 1) * blk := by rw [hp, Nat.add_mul]; omega
      have hpl3 : pl ≤ 4096 := by omega
      have HPN := Lib.hid hpn
      have HPL := Lib.hid hpl
      have HSX := Lib.hid (hSx.later ((Below.refl wr.heap.size wr).alloc (Nat.le_refl _) (.cells #[] 5)))
      have hsz0 := HB.out.size
      clear hB hnil hcap ex hSx hpl hpl2 hp hkl hpn
      generalize cap - p = cx at hcut HSX
      go_wp2_with (at_builtin; go_must (refine append_sl rfl (.tmp 22) (.tmp 31) rfl wr.heap.size _ _ [] (piece l blk k) rfl (empty_own wr) rfl HSX.out (by rw [← HPL.out]; simp; omega) (by simp) ?_))
      intro v' w3 HO hb3
      obtain ⟨pa, pc, ev⟩ := own_form HO.out
      try rw [List.nil_append] at ev
      rw [← HPL.out] at ev
      subst ev
      obtain ⟨vs, hv1, hv2, hv3⟩ := HMD.out
      have hv0 := hv1
      rw [pieces_len] at hv1 hv2 hv3
      obtain ⟨w4, hw4⟩ : ∃ w4, w4 = w3.alloc (.cells #[.slice pa pl pc] 22) := ⟨_, rfl⟩
      have hb4 : Below wr.heap.size wr w4 := by
        rw [hw4]
        exact (((Below.refl wr.heap.size wr).alloc (Nat.le_refl _) _).trans hb3).alloc (by have := hb3.size; simp at this; omega) _
      have hrow4 : w4.ownsRow w.heap.size 22 1 (.slice av k cv) k vs := (KeepC.of_below hb4).row hv2
      have hown4 : ∀ j, j < k → Own w4 w.heap.size (vs.getD j undef) (piece l blk j) := by
        intro j hj
        have h := (KeepC.of_below hb4).own (hv3 j hj)
        rw [pieces_get l blk k j hj] at h
        exact h
      have hnew4 : Own w4 w.heap.size (.slice pa pl pc) (piece l blk k) := by
        have h := HO.out
        try rw [List.nil_append] at h
        rw [hw4]
        exact Own.lower (World.ownsRow.alloc h _) hsz0
      have hcell4 : ∀ j u, [Value.slice pa pl pc][j]? = some u → w4.cell? ((⟨w3.heap.size, 0, none⟩ : Addr).add j) = some u := by
        intro j u hu
        rw [hw4]
        exact cell_one_new _ _ _ j u hu
      have HROW4 := Lib.hid hrow4
      have HOWN4 := Lib.hid hown4
      have HNEW4 := Lib.hid hnew4
      have HB4 := Lib.hid hb4
      have HCELL4 := Lib.hid hcell4
      have HW4 := Lib.hid hw4
      have HV1 := Lib.hid hv1
      have hszw4 : w.heap.size ≤ w4.heap.size := by have := hb4.size; omega
      clear hv0 hv1 hv2 hv3 hw4 hb4 hrow4 hown4 hnew4 hcell4 hb3 HSX hcut hmin hw1
      go_wp2_with (at_builtin; rw [← HW4.out]; go_must (refine wpList_append_own w4 rfl (.tmp 21) (.tmp 33) 40 rfl w.heap.size 22 i0 (.slice none 0 0) 1 24 Tryd.underlying40 HI.out.1 HI.out.2.1 HI.out.2.2.1 HI.out.2.2.2 rfl (by decide) _ k vs rfl HROW4.out ⟨w3.heap.size, 0, none⟩ 1 1 [.slice pa pl pc] rfl rfl HCELL4.out (by simp [Value.oneCell']) (by unfold maxLen; omega) (by omega) hszw4 ?_))
      intro v5 w5 hrow5 hg5 _
      obtain ⟨a5, c5, ev5⟩ := row_form hrow5
      subst ev5
      have hM5 : MadeR w5 w.heap.size (.slice a5 (k + 1) c5) (pieces l blk (k + 1)) := by
        refine ⟨vs ++ [.slice pa pl pc], by simp [HV1.out, pieces_len], by rw [pieces_len]; exact hrow5, fun j hj => ?_⟩
        rw [pieces_len] at hj
        rw [pieces_get l blk (k + 1) j hj]
        by_cases hjk : j < k
        · rw [List.getD_eq_getElem?_getD, List.getElem?_append_left (by have := HV1.out; omega), ← List.getD_eq_getElem?_getD]
          have h := HOWN4.out j hjk
          exact World.ownsRow.kept h hg5 (row_ne h HROW4.out (by decide))
        · have ej : j = k := by omega
          subst ej
          rw [List.getD_eq_getElem?_getD, List.getElem?_append_right (by have := HV1.out; omega), HV1.out, Nat.sub_self]
          exact World.ownsRow.kept HNEW4.out hg5 (row_ne HNEW4.out HROW4.out (by decide))
      have hB5 : Below w.heap.size w w5 := ((HB.out.trans (HB4.out.mono hsz0))).grown hg5 (by omega) (fun j hj => (World.ownsRow.lt HROW4.out j hj).1)
      have HM5 := Lib.hid hM5
      have HB5 := Lib.hid hB5
      clear hM5 hB5 hrow5 hg5 HROW4 HOWN4 HNEW4 HMD HO
      go_wp2
      go_roundw
      case rel => exact ⟨k + 1, p + blk, a5, c5, rfl, by simp, by omega, HPN.out, HM5, HB5⟩
      case measure => simp [lenV]; omega
    · have hkN : k = N := by omega
      subst hkN
      have hpl : ¬ ((p : Int) < (len : Int)) := by have := HP.out; have := HGE.out; omega
      go_wp2
      go_ret2
      exact ⟨_, rfl, HMD.out, HB.out⟩

end Go.Proofs.YtkppnbehkmpogaaDoor
