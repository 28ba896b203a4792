/- rules: the law's same. (A template.) -/
import Derived.Test.YtalbmkkplphahabDoorRuHid
import Derived.Laws.StructEq
import Derived.BigQuiet
namespace Go.Proofs.YtalbmkkplphahabDoor.Pa
open Go.RowKit
set_option linter.unusedVariables false
set_option linter.unusedSimpArgs false
set_option maxRecDepth 100000

theorem below_drewN {B : Nat} {w W : World} (h : Below B w W) (n : Nat) : Below B w (W.drewN n) := ⟨h.os, h.tape, h.output, h.size, h.block⟩
theorem ruStood : Tryd.prog.stoodInHeld 24 = false := by kernel_rfl
theorem ruGuard : Tryd.prog.eqGuardType Tryd.prog.depth 24 = false := by kernel_rfl
theorem eq_ru (r s : Ru) (W : World) : (Op.equalIn 10000 24 (.agg #[.int .i64 r.act, .string (mk r.pat), .bool r.dir, .bool r.anch]) (.agg #[.int .i64 s.act, .string (mk s.pat), .bool s.dir, .bool s.anch])).run Tryd.prog W = .ok (decide (r = s)) W := by
  have u := Tryd.underlying24
  have u1 := Tryd.underlying3
  have u2 := Tryd.underlying9
  have u3 := Tryd.underlying4
  have i1 := Tryd.isAgg3
  have i2 := Tryd.isAgg9
  have i3 := Tryd.isAgg4
  have he := eqs r.pat s.pat
  obtain ⟨a1, p1, d1, n1⟩ := r
  obtain ⟨a2, p2, d2, n2⟩ := s
  simp only at he ⊢
  rw [show (10000 : Nat) = 9999 + 1 from rfl, run_equalIn_struct W 9999 _ _ _ (by simp [Program.fieldsOf, u]) ruStood]
  simp only [Program.fieldsOf, u]
  rw [show (9999 : Nat) = 9998 + 1 from rfl]
  go_simp
  rw [mk_toList, mk_toList] at he
  by_cases h1 : a1 = a2 <;> by_cases h2 : p1 = p2 <;> by_cases h3 : d1 = d2 <;> by_cases h4 : n1 = n2 <;> simp_all [mk_toList]
set_option maxHeartbeats 8000000 in
theorem same_any (L M : List Ru) (v u : Value) (w : World) (hv : RuAt w v L) (hu : RuAt w u M) (hL : L.length ≤ 1000000) (hM : M.length ≤ 1000000) :
    Calls Tryd.prog 14 #[v, u] w fun e w' => e = .returned (.bool (decide (L = M))) ∧ Below w.heap.size w w' := by
  obtain ⟨a, c, rfl, hrow⟩ := hv
  obtain ⟨b, d, rfl, hrow2⟩ := hu
  obtain ⟨R, hR⟩ : ∃ R, R = decide (L = M) := ⟨_, rfl⟩
  rw [← hR]
  have HROW := Lib.hid hrow
  have HROW2 := Lib.hid hrow2
  clear hrow hrow2
  by_cases hlen : L.length = M.length
  · have H0 : Hid (R = decide (L.drop 0 = M.drop 0)) := hR
    have HLM := Lib.hid hlen
    have HLL := Lib.hid hL
    rw [← hlen]
    clear hR hlen hL hM
    go_enter Tryd.func14, Tryd.ntmps14
    go_wp2
    go_loopw [13] (fun i wr => ∃ k : Nat, i = .int .i64 k ∧ Hid (k ≤ L.length) ∧ Hid (R = decide (L.drop k = M.drop k)) ∧ Hid (Below w.heap.size w wr)) (fun i _ => L.length - (intOf i).toNat)
    case atStart => exact ⟨0, rfl, Nat.zero_le _, H0, Below.refl _ _⟩
    case round =>
      clear H0
      obtain ⟨k, rfl, HK, HRK, HB⟩ := hrel
      by_cases hk : k < L.length
      · have hIk : (k : Int) < (L.length : Int) := by omega
        have hk2 : k < M.length := by have := HLM.out; omega
        obtain ⟨r, hr⟩ : ∃ r, L[k]? = some r := ⟨_, List.getElem?_eq_getElem hk⟩
        obtain ⟨s, hs⟩ : ∃ s, M[k]? = some s := ⟨_, List.getElem?_eq_getElem hk2⟩
        have hw1 : IntKind.i64.wrap ((k : Int) + 1) = (k : Int) + 1 := IntWalk.i64_in _ (by have := HLL.out; omega)
        obtain ⟨g, off, ea, hg, hc⟩ := HROW.out (by intro e; rw [e] at hr; simp at hr)
        obtain ⟨g2, off2, eb, hg2, hc2⟩ := HROW2.out (by intro e; rw [e] at hs; simp at hs)
        obtain ⟨c0, c1, c2, c3⟩ := hc k r hr
        obtain ⟨e0, e1, e2, e3⟩ := hc2 k s hs
        have k0 := (HB.out.cell (p := ⟨g, off + k * 4, none⟩) hg).trans c0
        have k1 := (HB.out.cell (p := ⟨g, off + k * 4 + 1, none⟩) hg).trans c1
        have k2 := (HB.out.cell (p := ⟨g, off + k * 4 + 2, none⟩) hg).trans c2
        have k3 := (HB.out.cell (p := ⟨g, off + k * 4 + 3, none⟩) hg).trans c3
        have j0 := (HB.out.cell (p := ⟨g2, off2 + k * 4, none⟩) hg2).trans e0
        have j1 := (HB.out.cell (p := ⟨g2, off2 + k * 4 + 1, none⟩) hg2).trans e1
        have j2 := (HB.out.cell (p := ⟨g2, off2 + k * 4 + 2, none⟩) hg2).trans e2
        have j3 := (HB.out.cell (p := ⟨g2, off2 + k * 4 + 3, none⟩) hg2).trans e3
        have hd : L.drop k = r :: L.drop (k + 1) := by
          obtain ⟨h1, h2⟩ := List.getElem?_eq_some_iff.1 hr
          rw [List.drop_eq_getElem_cons h1, h2]
        have hd2 : M.drop k = s :: M.drop (k + 1) := by
          obtain ⟨h1, h2⟩ := List.getElem?_eq_some_iff.1 hs
          rw [List.drop_eq_getElem_cons h1, h2]
        have HRK2 : Hid (R = decide (r :: L.drop (k + 1) = s :: M.drop (k + 1))) := by show _ = _; rw [HRK.out, hd, hd2]
        have heq := fun W => eq_ru r s W
        have hgd := ruGuard
        have HKL := Lib.hid hk
        subst ea eb
        clear hk hk2 hr hs hc hc2 c0 c1 c2 c3 e0 e1 e2 e3 hd hd2 HRK
        by_cases hrs : r = s
        · have HRN : Hid (R = decide (L.drop (k + 1) = M.drop (k + 1))) := by show _ = _; rw [HRK2.out, hrs]; simp
          rw [decide_eq_true hrs] at heq
          clear HRK2 hrs
          obtain ⟨act, pat, rd, an⟩ := r
          obtain ⟨act2, pat2, rd2, an2⟩ := s
          simp only at k0 k1 k2 k3 j0 j1 j2 j3 heq
          generalize mk pat = q at *
          generalize mk pat2 = q2 at *
          go_wp2
          go_quiet (fail)
          go_wp2
          go_roundw
          case rel => exact ⟨k + 1, rfl, HKL.out, HRN, by first | exact HB | exact below_drewN HB.out _⟩
          case measure => have := HKL.out; simp [intOf]; omega
        · have HRN : Hid (R = false) := by
            show _ = _; rw [HRK2.out]; apply decide_eq_false; intro e; injection e with e _; exact hrs e
          rw [decide_eq_false hrs] at heq
          clear HRK2 hrs
          obtain ⟨act, pat, rd, an⟩ := r
          obtain ⟨act2, pat2, rd2, an2⟩ := s
          simp only at k0 k1 k2 k3 j0 j1 j2 j3 heq
          generalize mk pat = q at *
          generalize mk pat2 = q2 at *
          go_wp2
          go_quiet (fail)
          go_wp2
          go_ret
          exact ⟨by rw [HRN.out]; rfl, by first | exact HB.out | exact below_drewN HB.out _⟩
      · have hIk : ¬ (k : Int) < (L.length : Int) := by omega
        have HRN : Hid (R = true) := by show _ = _; rw [HRK.out, List.drop_of_length_le (by omega), List.drop_of_length_le (by have := HLM.out; omega)]; rfl
        clear hk HRK
        go_wp2
        go_ret
        exact ⟨by rw [HRN.out]; rfl, HB.out⟩
  · have hne : ((L.length : Int) == (M.length : Int)) = false := by
      have : ¬ ((L.length : Int) = (M.length : Int)) := by omega
      simpa using this
    have HRN : Hid (R = false) := by show _ = _; rw [hR]; apply decide_eq_false; intro e; exact hlen (by rw [e])
    clear hR hlen
    go_enter Tryd.func14, Tryd.ntmps14
    go_wp2
    go_ret
    exact ⟨by rw [HRN.out]; rfl, Below.refl _ _⟩
end Go.Proofs.YtalbmkkplphahabDoor.Pa
