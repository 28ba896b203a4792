/- rules: the law's light; a row of rules that is handed in. (A template.) -/
import Derived.Test.YtokocfoeohddfaaDoorRuHid
import Derived.Deep.Slices
import Derived.ChangeArms
namespace Go.Proofs.YtokocfoeohddfaaDoor.Pa
open Go.RowKit Go.ChangeShapes Go.WideShapes
set_option linter.unusedVariables false
set_option linter.unusedSimpArgs false
set_option maxRecDepth 100000

instance : Inhabited Ru := ⟨⟨0, [], false, false⟩⟩
theorem add_none (g off n : Nat) : (⟨g, off, none⟩ : Addr).add n = ⟨g, off + n, none⟩ := by
  unfold Addr.add; split <;> simp_all
theorem add_twice (a : Addr) (i j : Nat) : (a.add i).add j = a.add (i + j) := by
  unfold Addr.add
  by_cases hi : i = 0
  · subst hi; simp
  · by_cases hj : j = 0
    · subst hj; simp
    · simp [hi, hj, Nat.add_assoc]
/-- what a row of rules that is handed in reads as -/
theorem open_rules {H : Type} {enc : TypeId × Value → H} {W : World} {base fuel : Nat} {sp : Nat → Bool} {held : Bool} {v : Value} {x : DataW H × List MemPlace}
    (h : DataW.trod enc Tryd.prog W base sp held fuel 37 [v] = some x) : ∃ L : List Ru, RuAt W v L ∧ L.length ≤ maxLen ∧ ∀ r ∈ L, r.pat.length ≤ maxLen := by
  rcases Deep.open_slice Tryd.underlying37 h with ⟨hcs, _⟩ | ⟨a, len, cap, m, n, D, Pl, hcs, hb, hl, hm, hmm, hx, hr⟩
  · simp at hcs
    subst hcs
    exact ⟨[], ⟨none, 0, rfl, fun h => absurd rfl h⟩, by simp, by simp⟩
  · simp at hcs
    subst hcs
    have hlm : len ≤ m := by rw [hmm]; split <;> omega
    have hc4 : Tryd.prog.cellsOf 42 = 4 := by kernel_rfl
    have kI : Tryd.prog.cellsOf 3 = 1 := by kernel_rfl
    have kS : Tryd.prog.cellsOf 9 = 1 := by kernel_rfl
    have kB : Tryd.prog.cellsOf 4 = 1 := by kernel_rfl
    rw [hc4] at hr
    have each : ∀ i, i < len → ∃ r : Ru, W.cell? (a.add (i * 4)) = some (.int .i64 r.act) ∧ W.cell? (a.add (i * 4 + 1)) = some (.string (mk r.pat)) ∧ W.cell? (a.add (i * 4 + 2)) = some (.bool r.dir) ∧ W.cell? (a.add (i * 4 + 3)) = some (.bool r.anch) ∧ r.pat.length ≤ maxLen := by
      intro i hi
      obtain ⟨cs', h1, h2⟩ := hr i (by omega)
      obtain ⟨_, hlen, hcell⟩ := World.cells?_some h1
      obtain ⟨xs, k, hk, hxy, _, hxl, hf⟩ := DataW.trod_struct Tryd.underlying42 h2
      match xs, hxl, cs', hlen with
      | [y0, y1, y2, y3], _, [v0, v1, v2, v3], _ =>
        have g0 := hf 0 _ rfl
        have g1 := hf 1 _ rfl
        have g2 := hf 2 _ rfl
        have g3 := hf 3 _ rfl
        simp [kI, kS, kB] at g0 g1 g2 g3
        obtain ⟨z0, e0, _, q0⟩ := DataW.trod_int Tryd.underlying3 g0
        obtain ⟨z1, e1, _, q1⟩ := DataW.trod_string Tryd.underlying9 g1
        obtain ⟨z2, e2, _⟩ := DataW.trod_bool Tryd.underlying4 g2
        obtain ⟨z3, e3, _⟩ := DataW.trod_bool Tryd.underlying4 g3
        simp only [List.cons.injEq, and_true] at e0 e1 e2 e3
        subst e0 e1 e2 e3
        have c0 := hcell 0 (by omega)
        have c1 := hcell 1 (by omega)
        have c2 := hcell 2 (by omega)
        have c3 := hcell 3 (by omega)
        rw [add_twice] at c0 c1 c2 c3
        refine ⟨⟨z0, z1.data.toList, z2, z3⟩, c0, ?_, c2, c3, ?_⟩
        · rw [mk_data]; exact c1
        · show z1.data.toList.length ≤ _
          rw [Array.length_toList]; exact q1
    obtain ⟨f, hf⟩ := Deep.choose_lt each
    refine ⟨(List.range len).map f, ⟨some a, cap, by simp, fun hne => ?_⟩, by simp; omega, ?_⟩
    · have h0 : 0 < len := by
        rcases Nat.eq_zero_or_pos len with h | h
        · subst h; simp at hne
        · exact h
      obtain ⟨g, off, spot⟩ := a
      have hs : spot = none ∧ g < W.heap.size := by
        have hc := (hf 0 h0).1
        simp only [Nat.zero_mul, Addr.add, if_pos] at hc
        unfold World.cell? at hc
        simp only at hc
        split at hc
        · next hh =>
          refine ⟨?_, (Array.getElem?_eq_some_iff.1 hh).1⟩
          cases spot with
          | none => rfl
          | some y => simp at hc
        · cases hc
      obtain ⟨rfl, hg⟩ := hs
      refine ⟨g, off, rfl, hg, fun i r hi => ?_⟩
      rw [List.getElem?_map] at hi
      have hlt : i < len := by
        rcases Nat.lt_or_ge i len with h | h
        · exact h
        · rw [List.getElem?_eq_none (by simpa using h)] at hi; cases hi
      rw [List.getElem?_range hlt] at hi
      simp at hi
      subst hi
      obtain ⟨c0, c1, c2, c3, _⟩ := hf i hlt
      rw [add_none] at c0 c1 c2 c3
      exact ⟨c0, c1, c2, c3⟩
    · intro r hr'
      obtain ⟨i, hi, rfl⟩ := List.mem_map.1 hr'
      exact (hf i (List.mem_range.1 hi)).2.2.2.2
def lightB (L : List Ru) : Bool := decide (L.length ≤ 80) && L.all (fun r => decide (r.pat.length ≤ 200))
theorem lightB_of {L : List Ru} (h : lightB L = true) : L.length ≤ 80 ∧ ∀ r ∈ L, r.pat.length ≤ 200 := by
  unfold lightB at h
  simpa using h
set_option maxHeartbeats 8000000 in
theorem light_any (L : List Ru) (v : Value) (w : World) (hv : RuAt w v L) :
    Calls Tryd.prog 22 #[v] w fun e w' => e = .returned (.bool (lightB L)) ∧ Below w.heap.size w w' := by
  obtain ⟨a, c, rfl, hrow⟩ := hv
  obtain ⟨R, hR⟩ : ∃ R, R = lightB L := ⟨_, rfl⟩
  rw [← hR]
  have HROW := Lib.hid hrow
  clear hrow
  by_cases h80 : 80 < L.length
  · have hI : (80 : Int) < (L.length : Int) := by omega
    have HRR : Hid (R = false) := by show _ = _; rw [hR]; unfold lightB; rw [decide_eq_false (by omega)]; rfl
    clear hR h80
    go_enter Tryd.func22, Tryd.ntmps22
    go_wp2
    go_ret
    exact ⟨by rw [HRR.out]; rfl, Below.refl _ _⟩
  · have hI : ¬ (80 : Int) < (L.length : Int) := by omega
    have H0 : Hid (R = (L.drop 0).all (fun r => decide (r.pat.length ≤ 200))) := by show _ = _; rw [hR]; unfold lightB; rw [decide_eq_true (by omega)]; rfl
    have HLL : Hid (L.length ≤ 80) := by show _ ≤ _; omega
    clear hR h80
    go_enter Tryd.func22, Tryd.ntmps22
    go_wp2
    go_loopw [10] (fun i wr => ∃ k : Nat, i = .int .i64 k ∧ Hid (k ≤ L.length) ∧ Hid (R = (L.drop k).all (fun r => decide (r.pat.length ≤ 200))) ∧ Hid (Below w.heap.size w wr)) (fun i _ => L.length - (intOf i).toNat)
    case atStart => exact ⟨0, rfl, Nat.zero_le _, H0, Below.refl _ _⟩
    case round =>
      clear H0
      obtain ⟨k, rfl, HK, HRK, HB⟩ := hrel
      by_cases hk : k < L.length
      · have hIk : (k : Int) < (L.length : Int) := by omega
        obtain ⟨r, hr⟩ : ∃ r, L[k]? = some r := ⟨_, List.getElem?_eq_getElem hk⟩
        have hw1 : IntKind.i64.wrap ((k : Int) + 1) = (k : Int) + 1 := IntWalk.i64_in _ (by have := HLL.out; omega)
        obtain ⟨g, off, ea, hg, hc⟩ := HROW.out (by intro e; rw [e] at hr; simp at hr)
        obtain ⟨c0, c1, c2, c3⟩ := hc k r hr
        have k0 := (HB.out.cell (p := ⟨g, off + k * 4, none⟩) hg).trans c0
        have k1 := (HB.out.cell (p := ⟨g, off + k * 4 + 1, none⟩) hg).trans c1
        have k2 := (HB.out.cell (p := ⟨g, off + k * 4 + 2, none⟩) hg).trans c2
        have k3 := (HB.out.cell (p := ⟨g, off + k * 4 + 3, none⟩) hg).trans c3
        have hd : L.drop k = r :: L.drop (k + 1) := by
          obtain ⟨h1, h2⟩ := List.getElem?_eq_some_iff.1 hr
          rw [List.drop_eq_getElem_cons h1, h2]
        have HRK2 : Hid (R = (decide (r.pat.length ≤ 200) && (L.drop (k + 1)).all (fun r => decide (r.pat.length ≤ 200)))) := by show _ = _; rw [HRK.out, hd]; rfl
        have HBA : Hid (Below w.heap.size w (wr.alloc (.cells #[.int .i64 r.act, .string (mk r.pat), .bool r.dir, .bool r.anch] 42))) := HB.out.trans ((Below.refl _ _).alloc HB.out.size _)
        have HKL := Lib.hid hk
        have hsz : (mk r.pat).size = r.pat.length := mk_size _
        subst ea
        clear hk hr hc c0 c1 c2 c3 hd HRK
        obtain ⟨act, pat, rd, an⟩ := r
        simp only at k0 k1 k2 k3 HRK2 hsz HBA
        by_cases hz : pat.length ≤ 200
        · have hI2 : ¬ (200 : Int) < ((mk pat).size : Int) := by omega
          have HRN : Hid (R = (L.drop (k + 1)).all (fun r => decide (r.pat.length ≤ 200))) := by show _ = _; rw [HRK2.out, decide_eq_true hz]; rfl
          clear HRK2 hz hsz
          generalize mk pat = q at *
          go_wp2
          go_roundw
          case rel => exact ⟨k + 1, rfl, HKL.out, HRN, HBA⟩
          case measure => have := HKL.out; simp [intOf]; omega
        · have hI2 : (200 : Int) < ((mk pat).size : Int) := by omega
          have HRN : Hid (R = false) := by show _ = _; rw [HRK2.out, decide_eq_false hz]; rfl
          clear HRK2 hz hsz
          generalize mk pat = q at *
          go_wp2
          go_ret
          exact ⟨by rw [HRN.out]; rfl, HBA.out⟩
      · have hIk : ¬ (k : Int) < (L.length : Int) := by omega
        have HRN : Hid (R = true) := by show _ = _; rw [HRK.out, List.drop_of_length_le (by omega)]; rfl
        clear hk HRK
        go_wp2
        go_ret
        exact ⟨by rw [HRN.out]; rfl, HB.out⟩
end Go.Proofs.YtokocfoeohddfaaDoor.Pa
