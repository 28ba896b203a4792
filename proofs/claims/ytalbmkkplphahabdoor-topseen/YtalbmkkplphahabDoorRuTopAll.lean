/- rules: TopSeen and what it stands on, joined: RuCheck RuLight RuBelowM RuPrint RuText RuBackM RuAlive RuTop. (A template; made of those.) -/
import Derived.Test.YtalbmkkplphahabDoorRuHid
import Derived.Deep.Slices
import Derived.ChangeArms
import Derived.Test.YtalbmkkplphahabDoorPaBackM
import Derived.Laws.Concat
import Derived.Test.YtalbmkkplphahabDoorGlBuild
import Derived.Test.YtalbmkkplphahabDoorRuRow
import Derived.Test.YtalbmkkplphahabDoorRuAwake
/- rules: Check. (A template.) -/
namespace Go.Proofs.YtalbmkkplphahabDoor.Pa
open Go.RowKit
set_option linter.unusedVariables false
set_option linter.unusedSimpArgs false
set_option maxRecDepth 100000

def badE : List Ru → Int
  | [] => 0
  | r :: L => if refE r.act r.pat ≠ 0 then refE r.act r.pat else badE L
def checkE (L : List Ru) : Int := if 64 < L.length then 7 else badE L
set_option maxHeartbeats 8000000 in
theorem check_rules (L : List Ru) (v : Value) (w : World) (hv : RuAt w v L) (hl : L.length ≤ 1000000 ∧ ∀ r ∈ L, r.pat.length ≤ 9223372036854775807) :
    Calls Tryd.prog 25 #[v] w fun e w' => e = .returned (.int .i64 (checkE L)) ∧ Below w.heap.size w w' := by
  obtain ⟨a, c, rfl, hrow⟩ := hv
  obtain ⟨R, hR⟩ : ∃ R, R = checkE L := ⟨_, rfl⟩
  rw [← hR]
  have HROW := Lib.hid hrow
  have HLL := Lib.hid hl.1
  have HF : Hid (∀ r ∈ L, ∀ W, Calls Tryd.prog 34 #[.agg #[.int .i64 r.act, .string (mk r.pat), .bool r.dir, .bool r.anch]] W fun e w' => e = .returned (.int .i64 (refE r.act r.pat)) ∧ Below W.heap.size W w') := fun r hr W => refused_ru r.act r.pat r.dir r.anch W (hl.2 r hr)
  clear hrow hl
  by_cases h64 : 64 < L.length
  · have hI : (64 : Int) < (L.length : Int) := by omega
    have HRR : Hid (R = 7) := by show _ = _; rw [hR]; unfold checkE; rw [if_pos h64]
    clear hR h64
    go_enter Tryd.func25, Tryd.ntmps25
    go_wp2
    go_ret
    exact ⟨by rw [HRR.out]; rfl, Below.refl _ _⟩
  · have hI : ¬ (64 : Int) < (L.length : Int) := by omega
    have H0 : Hid (R = badE (L.drop 0)) := by show _ = _; rw [hR]; unfold checkE; rw [if_neg h64]; rfl
    clear hR h64
    go_enter Tryd.func25, Tryd.ntmps25
    go_wp2
    go_loopw [11] (fun i wr => ∃ k : Nat, i = .int .i64 k ∧ Hid (k ≤ L.length) ∧ Hid (R = badE (L.drop k)) ∧ Hid (Below w.heap.size w wr)) (fun i _ => L.length - (intOf i).toNat)
    case atStart => exact ⟨0, rfl, Nat.zero_le _, H0, Below.refl _ _⟩
    case round =>
      clear H0
      obtain ⟨k, rfl, HK, HRK, HB⟩ := hrel
      by_cases hk : k < L.length
      · have hIk : (k : Int) < (L.length : Int) := by omega
        obtain ⟨r, hr⟩ : ∃ r, L[k]? = some r := ⟨_, List.getElem?_eq_getElem hk⟩
        have hLL := HLL.out
        have hw1 : IntKind.i64.wrap ((k : Int) + 1) = (k : Int) + 1 := IntWalk.i64_in _ (by omega)
        obtain ⟨g, off, ea, hg, hc⟩ := HROW.out (by intro e; rw [e] at hr; simp at hr)
        obtain ⟨c0, c1, c2, c3⟩ := hc k r hr
        have k0 := (HB.out.cell (p := ⟨g, off + k * 4, none⟩) hg).trans c0
        have k1 := (HB.out.cell (p := ⟨g, off + k * 4 + 1, none⟩) hg).trans c1
        have k2 := (HB.out.cell (p := ⟨g, off + k * 4 + 2, none⟩) hg).trans c2
        have k3 := (HB.out.cell (p := ⟨g, off + k * 4 + 3, none⟩) hg).trans c3
        have hd : L.drop k = r :: L.drop (k + 1) := by
          obtain ⟨h1, h2⟩ := List.getElem?_eq_some_iff.1 hr
          rw [List.drop_eq_getElem_cons h1, h2]
        have HRK2 : Hid (R = if refE r.act r.pat ≠ 0 then refE r.act r.pat else badE (L.drop (k + 1))) := by show _ = _; rw [HRK.out, hd, badE]
        obtain ⟨w1, hw1'⟩ : ∃ w1, w1 = wr.alloc (.cells #[.int .i64 r.act, .string (mk r.pat), .bool r.dir, .bool r.anch] 24) := ⟨_, rfl⟩
        have hb1 : Below wr.heap.size wr w1 := by rw [hw1']; exact (Below.refl _ _).alloc (Nat.le_refl _) _
        have HFT : Hid (Calls Tryd.prog 34 #[.agg #[.int .i64 r.act, .string (mk r.pat), .bool r.dir, .bool r.anch]] w1 fun e w' => e = .returned (.int .i64 (refE r.act r.pat)) ∧ Below w.heap.size w w') :=
          (HF.out r (List.mem_of_getElem? hr) w1).mono fun e w' ⟨h1, h2⟩ => ⟨h1, HB.out.trans ((hb1.trans (h2.mono hb1.size)).mono HB.out.size)⟩
        rw [hw1'] at HFT
        have HKL := Lib.hid hk
        subst ea
        clear hk hr hLL hc c0 c1 c2 c3 hd hw1' hb1 HRK
        obtain ⟨act, pat, rd, an⟩ := r
        simp only at k0 k1 k2 k3 HFT HRK2
        generalize refE act pat = er at *
        generalize mk pat = q at *
        by_cases hz : er = 0
        · subst hz
          have HRN : Hid (R = badE (L.drop (k + 1))) := by show _ = _; rw [HRK2.out, if_neg (by simp)]
          clear HRK2
          go_wp2_with (go_at_call 34; refine HFT.out.mono ?_; rintro e w3 ⟨rfl, hb3⟩; have HB3 := Lib.hid hb3; clear hb3)
          go_roundw
          case rel => exact ⟨k + 1, rfl, HKL.out, HRN, HB3⟩
          case measure => have := HKL.out; simp [intOf]; omega
        · have hne : (er == 0) = false := by simpa using hz
          have HRN : Hid (R = er) := by show _ = _; rw [HRK2.out, if_pos hz]
          clear HRK2 hz
          go_wp2_with (go_at_call 34; refine HFT.out.mono ?_; rintro e w3 ⟨rfl, hb3⟩; have HB3 := Lib.hid hb3; clear hb3)
          go_ret
          exact ⟨by rw [HRN.out]; rfl, HB3.out⟩
      · have hIk : ¬ (k : Int) < (L.length : Int) := by omega
        have HRN : Hid (R = 0) := by show _ = _; rw [HRK.out, List.drop_of_length_le (by omega)]; rfl
        clear hk HRK
        go_wp2
        go_ret
        exact ⟨by rw [HRN.out]; rfl, HB.out⟩
end Go.Proofs.YtalbmkkplphahabDoor.Pa
/- rules: the law's light; a row of rules that is handed in. (A template.) -/
namespace Go.Proofs.YtalbmkkplphahabDoor.Pa
open Go.RowKit Go.ChangeShapes Go.WideShapes
set_option linter.unusedVariables false
set_option linter.unusedSimpArgs false
set_option maxRecDepth 100000

instance : Inhabited Ru := ⟨⟨0, [], false, false⟩⟩
theorem add_none (g off n : Nat) : (⟨g, off, none⟩ : Addr).add n = ⟨g, off + n, none⟩ := by
  unfold Addr.add; split <;> simp_all
theorem add_twice (a : Addr) (i j : Nat) : (a.add i).add j = a.add (i + j) := by
  unfold Addr.add
  by_cases hi : i = 0
  · subst hi; simp
  · by_cases hj : j = 0
    · subst hj; simp
    · simp [hi, hj, Nat.add_assoc]
/-- what a row of rules that is handed in reads as -/
theorem open_rules {H : Type} {enc : TypeId × Value → H} {W : World} {base fuel : Nat} {sp : Nat → Bool} {held : Bool} {v : Value} {x : DataW H × List MemPlace}
    (h : DataW.trod enc Tryd.prog W base sp held fuel 28 [v] = some x) : ∃ L : List Ru, RuAt W v L ∧ L.length ≤ maxLen ∧ ∀ r ∈ L, r.pat.length ≤ maxLen := by
  rcases Deep.open_slice Tryd.underlying28 h with ⟨hcs, _⟩ | ⟨a, len, cap, m, n, D, Pl, hcs, hb, hl, hm, hmm, hx, hr⟩
  · simp at hcs
    subst hcs
    exact ⟨[], ⟨none, 0, rfl, fun h => absurd rfl h⟩, by simp, by simp⟩
  · simp at hcs
    subst hcs
    have hlm : len ≤ m := by rw [hmm]; split <;> omega
    have hc4 : Tryd.prog.cellsOf 24 = 4 := by kernel_rfl
    have kI : Tryd.prog.cellsOf 3 = 1 := by kernel_rfl
    have kS : Tryd.prog.cellsOf 9 = 1 := by kernel_rfl
    have kB : Tryd.prog.cellsOf 4 = 1 := by kernel_rfl
    rw [hc4] at hr
    have each : ∀ i, i < len → ∃ r : Ru, W.cell? (a.add (i * 4)) = some (.int .i64 r.act) ∧ W.cell? (a.add (i * 4 + 1)) = some (.string (mk r.pat)) ∧ W.cell? (a.add (i * 4 + 2)) = some (.bool r.dir) ∧ W.cell? (a.add (i * 4 + 3)) = some (.bool r.anch) ∧ r.pat.length ≤ maxLen := by
      intro i hi
      obtain ⟨cs', h1, h2⟩ := hr i (by omega)
      obtain ⟨_, hlen, hcell⟩ := World.cells?_some h1
      obtain ⟨xs, k, hk, hxy, _, hxl, hf⟩ := DataW.trod_struct Tryd.underlying24 h2
      match xs, hxl, cs', hlen with
      | [y0, y1, y2, y3], _, [v0, v1, v2, v3], _ =>
        have g0 := hf 0 _ rfl
        have g1 := hf 1 _ rfl
        have g2 := hf 2 _ rfl
        have g3 := hf 3 _ rfl
        simp [kI, kS, kB] at g0 g1 g2 g3
        obtain ⟨z0, e0, _, q0⟩ := DataW.trod_int Tryd.underlying3 g0
        obtain ⟨z1, e1, _, q1⟩ := DataW.trod_string Tryd.underlying9 g1
        obtain ⟨z2, e2, _⟩ := DataW.trod_bool Tryd.underlying4 g2
        obtain ⟨z3, e3, _⟩ := DataW.trod_bool Tryd.underlying4 g3
        simp only [List.cons.injEq, and_true] at e0 e1 e2 e3
        subst e0 e1 e2 e3
        have c0 := hcell 0 (by omega)
        have c1 := hcell 1 (by omega)
        have c2 := hcell 2 (by omega)
        have c3 := hcell 3 (by omega)
        rw [add_twice] at c0 c1 c2 c3
        refine ⟨⟨z0, z1.data.toList, z2, z3⟩, c0, ?_, c2, c3, ?_⟩
        · rw [mk_data]; exact c1
        · show z1.data.toList.length ≤ _
          rw [Array.length_toList]; exact q1
    obtain ⟨f, hf⟩ := Deep.choose_lt each
    refine ⟨(List.range len).map f, ⟨some a, cap, by simp, fun hne => ?_⟩, by simp; omega, ?_⟩
    · have h0 : 0 < len := by
        rcases Nat.eq_zero_or_pos len with h | h
        · subst h; simp at hne
        · exact h
      obtain ⟨g, off, spot⟩ := a
      have hs : spot = none ∧ g < W.heap.size := by
        have hc := (hf 0 h0).1
        simp only [Nat.zero_mul, Addr.add, if_pos] at hc
        unfold World.cell? at hc
        simp only at hc
        split at hc
        · next hh =>
          refine ⟨?_, (Array.getElem?_eq_some_iff.1 hh).1⟩
          cases spot with
          | none => rfl
          | some y => simp at hc
        · cases hc
      obtain ⟨rfl, hg⟩ := hs
      refine ⟨g, off, rfl, hg, fun i r hi => ?_⟩
      rw [List.getElem?_map] at hi
      have hlt : i < len := by
        rcases Nat.lt_or_ge i len with h | h
        · exact h
        · rw [List.getElem?_eq_none (by simpa using h)] at hi; cases hi
      rw [List.getElem?_range hlt] at hi
      simp at hi
      subst hi
      obtain ⟨c0, c1, c2, c3, _⟩ := hf i hlt
      rw [add_none] at c0 c1 c2 c3
      exact ⟨c0, c1, c2, c3⟩
    · intro r hr'
      obtain ⟨i, hi, rfl⟩ := List.mem_map.1 hr'
      exact (hf i (List.mem_range.1 hi)).2.2.2.2
def lightB (L : List Ru) : Bool := decide (L.length ≤ 80) && L.all (fun r => decide (r.pat.length ≤ 200))
theorem lightB_of {L : List Ru} (h : lightB L = true) : L.length ≤ 80 ∧ ∀ r ∈ L, r.pat.length ≤ 200 := by
  unfold lightB at h
  simpa using h
set_option maxHeartbeats 8000000 in
theorem light_any (L : List Ru) (v : Value) (w : World) (hv : RuAt w v L) :
    Calls Tryd.prog 15 #[v] w fun e w' => e = .returned (.bool (lightB L)) ∧ Below w.heap.size w w' := by
  obtain ⟨a, c, rfl, hrow⟩ := hv
  obtain ⟨R, hR⟩ : ∃ R, R = lightB L := ⟨_, rfl⟩
  rw [← hR]
  have HROW := Lib.hid hrow
  clear hrow
  by_cases h80 : 80 < L.length
  · have hI : (80 : Int) < (L.length : Int) := by omega
    have HRR : Hid (R = false) := by show _ = _; rw [hR]; unfold lightB; rw [decide_eq_false (by omega)]; rfl
    clear hR h80
    go_enter Tryd.func15, Tryd.ntmps15
    go_wp2
    go_ret
    exact ⟨by rw [HRR.out]; rfl, Below.refl _ _⟩
  · have hI : ¬ (80 : Int) < (L.length : Int) := by omega
    have H0 : Hid (R = (L.drop 0).all (fun r => decide (r.pat.length ≤ 200))) := by show _ = _; rw [hR]; unfold lightB; rw [decide_eq_true (by omega)]; rfl
    have HLL : Hid (L.length ≤ 80) := by show _ ≤ _; omega
    clear hR h80
    go_enter Tryd.func15, Tryd.ntmps15
    go_wp2
    go_loopw [10] (fun i wr => ∃ k : Nat, i = .int .i64 k ∧ Hid (k ≤ L.length) ∧ Hid (R = (L.drop k).all (fun r => decide (r.pat.length ≤ 200))) ∧ Hid (Below w.heap.size w wr)) (fun i _ => L.length - (intOf i).toNat)
    case atStart => exact ⟨0, rfl, Nat.zero_le _, H0, Below.refl _ _⟩
    case round =>
      clear H0
      obtain ⟨k, rfl, HK, HRK, HB⟩ := hrel
      by_cases hk : k < L.length
      · have hIk : (k : Int) < (L.length : Int) := by omega
        obtain ⟨r, hr⟩ : ∃ r, L[k]? = some r := ⟨_, List.getElem?_eq_getElem hk⟩
        have hw1 : IntKind.i64.wrap ((k : Int) + 1) = (k : Int) + 1 := IntWalk.i64_in _ (by have := HLL.out; omega)
        obtain ⟨g, off, ea, hg, hc⟩ := HROW.out (by intro e; rw [e] at hr; simp at hr)
        obtain ⟨c0, c1, c2, c3⟩ := hc k r hr
        have k0 := (HB.out.cell (p := ⟨g, off + k * 4, none⟩) hg).trans c0
        have k1 := (HB.out.cell (p := ⟨g, off + k * 4 + 1, none⟩) hg).trans c1
        have k2 := (HB.out.cell (p := ⟨g, off + k * 4 + 2, none⟩) hg).trans c2
        have k3 := (HB.out.cell (p := ⟨g, off + k * 4 + 3, none⟩) hg).trans c3
        have hd : L.drop k = r :: L.drop (k + 1) := by
          obtain ⟨h1, h2⟩ := List.getElem?_eq_some_iff.1 hr
          rw [List.drop_eq_getElem_cons h1, h2]
        have HRK2 : Hid (R = (decide (r.pat.length ≤ 200) && (L.drop (k + 1)).all (fun r => decide (r.pat.length ≤ 200)))) := by show _ = _; rw [HRK.out, hd]; rfl
        have HBA : Hid (Below w.heap.size w (wr.alloc (.cells #[.int .i64 r.act, .string (mk r.pat), .bool r.dir, .bool r.anch] 24))) := HB.out.trans ((Below.refl _ _).alloc HB.out.size _)
        have HKL := Lib.hid hk
        have hsz : (mk r.pat).size = r.pat.length := mk_size _
        subst ea
        clear hk hr hc c0 c1 c2 c3 hd HRK
        obtain ⟨act, pat, rd, an⟩ := r
        simp only at k0 k1 k2 k3 HRK2 hsz HBA
        by_cases hz : pat.length ≤ 200
        · have hI2 : ¬ (200 : Int) < ((mk pat).size : Int) := by omega
          have HRN : Hid (R = (L.drop (k + 1)).all (fun r => decide (r.pat.length ≤ 200))) := by show _ = _; rw [HRK2.out, decide_eq_true hz]; rfl
          clear HRK2 hz hsz
          generalize mk pat = q at *
          go_wp2
          go_roundw
          case rel => exact ⟨k + 1, rfl, HKL.out, HRN, HBA⟩
          case measure => have := HKL.out; simp [intOf]; omega
        · have hI2 : (200 : Int) < ((mk pat).size : Int) := by omega
          have HRN : Hid (R = false) := by show _ = _; rw [HRK2.out, decide_eq_false hz]; rfl
          clear HRK2 hz hsz
          generalize mk pat = q at *
          go_wp2
          go_ret
          exact ⟨by rw [HRN.out]; rfl, HBA.out⟩
      · have hIk : ¬ (k : Int) < (L.length : Int) := by omega
        have HRN : Hid (R = true) := by show _ = _; rw [HRK.out, List.drop_of_length_le (by omega)]; rfl
        clear hk HRK
        go_wp2
        go_ret
        exact ⟨by rw [HRN.out]; rfl, HB.out⟩
end Go.Proofs.YtalbmkkplphahabDoor.Pa
/- rules: what is below a hidden directory is hidden: mathematics. (A template.) -/
namespace Go.Proofs.YtalbmkkplphahabDoor.Pa
set_option linter.unusedVariables false
set_option linter.unusedSimpArgs false

theorem glue_len_app (a b : List L8) : (glue a).length ≤ (glue (a ++ b)).length := by
  by_cases ha : a = []
  · subst ha; simp [glue]
  · by_cases hb : b = []
    · subst hb; simp
    · rw [glue_app ha hb, List.length_append]; omega
theorem Fine.take {g : List L8} (h : Fine g) (k : Nat) : Fine (g.take k) := by
  refine ⟨fun p hp => h.may p (List.mem_of_mem_take hp), by rw [List.length_take]; have := h.few; omega, ?_⟩
  have := glue_len_app (g.take k) (g.drop k)
  rw [List.take_append_drop] at this
  have := h.short
  omega
theorem Fine.ruled {g : List L8} (h : Fine g) (h0 : g ≠ []) : ruledB (glue g) = true := by
  unfold ruledB
  rw [h.right, decide_eq_true (glue_ne h0 h.ne)]; rfl
/-- one up from the k+1 first parts -/
theorem up_take {g : List L8} (h : Fine g) (k : Nat) (hk : k < g.length) : parentL (glue (g.take (k + 1))) = glue (g.take k) := by
  have h1 := h.take (k + 1)
  have h0 : g.take (k + 1) ≠ [] := fun e => by have := congrArg List.length e; rw [List.length_take, List.length_nil] at this; omega
  have e : (g.take (k + 1)).dropLast = g.take k := by
    rw [List.dropLast_eq_take, List.length_take, List.take_take]
    congr 1
    omega
  rw [(parent_cut _).1, h1.cut h0, e]
theorem glue_take_ne {g : List L8} (h : Fine g) (k : Nat) (hk : k < g.length) : glue (g.take (k + 1)) ≠ [] := by
  have h1 := h.take (k + 1)
  have h0 : g.take (k + 1) ≠ [] := fun e => by have := congrArg List.length e; rw [List.length_take, List.length_nil] at this; omega
  exact glue_ne h0 h1.ne
/-- what is asked of the first j parts, all of which are directories but perhaps the m-th -/
theorem hid_up (L : List Ru) {g : List L8} (h : Fine g) : ∀ (j n : Nat) (d : Bool), j ≤ g.length → (glue (g.take j)).length < n →
    (hidN L n (glue (g.take j)) d = true ↔ ∃ k, k < j ∧ firstR L (glue (g.take (k + 1))) (d || decide (k + 1 < j)) false = 2) := by
  intro j
  induction j with
  | zero =>
    intro n d hj hn
    obtain ⟨m, rfl⟩ : ∃ m, n = m + 1 := ⟨n - 1, by omega⟩
    rw [hidN_eq, if_pos (by simp [glue])]
    simp
  | succ j ih =>
    intro n d hj hn
    obtain ⟨m, rfl⟩ : ∃ m, n = m + 1 := ⟨n - 1, by omega⟩
    have hne := glue_take_ne h j (by omega)
    have hup := up_take h j (by omega)
    have hlt := parentL_lt hne
    rw [hidN_eq, if_neg hne, hup]
    rw [hup] at hlt
    by_cases h2 : firstR L (glue (g.take (j + 1))) d false = 2
    · rw [if_pos h2]
      refine ⟨fun _ => ⟨j, by omega, ?_⟩, fun _ => rfl⟩
      rw [decide_eq_false (by omega), Bool.or_false]; exact h2
    · rw [if_neg h2, ih m true (by omega) (by omega)]
      constructor
      · rintro ⟨k, hk, h3⟩
        refine ⟨k, by omega, ?_⟩
        rw [decide_eq_true (by omega : k + 1 < j + 1), Bool.or_true]
        simpa using h3
      · rintro ⟨k, hk, h3⟩
        have hkj : k ≠ j := by
          intro e; subst e
          rw [decide_eq_false (by omega), Bool.or_false] at h3
          exact h2 h3
        refine ⟨k, by omega, ?_⟩
        rw [decide_eq_true (by omega : k + 1 < j + 1), Bool.or_true] at h3
        simpa using h3
theorem hidden_iff (L : List Ru) {g : List L8} (h : Fine g) (h0 : g ≠ []) (d : Bool) : hiddenB L (glue g) d = true ↔ ∃ k, k < g.length ∧ firstR L (glue (g.take (k + 1))) (d || decide (k + 1 < g.length)) false = 2 := by
  unfold hiddenB
  rw [h.ruled h0, Bool.true_and]
  have := hid_up L h g.length ((glue g).length + 1) d (Nat.le_refl _) (by rw [List.take_length]; omega)
  rw [List.take_length] at this
  exact this
/-- two joined: the first one's parts come first -/
theorem join_two {p q : L8} (hp : rightB p = true) (hj : (jn [p, q]).2 = 0) : ∃ g t, Fine g ∧ p = glue g ∧ Fine (g ++ t) ∧ (jn [p, q]).1 = glue (g ++ t) := by
  obtain ⟨g, hg, rfl⟩ := right_fine hp
  have ha : allParts [glue g, q] = g ++ parts q := by simp [allParts, hg.parts]
  have hgg : good (g ++ parts q) = g ++ good (parts q) := by
    unfold good
    rw [List.filter_append]
    congr 1
    exact good_fine (fun p hp => (hg.may p hp).1)
  refine ⟨g, good (parts q), hg, rfl, ?_⟩
  unfold Pa.jn at hj ⊢
  rw [ha] at hj ⊢
  by_cases h : firstBad (g ++ parts q) ≠ 0
  · rw [if_pos h] at hj; exact absurd hj h
  · rw [if_neg h] at hj ⊢
    rw [hgg] at hj ⊢
    by_cases h2 : 12 < (g ++ good (parts q)).length ∨ 200 < (glue (g ++ good (parts q))).length
    · rw [if_pos h2] at hj; simp at hj
    · rw [if_neg h2]
      refine ⟨⟨?_, by omega, by omega⟩, rfl⟩
      rw [← hgg]
      exact good_may (Classical.byContradiction h) (fun x hx => by
        rcases List.mem_append.1 hx with hx | hx
        · exact (hg.may x hx).2.2
        · exact parts_free q x hx)
theorem below_hidden (L : List Ru) {g t : List L8} (hg : Fine g) (hgt : Fine (g ++ t)) (h0 : g ≠ []) (ht : t ≠ []) (d : Bool) (h : hiddenB L (glue g) true = true) : hiddenB L (glue (g ++ t)) d = true := by
  obtain ⟨k, hk, hf⟩ := (hidden_iff L hg h0 true).1 h
  refine (hidden_iff L hgt (by simp [h0]) d).2 ⟨k, by rw [List.length_append]; omega, ?_⟩
  have htl : 0 < t.length := List.length_pos_iff.2 ht
  rw [List.take_append_of_le_length (by omega), decide_eq_true (by rw [List.length_append]; omega), Bool.or_true]
  simpa using hf
end Go.Proofs.YtalbmkkplphahabDoor.Pa
/- rules: Print. (A template.) -/
namespace Go.Proofs.YtalbmkkplphahabDoor.Pa
open Go.RowKit
set_option linter.unusedVariables false
set_option linter.unusedSimpArgs false
set_option maxRecDepth 100000

theorem mk_plus (a b : L8) : mk a ++ mk b = mk (a ++ b) := by
  have h : (mk a ++ mk b).data = (mk (a ++ b)).data := by simp [mk]
  generalize mk a ++ mk b = x at h
  generalize mk (a ++ b) = y at h
  cases x; cases y; simp_all
theorem run_plus (a b : L8) (h : a.length + b.length ≤ 4611686018427387904) (W : World) : (Op.stringOp .add (mk a) (mk b)).run Tryd.prog W = .ok (.string (mk (a ++ b))) W := by
  have ha := mk_size a
  have hb := mk_size b
  rw [run_string_add_sum W _ _ (by omega), mk_plus]
def signOf (act : Int) : L8 := (([43, 45, 80, 82] : L8).drop (act - 1).toNat).take 1
def lineOf (r : Ru) : L8 := ((signOf r.act ++ [32]) ++ (if r.anch then [47] else [])) ++ r.pat ++ (if r.dir then [47] else [])
def printR (r : Ru) : L8 × Int := if refE r.act r.pat ≠ 0 then ([], refE r.act r.pat) else (lineOf r, 0)
theorem signOf_len (act : Int) : (signOf act).length ≤ 1 := by unfold signOf; rw [List.length_take]; omega
set_option maxHeartbeats 8000000 in
theorem print_any (r : Ru) (w : World) (hl : r.pat.length ≤ 4611686018427380000) :
    Calls Tryd.prog 16 #[r.val] w fun e w' => e = .returned (.tuple #[.string (mk (printR r).1), .int .i64 (printR r).2]) ∧ Below w.heap.size w w' := by
  obtain ⟨act, pat, di, an⟩ := r
  obtain ⟨w1, hw1⟩ : ∃ w1, w1 = w.alloc (.cells #[.int .i64 act, .string (mk pat), .bool di, .bool an] 24) := ⟨_, rfl⟩
  have hr1 : w1.heap[w.heap.size]? = some (.cells #[.int .i64 act, .string (mk pat), .bool di, .bool an] 24) := by rw [hw1]; exact heap_new _ _
  have hb1 : Below w.heap.size w w1 := by rw [hw1]; exact (Below.refl _ _).alloc (Nat.le_refl _) _
  have HRF : Hid (Calls Tryd.prog 34 #[ruV act (mk pat) di an] w1 fun e w' => e = .returned (.int .i64 (refE act pat)) ∧ w'.heap[w.heap.size]? = some (.cells #[.int .i64 act, .string (mk pat), .bool di, .bool an] 24) ∧ Below w.heap.size w w') :=
    (refused_ru act pat di an w1 (by have : pat.length ≤ 4611686018427380000 := hl; omega)).mono fun e w' ⟨h1, h2⟩ => ⟨h1, (h2.block _ (Array.getElem?_eq_some_iff.1 hr1).1).trans hr1, hb1.trans (h2.mono hb1.size)⟩
  rw [hw1] at HRF
  have hlp : pat.length ≤ 4611686018427380000 := hl
  clear hl hw1 hr1 hb1
  show Calls _ _ #[ruV act (mk pat) di an] w _
  obtain ⟨R1, hR1⟩ : ∃ x, x = (printR ⟨act, pat, di, an⟩).1 := ⟨_, rfl⟩
  obtain ⟨R2, hR2⟩ : ∃ x, x = (printR ⟨act, pat, di, an⟩).2 := ⟨_, rfl⟩
  rw [← hR1, ← hR2]
  unfold printR at hR1 hR2
  simp only at hR1 hR2
  by_cases hz : refE act pat = 0
  · rw [if_neg (by simpa using hz)] at hR1 hR2
    have hact : 1 ≤ act ∧ act ≤ 4 := by
      unfold refE misE at hz
      by_cases h : act < 1 ∨ 4 < act
      · rw [if_pos h] at hz; simp at hz
      · omega
    rw [hz] at HRF
    obtain ⟨a, ha⟩ : ∃ a : Nat, act - 1 = (a : Int) := ⟨(act - 1).toNat, by omega⟩
    have hw : IntKind.i64.wrap (act - 1) = (a : Int) := by rw [ha]; exact IntWalk.i64_in _ (by omega)
    have hat : (act - 1).toNat = a := by omega
    have hxt : ∀ W, (Instr.slice 9 (.string { data := #[43, 45, 80, 82] }) (some (.int .i64 (a : Int))) none none).run Tryd.prog W = .ok (.string (mk (([43, 45, 80, 82] : L8).drop a))) W := fun W => run_tl [43, 45, 80, 82] a (by simp; omega) W
    have hxh : ∀ W, (Instr.slice 9 (.string (mk (([43, 45, 80, 82] : L8).drop a))) none (some (.int .i64 1)) none).run Tryd.prog W = .ok (.string (mk (signOf act))) W := fun W => by
      have := run_hd (([43, 45, 80, 82] : L8).drop a) 1 (by rw [List.length_drop]; simp; omega) W
      unfold signOf
      rw [hat]; exact this
    have hsl := signOf_len act
    have p1 : ∀ W, (Op.stringOp .add (mk (signOf act)) { data := #[32] }).run Tryd.prog W = .ok (.string (mk (signOf act ++ [32]))) W := fun W => run_plus (signOf act) [32] (by simp; omega) W
    have p2 : ∀ W, (Op.stringOp .add (mk (signOf act ++ [32])) { data := #[47] }).run Tryd.prog W = .ok (.string (mk ((signOf act ++ [32]) ++ [47]))) W := fun W => run_plus (signOf act ++ [32]) [47] (by simp; omega) W
    have p3 : ∀ W, (Op.stringOp .add (mk ((signOf act ++ [32]) ++ [47])) (mk pat)).run Tryd.prog W = .ok (.string (mk ((signOf act ++ [32]) ++ [47] ++ pat))) W := fun W => run_plus _ pat (by simp; omega) W
    have p4 : ∀ W, (Op.stringOp .add (mk (signOf act ++ [32])) (mk pat)).run Tryd.prog W = .ok (.string (mk ((signOf act ++ [32]) ++ pat))) W := fun W => run_plus _ pat (by simp; omega) W
    have p5 : ∀ W, (Op.stringOp .add (mk ((signOf act ++ [32]) ++ [47] ++ pat)) { data := #[47] }).run Tryd.prog W = .ok (.string (mk ((signOf act ++ [32]) ++ [47] ++ pat ++ [47]))) W := fun W => run_plus _ [47] (by simp; omega) W
    have p6 : ∀ W, (Op.stringOp .add (mk ((signOf act ++ [32]) ++ pat)) { data := #[47] }).run Tryd.prog W = .ok (.string (mk ((signOf act ++ [32]) ++ pat ++ [47]))) W := fun W => run_plus _ [47] (by simp; omega) W
    unfold lineOf at hR1
    simp only at hR1 hR2
    have HR2 : Hid (R2 = 0) := hR2
    have fin : ∀ x, x = R1 → ∀ w3, Below w.heap.size w w3 → (Ending.returned (.tuple #[.string (mk x), .int .i64 0]) = .returned (.tuple #[.string (mk R1), .int .i64 R2]) ∧ Below w.heap.size w w3) := fun x hx w3 hb => ⟨by rw [hx, hR2], hb⟩
    clear hz hat hsl hlp hact ha hR2
    generalize mk (([43, 45, 80, 82] : L8).drop a) = z0 at *
    generalize hz1 : mk (signOf act) = z1 at *
    cases an <;> cases di <;> simp only [if_pos, if_neg, Bool.false_eq_true, if_false, if_true, List.append_nil] at hR1
    all_goals
      have HF := Lib.hid (fin _ hR1.symm)
      clear fin hR1 HR2 hz1
      generalize mk (signOf act ++ [32] ++ [47] ++ pat ++ [47]) = y1 at *
      generalize mk (signOf act ++ [32] ++ [47] ++ pat) = y2 at *
      generalize mk (signOf act ++ [32] ++ pat ++ [47]) = y3 at *
      generalize mk (signOf act ++ [32] ++ pat) = y4 at *
      generalize mk (signOf act ++ [32] ++ [47]) = y5 at *
      generalize mk (signOf act ++ [32]) = y6 at *
      generalize mk pat = q at *
      go_enter Tryd.func16, Tryd.ntmps16
      go_wp2_with (go_at_call 34; refine HRF.out.mono ?_; rintro e w3 ⟨rfl, hr, hb⟩; obtain ⟨⟨k0, k1, k2, k3⟩, -⟩ := cells4 hr; have HB := Lib.hid hb; clear hb hr)
      go_ret2
      exact HF.out _ HB.out
  · rw [if_pos hz] at hR1 hR2
    have hne : (refE act pat == 0) = false := by simpa using hz
    have HF : Hid (R1 = [] ∧ R2 = refE act pat) := ⟨hR1, hR2⟩
    clear hz hlp hR1 hR2
    generalize refE act pat = er at *
    generalize mk pat = q at *
    go_enter Tryd.func16, Tryd.ntmps16
    go_wp2_with (go_at_call 34; refine HRF.out.mono ?_; rintro e w3 ⟨rfl, hr, hb⟩; have HB := Lib.hid hb; clear hb hr)
    try simp only [Exit.inBlock, Exit.then]
    go_ret2
    exact ⟨by rw [HF.out.1, HF.out.2]; rfl, HB.out⟩
end Go.Proofs.YtalbmkkplphahabDoor.Pa
/- rules: Text. (A template.) -/
namespace Go.Proofs.YtalbmkkplphahabDoor.Pa
open Go.RowKit
set_option linter.unusedVariables false
set_option linter.unusedSimpArgs false
set_option maxRecDepth 100000

theorem bat_keep {B b : Nat} {p : Value} {bs : List Value} {w w' : World} (h : Lib.BuilderAt 61 5 B b p bs w) (hb : Below w.heap.size w w') : Lib.BuilderAt 61 5 B b p bs w' := by
  obtain ⟨hB, v, hbk, hown, hne⟩ := h
  exact ⟨hB, v, (hb.block _ (Array.getElem?_eq_some_iff.1 hbk).1).trans hbk, (KeepCD.below hb).row hown, hne⟩
theorem bld_keep {B b : Nat} {bs : List Value} {w w' : World} (h : Bld B b bs w) (hb : Below w.heap.size w w') : Bld B b bs w' := by
  rcases h with h | h
  · exact .inl (bat_keep h hb)
  · exact .inr (bat_keep h hb)
theorem cells_app (a b : L8) : Lib.byteCells (a ++ b) = Lib.byteCells a ++ Lib.byteCells b := by simp [Lib.byteCells]
/-- the lines so far, and those of the rest; or what is wrong first -/
def textGo : L8 → List Ru → L8 × Int
  | acc, [] => (acc, 0)
  | acc, r :: L => if refE r.act r.pat ≠ 0 then ([], refE r.act r.pat) else textGo (acc ++ lineOf r ++ [10]) L
def textR (L : List Ru) : L8 × Int := if 64 < L.length then ([], 7) else textGo [] L
theorem lineOf_len (r : Ru) : (lineOf r).length ≤ r.pat.length + 4 := by
  unfold lineOf
  have := signOf_len r.act
  simp only [List.length_append, List.length_cons, List.length_nil]
  split <;> split <;> simp <;> omega
set_option maxHeartbeats 8000000 in
theorem text_any (L : List Ru) (v : Value) (w : World) (hv : RuAt w v L) (hl : ∀ r ∈ L, r.pat.length ≤ 1000000) :
    Calls Tryd.prog 17 #[v] w fun e w' => e = .returned (.tuple #[.string (mk (textR L).1), .int .i64 (textR L).2]) ∧ Below w.heap.size w w' := by
  obtain ⟨a, c, rfl, hrow⟩ := hv
  obtain ⟨R1, hR1⟩ : ∃ R, R = (textR L).1 := ⟨_, rfl⟩
  obtain ⟨R2, hR2⟩ : ∃ R, R = (textR L).2 := ⟨_, rfl⟩
  rw [← hR1, ← hR2]
  have HRR : Hid (textR L = (R1, R2)) := by show _ = _; rw [hR1, hR2]
  have HROW := Lib.hid hrow
  have HPL := Lib.hid hl
  have HPR : Hid (∀ r ∈ L, ∀ W, Calls Tryd.prog 16 #[.agg #[.int .i64 r.act, .string (mk r.pat), .bool r.dir, .bool r.anch]] W fun e w' => e = .returned (.tuple #[.string (mk (printR r).1), .int .i64 (printR r).2]) ∧ Below W.heap.size W w') := fun r hr W => print_any r W (by have := hl r hr; omega)
  clear hrow hl hR1 hR2
  by_cases h64 : 64 < L.length
  · have hI : (64 : Int) < (L.length : Int) := by omega
    have hrr := HRR.out
    unfold textR at hrr
    rw [if_pos h64] at hrr
    injection hrr with e1 e2
    subst e1 e2
    clear h64
    go_enter Tryd.func17, Tryd.ntmps17
    go_wp2
    go_ret2
    exact ⟨rfl, Below.refl _ _⟩
  · have hI : ¬ (64 : Int) < (L.length : Int) := by omega
    have H0 : Hid (textGo [] (L.drop 0) = (R1, R2)) := by show _ = _; rw [← HRR.out]; unfold textR; rw [if_neg h64]; rfl
    have HLL : Hid (L.length ≤ 64) := by show _ ≤ _; omega
    have HB0 : Hid (Bld w.heap.size w.heap.size (Lib.byteCells []) (w.alloc (.cells #[.pointer none, .slice none 0 0] 61))) := bld_new w
    have HL0 : Hid (Below w.heap.size w (w.alloc (.cells #[.pointer none, .slice none 0 0] 61))) := (Below.refl _ _).alloc (Nat.le_refl _) _
    clear h64 HRR
    go_enter Tryd.func17, Tryd.ntmps17
    go_wp2
    go_loopw [14] (fun i wr => ∃ (k : Nat) (acc : L8), i = .int .i64 k ∧ Hid (k ≤ L.length) ∧ Hid (textGo acc (L.drop k) = (R1, R2)) ∧ Hid (acc.length ≤ k * 1000005) ∧ Hid (Bld w.heap.size w.heap.size (Lib.byteCells acc) wr) ∧ Hid (Below w.heap.size w wr)) (fun i _ => L.length - (intOf i).toNat)
    case atStart => exact ⟨0, [], rfl, Nat.zero_le _, H0, Nat.zero_le _, HB0, HL0⟩
    case round =>
      clear H0 HB0 HL0
      obtain ⟨k, acc, rfl, HK, HRK, HAC, HBD, HB⟩ := hrel
      by_cases hk : k < L.length
      · have hIk : (k : Int) < (L.length : Int) := by omega
        obtain ⟨r, hr⟩ : ∃ r, L[k]? = some r := ⟨_, List.getElem?_eq_getElem hk⟩
        have hw1 : IntKind.i64.wrap ((k : Int) + 1) = (k : Int) + 1 := IntWalk.i64_in _ (by have := HLL.out; omega)
        obtain ⟨g, off, ea, hg, hc⟩ := HROW.out (by intro e; rw [e] at hr; simp at hr)
        obtain ⟨c0, c1, c2, c3⟩ := hc k r hr
        have k0 := (HB.out.cell (p := ⟨g, off + k * 4, none⟩) hg).trans c0
        have k1 := (HB.out.cell (p := ⟨g, off + k * 4 + 1, none⟩) hg).trans c1
        have k2 := (HB.out.cell (p := ⟨g, off + k * 4 + 2, none⟩) hg).trans c2
        have k3 := (HB.out.cell (p := ⟨g, off + k * 4 + 3, none⟩) hg).trans c3
        have hd : L.drop k = r :: L.drop (k + 1) := by
          obtain ⟨h1, h2⟩ := List.getElem?_eq_some_iff.1 hr
          rw [List.drop_eq_getElem_cons h1, h2]
        have HRK2 : Hid ((if refE r.act r.pat ≠ 0 then ([], refE r.act r.pat) else textGo (acc ++ lineOf r ++ [10]) (L.drop (k + 1))) = (R1, R2)) := by show _ = _; rw [← HRK.out, hd, textGo]
        obtain ⟨w1, hw1'⟩ : ∃ w1, w1 = wr.alloc (.cells #[.int .i64 r.act, .string (mk r.pat), .bool r.dir, .bool r.anch] 24) := ⟨_, rfl⟩
        have hb1 : Below wr.heap.size wr w1 := by rw [hw1']; exact (Below.refl _ _).alloc (Nat.le_refl _) _
        have HFT : Hid (Calls Tryd.prog 16 #[.agg #[.int .i64 r.act, .string (mk r.pat), .bool r.dir, .bool r.anch]] w1 fun e w' => e = .returned (.tuple #[.string (mk (printR r).1), .int .i64 (printR r).2]) ∧ Bld w.heap.size w.heap.size (Lib.byteCells acc) w' ∧ Below w.heap.size w w') :=
          (HPR.out r (List.mem_of_getElem? hr) w1).mono fun e w' ⟨h1, h2⟩ => ⟨h1, bld_keep HBD.out (hb1.trans (h2.mono hb1.size)), HB.out.trans ((hb1.trans (h2.mono hb1.size)).mono HB.out.size)⟩
        rw [hw1'] at HFT
        have HKL := Lib.hid hk
        have hpl : r.pat.length ≤ 1000000 := HPL.out r (List.mem_of_getElem? hr)
        have hll := lineOf_len r
        have hln : (lineOf r).length ≤ 1000004 := by omega
        have HLN := Lib.hid hln
        subst ea
        clear hk hr hc c0 c1 c2 c3 hd hw1' hb1 HRK hpl hll hln
        by_cases hz : refE r.act r.pat = 0
        · have hpr : printR r = (lineOf r, 0) := by unfold printR; rw [if_neg (by simpa using hz)]
          rw [hpr] at HFT
          have HRN : Hid (textGo (acc ++ lineOf r ++ [10]) (L.drop (k + 1)) = (R1, R2)) := by show _ = _; rw [← HRK2.out, if_neg (by simpa using hz)]
          have HSZ : Hid ((mk (lineOf r)).size = (lineOf r).length) := mk_size _
          have HWS : Hid (∀ W, Bld w.heap.size w.heap.size (Lib.byteCells acc) W → Below w.heap.size w W → Calls Tryd.prog 38 #[.pointer (some ⟨w.heap.size, 0, none⟩), .string (mk (lineOf r))] W fun e w' => e = .returned (.tuple #[.int .i64 (mk (lineOf r)).size, .nilIface]) ∧ Bld w.heap.size w.heap.size (Lib.byteCells (acc ++ lineOf r)) w' ∧ Below w.heap.size w w') := by
            intro W h1 h2
            refine (writeString_any _ _ _ (mk (lineOf r)) W h1 (by have := HSZ.out; have := HLN.out; have := HAC.out; have := HKL.out; have := HLL.out; simp [Lib.byteCells]; omega) h2.size).mono ?_
            rintro e w' ⟨r1, r2, r3⟩
            refine ⟨r1, ?_, h2.trans r3⟩
            rw [cells_app]
            have : Lib.strCells (mk (lineOf r)) = Lib.byteCells (lineOf r) := by simp [Lib.strCells, Lib.byteCells, mk_list]
            rwa [← this]
          have HWB : Hid (∀ W, Bld w.heap.size w.heap.size (Lib.byteCells (acc ++ lineOf r)) W → Below w.heap.size w W → Calls Tryd.prog 39 #[.pointer (some ⟨w.heap.size, 0, none⟩), .int .u8 10] W fun e w' => e = .returned .nilIface ∧ Bld w.heap.size w.heap.size (Lib.byteCells (acc ++ lineOf r ++ [10])) w' ∧ Below w.heap.size w w') := by
            intro W h1 h2
            refine (writeByte_any _ _ _ 10 W h1 (by have := HLN.out; have := HAC.out; have := HKL.out; have := HLL.out; simp [Lib.byteCells]; omega) h2.size).mono ?_
            rintro e w' ⟨r1, r2, r3⟩
            refine ⟨r1, ?_, h2.trans r3⟩
            rw [cells_app]
            exact r2
          have HACN : Hid ((acc ++ lineOf r ++ [10]).length ≤ (k + 1) * 1000005) := by
            show _ ≤ _
            have := HLN.out; have := HAC.out
            simp only [List.length_append, List.length_cons, List.length_nil]
            omega
          obtain ⟨act, pat, rd, an⟩ := r
          simp only at k0 k1 k2 k3 HFT
          clear hpr hz HRK2 HPR
          generalize mk (lineOf ⟨act, pat, rd, an⟩) = ln at *
          generalize lineOf ⟨act, pat, rd, an⟩ = ll at *
          generalize mk pat = q at *
          go_wp2_with (first
            | (go_at_call 16; refine HFT.out.mono ?_; rintro e w3 ⟨rfl, h2, hb2⟩; have H2 := Lib.hid h2; have HB2 := Lib.hid hb2; clear h2 hb2)
            | (go_at_call 38; refine (HWS.out _ H2.out HB2.out).mono ?_; rintro e w4 ⟨rfl, h2, hb2⟩; have H2 := Lib.hid h2; have HB2 := Lib.hid hb2; clear h2 hb2)
            | (go_at_call 39; refine (HWB.out _ H2.out HB2.out).mono ?_; rintro e w5 ⟨rfl, h2, hb2⟩; have H2 := Lib.hid h2; have HB2 := Lib.hid hb2; clear h2 hb2))
          go_roundw
          case rel => exact ⟨k + 1, _, rfl, HKL.out, HRN, HACN, H2, HB2⟩
          case measure => have := HKL.out; simp [intOf]; omega
        · have hpr : printR r = ([], refE r.act r.pat) := by unfold printR; rw [if_pos hz]
          rw [hpr] at HFT
          have hrn := HRK2.out
          rw [if_pos hz] at hrn
          injection hrn with e1 e2
          have hne : (refE r.act r.pat == 0) = false := by simpa using hz
          obtain ⟨act, pat, rd, an⟩ := r
          simp only at k0 k1 k2 k3 HFT e2 hne
          clear hpr hz HRK2 HPR
          subst e1
          generalize refE act pat = er at *
          subst e2
          generalize mk pat = q at *
          go_wp2_with (go_at_call 16; refine HFT.out.mono ?_; rintro e w3 ⟨rfl, h2, hb2⟩; have HB2 := Lib.hid hb2; clear h2 hb2)
          go_ret2
          exact ⟨rfl, HB2.out⟩
      · have hIk : ¬ (k : Int) < (L.length : Int) := by omega
        have hrn := HRK.out
        rw [List.drop_of_length_le (by omega), textGo] at hrn
        injection hrn with e1 e2
        have HST : Hid (Calls Tryd.prog 40 #[.pointer (some ⟨w.heap.size, 0, none⟩)] wr fun e w' => e = .returned (.string (mk acc)) ∧ Below w.heap.size w w') := by
          refine (Tryd.Builder_String_any _ _ acc wr HBD.out HB.out.size).mono ?_
          rintro e w' ⟨r1, r2⟩
          exact ⟨r1, HB.out.trans r2⟩
        subst e1 e2
        clear hk HRK
        go_wp2_with (go_at_call 40; refine HST.out.mono ?_; rintro e w3 ⟨rfl, hb2⟩; have HB2 := Lib.hid hb2; clear hb2)
        go_ret2
        exact ⟨rfl, HB2.out⟩
end Go.Proofs.YtalbmkkplphahabDoor.Pa
/- rules: there and back: mathematics. (A template.) -/
namespace Go.Proofs.YtalbmkkplphahabDoor.Pa
set_option linter.unusedVariables false
set_option linter.unusedSimpArgs false
open Go.Proofs.YtalbmkkplphahabDoor.Me

theorem sign_back (act : Int) (h : 1 ≤ act ∧ act ≤ 4) : ∃ c : UInt8, signOf act = [c] ∧ signI c = act - 1 ∧ c ≠ 10 ∧ c ≠ 35 := by
  have : act = 1 ∨ act = 2 ∨ act = 3 ∨ act = 4 := by omega
  rcases this with rfl | rfl | rfl | rfl
  · exact ⟨43, rfl, by decide, by decide, by decide⟩
  · exact ⟨45, rfl, by decide, by decide, by decide⟩
  · exact ⟨80, rfl, by decide, by decide, by decide⟩
  · exact ⟨82, rfl, by decide, by decide, by decide⟩
theorem sign_fore (c : UInt8) (h : 0 ≤ signI c) : signOf (1 + signI c) = [c] := by
  have hs : signI c = 0 ∧ c = 43 ∨ signI c = 1 ∧ c = 45 ∨ signI c = 2 ∧ c = 80 ∨ signI c = 3 ∧ c = 82 := by
    unfold signI at h ⊢
    simp only [Lib.indexByte] at h ⊢
    repeat' split at h
    all_goals simp_all
  rcases hs with ⟨h1, rfl⟩ | ⟨h1, rfl⟩ | ⟨h1, rfl⟩ | ⟨h1, rfl⟩ <;> rw [h1] <;> rfl
theorem may_of {r : Ru} (h : refE r.act r.pat = 0) : (1 ≤ r.act ∧ r.act ≤ 4) ∧ ¬ bad r.pat := by
  unfold refE misE at h
  by_cases h1 : r.act < 1 ∨ 4 < r.act
  · rw [if_pos h1] at h; simp at h
  · rw [if_neg h1] at h
    by_cases h2 : bad r.pat
    · rw [if_pos h2] at h; simp at h
    · exact ⟨by omega, h2⟩
theorem nb_get (l : L8) (i : Nat) (c : UInt8) (h : l[i]? = some c) : nb l i = c.toNat := by
  unfold nb; rw [List.getD_eq_getElem?_getD, h]; rfl
theorem cutp_not {l : L8} (h : nb l 0 ≠ 47) : cutp l = (l, false) := by
  unfold cutp
  rw [if_neg]
  cases l with
  | nil => simp
  | cons c l =>
    intro e
    simp [List.isPrefixOf] at e
    subst e
    exact h rfl
theorem cutp_yes (l : L8) : cutp (47 :: l) = (l, true) := by
  unfold cutp
  rw [if_pos (by simp [List.isPrefixOf])]; rfl
theorem cuts_yes (l : L8) : cuts (l ++ [47]) = (l, true) := by
  unfold cuts sufB
  have e : nb (l ++ [47]) ((l ++ [47]).length - 1) = 47 := by
    apply nb_get _ _ (47 : UInt8)
    rw [List.length_append]; simp
  rw [if_pos (decide_eq_true ⟨by simp, e⟩)]
  simp
theorem cuts_not {l : L8} (h : nb l (l.length - 1) ≠ 47) : cuts l = (l, false) := by
  unfold cuts sufB
  rw [if_neg (by simp [h])]
theorem parse_print {r : Ru} (h : refE r.act r.pat = 0) : parseR (lineOf r) = (r, 0) := by
  obtain ⟨hact, hbad⟩ := may_of h
  obtain ⟨act, pat, di, an⟩ := r
  simp only at h hact hbad
  obtain ⟨c, hc, hs, -, -⟩ := sign_back act hact
  have hne : pat ≠ [] := fun e => hbad (.inl e)
  have hn0 : nb pat 0 ≠ 47 := fun e => hbad (.inr (.inl e))
  have hnl : nb pat (pat.length - 1) ≠ 47 := fun e => hbad (.inr (.inr (.inl e)))
  obtain ⟨body, hb⟩ : ∃ b : L8, b = (if an then [47] else []) ++ pat ++ (if di then [47] else []) := ⟨_, rfl⟩
  have hl : lineOf ⟨act, pat, di, an⟩ = c :: 32 :: body := by
    unfold lineOf
    simp only [hc, hb]
    simp
  have hcut : cutp body = (pat ++ (if di then [47] else []), an) := by
    cases an with
    | true => rw [hb]; simp [cutp_yes]
    | false =>
      have e : body = pat ++ (if di then [47] else []) := by rw [hb]; simp
      rw [← e]
      apply cutp_not
      rw [e]
      obtain ⟨x, y, rfl⟩ := List.exists_cons_of_ne_nil hne
      simpa [nb] using hn0
  have hcs : cuts (pat ++ (if di then [47] else [])) = (pat, di) := by
    cases di with
    | true => simpa using cuts_yes pat
    | false =>
      have e : pat ++ (if false = true then [47] else []) = pat := by simp
      rw [e]; exact cuts_not hnl
  have hlr : lineRu (lineOf ⟨act, pat, di, an⟩) = ⟨act, pat, di, an⟩ := by
    unfold lineRu
    rw [hl]
    simp only [List.drop_succ_cons, List.drop_zero, List.getD_cons_zero, hcut, hcs, hs]
    congr 1
    omega
  unfold parseR
  rw [hlr, if_neg, if_neg (by simpa using h)]
  rw [hl]
  have h1 : nb (c :: 32 :: body) 1 = 32 := rfl
  rw [h1]
  simp only [List.length_cons, List.getD_cons_zero, hs]
  omega
theorem print_parse {l : L8} {r : Ru} (h : parseR l = (r, 0)) : refE r.act r.pat = 0 ∧ lineOf r = l := by
  unfold parseR at h
  by_cases h1 : l.length < 2 ∨ nb l 1 ≠ 32 ∨ signI (l.getD 0 0) < 0
  · rw [if_pos h1] at h; simp at h
  · rw [if_neg h1] at h
    by_cases h2 : refE (lineRu l).act (lineRu l).pat ≠ 0
    · rw [if_pos h2] at h
      injection h with _ h; exact absurd h h2
    · rw [if_neg h2] at h
      injection h with h _
      subst h
      refine ⟨by simpa using h2, ?_⟩
      have hlen : 2 ≤ l.length := by omega
      have h32 : nb l 1 = 32 := by omega
      have hsg : 0 ≤ signI (l.getD 0 0) := by omega
      obtain ⟨c, d, body, rfl⟩ : ∃ c d b, l = c :: d :: b := by
        match l, hlen with
        | c :: d :: b, _ => exact ⟨c, d, b, rfl⟩
      have hd : d = 32 := by
        unfold nb at h32
        simp at h32
        apply UInt8.toNat_inj.1
        rw [h32]; rfl
      subst hd
      simp only [List.getD_cons_zero] at hsg
      have h3 : ∀ b : L8, (if (cutp b).2 = true then [47] else []) ++ (cutp b).1 = b := by
        intro b
        unfold cutp
        by_cases hp : [47].isPrefixOf b = true
        · rw [if_pos hp]
          cases b with
          | nil => simp [List.isPrefixOf] at hp
          | cons x y => simp [List.isPrefixOf] at hp; subst hp; simp
        · rw [if_neg hp]; simp
      have h4 : ∀ b : L8, (cuts b).1 ++ (if (cuts b).2 = true then [47] else []) = b := by
        intro b
        unfold cuts
        by_cases hp : sufB b = true
        · rw [if_pos hp]
          unfold sufB at hp
          obtain ⟨hp1, hp2⟩ := of_decide_eq_true hp
          have hlt : b.length - 1 < b.length := by have := List.length_pos_iff.2 hp1; omega
          have e : b[b.length - 1] = 47 := by
            apply UInt8.toNat_inj.1
            have := nb_get b (b.length - 1) _ (List.getElem?_eq_getElem hlt)
            rw [← this, hp2]; rfl
          have e2 := List.take_append_getElem hlt
          rw [e, Nat.sub_add_cancel (by omega), List.take_length] at e2
          simpa using e2
        · rw [if_neg hp]; simp
      unfold lineOf lineRu
      simp only [List.drop_succ_cons, List.drop_zero, List.getD_cons_zero]
      rw [sign_fore c hsg]
      have e3 := h3 body
      have e4 := h4 (cutp body).1
      rw [List.append_assoc, List.append_assoc, e4, e3]
      rfl
/-! the lines of a text -/
theorem lineOf_no10 {r : Ru} (h : refE r.act r.pat = 0) : (∀ x ∈ lineOf r, x ≠ 10) ∧ passed (lineOf r) = false := by
  obtain ⟨hact, hbad⟩ := may_of h
  obtain ⟨act, pat, di, an⟩ := r
  simp only at h hact hbad
  obtain ⟨c, hc, -, h10, h35⟩ := sign_back act hact
  have hp : ∀ x ∈ pat, x ≠ 10 := fun x hx e => hbad (.inr (.inr (.inr (e ▸ hx))))
  have hl : lineOf ⟨act, pat, di, an⟩ = c :: 32 :: ((if an then [47] else []) ++ pat ++ (if di then [47] else [])) := by
    unfold lineOf
    simp only [hc]
    simp
  rw [hl]
  constructor
  · intro x hx
    simp only [List.mem_cons, List.mem_append] at hx
    rcases hx with rfl | rfl | (hx | hx) | hx
    · exact h10
    · decide
    · cases an <;> simp at hx; subst hx; decide
    · exact hp x hx
    · cases di <;> simp at hx; subst hx; decide
  · unfold passed
    apply decide_eq_false
    rintro (e | e)
    · simp at e
    · have : c.toNat = 35 := e
      exact h35 (UInt8.toNat_inj.1 (by rw [this]; rfl))
theorem textGo_ok (L : List Ru) : ∀ (acc t : L8), textGo acc L = (t, 0) → (∀ r ∈ L, refE r.act r.pat = 0) ∧ t = acc ++ L.flatMap (fun r => lineOf r ++ [10]) := by
  induction L with
  | nil => intro acc t h; rw [textGo] at h; injection h with h _; subst h; simp
  | cons r L ih =>
    intro acc t h
    rw [textGo] at h
    by_cases hz : refE r.act r.pat = 0
    · rw [if_neg (by simpa using hz)] at h
      obtain ⟨h1, h2⟩ := ih _ _ h
      refine ⟨?_, by rw [h2]; simp⟩
      intro x hx
      rcases List.mem_cons.1 hx with rfl | hx
      · exact hz
      · exact h1 x hx
    · rw [if_pos hz] at h
      injection h with _ h; exact absurd h hz
theorem cut_lines (L : List Ru) (h : ∀ r ∈ L, refE r.act r.pat = 0) : cutc 10 (L.flatMap (fun r => lineOf r ++ [10])) = L.map lineOf ++ [[]] := by
  induction L with
  | nil => rfl
  | cons r L ih =>
    rw [List.flatMap_cons, show (lineOf r ++ [10]) ++ L.flatMap (fun r => lineOf r ++ [10]) = lineOf r ++ 10 :: L.flatMap (fun r => lineOf r ++ [10]) from by simp, cutc_at (lineOf_no10 (h r (by simp))).1, ih (fun x hx => h x (by simp [hx]))]
    rfl
theorem linesGo_back (L : List Ru) (h : ∀ r ∈ L, refE r.act r.pat = 0) : ∀ (acc : List Ru) (n : Nat), acc.length + L.length ≤ 64 → linesGo acc n (L.map lineOf ++ [[]]) = (acc ++ L, 0, 0) := by
  induction L with
  | nil =>
    intro acc n hl
    show linesGo acc n [[]] = _
    rw [linesGo, if_pos (by decide), linesGo]; simp
  | cons r L ih =>
    intro acc n hl
    have hr := h r (by simp)
    show linesGo acc n (lineOf r :: (L.map lineOf ++ [[]])) = _
    rw [List.length_cons] at hl
    rw [linesGo, if_neg (by rw [(lineOf_no10 hr).2]; simp), parse_print hr, if_neg (by simp), if_neg (by omega), ih (fun x hx => h x (by simp [hx])) _ _ (by rw [List.length_append]; simp; omega)]
    simp
theorem lines_text {L : List Ru} {t : L8} (h : textR L = (t, 0)) : linesR t = (L, 0, 0) := by
  unfold textR at h
  by_cases h64 : 64 < L.length
  · rw [if_pos h64] at h; simp at h
  · rw [if_neg h64] at h
    obtain ⟨h1, h2⟩ := textGo_ok L [] t h
    unfold linesR
    rw [h2, List.nil_append, cut_lines L h1, linesGo_back L h1 [] 0 (by simp; omega)]
    simp
end Go.Proofs.YtalbmkkplphahabDoor.Pa
/- rules: alive08 of TopSeen. (A template.) -/
namespace Go.Proofs.YtalbmkkplphahabDoor.Pa
open Go.RowKit
set_option linter.unusedVariables false
set_option linter.unusedSimpArgs false
set_option maxRecDepth 1000000

def RL8 : List Ru := [⟨2, [120], true, false⟩, ⟨1, [42], false, false⟩]
theorem m1 : linesR [45, 32, 120, 47, 10, 43, 32, 42, 10] = (RL8, 0, 0) := by kernel_rfl
theorem m2 : hiddenB RL8 [120, 47, 97] false = true := by kernel_rfl
theorem m3 : hiddenB RL8 [121, 47, 97] false = false := by kernel_rfl
theorem m4 : hiddenB RL8 [120] false = false := by kernel_rfl
theorem lightRL8 : LightR RL8 := lightOf (by decide) (by decide)
set_option maxHeartbeats 8000000 in
theorem alive_any (w : World) : Calls Tryd.prog 28 #[] w fun e w' => e = .returned (.bool true) ∧ Below w.heap.size w w' := by
  have HLN : Hid (∀ W, Calls Tryd.prog 12 #[.string { data := #[45, 32, 120, 47, 10, 43, 32, 42, 10] }] W fun e w' => ∃ a c, e = .returned (.tuple #[.slice a 2 c, .int .i64 0, .int .i64 0]) ∧ RuAt w' (.slice a 2 c) RL8 ∧ Below W.heap.size W w') := fun W => by
    have := lines_any [45, 32, 120, 47, 10, 43, 32, 42, 10] W (by decide)
    rw [m1] at this
    refine Calls.mono this ?_
    rintro e w' ⟨v, h1, h2, h3⟩
    obtain ⟨a, c, rfl⟩ := h2.slice
    exact ⟨a, c, h1, h2.at, h3⟩
  have hid : ∀ (p : L8) (r : Bool), hiddenB RL8 p false = r → p.length ≤ 1000 → ∀ v W, RuAt W v RL8 ∧ Below w.heap.size w W → Calls Tryd.prog 20 #[v, .string (mk p), .bool false] W fun e w' => e = .returned (.bool r) ∧ (RuAt w' v RL8 ∧ Below w.heap.size w w') := by
    intro p r h hp v W hw
    have := hidden_any RL8 v p false W hw.1 lightRL8 (by omega)
    rw [h] at this
    exact this.mono fun e w' ⟨h1, h2⟩ => ⟨h1, hw.1.later h2, hw.2.trans (h2.mono hw.2.size)⟩
  have H1 : Hid (∀ v W, RuAt W v RL8 ∧ Below w.heap.size w W → Calls Tryd.prog 20 #[v, .string { data := #[120, 47, 97] }, .bool false] W fun e w' => e = .returned (.bool true) ∧ (RuAt w' v RL8 ∧ Below w.heap.size w w')) := hid [120, 47, 97] _ m2 (by decide)
  have H2 : Hid (∀ v W, RuAt W v RL8 ∧ Below w.heap.size w W → Calls Tryd.prog 20 #[v, .string { data := #[121, 47, 97] }, .bool false] W fun e w' => e = .returned (.bool false) ∧ (RuAt w' v RL8 ∧ Below w.heap.size w w')) := hid [121, 47, 97] _ m3 (by decide)
  have H3 : Hid (∀ v W, RuAt W v RL8 ∧ Below w.heap.size w W → Calls Tryd.prog 20 #[v, .string { data := #[120] }, .bool false] W fun e w' => e = .returned (.bool false) ∧ (RuAt w' v RL8 ∧ Below w.heap.size w w')) := hid [120] _ m4 (by decide)
  clear hid
  go_enter Tryd.func28, Tryd.ntmps28
  go_wp2_with (first
    | (go_at_call 12; with_reducible refine (HLN.out _).mono ?_; rintro e w3 ⟨a, c, rfl, hl, hb⟩; have HK := Lib.hid (And.intro hl hb); clear hb hl)
    | (go_at_call 20; with_reducible refine (H1.out _ _ HK.out).mono ?_; rintro e w4 ⟨rfl, hk⟩; have HK := Lib.hid hk; clear hk H1)
    | (go_at_call 20; with_reducible refine (H2.out _ _ HK.out).mono ?_; rintro e w5 ⟨rfl, hk⟩; have HK := Lib.hid hk; clear hk H2)
    | (go_at_call 20; with_reducible refine (H3.out _ _ HK.out).mono ?_; rintro e w6 ⟨rfl, hk⟩; have HK := Lib.hid hk; clear hk H3))
  go_ret
  exact ⟨rfl, HK.out.2⟩
end Go.Proofs.YtalbmkkplphahabDoor.Pa
/- rules: TopSeen. (A template.) -/
namespace Go.Proofs.YtalbmkkplphahabDoor.Pa
open Go.RowKit
set_option linter.unusedVariables false
set_option linter.unusedSimpArgs false
set_option maxRecDepth 1000000

def TW (w : World) (v : Value) (L : List Ru) (W : World) : Prop := RuAt W v L ∧ Below w.heap.size w W
theorem TW.keep {w W W' : World} {v : Value} {L : List Ru} (h : TW w v L W) (hb : Below W.heap.size W W') : TW w v L W' := ⟨h.1.later hb, h.2.trans (hb.mono h.2.size)⟩
theorem badE_all {L : List Ru} (h : badE L = 0) : ∀ r ∈ L, refE r.act r.pat = 0 := by
  induction L with
  | nil => simp
  | cons r L ih =>
    rw [badE] at h
    by_cases hz : refE r.act r.pat = 0
    · rw [if_neg (by simpa using hz)] at h
      intro x hx
      rcases List.mem_cons.1 hx with rfl | hx
      · exact hz
      · exact ih h x hx
    · rw [if_pos hz] at h; exact absurd h hz
theorem ref_short {r : Ru} (h : refE r.act r.pat = 0) : r.pat.length ≤ 100 := by
  unfold refE at h
  by_cases h1 : misE r.act r.pat = 0
  · rw [if_neg (by simpa using h1)] at h
    unfold readE at h
    by_cases h2 : r.pat.length ≤ 100
    · exact h2
    · rw [if_neg h2] at h; simp at h
  · rw [if_pos h1] at h; exact absurd h h1
theorem textGo_all (L : List Ru) (h : ∀ r ∈ L, refE r.act r.pat = 0) : ∀ acc : L8, (textGo acc L).2 = 0 ∧ (textGo acc L).1.length ≤ acc.length + L.length * 105 := by
  induction L with
  | nil => intro acc; rw [textGo]; simp
  | cons r L ih =>
    intro acc
    have hz := h r (by simp)
    rw [textGo, if_neg (by simpa using hz)]
    obtain ⟨h1, h2⟩ := ih (fun x hx => h x (by simp [hx])) (acc ++ lineOf r ++ [10])
    have h3 := lineOf_len r
    have h4 := ref_short hz
    refine ⟨h1, ?_⟩
    simp only [List.length_append, List.length_cons, List.length_nil] at h2 ⊢
    omega
theorem hid_none (p : L8) (dir : Bool) : hiddenB [] p dir = false := by
  have h : ∀ n p d, hidN [] n p d = false := by
    intro n
    induction n with
    | zero => intro p d; rfl
    | succ n ih =>
      intro p d
      rw [hidN_eq]
      split
      · rfl
      · rw [if_neg (by unfold firstR; simp), ih]
  unfold hiddenB
  rw [h, Bool.and_false]
set_option maxHeartbeats 16000000 in
theorem topSeen_walk (L : List Ru) (v : Value) (p : L8) (dir : Bool) (w : World) (hv : RuAt w v L) (hpl : ∀ r ∈ L, r.pat.length ≤ maxLen) (hl : p.length ≤ maxLen) :
    Calls Tryd.prog 8 #[v, .string (mk p), .bool dir] w fun e w' => e = .returned (.bool true) ∧ Below w.heap.size w w' := by
  unfold maxLen at hpl hl
  have HK : Hid (TW w v L w) := ⟨hv, Below.refl _ _⟩
  have HAL : Hid (∀ W, TW w v L W → Calls Tryd.prog 28 #[] W fun e w' => e = .returned (.bool true) ∧ TW w v L w') := fun W hk => (alive_any W).mono fun e w' ⟨h1, h2⟩ => ⟨h1, hk.keep h2⟩
  have hsp : (mk p).size = p.length := mk_size p
  obtain ⟨a, c, ea, -⟩ := hv
  subst ea
  by_cases hA : 12 < L.length
  · have hI : (12 : Int) < (L.length : Int) := by omega
    clear hA hsp hpl hl
    generalize mk p = s at *
    go_enter Tryd.func8, Tryd.ntmps8
    go_wp2_with (first
      | (go_at_call 28; (with_reducible refine (HAL.out _ HK.out).mono ?_); rintro e w1 ⟨rfl, hk⟩; have HK := Lib.hid hk; clear hk))
    go_ret
    exact ⟨rfl, HK.out.2⟩
  · have hI : ¬ (12 : Int) < (L.length : Int) := by omega
    by_cases hB : 250 < p.length
    · have hI2 : (250 : Int) < ((mk p).size : Int) := by omega
      clear hA hB hsp hpl hl
      generalize mk p = s at *
      go_enter Tryd.func8, Tryd.ntmps8
      go_wp2_with (first
        | (go_at_call 28; (with_reducible refine (HAL.out _ HK.out).mono ?_); rintro e w1 ⟨rfl, hk⟩; have HK := Lib.hid hk; clear hk))
      go_ret
      exact ⟨rfl, HK.out.2⟩
    · have hI2 : ¬ (250 : Int) < ((mk p).size : Int) := by omega
      have hp3 : p.length ≤ 250 := by omega
      have HCK : Hid (∀ W, TW w (.slice a L.length c) L W → Calls Tryd.prog 25 #[.slice a L.length c] W fun e w' => e = .returned (.int .i64 (checkE L)) ∧ TW w (.slice a L.length c) L w') := fun W hk => (check_rules L _ W hk.1 ⟨by omega, fun r hr => by have := hpl r hr; omega⟩).mono fun e w' ⟨h1, h2⟩ => ⟨h1, hk.keep h2⟩
      have HRT : Hid (∀ W, TW w (.slice a L.length c) L W → Calls Tryd.prog 19 #[.string (mk p)] W fun e w' => e = .returned (.bool (rightB p)) ∧ TW w (.slice a L.length c) L w') := fun W hk => (right_any p W (by omega)).mono fun e w' ⟨h1, h2⟩ => ⟨h1, hk.keep h2⟩
      have hl12 : L.length ≤ 12 := by omega
      clear hA hB hsp hpl hl
      by_cases hC : checkE L = 0
      · rw [hC] at HCK
        by_cases hR : rightB p = true
        · rw [hR] at HRT
          by_cases hp0 : p = []
          · have he := emptyT hp0
            clear hC hR hp0 hp3 hl12
            generalize mk p = s at *
            go_enter Tryd.func8, Tryd.ntmps8
            go_wp2_with (first
              | (go_at_call 25; (with_reducible refine (HCK.out _ HK.out).mono ?_); rintro e w1 ⟨rfl, hk⟩; have HK := Lib.hid hk; clear hk)
              | (go_at_call 19; (with_reducible refine (HRT.out _ HK.out).mono ?_); rintro e w1 ⟨rfl, hk⟩; have HK := Lib.hid hk; clear hk)
              | (go_at_call 28; (with_reducible refine (HAL.out _ HK.out).mono ?_); rintro e w1 ⟨rfl, hk⟩; have HK := Lib.hid hk; clear hk))
            go_ret
            exact ⟨rfl, HK.out.2⟩
          · have he := emptyF hp0
            obtain ⟨g, hg, rfl⟩ := right_fine hR
            have hg0 : g ≠ [] := fun e => hp0 (by rw [e]; rfl)
            have hall : ∀ r ∈ L, refE r.act r.pat = 0 := by
              unfold checkE at hC
              rw [if_neg (by omega)] at hC
              exact badE_all hC
            have hLR : LightR L := lightOf (by omega) (fun r hr => by have := ref_short (hall r hr); omega)
            obtain ⟨X, hX⟩ : ∃ X, X = (textR L).1 := ⟨_, rfl⟩
            have hTX : textR L = (X, 0) ∧ X.length ≤ 1000000 := by
              have h := textGo_all L hall []
              have e : textR L = textGo [] L := by unfold textR; rw [if_neg (by omega)]
              rw [hX, e]
              refine ⟨Prod.ext rfl h.1, ?_⟩
              have := h.2
              simp only [List.length_nil] at this
              omega
            have hLX := lines_text hTX.1
            obtain ⟨B, hB⟩ : ∃ B, B = hiddenB L (glue g) dir := ⟨_, rfl⟩
            obtain ⟨F, hF⟩ : ∃ F, F = safeB L (glue g) dir := ⟨_, rfl⟩
            have HTX : Hid (∀ W, TW w (.slice a L.length c) L W → Calls Tryd.prog 17 #[.slice a L.length c] W fun e w' => e = .returned (.tuple #[.string (mk X), .int .i64 0]) ∧ TW w (.slice a L.length c) L w') := fun W hk => by
              have h := text_any L (.slice a L.length c) W hk.1 (fun r hr => by have := ref_short (hall r hr); omega)
              rw [hTX.1] at h
              exact Calls.mono h fun e w' ⟨h1, h2⟩ => ⟨h1, hk.keep h2⟩
            have HLS : Hid (∀ W, TW w (.slice a L.length c) L W → Calls Tryd.prog 12 #[.string (mk X)] W fun e w' => ∃ a2 c2, e = .returned (.tuple #[.slice a2 L.length c2, .int .i64 0, .int .i64 0]) ∧ RuAt w' (.slice a2 L.length c2) L ∧ TW w (.slice a L.length c) L w') := fun W hk => by
              have h := lines_any X W hTX.2
              rw [hLX] at h
              refine Calls.mono h ?_
              rintro e w' ⟨v, h1, h2, h3⟩
              obtain ⟨a2, c2, rfl⟩ := h2.slice
              exact ⟨a2, c2, h1, h2.at, hk.keep h3⟩
            have HHB : Hid (∀ W, TW w (.slice a L.length c) L W → Calls Tryd.prog 20 #[.slice a L.length c, .string (mk (glue g)), .bool dir] W fun e w' => e = .returned (.bool B) ∧ TW w (.slice a L.length c) L w') := fun W hk => by
              have h := hidden_any L (.slice a L.length c) (glue g) dir W hk.1 hLR (by omega)
              rw [← hB] at h
              exact Calls.mono h fun e w' ⟨h1, h2⟩ => ⟨h1, hk.keep h2⟩
            have HM1 : Hid (∀ W v2, RuAt W v2 L ∧ TW w (.slice a L.length c) L W → Calls Tryd.prog 20 #[v2, .string (mk (glue g)), .bool dir] W fun e w' => e = .returned (.bool B) ∧ (RuAt w' v2 L ∧ TW w (.slice a L.length c) L w')) := fun W v2 hk => by
              have h := hidden_any L v2 (glue g) dir W hk.1 hLR (by omega)
              rw [← hB] at h
              exact Calls.mono h fun e w' ⟨h1, h2⟩ => ⟨h1, hk.1.later h2, hk.2.keep h2⟩
            have HM2 : Hid (∀ W v2, RuAt W v2 L ∧ TW w (.slice a L.length c) L W → Calls Tryd.prog 20 #[.slice a L.length c, .string (mk (glue g)), .bool dir] W fun e w' => e = .returned (.bool B) ∧ (RuAt w' v2 L ∧ TW w (.slice a L.length c) L w')) := fun W v2 hk => by
              have h := hidden_any L (.slice a L.length c) (glue g) dir W hk.2.1 hLR (by omega)
              rw [← hB] at h
              exact Calls.mono h fun e w' ⟨h1, h2⟩ => ⟨h1, hk.1.later h2, hk.2.keep h2⟩
            have HM3 : Hid (∀ W v2, RuAt W v2 L ∧ TW w (.slice a L.length c) L W → Calls Tryd.prog 24 #[v2, .string (mk (glue g)), .bool dir] W fun e w' => e = .returned (.bool F) ∧ (RuAt w' v2 L ∧ TW w (.slice a L.length c) L w')) := fun W v2 hk => by
              have h := safe_any L v2 (glue g) dir W hk.1 hLR (by omega)
              rw [← hF] at h
              exact Calls.mono h fun e w' ⟨h1, h2⟩ => ⟨h1, hk.1.later h2, hk.2.keep h2⟩
            have HM4 : Hid (∀ W v2, RuAt W v2 L ∧ TW w (.slice a L.length c) L W → Calls Tryd.prog 24 #[.slice a L.length c, .string (mk (glue g)), .bool dir] W fun e w' => e = .returned (.bool F) ∧ (RuAt w' v2 L ∧ TW w (.slice a L.length c) L w')) := fun W v2 hk => by
              have h := safe_any L (.slice a L.length c) (glue g) dir W hk.2.1 hLR (by omega)
              rw [← hF] at h
              exact Calls.mono h fun e w' ⟨h1, h2⟩ => ⟨h1, hk.1.later h2, hk.2.keep h2⟩
            have HM5 : Hid (∀ W v2, RuAt W v2 L ∧ TW w (.slice a L.length c) L W → Calls Tryd.prog 20 #[.slice none 0 0, .string (mk (glue g)), .bool dir] W fun e w' => e = .returned (.bool false) ∧ (RuAt w' v2 L ∧ TW w (.slice a L.length c) L w')) := fun W v2 hk => by
              have h := hidden_any [] (.slice none 0 0) (glue g) dir W ⟨none, 0, rfl, fun h => absurd rfl h⟩ ⟨by simp, by simp⟩ (by omega)
              rw [hid_none] at h
              exact Calls.mono h fun e w' ⟨h1, h2⟩ => ⟨h1, hk.1.later h2, hk.2.keep h2⟩
            have HM6 : Hid (∀ W v2, RuAt W v2 L ∧ TW w (.slice a L.length c) L W → Calls Tryd.prog 28 #[] W fun e w' => e = .returned (.bool true) ∧ (RuAt w' v2 L ∧ TW w (.slice a L.length c) L w')) := fun W v2 hk => (alive_any W).mono fun e w' ⟨h1, h2⟩ => ⟨h1, hk.1.later h2, hk.2.keep h2⟩
            have hd0 : depth (glue g) = g.length := by unfold depth; rw [hg.parts]
            have HDP : Hid (∀ W, TW w (.slice a L.length c) L W → Calls Tryd.prog 29 #[.string (mk (glue g))] W fun e w' => e = .returned (.int .i64 (g.length : Int)) ∧ TW w (.slice a L.length c) L w') := fun W hk => by
              have h := depth_any (glue g) W (by omega)
              rw [hd0] at h
              exact Calls.mono h fun e w' ⟨h1, h2⟩ => ⟨h1, h2 ▸ hk⟩
            have hgl : 0 < g.length := List.length_pos_iff.2 hg0
            have hu0 : parentL (glue g) = glue (g.take (g.length - 1)) := by
              have h := up_take hg (g.length - 1) (by omega)
              rw [Nat.sub_add_cancel hgl, List.take_length] at h
              exact h
            have HP0 : Hid (∀ W, TW w (.slice a L.length c) L W → Calls Tryd.prog 22 #[.string (mk (glue g))] W fun e w' => e = .returned (.string (mk (glue (g.take (g.length - 1))))) ∧ TW w (.slice a L.length c) L w') := fun W hk => by
              have h := parent_any (glue g) W (by omega)
              rw [hu0] at h
              exact Calls.mono h fun e w' ⟨h1, h2⟩ => ⟨h1, h2 ▸ hk⟩
            have HFI := Lib.hid hg
            have HLR := Lib.hid hLR
            have HGL := Lib.hid hgl
            have HBB := Lib.hid hB
            clear hC hR hp0 hp3 hl12 hg hg0 hall hLR hX hTX hLX hF hd0 hgl hu0 hB
            generalize hsg : mk (glue g) = s at *
            have HSG := Lib.hid hsg
            clear hsg
            go_enter Tryd.func8, Tryd.ntmps8
            go_wp2_with (first
              | (go_at_call 25; (with_reducible refine (HCK.out _ HK.out).mono ?_); rintro e w1 ⟨rfl, hk⟩; have HK := Lib.hid hk; clear hk)
              | (go_at_call 19; (with_reducible refine (HRT.out _ HK.out).mono ?_); rintro e w1 ⟨rfl, hk⟩; have HK := Lib.hid hk; clear hk)
              | (go_at_call 22; (with_reducible refine (HP0.out _ HK.out).mono ?_); rintro e w1 ⟨rfl, hk⟩; have HK := Lib.hid hk; clear hk))
            go_loopw [7] (fun x wr => ∃ j : Nat, x = .string (mk (glue (g.take j))) ∧ Hid (j < g.length) ∧ Hid (TW w (.slice a L.length c) L wr)) (fun x _ => match x with | .string s => s.size | _ => 0)
            case atStart => exact ⟨g.length - 1, rfl, by show _ < _; have := HGL.out; omega, HK⟩
            case round =>
              clear HK HP0 HCK HRT
              obtain ⟨j, rfl, HJ, HK⟩ := hrel
              cases j with
              | zero =>
                have hex : (mk (glue (g.take 0))).toList.isEmpty = true := emptyT (by simp [glue])
                clear HHB HDP
                generalize mk (glue (g.take 0)) = sx at *
                generalize mk X = st at *
                go_wp2_with (first
                  | (go_at_call 17; (with_reducible refine (HTX.out _ HK.out).mono ?_); rintro e w1 ⟨rfl, hk⟩; have HK := Lib.hid hk; clear hk)
                  | (go_at_call 12; (with_reducible refine (HLS.out _ HK.out).mono ?_); rintro e w2 ⟨a2, c2, rfl, hat, hk⟩; have HX := Lib.hid (And.intro hat hk); clear hk hat)
                  | (go_at_call 20; (with_reducible refine (HM1.out _ _ HX.out).mono ?_); rintro e w3 ⟨rfl, hk⟩; have HX := Lib.hid hk; clear hk HM1)
                  | (go_at_call 20; (with_reducible refine (HM2.out _ _ HX.out).mono ?_); rintro e w4 ⟨rfl, hk⟩; have HX := Lib.hid hk; clear hk HM2)
                  | (go_at_call 24; (with_reducible refine (HM3.out _ _ HX.out).mono ?_); rintro e w5 ⟨rfl, hk⟩; have HX := Lib.hid hk; clear hk HM3)
                  | (go_at_call 24; (with_reducible refine (HM4.out _ _ HX.out).mono ?_); rintro e w6 ⟨rfl, hk⟩; have HX := Lib.hid hk; clear hk HM4)
                  | (go_at_call 20; (with_reducible refine (HM5.out _ _ HX.out).mono ?_); rintro e w7 ⟨rfl, hk⟩; have HX := Lib.hid hk; clear hk HM5)
                  | (go_at_call 28; (with_reducible refine (HM6.out _ _ HX.out).mono ?_); rintro e w8 ⟨rfl, hk⟩; have HX := Lib.hid hk; clear hk))
                go_ret
                exact ⟨rfl, HX.out.2.2⟩
              | succ j =>
                have hfin := HFI.out
                have hjl := HJ.out
                have hne := glue_take_ne hfin j (by omega)
                have hup := up_take hfin j (by omega)
                have hlt := parentL_lt hne
                have hshort := (hfin.take (j + 1)).short
                have hex := emptyF hne
                have hbel : hiddenB L (glue (g.take (j + 1))) true = true → B = true := fun h => by
                  have h1 : Fine (g.take (j + 1) ++ g.drop (j + 1)) := by rw [List.take_append_drop]; exact hfin
                  have h2 := below_hidden L (hfin.take (j + 1)) h1 (fun e => hne (by rw [e]; rfl)) (fun e => by have := congrArg List.length e; rw [List.length_drop, List.length_nil] at this; omega) dir h
                  rw [List.take_append_drop] at h2
                  rw [HBB.out]; exact h2
                obtain ⟨H, hH⟩ : ∃ H, H = hiddenB L (glue (g.take (j + 1))) true := ⟨_, rfl⟩
                rw [← hH] at hbel
                have HHU : Hid (∀ W, TW w (.slice a L.length c) L W → Calls Tryd.prog 20 #[.slice a L.length c, .string (mk (glue (g.take (j + 1)))), .bool true] W fun e w' => e = .returned (.bool H) ∧ TW w (.slice a L.length c) L w') := fun W hk => by
                  have h := hidden_any L (.slice a L.length c) (glue (g.take (j + 1))) true W hk.1 HLR.out (by omega)
                  rw [← hH] at h
                  exact Calls.mono h fun e w' ⟨h1, h2⟩ => ⟨h1, hk.keep h2⟩
                have HDU : Hid (∀ W, TW w (.slice a L.length c) L W → Calls Tryd.prog 29 #[.string (mk (glue (g.take (j + 1))))] W fun e w' => e = .returned (.int .i64 ((j : Int) + 1)) ∧ TW w (.slice a L.length c) L w') := fun W hk => by
                  have h := depth_any (glue (g.take (j + 1))) W (by omega)
                  have e : (depth (glue (g.take (j + 1))) : Int) = (j : Int) + 1 := by unfold depth; rw [(hfin.take (j + 1)).parts, List.length_take]; omega
                  rw [e] at h
                  exact Calls.mono h fun e w' ⟨h1, h2⟩ => ⟨h1, h2 ▸ hk⟩
                have HUN : Hid (∀ W, TW w (.slice a L.length c) L W → Calls Tryd.prog 30 #[.string s, .string (mk (glue (g.take (j + 1))))] W fun e w' => e = .returned (.bool true) ∧ TW w (.slice a L.length c) L w') := fun W hk => by
                  have h := under_any (glue g) (glue (g.take (j + 1))) W
                  have e : underB (glue g) (glue (g.take (j + 1))) = true := (under_parts _ _).2 (by rw [(hfin.take (j + 1)).parts, hfin.parts]; exact List.take_prefix _ _)
                  rw [e, HSG.out] at h
                  exact Calls.mono h fun e w' ⟨h1, h2⟩ => ⟨h1, h2 ▸ hk⟩
                have HPA : Hid (∀ W, TW w (.slice a L.length c) L W → Calls Tryd.prog 22 #[.string (mk (glue (g.take (j + 1))))] W fun e w' => e = .returned (.string (mk (glue (g.take j)))) ∧ TW w (.slice a L.length c) L w') := fun W hk => by
                  have h := parent_any (glue (g.take (j + 1))) W (by omega)
                  rw [hup] at h
                  exact Calls.mono h fun e w' ⟨h1, h2⟩ => ⟨h1, h2 ▸ hk⟩
                have HSZ : Hid ((mk (glue (g.take j))).size < (mk (glue (g.take (j + 1)))).size) := by show _ < _; rw [mk_size, mk_size, ← hup]; exact hlt
                have hI5 : ¬ (g.length : Int) ≤ (j : Int) + 1 := by omega
                clear hfin hjl hne hup hlt hshort hH HM1 HM2 HM3 HM4 HM5 HM6 HTX HLS HBB HSG
                generalize mk (glue (g.take (j + 1))) = sx at *
                generalize hsy : mk (glue (g.take j)) = sy at *
                cases hHv : H with
                | false =>
                  subst hHv
                  clear hbel
                  go_wp2_with (first
                    | (go_at_call 20; (with_reducible refine (HHU.out _ HK.out).mono ?_); rintro e w1 ⟨rfl, hk⟩; have HK := Lib.hid hk; clear hk)
                    | (go_at_call 29; (with_reducible refine (HDU.out _ HK.out).mono ?_); rintro e w1 ⟨rfl, hk⟩; have HK := Lib.hid hk; clear hk)
                    | (go_at_call 29; (with_reducible refine (HDP.out _ HK.out).mono ?_); rintro e w1 ⟨rfl, hk⟩; have HK := Lib.hid hk; clear hk)
                    | (go_at_call 30; (with_reducible refine (HUN.out _ HK.out).mono ?_); rintro e w1 ⟨rfl, hk⟩; have HK := Lib.hid hk; clear hk)
                    | (go_at_call 22; (with_reducible refine (HPA.out _ HK.out).mono ?_); rintro e w1 ⟨rfl, hk⟩; have HK := Lib.hid hk; clear hk))
                  go_roundw
                  case rel => exact ⟨j, by rw [← hsy], by show _ < _; have := HJ.out; omega, HK⟩
                  case measure => exact HSZ.out
                | true =>
                  subst hHv
                  have hb := hbel rfl
                  subst hb
                  clear hbel
                  go_wp2_with (first
                    | (go_at_call 20; (with_reducible refine (HHU.out _ HK.out).mono ?_); rintro e w1 ⟨rfl, hk⟩; have HK := Lib.hid hk; clear hk)
                    | (go_at_call 20; (with_reducible refine (HHB.out _ HK.out).mono ?_); rintro e w1 ⟨rfl, hk⟩; have HK := Lib.hid hk; clear hk)
                    | (go_at_call 29; (with_reducible refine (HDU.out _ HK.out).mono ?_); rintro e w1 ⟨rfl, hk⟩; have HK := Lib.hid hk; clear hk)
                    | (go_at_call 29; (with_reducible refine (HDP.out _ HK.out).mono ?_); rintro e w1 ⟨rfl, hk⟩; have HK := Lib.hid hk; clear hk)
                    | (go_at_call 30; (with_reducible refine (HUN.out _ HK.out).mono ?_); rintro e w1 ⟨rfl, hk⟩; have HK := Lib.hid hk; clear hk)
                    | (go_at_call 22; (with_reducible refine (HPA.out _ HK.out).mono ?_); rintro e w1 ⟨rfl, hk⟩; have HK := Lib.hid hk; clear hk))
                  go_roundw
                  case rel => exact ⟨j, by rw [← hsy], by show _ < _; have := HJ.out; omega, HK⟩
                  case measure => exact HSZ.out
        · have hR2 : rightB p = false := by simpa using hR
          rw [hR2] at HRT
          clear hC hR hR2 hp3 hl12
          generalize mk p = s at *
          go_enter Tryd.func8, Tryd.ntmps8
          go_wp2_with (first
            | (go_at_call 25; (with_reducible refine (HCK.out _ HK.out).mono ?_); rintro e w1 ⟨rfl, hk⟩; have HK := Lib.hid hk; clear hk)
            | (go_at_call 19; (with_reducible refine (HRT.out _ HK.out).mono ?_); rintro e w1 ⟨rfl, hk⟩; have HK := Lib.hid hk; clear hk)
            | (go_at_call 28; (with_reducible refine (HAL.out _ HK.out).mono ?_); rintro e w1 ⟨rfl, hk⟩; have HK := Lib.hid hk; clear hk))
          go_ret
          exact ⟨rfl, HK.out.2⟩
      · have hC2 : (checkE L == 0) = false := by simpa using hC
        clear HRT hp3 hl12
        generalize checkE L = er at *
        generalize mk p = s at *
        go_enter Tryd.func8, Tryd.ntmps8
        go_wp2_with (first
          | (go_at_call 25; (with_reducible refine (HCK.out _ HK.out).mono ?_); rintro e w1 ⟨rfl, hk⟩; have HK := Lib.hid hk; clear hk)
          | (go_at_call 28; (with_reducible refine (HAL.out _ HK.out).mono ?_); rintro e w1 ⟨rfl, hk⟩; have HK := Lib.hid hk; clear hk))
        go_ret
        exact ⟨rfl, HK.out.2⟩
end Go.Proofs.YtalbmkkplphahabDoor.Pa
