/- rules: Text. (A template.) -/
import Derived.Test.YtalbmkkplphahabDoorRuPrint
import Derived.Test.YtalbmkkplphahabDoorGlBuild
import Derived.Test.YtalbmkkplphahabDoorRuRow
namespace Go.Proofs.YtalbmkkplphahabDoor.Pa
open Go.RowKit
set_option linter.unusedVariables false
set_option linter.unusedSimpArgs false
set_option maxRecDepth 100000

theorem bat_keep {B b : Nat} {p : Value} {bs : List Value} {w w' : World} (h : Lib.BuilderAt 61 5 B b p bs w) (hb : Below w.heap.size w w') : Lib.BuilderAt 61 5 B b p bs w' := by
  obtain ⟨hB, v, hbk, hown, hne⟩ := h
  exact ⟨hB, v, (hb.block _ (Array.getElem?_eq_some_iff.1 hbk).1).trans hbk, (KeepCD.below hb).row hown, hne⟩
theorem bld_keep {B b : Nat} {bs : List Value} {w w' : World} (h : Bld B b bs w) (hb : Below w.heap.size w w') : Bld B b bs w' := by
  rcases h with h | h
  · exact .inl (bat_keep h hb)
  · exact .inr (bat_keep h hb)
theorem cells_app (a b : L8) : Lib.byteCells (a ++ b) = Lib.byteCells a ++ Lib.byteCells b := by simp [Lib.byteCells]
/-- the lines so far, and those of the rest; or what is wrong first -/
def textGo : L8 → List Ru → L8 × Int
  | acc, [] => (acc, 0)
  | acc, r :: L => if refE r.act r.pat ≠ 0 then ([], refE r.act r.pat) else textGo (acc ++ lineOf r ++ [10]) L
def textR (L : List Ru) : L8 × Int := if 64 < L.length then ([], 7) else textGo [] L
theorem lineOf_len (r : Ru) : (lineOf r).length ≤ r.pat.length + 4 := by
  unfold lineOf
  have := signOf_len r.act
  simp only [List.length_append, List.length_cons, List.length_nil]
  split <;> split <;> simp <;> omega
set_option maxHeartbeats 8000000 in
theorem text_any (L : List Ru) (v : Value) (w : World) (hv : RuAt w v L) (hl : ∀ r ∈ L, r.pat.length ≤ 1000000) :
    Calls Tryd.prog 17 #[v] w fun e w' => e = .returned (.tuple #[.string (mk (textR L).1), .int .i64 (textR L).2]) ∧ Below w.heap.size w w' := by
  obtain ⟨a, c, rfl, hrow⟩ := hv
  obtain ⟨R1, hR1⟩ : ∃ R, R = (textR L).1 := ⟨_, rfl⟩
  obtain ⟨R2, hR2⟩ : ∃ R, R = (textR L).2 := ⟨_, rfl⟩
  rw [← hR1, ← hR2]
  have HRR : Hid (textR L = (R1, R2)) := by show _ = _; rw [hR1, hR2]
  have HROW := Lib.hid hrow
  have HPL := Lib.hid hl
  have HPR : Hid (∀ r ∈ L, ∀ W, Calls Tryd.prog 16 #[.agg #[.int .i64 r.act, .string (mk r.pat), .bool r.dir, .bool r.anch]] W fun e w' => e = .returned (.tuple #[.string (mk (printR r).1), .int .i64 (printR r).2]) ∧ Below W.heap.size W w') := fun r hr W => print_any r W (by have := hl r hr; omega)
  clear hrow hl hR1 hR2
  by_cases h64 : 64 < L.length
  · have hI : (64 : Int) < (L.length : Int) := by omega
    have hrr := HRR.out
    unfold textR at hrr
    rw [if_pos h64] at hrr
    injection hrr with e1 e2
    subst e1 e2
    clear h64
    go_enter Tryd.func17, Tryd.ntmps17
    go_wp2
    go_ret2
    exact ⟨rfl, Below.refl _ _⟩
  · have hI : ¬ (64 : Int) < (L.length : Int) := by omega
    have H0 : Hid (textGo [] (L.drop 0) = (R1, R2)) := by show _ = _; rw [← HRR.out]; unfold textR; rw [if_neg h64]; rfl
    have HLL : Hid (L.length ≤ 64) := by show _ ≤ _; omega
    have HB0 : Hid (Bld w.heap.size w.heap.size (Lib.byteCells []) (w.alloc (.cells #[.pointer none, .slice none 0 0] 61))) := bld_new w
    have HL0 : Hid (Below w.heap.size w (w.alloc (.cells #[.pointer none, .slice none 0 0] 61))) := (Below.refl _ _).alloc (Nat.le_refl _) _
    clear h64 HRR
    go_enter Tryd.func17, Tryd.ntmps17
    go_wp2
    go_loopw [14] (fun i wr => ∃ (k : Nat) (acc : L8), i = .int .i64 k ∧ Hid (k ≤ L.length) ∧ Hid (textGo acc (L.drop k) = (R1, R2)) ∧ Hid (acc.length ≤ k * 1000005) ∧ Hid (Bld w.heap.size w.heap.size (Lib.byteCells acc) wr) ∧ Hid (Below w.heap.size w wr)) (fun i _ => L.length - (intOf i).toNat)
    case atStart => exact ⟨0, [], rfl, Nat.zero_le _, H0, Nat.zero_le _, HB0, HL0⟩
    case round =>
      clear H0 HB0 HL0
      obtain ⟨k, acc, rfl, HK, HRK, HAC, HBD, HB⟩ := hrel
      by_cases hk : k < L.length
      · have hIk : (k : Int) < (L.length : Int) := by omega
        obtain ⟨r, hr⟩ : ∃ r, L[k]? = some r := ⟨_, List.getElem?_eq_getElem hk⟩
        have hw1 : IntKind.i64.wrap ((k : Int) + 1) = (k : Int) + 1 := IntWalk.i64_in _ (by have := HLL.out; omega)
        obtain ⟨g, off, ea, hg, hc⟩ := HROW.out (by intro e; rw [e] at hr; simp at hr)
        obtain ⟨c0, c1, c2, c3⟩ := hc k r hr
        have k0 := (HB.out.cell (p := ⟨g, off + k * 4, none⟩) hg).trans c0
        have k1 := (HB.out.cell (p := ⟨g, off + k * 4 + 1, none⟩) hg).trans c1
        have k2 := (HB.out.cell (p := ⟨g, off + k * 4 + 2, none⟩) hg).trans c2
        have k3 := (HB.out.cell (p := ⟨g, off + k * 4 + 3, none⟩) hg).trans c3
        have hd : L.drop k = r :: L.drop (k + 1) := by
          obtain ⟨h1, h2⟩ := List.getElem?_eq_some_iff.1 hr
          rw [List.drop_eq_getElem_cons h1, h2]
        have HRK2 : Hid ((if refE r.act r.pat ≠ 0 then ([], refE r.act r.pat) else textGo (acc ++ lineOf r ++ [10]) (L.drop (k + 1))) = (R1, R2)) := by show _ = _; rw [← HRK.out, hd, textGo]
        obtain ⟨w1, hw1'⟩ : ∃ w1, w1 = wr.alloc (.cells #[.int .i64 r.act, .string (mk r.pat), .bool r.dir, .bool r.anch] 24) := ⟨_, rfl⟩
        have hb1 : Below wr.heap.size wr w1 := by rw [hw1']; exact (Below.refl _ _).alloc (Nat.le_refl _) _
        have HFT : Hid (Calls Tryd.prog 16 #[.agg #[.int .i64 r.act, .string (mk r.pat), .bool r.dir, .bool r.anch]] w1 fun e w' => e = .returned (.tuple #[.string (mk (printR r).1), .int .i64 (printR r).2]) ∧ Bld w.heap.size w.heap.size (Lib.byteCells acc) w' ∧ Below w.heap.size w w') :=
          (HPR.out r (List.mem_of_getElem? hr) w1).mono fun e w' ⟨h1, h2⟩ => ⟨h1, bld_keep HBD.out (hb1.trans (h2.mono hb1.size)), HB.out.trans ((hb1.trans (h2.mono hb1.size)).mono HB.out.size)⟩
        rw [hw1'] at HFT
        have HKL := Lib.hid hk
        have hpl : r.pat.length ≤ 1000000 := HPL.out r (List.mem_of_getElem? hr)
        have hll := lineOf_len r
        have hln : (lineOf r).length ≤ 1000004 := by omega
        have HLN := Lib.hid hln
        subst ea
        clear hk hr hc c0 c1 c2 c3 hd hw1' hb1 HRK hpl hll hln
        by_cases hz : refE r.act r.pat = 0
        · have hpr : printR r = (lineOf r, 0) := by unfold printR; rw [if_neg (by simpa using hz)]
          rw [hpr] at HFT
          have HRN : Hid (textGo (acc ++ lineOf r ++ [10]) (L.drop (k + 1)) = (R1, R2)) := by show _ = _; rw [← HRK2.out, if_neg (by simpa using hz)]
          have HSZ : Hid ((mk (lineOf r)).size = (lineOf r).length) := mk_size _
          have HWS : Hid (∀ W, Bld w.heap.size w.heap.size (Lib.byteCells acc) W → Below w.heap.size w W → Calls Tryd.prog 38 #[.pointer (some ⟨w.heap.size, 0, none⟩), .string (mk (lineOf r))] W fun e w' => e = .returned (.tuple #[.int .i64 (mk (lineOf r)).size, .nilIface]) ∧ Bld w.heap.size w.heap.size (Lib.byteCells (acc ++ lineOf r)) w' ∧ Below w.heap.size w w') := by
            intro W h1 h2
            refine (writeString_any _ _ _ (mk (lineOf r)) W h1 (by have := HSZ.out; have := HLN.out; have := HAC.out; have := HKL.out; have := HLL.out; simp [Lib.byteCells]; omega) h2.size).mono ?_
            rintro e w' ⟨r1, r2, r3⟩
            refine ⟨r1, ?_, h2.trans r3⟩
            rw [cells_app]
            have : Lib.strCells (mk (lineOf r)) = Lib.byteCells (lineOf r) := by simp [Lib.strCells, Lib.byteCells, mk_list]
            rwa [← this]
          have HWB : Hid (∀ W, Bld w.heap.size w.heap.size (Lib.byteCells (acc ++ lineOf r)) W → Below w.heap.size w W → Calls Tryd.prog 39 #[.pointer (some ⟨w.heap.size, 0, none⟩), .int .u8 10] W fun e w' => e = .returned .nilIface ∧ Bld w.heap.size w.heap.size (Lib.byteCells (acc ++ lineOf r ++ [10])) w' ∧ Below w.heap.size w w') := by
            intro W h1 h2
            refine (writeByte_any _ _ _ 10 W h1 (by have := HLN.out; have := HAC.out; have := HKL.out; have := HLL.out; simp [Lib.byteCells]; omega) h2.size).mono ?_
            rintro e w' ⟨r1, r2, r3⟩
            refine ⟨r1, ?_, h2.trans r3⟩
            rw [cells_app]
            exact r2
          have HACN : Hid ((acc ++ lineOf r ++ [10]).length ≤ (k + 1) * 1000005) := by
            show _ ≤ _
            have := HLN.out; have := HAC.out
            simp only [List.length_append, List.length_cons, List.length_nil]
            omega
          obtain ⟨act, pat, rd, an⟩ := r
          simp only at k0 k1 k2 k3 HFT
          clear hpr hz HRK2 HPR
          generalize mk (lineOf ⟨act, pat, rd, an⟩) = ln at *
          generalize lineOf ⟨act, pat, rd, an⟩ = ll at *
          generalize mk pat = q at *
          go_wp2_with (first
            | (go_at_call 16; refine HFT.out.mono ?_; rintro e w3 ⟨rfl, h2, hb2⟩; have H2 := Lib.hid h2; have HB2 := Lib.hid hb2; clear h2 hb2)
            | (go_at_call 38; refine (HWS.out _ H2.out HB2.out).mono ?_; rintro e w4 ⟨rfl, h2, hb2⟩; have H2 := Lib.hid h2; have HB2 := Lib.hid hb2; clear h2 hb2)
            | (go_at_call 39; refine (HWB.out _ H2.out HB2.out).mono ?_; rintro e w5 ⟨rfl, h2, hb2⟩; have H2 := Lib.hid h2; have HB2 := Lib.hid hb2; clear h2 hb2))
          go_roundw
          case rel => exact ⟨k + 1, _, rfl, HKL.out, HRN, HACN, H2, HB2⟩
          case measure => have := HKL.out; simp [intOf]; omega
        · have hpr : printR r = ([], refE r.act r.pat) := by unfold printR; rw [if_pos hz]
          rw [hpr] at HFT
          have hrn := HRK2.out
          rw [if_pos hz] at hrn
          injection hrn with e1 e2
          have hne : (refE r.act r.pat == 0) = false := by simpa using hz
          obtain ⟨act, pat, rd, an⟩ := r
          simp only at k0 k1 k2 k3 HFT e2 hne
          clear hpr hz HRK2 HPR
          subst e1
          generalize refE act pat = er at *
          subst e2
          generalize mk pat = q at *
          go_wp2_with (go_at_call 16; refine HFT.out.mono ?_; rintro e w3 ⟨rfl, h2, hb2⟩; have HB2 := Lib.hid hb2; clear h2 hb2)
          go_ret2
          exact ⟨rfl, HB2.out⟩
      · have hIk : ¬ (k : Int) < (L.length : Int) := by omega
        have hrn := HRK.out
        rw [List.drop_of_length_le (by omega), textGo] at hrn
        injection hrn with e1 e2
        have HST : Hid (Calls Tryd.prog 40 #[.pointer (some ⟨w.heap.size, 0, none⟩)] wr fun e w' => e = .returned (.string (mk acc)) ∧ Below w.heap.size w w') := by
          refine (Tryd.Builder_String_any _ _ acc wr HBD.out HB.out.size).mono ?_
          rintro e w' ⟨r1, r2⟩
          exact ⟨r1, HB.out.trans r2⟩
        subst e1 e2
        clear hk HRK
        go_wp2_with (go_at_call 40; refine HST.out.mono ?_; rintro e w3 ⟨rfl, hb2⟩; have HB2 := Lib.hid hb2; clear hb2)
        go_ret2
        exact ⟨rfl, HB2.out⟩
end Go.Proofs.YtalbmkkplphahabDoor.Pa
