/- rules: does a rule fit a path, what the first says that does. (A template.) -/
import Derived.Test.YtokocfoeohddfaaGreatDoorRuParse
namespace Go.Proofs.YtokocfoeohddfaaGreatDoor.Pa
open Go.RowKit
set_option linter.unusedVariables false
set_option linter.unusedSimpArgs false
set_option maxRecDepth 100000

def fitsP (r : Ru) (p : L8) : L8 := if r.anch = false ∧ (47 : UInt8) ∉ r.pat then baseL p else p
def fitsB (r : Ru) (p : L8) (dir : Bool) : Bool := decide (misE r.act r.pat = 0) && !(r.dir && !dir) && matchP r.pat (fitsP r p)
theorem baseL_len (p : L8) : (baseL p).length ≤ p.length := by unfold baseL; rw [List.length_drop]; omega
set_option maxHeartbeats 8000000 in
theorem fits_any (r : Ru) (p : L8) (dir : Bool) (w : World) (hl : r.pat.length ≤ 4611686018427387904) (hp : p.length ≤ 140737488355328) :
    Calls Tryz.prog 17 #[r.val, .string (mk p), .bool dir] w fun e w' => e = .returned (.bool (fitsB r p dir)) ∧ Below w.heap.size w w' := by
  obtain ⟨act, pat, rd, an⟩ := r
  obtain ⟨w1, hw1⟩ : ∃ w1, w1 = w.alloc (.cells #[.int .i64 act, .string (mk pat), .bool rd, .bool an] 26) := ⟨_, rfl⟩
  have hr1 : w1.heap[w.heap.size]? = some (.cells #[.int .i64 act, .string (mk pat), .bool rd, .bool an] 26) := by rw [hw1]; exact heap_new _ _
  have hb1 : Below w.heap.size w w1 := by rw [hw1]; exact (Below.refl _ _).alloc (Nat.le_refl _) _
  have HM : Hid (Calls Tryz.prog 32 #[.agg #[.int .i64 act, .string (mk pat), .bool rd, .bool an]] w1 fun e w' => e = .returned (.int .i64 (misE act pat)) ∧ w'.heap[w.heap.size]? = some (.cells #[.int .i64 act, .string (mk pat), .bool rd, .bool an] 26) ∧ Below w.heap.size w w') :=
    (misshapen_any act pat rd an w1 (by have h : pat.length ≤ 4611686018427387904 := hl; omega)).mono fun e w' ⟨h1, h2⟩ => ⟨h1, (h2.block _ (Array.getElem?_eq_some_iff.1 hr1).1).trans hr1, hb1.trans (h2.mono hb1.size)⟩
  rw [hw1] at HM
  have hV : (⟨act, pat, rd, an⟩ : Ru).val = .agg #[.int .i64 act, .string (mk pat), .bool rd, .bool an] := rfl
  rw [hV]
  obtain ⟨R, hR⟩ : ∃ R, R = fitsB ⟨act, pat, rd, an⟩ p dir := ⟨_, rfl⟩
  rw [← hR]
  have HR : Hid (R = (decide (misE act pat = 0) && !(rd && !dir) && matchP pat (fitsP ⟨act, pat, rd, an⟩ p))) := hR
  have HI := Lib.hid (fun W => index_has pat 47 (by decide) W)
  simp only [show (47 : Int).toNat.toUInt8 = 47 from rfl] at HI
  have HBS := Lib.hid (fun W => base_any p W hp)
  clear hw1 hr1 hb1 hR hV
  by_cases hz : misE act pat = 0
  · rw [hz] at HM
    have HR2 : Hid (R = (!(rd && !dir) && matchP pat (fitsP ⟨act, pat, rd, an⟩ p))) := by show _ = _; rw [HR.out, hz]; rfl
    clear HR
    by_cases hd : rd = true ∧ dir = false
    · obtain ⟨rfl, rfl⟩ := hd
      have HR3 : Hid (R = false) := by show _ = _; rw [HR2.out]; rfl
      clear HI HBS hz HR2 hp hl
      generalize mk pat = q at *
      generalize mk p = pp at *
      go_enter Tryz.func17, Tryz.ntmps17
      go_wp2_with (go_at_call 32; refine HM.out.mono ?_; rintro e w2 ⟨rfl, hr2, hb2⟩; obtain ⟨⟨k0, k1, k2, k3⟩, -⟩ := cells4 hr2; have HB2 := Lib.hid hb2; clear hr2 hb2)
      go_ret
      exact ⟨by rw [HR3.out]; rfl, HB2.out⟩
    · have hd2 : (rd && !dir) = false := by
        cases rd <;> cases dir <;> simp_all
      have HR3 : Hid (R = matchP pat (fitsP ⟨act, pat, rd, an⟩ p)) := by show _ = _; rw [HR2.out, hd2]; rfl
      clear HR2
      cases an with
      | true =>
        have HR4 : Hid (R = matchP pat p) := by show _ = _; rw [HR3.out]; unfold fitsP; rw [if_neg (by simp)]
        have HG := Lib.hid (fun W => gmatch_any pat p W hl (by omega))
        rw [← HR4.out] at HG
        clear HR3 HR4 HI HBS hz hp hl hd
        generalize mk pat = q at *
        generalize mk p = pp at *
        cases rd <;> cases dir
        all_goals first | (exact absurd hd2 (by decide)) | skip
        all_goals
          clear hd2
          go_enter Tryz.func17, Tryz.ntmps17
          go_wp2_with (first
            | (go_at_call 32; refine HM.out.mono ?_; rintro e w2 ⟨rfl, hr2, hb2⟩; obtain ⟨⟨k0, k1, k2, k3⟩, -⟩ := cells4 hr2; have HB2 := Lib.hid hb2; clear hr2 hb2)
            | (go_at_call 34; refine (HG.out _).mono ?_; rintro e w3 ⟨rfl, hb3⟩; have HB3 := Lib.hid (HB2.out.trans (hb3.mono HB2.out.size)); clear hb3))
          go_ret
          exact ⟨rfl, HB3.out⟩
      | false =>
        by_cases h47 : (47 : UInt8) ∈ pat
        · have HR4 : Hid (R = matchP pat p) := by show _ = _; rw [HR3.out]; unfold fitsP; rw [if_neg (by simp [h47])]
          have HG := Lib.hid (fun W => gmatch_any pat p W hl (by omega))
          rw [← HR4.out] at HG
          have HI2 : Hid (∀ W, Calls Tryz.prog 26 #[.string (mk pat), .int .u8 47] W fun e w' => ∃ i : Int, e = .returned (.int .i64 i) ∧ 0 ≤ i ∧ W = w') := fun W => (HI.out W).mono fun e w' ⟨i, h1, h2, h3⟩ => ⟨i, h1, h2.2 h47, h3⟩
          clear HR3 HR4 HI HBS hz hp hl hd h47
          generalize mk pat = q at *
          generalize mk p = pp at *
          cases rd <;> cases dir
          all_goals first | (exact absurd hd2 (by decide)) | skip
          all_goals
            clear hd2
            go_enter Tryz.func17, Tryz.ntmps17
            go_wp2_with (first
              | (go_at_call 32; refine HM.out.mono ?_; rintro e w2 ⟨rfl, hr2, hb2⟩; obtain ⟨⟨k0, k1, k2, k3⟩, -⟩ := cells4 hr2; have HB2 := Lib.hid hb2; clear hr2 hb2)
              | (go_at_call 26; refine (HI2.out _).mono ?_; rintro e w' ⟨i, rfl, hi, rfl⟩; have hdi : decide (i < 0) = false := decide_eq_false (by omega))
              | (go_at_call 34; refine (HG.out _).mono ?_; rintro e w3 ⟨rfl, hb3⟩; have HB3 := Lib.hid (HB2.out.trans (hb3.mono HB2.out.size)); clear hb3))
            go_ret
            exact ⟨rfl, HB3.out⟩
        · have HR4 : Hid (R = matchP pat (baseL p)) := by show _ = _; rw [HR3.out]; unfold fitsP; rw [if_pos ⟨rfl, h47⟩]
          have HG := Lib.hid (fun W => gmatch_any pat (baseL p) W hl (by have := baseL_len p; omega))
          rw [← HR4.out] at HG
          have HI2 : Hid (∀ W, Calls Tryz.prog 26 #[.string (mk pat), .int .u8 47] W fun e w' => ∃ i : Int, e = .returned (.int .i64 i) ∧ i < 0 ∧ W = w') := fun W => (HI.out W).mono fun e w' ⟨i, h1, h2, h3⟩ => ⟨i, h1, by
            rcases Int.lt_or_le i 0 with h | h
            · exact h
            · exact absurd (h2.1 h) h47, h3⟩
          clear HR3 HR4 HI hz hp hl hd h47
          generalize mk pat = q at *
          generalize mk (baseL p) = bb at *
          generalize mk p = pp at *
          cases rd <;> cases dir
          all_goals first | (exact absurd hd2 (by decide)) | skip
          all_goals
            clear hd2
            go_enter Tryz.func17, Tryz.ntmps17
            go_wp2_with (first
              | (go_at_call 32; refine HM.out.mono ?_; rintro e w2 ⟨rfl, hr2, hb2⟩; obtain ⟨⟨k0, k1, k2, k3⟩, -⟩ := cells4 hr2; have HB2 := Lib.hid hb2; clear hr2 hb2)
              | (go_at_call 26; refine (HI2.out _).mono ?_; rintro e w' ⟨i, rfl, hi, rfl⟩; have hdi : decide (i < 0) = true := decide_eq_true hi)
              | (go_at_call 33; refine (HBS.out _).mono ?_; rintro e w' ⟨rfl, rfl⟩)
              | (go_at_call 34; refine (HG.out _).mono ?_; rintro e w3 ⟨rfl, hb3⟩; have HB3 := Lib.hid (HB2.out.trans (hb3.mono HB2.out.size)); clear hb3))
            go_ret
            exact ⟨rfl, HB3.out⟩
  · have HR2 : Hid (R = false) := by show _ = _; rw [HR.out, decide_eq_false hz]; rfl
    have hne : (misE act pat == 0) = false := by simpa using hz
    have hdn : decide (misE act pat = 0) = false := decide_eq_false hz
    generalize misE act pat = er at *
    clear HI HBS HR hp hl
    generalize mk pat = q at *
    generalize mk p = pp at *
    go_enter Tryz.func17, Tryz.ntmps17
    go_wp2_with (go_at_call 32; refine HM.out.mono ?_; rintro e w2 ⟨rfl, hr2, hb2⟩; obtain ⟨⟨k0, k1, k2, k3⟩, -⟩ := cells4 hr2; have HB2 := Lib.hid hb2; clear hr2 hb2)
    go_ret
    exact ⟨by rw [HR2.out]; rfl, HB2.out⟩
end Go.Proofs.YtokocfoeohddfaaGreatDoor.Pa
