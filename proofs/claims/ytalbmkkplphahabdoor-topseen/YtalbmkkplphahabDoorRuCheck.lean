/- rules: Check. (A template.) -/
import Derived.Test.YtalbmkkplphahabDoorRuHid
namespace Go.Proofs.YtalbmkkplphahabDoor.Pa
open Go.RowKit
set_option linter.unusedVariables false
set_option linter.unusedSimpArgs false
set_option maxRecDepth 100000

def badE : List Ru → Int
  | [] => 0
  | r :: L => if refE r.act r.pat ≠ 0 then refE r.act r.pat else badE L
def checkE (L : List Ru) : Int := if 64 < L.length then 7 else badE L
set_option maxHeartbeats 8000000 in
theorem check_rules (L : List Ru) (v : Value) (w : World) (hv : RuAt w v L) (hl : L.length ≤ 1000000 ∧ ∀ r ∈ L, r.pat.length ≤ 9223372036854775807) :
    Calls Tryd.prog 25 #[v] w fun e w' => e = .returned (.int .i64 (checkE L)) ∧ Below w.heap.size w w' := by
  obtain ⟨a, c, rfl, hrow⟩ := hv
  obtain ⟨R, hR⟩ : ∃ R, R = checkE L := ⟨_, rfl⟩
  rw [← hR]
  have HROW := Lib.hid hrow
  have HLL := Lib.hid hl.1
  have HF : Hid (∀ r ∈ L, ∀ W, Calls Tryd.prog 34 #[.agg #[.int .i64 r.act, .string (mk r.pat), .bool r.dir, .bool r.anch]] W fun e w' => e = .returned (.int .i64 (refE r.act r.pat)) ∧ Below W.heap.size W w') := fun r hr W => refused_ru r.act r.pat r.dir r.anch W (hl.2 r hr)
  clear hrow hl
  by_cases h64 : 64 < L.length
  · have hI : (64 : Int) < (L.length : Int) := by omega
    have HRR : Hid (R = 7) := by show _ = _; rw [hR]; unfold checkE; rw [if_pos h64]
    clear hR h64
    go_enter Tryd.func25, Tryd.ntmps25
    go_wp2
    go_ret
    exact ⟨by rw [HRR.out]; rfl, Below.refl _ _⟩
  · have hI : ¬ (64 : Int) < (L.length : Int) := by omega
    have H0 : Hid (R = badE (L.drop 0)) := by show _ = _; rw [hR]; unfold checkE; rw [if_neg h64]; rfl
    clear hR h64
    go_enter Tryd.func25, Tryd.ntmps25
    go_wp2
    go_loopw [11] (fun i wr => ∃ k : Nat, i = .int .i64 k ∧ Hid (k ≤ L.length) ∧ Hid (R = badE (L.drop k)) ∧ Hid (Below w.heap.size w wr)) (fun i _ => L.length - (intOf i).toNat)
    case atStart => exact ⟨0, rfl, Nat.zero_le _, H0, Below.refl _ _⟩
    case round =>
      clear H0
      obtain ⟨k, rfl, HK, HRK, HB⟩ := hrel
      by_cases hk : k < L.length
      · have hIk : (k : Int) < (L.length : Int) := by omega
        obtain ⟨r, hr⟩ : ∃ r, L[k]? = some r := ⟨_, List.getElem?_eq_getElem hk⟩
        have hLL := HLL.out
        have hw1 : IntKind.i64.wrap ((k : Int) + 1) = (k : Int) + 1 := IntWalk.i64_in _ (by omega)
        obtain ⟨g, off, ea, hg, hc⟩ := HROW.out (by intro e; rw [e] at hr; simp at hr)
        obtain ⟨c0, c1, c2, c3⟩ := hc k r hr
        have k0 := (HB.out.cell (p := ⟨g, off + k * 4, none⟩) hg).trans c0
        have k1 := (HB.out.cell (p := ⟨g, off + k * 4 + 1, none⟩) hg).trans c1
        have k2 := (HB.out.cell (p := ⟨g, off + k * 4 + 2, none⟩) hg).trans c2
        have k3 := (HB.out.cell (p := ⟨g, off + k * 4 + 3, none⟩) hg).trans c3
        have hd : L.drop k = r :: L.drop (k + 1) := by
          obtain ⟨h1, h2⟩ := List.getElem?_eq_some_iff.1 hr
          rw [List.drop_eq_getElem_cons h1, h2]
        have HRK2 : Hid (R = if refE r.act r.pat ≠ 0 then refE r.act r.pat else badE (L.drop (k + 1))) := by show _ = _; rw [HRK.out, hd, badE]
        obtain ⟨w1, hw1'⟩ : ∃ w1, w1 = wr.alloc (.cells #[.int .i64 r.act, .string (mk r.pat), .bool r.dir, .bool r.anch] 24) := ⟨_, rfl⟩
        have hb1 : Below wr.heap.size wr w1 := by rw [hw1']; exact (Below.refl _ _).alloc (Nat.le_refl _) _
        have HFT : Hid (Calls Tryd.prog 34 #[.agg #[.int .i64 r.act, .string (mk r.pat), .bool r.dir, .bool r.anch]] w1 fun e w' => e = .returned (.int .i64 (refE r.act r.pat)) ∧ Below w.heap.size w w') :=
          (HF.out r (List.mem_of_getElem? hr) w1).mono fun e w' ⟨h1, h2⟩ => ⟨h1, HB.out.trans ((hb1.trans (h2.mono hb1.size)).mono HB.out.size)⟩
        rw [hw1'] at HFT
        have HKL := Lib.hid hk
        subst ea
        clear hk hr hLL hc c0 c1 c2 c3 hd hw1' hb1 HRK
        obtain ⟨act, pat, rd, an⟩ := r
        simp only at k0 k1 k2 k3 HFT HRK2
        generalize refE act pat = er at *
        generalize mk pat = q at *
        by_cases hz : er = 0
        · subst hz
          have HRN : Hid (R = badE (L.drop (k + 1))) := by show _ = _; rw [HRK2.out, if_neg (by simp)]
          clear HRK2
          go_wp2_with (go_at_call 34; refine HFT.out.mono ?_; rintro e w3 ⟨rfl, hb3⟩; have HB3 := Lib.hid hb3; clear hb3)
          go_roundw
          case rel => exact ⟨k + 1, rfl, HKL.out, HRN, HB3⟩
          case measure => have := HKL.out; simp [intOf]; omega
        · have hne : (er == 0) = false := by simpa using hz
          have HRN : Hid (R = er) := by show _ = _; rw [HRK2.out, if_pos hz]
          clear HRK2 hz
          go_wp2_with (go_at_call 34; refine HFT.out.mono ?_; rintro e w3 ⟨rfl, hb3⟩; have HB3 := Lib.hid hb3; clear hb3)
          go_ret
          exact ⟨by rw [HRN.out]; rfl, HB3.out⟩
      · have hIk : ¬ (k : Int) < (L.length : Int) := by omega
        have HRN : Hid (R = 0) := by show _ = _; rw [HRK.out, List.drop_of_length_le (by omega)]; rfl
        clear hk HRK
        go_wp2
        go_ret
        exact ⟨by rw [HRN.out]; rfl, HB.out⟩
end Go.Proofs.YtalbmkkplphahabDoor.Pa
