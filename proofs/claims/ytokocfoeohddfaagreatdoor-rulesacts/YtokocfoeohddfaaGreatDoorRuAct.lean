/- rules: what the first rule says; hidden, safe. (A template.) -/
import Derived.Test.YtokocfoeohddfaaGreatDoorRuFits
namespace Go.Proofs.YtokocfoeohddfaaGreatDoor.Pa
open Go.RowKit
set_option linter.unusedVariables false
set_option linter.unusedSimpArgs false
set_option maxRecDepth 100000

/-- a row of rules in memory -/
def RuAt (w : World) (v : Value) (L : List Ru) : Prop := ∃ a c, v = .slice a L.length c ∧ (L ≠ [] → ∃ g off, a = some ⟨g, off, none⟩ ∧ g < w.heap.size ∧ ∀ i r, L[i]? = some r → w.cell? ⟨g, off + i * 4, none⟩ = some (.int .i64 r.act) ∧ w.cell? ⟨g, off + i * 4 + 1, none⟩ = some (.string (Pa.mk r.pat)) ∧ w.cell? ⟨g, off + i * 4 + 2, none⟩ = some (.bool r.dir) ∧ w.cell? ⟨g, off + i * 4 + 3, none⟩ = some (.bool r.anch))
theorem RuAt.later {w w' : World} {v : Value} {L : List Ru} (h : RuAt w v L) (hb : Below w.heap.size w w') : RuAt w' v L := by
  obtain ⟨a, c, e, h⟩ := h
  refine ⟨a, c, e, fun hn => ?_⟩
  obtain ⟨g, off, e2, hg, hc⟩ := h hn
  refine ⟨g, off, e2, Nat.lt_of_lt_of_le hg hb.size, fun i r hr => ?_⟩
  obtain ⟨h0, h1, h2, h3⟩ := hc i r hr
  exact ⟨(hb.cell (p := ⟨g, off + i * 4, none⟩) hg).trans h0, (hb.cell (p := ⟨g, off + i * 4 + 1, none⟩) hg).trans h1, (hb.cell (p := ⟨g, off + i * 4 + 2, none⟩) hg).trans h2, (hb.cell (p := ⟨g, off + i * 4 + 3, none⟩) hg).trans h3⟩
def shows (r : Ru) : Bool := decide (r.act = 1) || decide (r.act = 2)
def counts (p : L8) (dir drop : Bool) (r : Ru) : Bool := (shows r || drop) && fitsB r p dir
def firstR (L : List Ru) (p : L8) (dir drop : Bool) : Int := ((L.find? (counts p dir drop)).map (·.act)).getD 0
theorem firstR_cons (r : Ru) (L : List Ru) (p : L8) (dir drop : Bool) : firstR (r :: L) p dir drop = if counts p dir drop r = true then r.act else firstR L p dir drop := by
  unfold firstR
  rw [List.find?_cons]
  split
  · next h => rw [if_pos h]; rfl
  · next h => rw [if_neg (by simpa using h)]
def ruledB (p : L8) : Bool := decide (p ≠ []) && rightB p
theorem ruled_any (p : L8) (w : World) (hp : p.length ≤ 140737488355328) :
    Calls Tryz.prog 16 #[.string (mk p)] w fun e w' => e = .returned (.bool (ruledB p)) ∧ Below w.heap.size w w' := by
  by_cases hn : p = []
  · have e : ruledB p = false := by unfold ruledB; rw [decide_eq_false (by simpa using hn)]; rfl
    rw [e]
    have he : (mk p).toList.isEmpty = true := by rw [mk_toList, hn]; rfl
    clear hn e hp
    generalize mk p = q at *
    go_enter Tryz.func16, Tryz.ntmps16
    go_wp2
    go_ret
    exact ⟨rfl, Below.refl _ _⟩
  · have e : ruledB p = rightB p := by unfold ruledB; rw [decide_eq_true hn]; rfl
    rw [e]
    have he : (mk p).toList.isEmpty = false := by
      rw [mk_toList]; cases p with
      | nil => exact absurd rfl hn
      | cons c r => rfl
    have H := Lib.hid (right_any p w hp)
    generalize rightB p = R at *
    clear hn e hp
    generalize mk p = q at *
    go_enter Tryz.func16, Tryz.ntmps16
    go_wp2_with (go_at_call 31; refine H.out.mono ?_; rintro e w' ⟨rfl, hb⟩; have HB := Lib.hid hb; clear hb)
    go_ret
    exact ⟨rfl, HB.out⟩
set_option maxHeartbeats 8000000 in
theorem first_any (L : List Ru) (v : Value) (p : L8) (dir drop : Bool) (w : World) (hv : RuAt w v L) (hL : L.length ≤ 4611686018427387904) (hl : ∀ r ∈ L, r.pat.length ≤ 4611686018427387904) (hp : p.length ≤ 140737488355328) :
    Calls Tryz.prog 23 #[v, .string (mk p), .bool dir, .bool drop] w fun e w' => e = .returned (.int .i64 (firstR L p dir drop)) ∧ Below w.heap.size w w' := by
  obtain ⟨a, c, rfl, hrow⟩ := hv
  obtain ⟨R, hR⟩ : ∃ R, R = firstR L p dir drop := ⟨_, rfl⟩
  rw [← hR]
  have H0 : Hid (R = firstR (L.drop 0) p dir drop) := hR
  have HROW := Lib.hid hrow
  have HLL := Lib.hid hL
  have HF : Hid (∀ r ∈ L, ∀ W, Calls Tryz.prog 17 #[.agg #[.int .i64 r.act, .string (mk r.pat), .bool r.dir, .bool r.anch], .string (mk p), .bool dir] W fun e w' => e = .returned (.bool (fitsB r p dir)) ∧ Below W.heap.size W w') := fun r hr W => fits_any r p dir W (hl r hr) hp
  clear hrow hL hl hp hR
  go_enter Tryz.func23, Tryz.ntmps23
  go_wp2
  go_loopw [14] (fun i wr => ∃ k : Nat, i = .int .i64 k ∧ Hid (k ≤ L.length) ∧ Hid (R = firstR (L.drop k) p dir drop) ∧ Hid (Below w.heap.size w wr)) (fun i _ => L.length - (intOf i).toNat)
  case atStart => exact ⟨0, rfl, Nat.zero_le _, H0, Below.refl _ _⟩
  case round =>
    clear H0
    obtain ⟨k, rfl, HK, HRK, HB⟩ := hrel
    by_cases hk : k < L.length
    · have hIk : (k : Int) < (L.length : Int) := by omega
      obtain ⟨r, hr⟩ : ∃ r, L[k]? = some r := ⟨_, List.getElem?_eq_getElem hk⟩
      have hLL := HLL.out
      have hw1 : IntKind.i64.wrap ((k : Int) + 1) = (k : Int) + 1 := IntWalk.i64_in _ (by omega)
      obtain ⟨g, off, ea, hg, hc⟩ := HROW.out (by intro e; rw [e] at hr; simp at hr)
      obtain ⟨c0, c1, c2, c3⟩ := hc k r hr
      have k0 := (HB.out.cell (p := ⟨g, off + k * 4, none⟩) hg).trans c0
      have k1 := (HB.out.cell (p := ⟨g, off + k * 4 + 1, none⟩) hg).trans c1
      have k2 := (HB.out.cell (p := ⟨g, off + k * 4 + 2, none⟩) hg).trans c2
      have k3 := (HB.out.cell (p := ⟨g, off + k * 4 + 3, none⟩) hg).trans c3
      have hd : L.drop k = r :: L.drop (k + 1) := by
        obtain ⟨h1, h2⟩ := List.getElem?_eq_some_iff.1 hr
        rw [List.drop_eq_getElem_cons h1, h2]
      have HRK2 : Hid (R = if counts p dir drop r = true then r.act else firstR (L.drop (k + 1)) p dir drop) := by show _ = _; rw [HRK.out, hd, firstR_cons]
      obtain ⟨w1, hw1'⟩ : ∃ w1, w1 = wr.alloc (.cells #[.int .i64 r.act, .string (mk r.pat), .bool r.dir, .bool r.anch] 26) := ⟨_, rfl⟩
      have hr1 : w1.heap[wr.heap.size]? = some (.cells #[.int .i64 r.act, .string (mk r.pat), .bool r.dir, .bool r.anch] 26) := by rw [hw1']; exact heap_new _ _
      have hb1 : Below wr.heap.size wr w1 := by rw [hw1']; exact (Below.refl _ _).alloc (Nat.le_refl _) _
      have HFT : Hid (Calls Tryz.prog 17 #[.agg #[.int .i64 r.act, .string (mk r.pat), .bool r.dir, .bool r.anch], .string (mk p), .bool dir] w1 fun e w' => e = .returned (.bool (fitsB r p dir)) ∧ w'.heap[wr.heap.size]? = some (.cells #[.int .i64 r.act, .string (mk r.pat), .bool r.dir, .bool r.anch] 26) ∧ Below wr.heap.size wr w') :=
        (HF.out r (List.mem_of_getElem? hr) w1).mono fun e w' ⟨h1, h2⟩ => ⟨h1, (h2.block _ (Array.getElem?_eq_some_iff.1 hr1).1).trans hr1, hb1.trans (h2.mono hb1.size)⟩
      have HB1 := Lib.hid (HB.out.trans (hb1.mono HB.out.size))
      rw [hw1'] at HFT HB1
      have HKL := Lib.hid hk
      subst ea
      clear hk hr hLL hc c0 c1 c2 c3 hd hw1' hr1 hb1 HRK
      obtain ⟨act, pat, rd, an⟩ := r
      simp only at k0 k1 k2 k3 HFT HB1 HRK2
      have HSH : Hid (counts p dir drop ⟨act, pat, rd, an⟩ = ((decide (act = 1) || decide (act = 2) || drop) && fitsB ⟨act, pat, rd, an⟩ p dir)) := rfl
      generalize fitsB ⟨act, pat, rd, an⟩ p dir = fb at *
      generalize mk pat = q at *
      by_cases hsh : act = 1 ∨ act = 2 ∨ drop = true
      · have hsh2 : (decide (act = 1) || decide (act = 2) || drop) = true := by
          rcases hsh with h | h | h <;> simp [h]
        cases fb with
        | true =>
          have HRA : Hid (R = act) := by show _ = _; rw [HRK2.out, HSH.out, hsh2]; rfl
          clear hsh2 HRK2 HSH
          have fin : ∀ w3 : World, w3.heap[wr.heap.size]? = some (.cells #[.int .i64 act, .string q, .bool rd, .bool an] 26) → w3.cell? ⟨wr.heap.size, 0, none⟩ = some (.int .i64 act) := fun w3 h => (cells4 h).1.1
          have FIN := Lib.hid fin
          clear fin
          by_cases h1 : act = 1
          · subst h1
            clear hsh
            go_wp2_with (go_at_call 17; refine HFT.out.mono ?_; rintro e w3 ⟨rfl, hr3, hb3⟩; have q0 := FIN.out w3 hr3; have HB3 := Lib.hid (HB.out.trans (hb3.mono HB.out.size)); clear hr3 hb3)
            go_ret
            exact ⟨by rw [HRA.out]; rfl, HB3.out⟩
          · by_cases h2 : act = 2
            · subst h2
              clear hsh h1
              go_wp2_with (go_at_call 17; refine HFT.out.mono ?_; rintro e w3 ⟨rfl, hr3, hb3⟩; have q0 := FIN.out w3 hr3; have HB3 := Lib.hid (HB.out.trans (hb3.mono HB.out.size)); clear hr3 hb3)
              go_ret
              exact ⟨by rw [HRA.out]; rfl, HB3.out⟩
            · have hdr : drop = true := by rcases hsh with h | h | h; exact absurd h h1; exact absurd h h2; exact h
              subst hdr
              have e1 : (act == 1) = false := by simpa using h1
              have e2 : (act == 2) = false := by simpa using h2
              clear hsh
              go_wp2_with (go_at_call 17; refine HFT.out.mono ?_; rintro e w3 ⟨rfl, hr3, hb3⟩; have q0 := FIN.out w3 hr3; have HB3 := Lib.hid (HB.out.trans (hb3.mono HB.out.size)); clear hr3 hb3)
              go_ret
              exact ⟨by rw [HRA.out]; rfl, HB3.out⟩
        | false =>
          have HRN : Hid (R = firstR (L.drop (k + 1)) p dir drop) := by show _ = _; rw [HRK2.out, HSH.out]; simp
          clear hsh2 HRK2 HSH
          by_cases h1 : act = 1
          · subst h1
            clear hsh
            go_wp2_with (go_at_call 17; refine HFT.out.mono ?_; rintro e w3 ⟨rfl, hr3, hb3⟩; have HB3 := Lib.hid (HB.out.trans (hb3.mono HB.out.size)); clear hr3 hb3)
            go_roundw
            case rel => exact ⟨k + 1, by go_num, by show _ ≤ _; have := HKL.out; omega, HRN, HB3⟩
            case measure => have := HKL.out; simp [intOf]; omega
          · by_cases h2 : act = 2
            · subst h2
              clear hsh h1
              go_wp2_with (go_at_call 17; refine HFT.out.mono ?_; rintro e w3 ⟨rfl, hr3, hb3⟩; have HB3 := Lib.hid (HB.out.trans (hb3.mono HB.out.size)); clear hr3 hb3)
              go_roundw
              case rel => exact ⟨k + 1, by go_num, by show _ ≤ _; have := HKL.out; omega, HRN, HB3⟩
              case measure => have := HKL.out; simp [intOf]; omega
            · have hdr : drop = true := by rcases hsh with h | h | h; exact absurd h h1; exact absurd h h2; exact h
              subst hdr
              have e1 : (act == 1) = false := by simpa using h1
              have e2 : (act == 2) = false := by simpa using h2
              clear hsh
              go_wp2_with (go_at_call 17; refine HFT.out.mono ?_; rintro e w3 ⟨rfl, hr3, hb3⟩; have HB3 := Lib.hid (HB.out.trans (hb3.mono HB.out.size)); clear hr3 hb3)
              go_roundw
              case rel => exact ⟨k + 1, by go_num, by show _ ≤ _; have := HKL.out; omega, HRN, HB3⟩
              case measure => have := HKL.out; simp [intOf]; omega
      · have h1 : ¬ act = 1 := fun h => hsh (.inl h)
        have h2 : ¬ act = 2 := fun h => hsh (.inr (.inl h))
        have h3 : drop = false := by cases drop with
          | false => rfl
          | true => exact absurd (.inr (.inr rfl)) hsh
        subst h3
        have e1 : (act == 1) = false := by simpa using h1
        have e2 : (act == 2) = false := by simpa using h2
        have HRN : Hid (R = firstR (L.drop (k + 1)) p dir false) := by show _ = _; rw [HRK2.out, HSH.out, decide_eq_false h1, decide_eq_false h2]; simp
        clear hsh HRK2 HSH HFT
        go_wp2
        go_roundw
        case rel => exact ⟨k + 1, by go_num, by show _ ≤ _; have := HKL.out; omega, HRN, HB1⟩
        case measure => have := HKL.out; simp [intOf]; omega
    · have hIk : ¬ (k : Int) < (L.length : Int) := by omega
      have HRZ : Hid (R = 0) := by show _ = _; rw [HRK.out, List.drop_eq_nil_of_le (by omega)]; rfl
      clear hk
      go_wp2
      go_ret
      exact ⟨by rw [HRZ.out]; rfl, HB.out⟩
end Go.Proofs.YtokocfoeohddfaaGreatDoor.Pa
