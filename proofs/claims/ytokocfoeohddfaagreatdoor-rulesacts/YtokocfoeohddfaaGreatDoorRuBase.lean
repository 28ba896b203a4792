/- rules: a rule, whether it may be; strings cut ahead and behind. (A template.) -/
import Derived.Test.YtokocfoeohddfaaGreatDoorPaMore
import Derived.Test.YtokocfoeohddfaaGreatDoorGlChecks
import Derived.Lib.IndexAny
namespace Go.Proofs.YtokocfoeohddfaaGreatDoor.Pa
open Go.RowKit
set_option linter.unusedVariables false
set_option linter.unusedSimpArgs false
set_option maxRecDepth 100000

structure Ru where
  act : Int
  pat : L8
  dir : Bool
  anch : Bool
deriving DecidableEq
abbrev ruV (act : Int) (pat : ByteArray) (dir anch : Bool) : Value := .agg #[.int .i64 act, .string pat, .bool dir, .bool anch]
def Ru.val (r : Ru) : Value := ruV r.act (Pa.mk r.pat) r.dir r.anch
theorem index_has (l : L8) (c : Int) (hc : 0 ≤ c ∧ c ≤ 255) (w : World) : Calls Tryz.prog 26 #[.string (mk l), .int .u8 c] w fun e w' => ∃ i : Int, e = .returned (.int .i64 i) ∧ (0 ≤ i ↔ c.toNat.toUInt8 ∈ l) ∧ w = w' := by
  refine (Tryz.strings_IndexByte (mk l) c w).mono ?_
  rintro e w' ⟨h1, h2⟩
  refine ⟨_, h1, ?_, h2.symm⟩
  have := Lib.contains_iff_indexByte l c.toNat.toUInt8
  rw [mk_list]
  constructor
  · intro h
    have h2 : l.contains c.toNat.toUInt8 = true := by rw [this]; exact decide_eq_true h
    simpa using h2
  · intro h
    have h2 : l.contains c.toNat.toUInt8 = true := by simpa using h
    rw [this] at h2
    exact of_decide_eq_true h2
/-- what is wrong with a rule, whatever its pattern says -/
def bad (l : L8) : Prop := l = [] ∨ nb l 0 = 47 ∨ nb l (l.length - 1) = 47 ∨ (10 : UInt8) ∈ l
instance (l : L8) : Decidable (bad l) := by unfold bad; infer_instance
def misE (act : Int) (l : L8) : Int := if act < 1 ∨ 4 < act then 2 else if bad l then 5 else 0
set_option maxHeartbeats 4000000 in
theorem misshapen_any (act : Int) (l : L8) (dir anch : Bool) (w : World) (hl : l.length ≤ 9223372036854775807) :
    Calls Tryz.prog 32 #[ruV act (mk l) dir anch] w fun e w' => e = .returned (.int .i64 (misE act l)) ∧ Below w.heap.size w w' := by
  have hs : (mk l).size = l.length := mk_size l
  obtain ⟨R, hR⟩ : ∃ R, R = misE act l := ⟨_, rfl⟩
  rw [← hR]
  have HR := Lib.hid hR
  have HB : Hid (Below w.heap.size w (w.alloc (.cells #[.int .i64 act, .string (mk l), .bool dir, .bool anch] 26))) := (Below.refl _ _).alloc (Nat.le_refl _) _
  clear hR
  by_cases ha : act < 1
  · have hD : decide (act < 1) = true := decide_eq_true ha
    have HF : Hid (R = 2) := by show _ = _; rw [HR.out]; unfold misE; rw [if_pos (.inl ha)]
    clear hs hl HR
    generalize mk l = p at *
    go_enter Tryz.func32, Tryz.ntmps32
    go_wp2
    go_ret
    exact ⟨by rw [HF.out]; rfl, HB.out⟩
  · have hD : decide (act < 1) = false := decide_eq_false ha
    by_cases hb : 4 < act
    · have hD2 : decide (4 < act) = true := decide_eq_true hb
      have HF : Hid (R = 2) := by show _ = _; rw [HR.out]; unfold misE; rw [if_pos (.inr hb)]
      clear hs hl HR
      generalize mk l = p at *
      go_enter Tryz.func32, Tryz.ntmps32
      go_wp2
      go_ret
      exact ⟨by rw [HF.out]; rfl, HB.out⟩
    · have hD2 : decide (4 < act) = false := decide_eq_false hb
      have HE : Hid (R = if bad l then 5 else 0) := by show _ = _; rw [HR.out]; unfold misE; rw [if_neg (by omega)]
      clear HR
      by_cases hn : l = []
      · have HF : Hid (R = 5) := by show _ = _; rw [HE.out, if_pos (.inl hn)]
        have he : (mk l).toList.isEmpty = true := by rw [mk_toList, hn]; rfl
        clear hs hl HE hn
        generalize mk l = p at *
        go_enter Tryz.func32, Tryz.ntmps32
        go_wp2
        go_ret
        exact ⟨by rw [HF.out]; rfl, HB.out⟩
      · have hpos : 0 < l.length := by cases l with
          | nil => exact absurd rfl hn
          | cons c r => simp
        have he : (mk l).toList.isEmpty = false := by
          rw [mk_toList]; cases l with
          | nil => exact absurd rfl hn
          | cons c r => rfl
        have hx0 := run_at l 0 hpos
        simp only [Int.cast_ofNat_Int] at hx0
        have hxl := run_at l (l.length - 1) (by omega)
        have hsub : IntKind.i64.wrap (((mk l).size : Int) - 1) = ((l.length - 1 : Nat) : Int) := by rw [hs, IntWalk.i64_in _ (by omega)]; omega
        obtain ⟨b0, hb0⟩ : ∃ b, b = nb l 0 := ⟨_, rfl⟩
        obtain ⟨b1, hb1⟩ : ∃ b, b = nb l (l.length - 1) := ⟨_, rfl⟩
        rw [bt_nb, ← hb0] at hx0
        rw [bt_nb, ← hb1] at hxl
        obtain ⟨k, hk⟩ : ∃ k, k = l.length - 1 := ⟨_, rfl⟩
        rw [← hk] at hxl hsub
        by_cases h47 : b0 = 47
        · have HF : Hid (R = 5) := by show _ = _; rw [HE.out, if_pos (.inr (.inl (hb0.symm.trans h47)))]
          subst h47
          clear hs hl HE hn hpos hxl hsub hb0 hb1 hk
          generalize mk l = p at *
          go_enter Tryz.func32, Tryz.ntmps32
          go_wp2
          go_ret
          exact ⟨by rw [HF.out]; rfl, HB.out⟩
        · have hq0 : (((b0 : Nat) : Int) == 47) = false := by have : ¬ ((b0 : Int) = 47) := by omega
                                                              simpa using this
          by_cases h47b : b1 = 47
          · have HF : Hid (R = 5) := by show _ = _; rw [HE.out, if_pos (.inr (.inr (.inl (hb1.symm.trans h47b))))]
            subst h47b
            clear hs hl HE hn hpos hb0 hb1 hk h47
            generalize mk l = p at *
            go_enter Tryz.func32, Tryz.ntmps32
            go_wp2
            go_ret
            exact ⟨by rw [HF.out]; rfl, HB.out⟩
          · have hq1 : (((b1 : Nat) : Int) == 47) = false := by have : ¬ ((b1 : Int) = 47) := by omega
                                                                simpa using this
            have HI := Lib.hid (fun W => index_has l 10 (by decide) W)
            have HF : Hid (R = if (10 : UInt8) ∈ l then 5 else 0) := by
              show _ = _; rw [HE.out]
              by_cases h10 : (10 : UInt8) ∈ l
              · rw [if_pos h10, if_pos (.inr (.inr (.inr h10)))]
              · rw [if_neg h10, if_neg]
                rintro (h | h | h | h)
                · exact hn h
                · exact h47 (hb0.trans h)
                · exact h47b (hb1.trans h)
                · exact h10 h
            have e10 : (10 : Int).toNat.toUInt8 = 10 := rfl
            simp only [e10] at HI
            clear hs hl HE hn hpos hb0 hb1 hk h47 h47b e10
            by_cases h10 : (10 : UInt8) ∈ l
            · have HF2 : Hid (R = 5) := by show _ = _; rw [HF.out, if_pos h10]
              have HI2 : Hid (∀ W, Calls Tryz.prog 26 #[.string (mk l), .int .u8 10] W fun e w' => ∃ i : Int, e = .returned (.int .i64 i) ∧ 0 ≤ i ∧ W = w') := fun W => (HI.out W).mono fun e w' ⟨i, h1, h2, h3⟩ => ⟨i, h1, h2.2 h10, h3⟩
              clear HI h10 HF
              generalize mk l = p at *
              go_enter Tryz.func32, Tryz.ntmps32
              go_wp2_with (go_at_call 26; refine (HI2.out _).mono ?_; rintro e w' ⟨i, rfl, hi, rfl⟩; have hdi : decide (0 ≤ i) = true := decide_eq_true hi)
              go_ret
              exact ⟨by rw [HF2.out]; rfl, HB.out⟩
            · have HF2 : Hid (R = 0) := by show _ = _; rw [HF.out, if_neg h10]
              have HI2 : Hid (∀ W, Calls Tryz.prog 26 #[.string (mk l), .int .u8 10] W fun e w' => ∃ i : Int, e = .returned (.int .i64 i) ∧ ¬ 0 ≤ i ∧ W = w') := fun W => (HI.out W).mono fun e w' ⟨i, h1, h2, h3⟩ => ⟨i, h1, fun h => h10 (h2.1 h), h3⟩
              clear HI h10 HF
              generalize mk l = p at *
              go_enter Tryz.func32, Tryz.ntmps32
              go_wp2_with (go_at_call 26; refine (HI2.out _).mono ?_; rintro e w' ⟨i, rfl, hi, rfl⟩; have hdi : decide (0 ≤ i) = false := decide_eq_false hi)
              go_ret
              exact ⟨by rw [HF2.out]; rfl, HB.out⟩
/-- what is wrong with a rule -/
def refE (act : Int) (l : L8) : Int := if misE act l ≠ 0 then misE act l else readE l
theorem refused_ru (act : Int) (l : L8) (dir anch : Bool) (w : World) (hl : l.length ≤ 9223372036854775807) :
    Calls Tryz.prog 29 #[ruV act (mk l) dir anch] w fun e w' => e = .returned (.int .i64 (refE act l)) ∧ Below w.heap.size w w' := by
  obtain ⟨w1, hw1⟩ : ∃ w1, w1 = w.alloc (.cells #[.int .i64 act, .string (mk l), .bool dir, .bool anch] 26) := ⟨_, rfl⟩
  have hr1 : w1.heap[w.heap.size]? = some (.cells #[.int .i64 act, .string (mk l), .bool dir, .bool anch] 26) := by rw [hw1]; exact heap_new _ _
  have hb1 : Below w.heap.size w w1 := by rw [hw1]; exact (Below.refl _ _).alloc (Nat.le_refl _) _
  have hm := misshapen_any act l dir anch w1 hl
  have HM : Hid (Calls Tryz.prog 32 #[ruV act (mk l) dir anch] w1 fun e w' => e = .returned (.int .i64 (misE act l)) ∧ Below w.heap.size w w' ∧ w'.cell? ⟨w.heap.size, 1, none⟩ = some (.string (mk l))) := hm.mono fun e w' ⟨h1, h2⟩ => by
    refine ⟨h1, hb1.trans (h2.mono hb1.size), ?_⟩
    rw [h2.cell (p := ⟨w.heap.size, 1, none⟩) (Array.getElem?_eq_some_iff.1 hr1).1, cell_of_row _ _ 1 _ _ (0, 0) hr1]; rfl
  have HC := Lib.hid (fun W => check_any l W hl)
  rw [hw1] at HM
  by_cases hz : misE act l = 0
  · have HR : Hid (refE act l = readE l) := by show _ = _; unfold refE; rw [if_neg (by simpa using hz)]
    rw [HR.out]
    rw [hz] at HM
    generalize readE l = r at *
    clear hw1 hr1 hb1 hm hl hz
    generalize mk l = p at *
    go_enter Tryz.func29, Tryz.ntmps29
    go_wp2_with (first
      | (go_at_call 32; refine HM.out.mono ?_; rintro e w2 ⟨rfl, hb, hc⟩; have HB := Lib.hid hb; clear hb)
      | (go_at_call 45; refine (HC.out _).mono ?_; rintro e w3 ⟨rfl, hb⟩; have HB3 := Lib.hid (HB.out.trans (hb.mono HB.out.size)); clear hb))
    go_ret
    exact ⟨rfl, HB3.out⟩
  · have HR : Hid (refE act l = misE act l) := by show _ = _; unfold refE; rw [if_pos hz]
    rw [HR.out]
    have hne : (misE act l == 0) = false := by simpa using hz
    generalize misE act l = r at *
    clear hw1 hr1 hb1 hm hl hz HC
    generalize mk l = p at *
    go_enter Tryz.func29, Tryz.ntmps29
    go_wp2_with (go_at_call 32; refine HM.out.mono ?_; rintro e w2 ⟨rfl, hb, hc⟩; have HB := Lib.hid hb; clear hb)
    go_ret
    exact ⟨rfl, HB.out⟩
end Go.Proofs.YtokocfoeohddfaaGreatDoor.Pa
