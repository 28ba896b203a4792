/- glob: a class as far as it is read. (A template.) -/
import Derived.Test.YtokocfoeohddfaaGreatDoorGlSet4
import Derived.ChangeKeysEq
namespace Go.Proofs.YtokocfoeohddfaaGreatDoor.Pa
open Go.RowKit
set_option linter.unusedVariables false
set_option linter.unusedSimpArgs false
set_option maxRecDepth 100000

/-- S and the bytes from a below b -/
def spanS (S : Nat → Bool) (a b : Nat) : Nat → Bool := fun x => S x || (decide (a ≤ x) && decide (x < b))
theorem classAdd_any (S : Nat → Bool) (g a b : Nat) (w : World) (ha : a < 256) (hb : b < 256) (h : SetAt w g 1 S) :
    Calls Tryz.prog 64 #[.pointer (some ⟨g, 0, none⟩), .int .u8 (a : Int), .int .u8 (b : Int)] w fun e w' => e = .returned (.tuple #[]) ∧ SetAt w' g 1 (spanS S a (b + 1)) ∧ But4 g 1 w w' := by
  have H0 : Hid (SetAt w g 1 (spanS S a a)) := h.same fun x hx => by
    unfold spanS
    have : (decide (a ≤ x) && decide (x < a)) = false := by rw [Bool.eq_false_iff]; simp
    rw [this, Bool.or_false]
  clear h
  go_enter Tryz.func64, Tryz.ntmps64
  go_wp2
  go_loopw [6] (fun c wr => ∃ k : Nat, c = .int .i64 k ∧ a ≤ k ∧ (k ≤ b + 1 ∨ k = a) ∧ Hid (SetAt wr g 1 (spanS S a k)) ∧ Hid (But4 g 1 w wr)) (fun c _ => 256 - (intOf c).toNat)
  case atStart => exact ⟨a, rfl, Nat.le_refl _, .inr rfl, H0, But4.refl _ _ _⟩
  case round =>
    obtain ⟨k, rfl, hka, hkb, HS, HB⟩ := hrel
    clear H0
    by_cases hlt : k ≤ b
    · have hI : (k : Int) ≤ (b : Int) := by omega
      have hw8 : IntKind.u8.wrap (k : Int) = (k : Int) := by simp [IntKind.wrap, IntKind.bits, IntKind.signed]; omega
      have hw : IntKind.i64.wrap ((k : Int) + 1) = (k : Int) + 1 := IntWalk.i64_in _ (by omega)
      have HA := Lib.hid (add_set (spanS S a k) g 1 k wr (by omega) HS.out)
      go_wp2_with fail
      refine HA.out.mono ?_
      rintro e w' ⟨rfl, hS, hN⟩
      have HSN : Hid (SetAt w' g 1 (spanS S a (k + 1))) := hS.same fun x hx => by
        unfold addS spanS
        rw [Bool.eq_iff_iff]
        cases S x
        · simp; omega
        · simp
      have HBN := Lib.hid (HB.out.trans hN)
      clear hS hN
      go_wp2
      go_roundw
      case rel => exact ⟨k + 1, by go_num, by omega, .inl (by omega), HSN, HBN⟩
      case measure => simp [intOf]; omega
    · have hI : ¬ (k : Int) ≤ (b : Int) := by omega
      have HF : Hid (SetAt wr g 1 (spanS S a (b + 1))) := HS.out.same fun x hx => by
        unfold spanS
        rw [Bool.eq_iff_iff]
        cases S x
        · simp; omega
        · simp
      go_wp2
      go_end0
      exact ⟨rfl, HF.out, HB.out⟩
theorem eql_set (x0 x1 x2 x3 : Int) (W : World) : (Op.equalIn 10000 75 (.agg #[.int .u64 x0, .int .u64 x1, .int .u64 x2, .int .u64 x3]) (.agg #[.int .u64 0, .int .u64 0, .int .u64 0, .int .u64 0])).run Tryz.prog W = .ok (x0 == 0 && (x1 == 0 && (x2 == 0 && x3 == 0))) W := by
  have u := Tryz.underlying73
  have a := Tryz.isAgg73
  have z := Tryz.sizeOf73
  rw [show (10000 : Nat) = 9999 + 1 from rfl, Op.equalIn]
  simp only [Sem.run_bind, run_underlying Tryz.underlying75, Result.andThen_ok]
  simp only [Std.Legacy.Range.forIn_eq_forIn_range', Std.Legacy.Range.size, Nat.sub_zero, Nat.add_sub_cancel, Nat.div_one, List.range'_succ, List.range'_zero, List.forIn_cons, List.forIn_nil]
  go_simp
  by_cases h0 : x0 = 0 <;> by_cases h1 : x1 = 0 <;> by_cases h2 : x2 = 0 <;> by_cases h3 : x3 = 0 <;> simp [h0, h1, h2, h3]
/-- is there no byte in the set? -/
def emptyS (S : Nat → Bool) : Bool := (wd S 0 : Int) == 0 && ((wd S 1 : Int) == 0 && ((wd S 2 : Int) == 0 && (wd S 3 : Int) == 0))
theorem wd_zero (S : Nat → Bool) (j : Nat) : wd S j = 0 ↔ ∀ k, k < 64 → S (64 * j + k) = false := by
  constructor
  · intro h k hk
    rw [← wd_bit S j k hk, h, Nat.zero_testBit]
  · intro h
    exact (wd_of S j 0 (by decide) fun k hk => by rw [Nat.zero_testBit, h k hk]).symm
theorem emptyS_iff (S : Nat → Bool) : emptyS S = true ↔ ∀ x, x < 256 → S x = false := by
  have e : emptyS S = true ↔ wd S 0 = 0 ∧ wd S 1 = 0 ∧ wd S 2 = 0 ∧ wd S 3 = 0 := by
    unfold emptyS
    simp only [Bool.and_eq_true, beq_iff_eq]
    omega
  rw [e, wd_zero, wd_zero, wd_zero, wd_zero]
  constructor
  · rintro ⟨h0, h1, h2, h3⟩ x hx
    rcases Nat.lt_or_ge x 64 with a | a
    · have := h0 x a; rwa [show 64 * 0 + x = x from by omega] at this
    · rcases Nat.lt_or_ge x 128 with b | b
      · have := h1 (x - 64) (by omega); rwa [show 64 * 1 + (x - 64) = x from by omega] at this
      · rcases Nat.lt_or_ge x 192 with c | c
        · have := h2 (x - 128) (by omega); rwa [show 64 * 2 + (x - 128) = x from by omega] at this
        · have := h3 (x - 192) (by omega); rwa [show 64 * 3 + (x - 192) = x from by omega] at this
  · intro h
    exact ⟨fun k hk => h _ (by omega), fun k hk => h _ (by omega), fun k hk => h _ (by omega), fun k hk => h _ (by omega)⟩
theorem classEmpty_any (S : Nat → Bool) (g : Nat) (w : World) (h : SetAt w g 1 S) :
    Calls Tryz.prog 61 #[.pointer (some ⟨g, 0, none⟩)] w fun e w' => e = .returned (.bool (emptyS S)) ∧ w = w' := by
  have c0 := h.cell 0 (by omega)
  have c1 := h.cell 1 (by omega)
  have c2 := h.cell 2 (by omega)
  have c3 := h.cell 3 (by omega)
  simp only [Nat.add_zero, show 1 + 1 = 2 from rfl, show 1 + 2 = 3 from rfl, show 1 + 3 = 4 from rfl] at c0 c1 c2 c3
  have HE : Hid (emptyS S = ((wd S 0 : Int) == 0 && ((wd S 1 : Int) == 0 && ((wd S 2 : Int) == 0 && (wd S 3 : Int) == 0)))) := rfl
  generalize emptyS S = R at *
  generalize wd S 0 = x0 at *
  generalize wd S 1 = x1 at *
  generalize wd S 2 = x2 at *
  generalize wd S 3 = x3 at *
  have HQ := fun W => eql_set (x0 : Int) x1 x2 x3 W
  clear h
  go_enter Tryz.func61, Tryz.ntmps61
  go_wp2
  go_ret
  exact ⟨by rw [HE.out]; rfl, rfl⟩
end Go.Proofs.YtokocfoeohddfaaGreatDoor.Pa
