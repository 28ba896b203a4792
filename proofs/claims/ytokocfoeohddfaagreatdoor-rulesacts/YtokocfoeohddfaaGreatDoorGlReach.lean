/- glob: a place is come to. (A template.) -/
import Derived.Test.YtokocfoeohddfaaGreatDoorGlRow
import Derived.Test.YtokocfoeohddfaaGreatDoorGlLang
namespace Go.Proofs.YtokocfoeohddfaaGreatDoor.Pa
open Go.RowKit
set_option linter.unusedVariables false
set_option linter.unusedSimpArgs false
set_option maxRecDepth 100000

/-- a block holds signs, one behind the other -/
structure GsAt (w : World) (g : Nat) (L : List Sg) : Prop where
  cell : ∀ i x, L[i]? = some x → ∀ j, j < 7 → w.cell? ⟨g, i * 7 + j, none⟩ = x.cs[j]?
  soft : ∀ i, w.frozen? ⟨g, i, none⟩ = false
  lt : g < w.heap.size
theorem GsOwn.at {w : World} {base g c : Nat} {L : List Sg} (h : GsOwn w base (.slice (some ⟨g, 0, none⟩) L.length c) L) : GsAt w g L ∧ base ≤ g := by
  rcases h.form with ⟨-, h⟩ | ⟨g', cap, h1, h2, h3, h4, ⟨cur, h5⟩, h6⟩
  · cases h
  · simp only [Value.slice.injEq, Option.some.injEq, Addr.mk.injEq] at h1
    obtain ⟨⟨rfl, -⟩, -, rfl⟩ := h1
    exact ⟨⟨h6, fun i => unfrozen h5, h3⟩, h2⟩
theorem GsAt.later {w w' : World} {g base : Nat} {L : List Sg} (h : GsAt w g L) (hb : Below base w w') (hg : g < base) : GsAt w' g L :=
  ⟨fun i x hi j hj => by rw [hb.cell (p := ⟨g, i * 7 + j, none⟩) hg]; exact h.cell i x hi j hj, fun i => by rw [hb.frozen (p := ⟨g, i, none⟩) hg]; exact h.soft i, Nat.lt_of_lt_of_le h.lt hb.size⟩
theorem GsAt.but {w w' : World} {g k o : Nat} {L : List Sg} (h : GsAt w g L) (hb : But4 k o w w') (hk : g ≠ k) : GsAt w' g L :=
  ⟨fun i x hi j hj => by rw [← h.cell i x hi j hj]; exact World.cell?_of_block (hb.block g hk), fun i => by rw [← h.soft i]; exact World.frozen?_of_block (hb.block g hk), by rw [hb.size]; exact h.lt⟩
theorem GsAt.set {w : World} {g i : Nat} {L : List Sg} {x : Sg} (h : GsAt w g L) (hi : L[i]? = some x) : SetAt w g (i * 7) x.S := by
  refine ⟨fun j hj => ?_, fun j hj => h.soft _⟩
  rw [h.cell i x hi j (by omega)]
  obtain rfl | rfl | rfl | rfl : j = 0 ∨ j = 1 ∨ j = 2 ∨ j = 3 := by omega
  all_goals rfl
theorem GsAt.many {w : World} {g i : Nat} {L : List Sg} {x : Sg} (h : GsAt w g L) (hi : L[i]? = some x) : w.cell? ⟨g, i * 7 + 4, none⟩ = some (.bool x.many) := by
  rw [h.cell i x hi 4 (by omega)]; rfl
set_option maxHeartbeats 4000000 in
theorem reach_any (L : List Sg) (g c ga i : Nat) (T : Nat → Bool) (w : World) (hG : GsAt w g L) (hL : L.length ≤ 100) (hi : i ≤ L.length) (hS : SetAt w ga 0 T) (hne : g ≠ ga) :
    Calls Tryz.prog 65 #[.slice (some ⟨g, 0, none⟩) L.length c, .pointer (some ⟨ga, 0, none⟩), .int .i64 (i : Int)] w fun e w' => e = .returned (.tuple #[]) ∧ SetAt w' ga 0 (reachS L T i) ∧ But4 ga 0 w w' := by
  have hw8 : IntKind.u8.wrap (i : Int) = (i : Int) := by simp [IntKind.wrap, IntKind.bits, IntKind.signed]; omega
  have HA := Lib.hid (add_set T ga 0 i w (by omega) hS)
  have HGK : Hid (∀ w', But4 ga 0 w w' → GsAt w' g L) := fun w' hb => hG.but hb hne
  by_cases hlt : i < L.length
  · have hIl : (i : Int) < (L.length : Int) := by omega
    have hx : L[i]? = some L[i] := List.getElem?_eq_getElem hlt
    have HM : Hid (∀ w', But4 ga 0 w w' → w'.cell? ⟨g, i * 7 + 4, none⟩ = some (.bool L[i].many)) := fun w' hb => (HGK.out w' hb).many hx
    have HR : Hid (reachS L T i = if L[i].many = true then addS (addS T i) (i + 1) else addS T i) := by show _ = _; unfold reachS; rw [hx]; rfl
    cases hm : L[i].many with
    | false =>
      rw [hm] at HM HR
      have HR2 : Hid (reachS L T i = addS T i) := by show _ = _; rw [HR.out]; rfl
      clear hx hm HR hG hS hlt
      generalize L.length = n at *
      go_enter Tryz.func65, Tryz.ntmps65
      go_wp2_with (go_at_call 77; refine HA.out.mono ?_; rintro e w1 ⟨rfl, hS1, hN1⟩; have hc := HM.out w1 hN1; have HS1 := Lib.hid hS1; have HN1 := Lib.hid hN1; clear hS1 hN1)
      go_end0
      exact ⟨rfl, by rw [HR2.out]; exact HS1.out, HN1.out⟩
    | true =>
      rw [hm] at HM HR
      have HR2 : Hid (reachS L T i = addS (addS T i) (i + 1)) := by show _ = _; rw [HR.out]; rfl
      have hw2 : IntKind.i64.wrap ((i : Int) + 1) = (i : Int) + 1 := IntWalk.i64_in _ (by omega)
      have hw3 : IntKind.u8.wrap ((i : Int) + 1) = (i : Int) + 1 := by simp [IntKind.wrap, IntKind.bits, IntKind.signed]; omega
      have HA2 : Hid (∀ W U, SetAt W ga 0 U → Calls Tryz.prog 77 #[.pointer (some ⟨ga, 0, none⟩), .int .u8 ((i : Int) + 1)] W fun e w' => e = .returned (.tuple #[]) ∧ SetAt w' ga 0 (addS U (i + 1)) ∧ But4 ga 0 W w') := fun W U hU => add_set U ga 0 (i + 1) W (by omega) hU
      clear hx hm HR hG hS hlt
      generalize L.length = n at *
      go_enter Tryz.func65, Tryz.ntmps65
      go_wp2_with (first
        | (go_at_call 77; with_reducible refine HA.out.mono ?_; rintro e w1 ⟨rfl, hS1, hN1⟩; have hc := HM.out w1 hN1; have HS1 := Lib.hid hS1; have HN1 := Lib.hid hN1; clear hS1 hN1)
        | (go_at_call 77; refine (HA2.out _ _ HS1.out).mono ?_; rintro e w2 ⟨rfl, hS2, hN2⟩; have HS2 := Lib.hid hS2; have HN2 := Lib.hid hN2; clear hS2 hN2))
      go_end0
      exact ⟨rfl, by rw [HR2.out]; exact HS2.out, HN1.out.trans HN2.out⟩
  · have hIl : ¬ (i : Int) < (L.length : Int) := by omega
    have HR2 : Hid (reachS L T i = addS T i) := by show _ = _; unfold reachS; rw [List.getElem?_eq_none (by omega)]; rfl
    clear hG hS hlt
    generalize L.length = n at *
    go_enter Tryz.func65, Tryz.ntmps65
    go_wp2_with (go_at_call 77; refine HA.out.mono ?_; rintro e w1 ⟨rfl, hS1, hN1⟩; have HS1 := Lib.hid hS1; have HN1 := Lib.hid hN1; clear hS1 hN1)
    go_end0
    exact ⟨rfl, by rw [HR2.out]; exact HS1.out, HN1.out⟩
end Go.Proofs.YtokocfoeohddfaaGreatDoor.Pa
