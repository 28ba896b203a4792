/- glob: the signs of a pattern. (A template.) -/
import Derived.Test.YtokocfoeohddfaaGreatDoorGlRow
namespace Go.Proofs.YtokocfoeohddfaaGreatDoor.Pa
open Go.RowKit
set_option linter.unusedVariables false
set_option linter.unusedSimpArgs false
set_option maxRecDepth 100000

/-- what read answers -/
def RD (l : L8) (base : Nat) (v : Value) (w : World) : Prop :=
  if 100 < l.length then v = .tuple #[.slice none 0 0, .int .i64 7] else match sgns l (l.length + 1) 0 with
  | none => v = .tuple #[.slice none 0 0, .int .i64 5]
  | some L => ∃ g c, v = .tuple #[.slice (some ⟨g, 0, none⟩) L.length c, .int .i64 0] ∧ GsOwn w base (.slice (some ⟨g, 0, none⟩) L.length c) L
theorem cls_new (w : World) : SetAt (w.alloc (.cells #[.bool false, .int .u64 0, .int .u64 0, .int .u64 0, .int .u64 0] 81)) w.heap.size 1 noneS := by
  have hh : (w.alloc (.cells #[.bool false, .int .u64 0, .int .u64 0, .int .u64 0, .int .u64 0] 81)).heap[w.heap.size]? = some (.cells #[.bool false, .int .u64 0, .int .u64 0, .int .u64 0, .int .u64 0] 81) := heap_new _ _
  refine ⟨fun j hj => ?_, fun j hj => unfrozen hh⟩
  rw [wd_none]
  obtain rfl | rfl | rfl | rfl : j = 0 ∨ j = 1 ∨ j = 2 ∨ j = 3 := by omega
  all_goals (rw [cell_of_row _ _ _ _ _ (0, 0) hh]; rfl)
theorem sgns_eq (l : L8) (n a : Nat) : sgns l (n + 1) a = if a < l.length then (match sgn l a with | none => none | some (x, b) => (sgns l n b).map (x :: ·)) else some [] := by rw [sgns]; rfl
/-- the rest of the signs, behind those that have come -/
def Rest (l : L8) (R : Option (List Sg)) (L : List Sg) (a : Nat) : Prop := R = (sgns l (l.length + 1) a).map (L ++ ·)
theorem rest_stop {l : L8} {R : Option (List Sg)} {L : List Sg} {a : Nat} (h : Rest l R L a) (ha : ¬ a < l.length) : R = some L := by
  unfold Rest at h; rw [sgns_eq, if_neg ha] at h; simpa using h
theorem rest_none {l : L8} {R : Option (List Sg)} {L : List Sg} {a : Nat} (h : Rest l R L a) (ha : a < l.length) (hs : sgn l a = none) : R = none := by
  unfold Rest at h; rw [sgns_eq, if_pos ha, hs] at h; simpa using h
theorem rest_next {l : L8} {R : Option (List Sg)} {L : List Sg} {a b : Nat} {x : Sg} (h : Rest l R L a) (ha : a < l.length) (hs : sgn l a = some (x, b)) : Rest l R (L ++ [x]) b := by
  have hb := sgn_bd ha hs
  unfold Rest at h ⊢
  rw [sgns_eq, if_pos ha, hs] at h
  simp only at h
  rw [sgns_fuel l.length (l.length + 1) b (by omega) (by omega) (by omega)] at h
  rw [h]
  cases sgns l (l.length + 1) b <;> simp
/-- the class that is being read -/
def InC (l : L8) (a0 : Nat) (a : Nat) (S : Nat → Bool) : Prop := nb l a0 = 91 ∧ cls l (l.length + 1) (if bang l a0 then a0 + 2 else a0 + 1) noneS = cls l (l.length + 1) a S
theorem inc_sgn {l : L8} {a0 a : Nat} {S : Nat → Bool} (h : InC l a0 a S) : sgn l a0 = match cls l (l.length + 1) a S with | none => none | some (T, b) => some (classSg (bang l a0) T, b) := by
  unfold sgn; rw [if_pos h.1, h.2]; rfl
theorem cls_eq (l : L8) (n a : Nat) (S : Nat → Bool) : cls l (n + 1) a S = if a < l.length then (if nb l a = 93 then (if emptyS S = true then none else some (S, a + 1)) else match rm l a with | none => none | some (f, g, b) => cls l n b (spanS S f (g + 1))) else none := by rw [cls]; rfl
theorem inc_end {l : L8} {a0 a : Nat} {S : Nat → Bool} (h : InC l a0 a S) (ha : ¬ a < l.length) : sgn l a0 = none := by rw [inc_sgn h, cls_eq, if_neg ha]
theorem inc_empty {l : L8} {a0 a : Nat} {S : Nat → Bool} (h : InC l a0 a S) (ha : a < l.length) (h93 : nb l a = 93) (he : emptyS S = true) : sgn l a0 = none := by rw [inc_sgn h, cls_eq, if_pos ha, if_pos h93, if_pos he]
theorem inc_done {l : L8} {a0 a : Nat} {S : Nat → Bool} (h : InC l a0 a S) (ha : a < l.length) (h93 : nb l a = 93) (he : emptyS S = false) : sgn l a0 = some (classSg (bang l a0) S, a + 1) := by rw [inc_sgn h, cls_eq, if_pos ha, if_pos h93, he]; rfl
theorem inc_bad {l : L8} {a0 a : Nat} {S : Nat → Bool} (h : InC l a0 a S) (ha : a < l.length) (h93 : nb l a ≠ 93) (he : rm l a = none) : sgn l a0 = none := by rw [inc_sgn h, cls_eq, if_pos ha, if_neg h93, he]
theorem inc_next {l : L8} {a0 a f g b : Nat} {S : Nat → Bool} (h : InC l a0 a S) (ha : a < l.length) (h93 : nb l a ≠ 93) (he : rm l a = some (f, g, b)) : InC l a0 b (spanS S f (g + 1)) := by
  have hb := rm_bd he
  refine ⟨h.1, ?_⟩
  rw [h.2, cls_eq, if_pos ha, if_neg h93, he]
  exact cls_fuel _ _ _ _ (by omega) (by omega)
/-- the world while a class is being read -/
structure CI (w wx : World) (gC g4 c4 : Nat) (B : Bool) (L : List Sg) (S : Nat → Bool) : Prop where
  set : SetAt wx gC 1 S
  nt : wx.cell? ⟨gC, 0, none⟩ = some (.bool B)
  own : GsOwn wx w.heap.size (.slice (some ⟨g4, 0, none⟩) L.length c4) L
  bel : Below w.heap.size w wx
  lt : gC < wx.heap.size
  apart : g4 < gC
  le : w.heap.size ≤ gC
theorem CI.later {w wx w' : World} {gC g4 c4 : Nat} {B : Bool} {L : List Sg} {S : Nat → Bool} (h : CI w wx gC g4 c4 B L S) (hb : Below wx.heap.size wx w') : CI w w' gC g4 c4 B L S :=
  ⟨h.set.later hb h.lt, by rw [hb.cell (p := ⟨gC, 0, none⟩) h.lt]; exact h.nt, h.own.later hb, h.bel.trans (hb.mono h.bel.size), Nat.lt_of_lt_of_le h.lt hb.size, h.apart, h.le⟩
theorem CI.add {w wx w' : World} {gC g4 c4 : Nat} {B : Bool} {L : List Sg} {S T : Nat → Bool} (h : CI w wx gC g4 c4 B L S) (hs : SetAt w' gC 1 T) (hb : But4 gC 1 wx w') : CI w w' gC g4 c4 B L T :=
  ⟨hs, by rw [hb.cell 0 (by omega)]; exact h.nt, h.own.but hb (by intro e; simp [Value.ownBlock] at e; have := h.apart; omega), h.bel.trans (hb.below h.le), by rw [hb.size]; exact h.lt, h.apart, h.le⟩
theorem bang_lt {l : L8} {a : Nat} (h : bang l a = true) : a + 1 < l.length := by
  unfold bang at h
  rcases Nat.lt_or_ge (a + 1) l.length with h1 | h1
  · exact h1
  · rw [List.drop_eq_nil_of_le h1] at h; simp [List.isPrefixOf] at h
theorem begin_ci (l : L8) (a : Nat) (w wr : World) (g4 c4 : Nat) (L : List Sg) (ha : a < l.length) (hl : l.length ≤ 4611686018427387904) (hO : GsOwn wr w.heap.size (.slice (some ⟨g4, 0, none⟩) L.length c4) L) (hB : Below w.heap.size w wr) :
    Calls Tryz.prog 60 #[.pointer (some ⟨wr.heap.size, 0, none⟩), .string (mk l), .int .i64 (a : Int)] (wr.alloc (.cells #[.bool false, .int .u64 0, .int .u64 0, .int .u64 0, .int .u64 0] 81)) fun e w' => e = .returned (.int .i64 ((if bang l a then a + 2 else a + 1 : Nat) : Int)) ∧ CI w w' wr.heap.size g4 c4 (bang l a) L noneS := by
  have hh : (wr.alloc (.cells #[.bool false, .int .u64 0, .int .u64 0, .int .u64 0, .int .u64 0] 81)).heap[wr.heap.size]? = some (.cells #[.bool false, .int .u64 0, .int .u64 0, .int .u64 0, .int .u64 0] 81) := heap_new _ _
  have h0 : (wr.alloc (.cells #[.bool false, .int .u64 0, .int .u64 0, .int .u64 0, .int .u64 0] 81)).cell? ⟨wr.heap.size, 0, none⟩ = some (.bool false) := by rw [cell_of_row _ _ 0 _ _ (0, 0) hh]; rfl
  have hs := cls_new wr
  have hbA : Below wr.heap.size wr (wr.alloc (.cells #[.bool false, .int .u64 0, .int .u64 0, .int .u64 0, .int .u64 0] 81)) := (Below.refl _ _).alloc (Nat.le_refl _) _
  have hg4 := (hO.lt g4 rfl).2
  refine (begin_any l wr.heap.size a false _ ha hl h0 (unfrozen hh)).mono ?_
  rintro e w' ⟨rfl, hw⟩
  refine ⟨rfl, ?_⟩
  have key : CI w ((wr.alloc (.cells #[.bool false, .int .u64 0, .int .u64 0, .int .u64 0, .int .u64 0] 81)).setCell ⟨wr.heap.size, 0, none⟩ (.bool (bang l a))) wr.heap.size g4 c4 (bang l a) L noneS := by
    have hb2 : Below wr.heap.size wr ((wr.alloc (.cells #[.bool false, .int .u64 0, .int .u64 0, .int .u64 0, .int .u64 0] 81)).setCell ⟨wr.heap.size, 0, none⟩ (.bool (bang l a))) := hbA.setCell (Nat.le_refl _) _
    refine ⟨⟨fun j hj => ?_, fun j hj => ?_⟩, ?_, hO.later hb2, hB.trans (hb2.mono hB.size), ?_, hg4, hB.size⟩
    · rw [World.cell?_setCell_other]
      · exact hs.cell j hj
      · intro e; injection e with _ e2 _; omega
    · rw [World.frozen?_setCell]; exact hs.soft j hj
    · exact World.cell?_setCell_same' _ _ _ (by rw [h0]; rfl)
    · simp
  rcases hw with rfl | rfl
  · exact key
  · exact ⟨key.set.drew, key.nt, key.own, key.bel.drew, key.lt, key.apart, key.le⟩
end Go.Proofs.YtokocfoeohddfaaGreatDoor.Pa
