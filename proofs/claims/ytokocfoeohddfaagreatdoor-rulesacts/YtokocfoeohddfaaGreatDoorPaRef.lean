/- path: why a part may not be; what texts come to. (A template.) -/
import Derived.Test.YtokocfoeohddfaaGreatDoorPaSmall
namespace Go.Proofs.YtokocfoeohddfaaGreatDoor.Pa
open Go.RowKit
set_option linter.unusedVariables false
set_option linter.unusedSimpArgs false
set_option maxRecDepth 1000000

def refV (p : L8) : Int := if p = [46, 46] then 16 else if (0 : UInt8) ∈ p then 9 else if 48 < p.length then 7 else 0
theorem idx0 (p : L8) : 0 ≤ Lib.indexByte p 0 ↔ (0 : UInt8) ∈ p := by
  induction p with
  | nil => simp [Lib.indexByte]
  | cons c p ih =>
    have h := Lib.indexByte_ge p 0
    unfold Lib.indexByte
    split
    · next e => simp at e; simp [e]
    · next e =>
      have e' : ¬ (0 : UInt8) = c := fun g => e (by rw [← g]; rfl)
      split
      · next h2 =>
        simp at h2
        simp [e']
        intro g
        have := ih.2 g
        omega
      · next h2 =>
        simp at h2
        simp [e']
        constructor
        · intro g; exact ih.1 (by omega)
        · intro g; have := ih.2 g; omega
theorem idx_any (p : L8) (w : World) : Calls Tryz.prog 26 #[.string (mk p), .int .u8 0] w fun e w' => e = .returned (.int .i64 (Lib.indexByte p 0)) ∧ w' = w := by
  have h := Tryz.strings_IndexByte (mk p) 0 w
  rw [mk_list] at h
  exact h
theorem dotsT {p : L8} (h : p = [46, 46]) : ((mk p).toList == [46, 46]) = true := by subst h; rw [mk_toList]; rfl
theorem dotsF {p : L8} (h : p ≠ [46, 46]) : ((mk p).toList == [46, 46]) = false := by rw [mk_toList]; simpa using h
theorem refused_any (p : L8) (w : World) :
    Calls Tryz.prog 72 #[.string (mk p)] w fun e w' => e = .returned (.int .i64 (refV p)) ∧ w' = w := by
  have hs : (mk p).size = p.length := mk_size p
  by_cases h1 : p = [46, 46]
  · have hr : refV p = 16 := if_pos h1
    rw [hr]
    have hd := dotsT h1
    clear h1 hr hs
    go_enter Tryz.func72, Tryz.ntmps72
    go_wp2
    go_ret
    exact ⟨rfl, rfl⟩
  · have hd := dotsF h1
    have HI := Lib.hid (idx_any p)
    have hi := idx0 p
    by_cases h2 : (0 : UInt8) ∈ p
    · have hr : refV p = 9 := by unfold refV; rw [if_neg h1, if_pos h2]
      rw [hr]
      have hx := hi.2 h2
      generalize Lib.indexByte p 0 = x at *
      clear h1 h2 hr hs hi
      go_enter Tryz.func72, Tryz.ntmps72
      go_wp2_with (go_at_call 26; refine (HI.out _).mono ?_; rintro e w' ⟨rfl, rfl⟩)
      go_ret
      exact ⟨rfl, rfl⟩
    · have hx : ¬ 0 ≤ Lib.indexByte p 0 := fun h => h2 (hi.1 h)
      have hx2 : Lib.indexByte p 0 < 0 := by omega
      generalize Lib.indexByte p 0 = x at *
      by_cases h3 : 48 < p.length
      · have hr : refV p = 7 := by unfold refV; rw [if_neg h1, if_neg h2, if_pos h3]
        rw [hr]
        have h4 : (48 : Int) < (mk p).size := by omega
        clear h1 h2 h3 hr hs hi
        go_enter Tryz.func72, Tryz.ntmps72
        go_wp2_with (go_at_call 26; refine (HI.out _).mono ?_; rintro e w' ⟨rfl, rfl⟩)
        go_ret
        exact ⟨rfl, rfl⟩
      · have hr : refV p = 0 := by unfold refV; rw [if_neg h1, if_neg h2, if_neg h3]
        rw [hr]
        have h4 : ¬ (48 : Int) < (mk p).size := by omega
        clear h1 h2 h3 hr hs hi
        go_enter Tryz.func72, Tryz.ntmps72
        go_wp2_with (go_at_call 26; refine (HI.out _).mono ?_; rintro e w' ⟨rfl, rfl⟩)
        go_ret
        exact ⟨rfl, rfl⟩

/-- a part that counts for nothing -/
def skip (p : L8) : Bool := decide (p = [] ∨ p = [46])
/-- what the parts are come to: those that are kept, or what is wrong first -/
def firstBad : List L8 → Int
  | [] => 0
  | p :: ps => if skip p = true then firstBad ps else if refV p ≠ 0 then refV p else firstBad ps
def good (ps : List L8) : List L8 := ps.filter (fun p => !skip p)
def allParts (ss : List L8) : List L8 := (ss.map parts).flatten
def jn (ss : List L8) : L8 × Int :=
  if firstBad (allParts ss) ≠ 0 then ([], firstBad (allParts ss))
  else if 12 < (good (allParts ss)).length ∨ 200 < (glue (good (allParts ss))).length then ([], 7) else (glue (good (allParts ss)), 0)
theorem firstBad_app (a b : List L8) : firstBad (a ++ b) = if firstBad a ≠ 0 then firstBad a else firstBad b := by
  induction a with
  | nil => simp [firstBad]
  | cons p a ih =>
    simp only [List.cons_append, firstBad]
    split
    · exact ih
    · split
      · rfl
      · exact ih
theorem good_app (a b : List L8) : good (a ++ b) = good a ++ good b := List.filter_append ..
end Go.Proofs.YtokocfoeohddfaaGreatDoor.Pa
