/- path: Clean, Right, Rel, Common; the law's texts, and its small case. (A template.) -/
import Derived.Test.YtokocfoeohddfaaGreatDoorPaSplit
namespace Go.Proofs.YtokocfoeohddfaaGreatDoor.Pa
open Go.RowKit
set_option linter.unusedVariables false
set_option linter.unusedSimpArgs false
set_option maxRecDepth 1000000

theorem parts_len (l : L8) : (parts l).length ≤ l.length + 1 := by
  have h := depth_eq l
  have h2 : l.count 47 ≤ l.length := List.count_le_length
  unfold depth at h
  rw [h]; split <;> omega
theorem all_one (l : L8) : allParts [l] = parts l := by simp [allParts]
def cl (l : L8) : L8 × Int := jn [l]
theorem lit_cell (w : World) (xs : Array Value) (j : Nat) (v : Value) (h : xs[j]? = some v) : (w.alloc (.cells xs 9)).cell? ⟨w.heap.size, 0 + j, none⟩ = some v := by
  rw [Nat.zero_add, cell_of_row _ w.heap.size j _ _ (0, 0) (heap_new _ _)]; exact h
theorem clean_any (l : L8) (w : World) (hl : l.length ≤ 140737488355328) :
    Calls Tryz.prog 47 #[.string (mk l)] w fun e w' => e = .returned (.tuple #[.string (mk (cl l).1), .int .i64 (cl l).2]) ∧ Below w.heap.size w w' := by
  have hb : Below w.heap.size w (w.alloc (.cells #[.string (mk l)] 9)) := (Below.refl _ _).alloc (Nat.le_refl _) _
  have h := join_loop w.heap.size 0 1 1 [l] (w.alloc (.cells #[.string (mk l)] 9)) rfl (by omega) (by simp)
    (by
      intro i s hs
      refine lit_cell w _ i _ ?_
      cases i with
      | zero => simp at hs; subst hs; rfl
      | succ i => simp at hs)
    (by intro s hs; simp at hs; subst hs; exact hl) (by rw [all_one]; have := parts_len l; omega)
  have HJ := Lib.hid h
  have HB := Lib.hid hb
  clear h hb
  show Calls _ _ _ _ fun e w' => e = .returned (.tuple #[.string (mk (jn [l]).1), .int .i64 (jn [l]).2]) ∧ Below w.heap.size w w'
  generalize (jn [l]).1 = r at *
  generalize (jn [l]).2 = q at *
  go_enter Tryz.func47, Tryz.ntmps47
  go_wp2_with (go_at_call 58; refine HJ.out.mono ?_; rintro e w' ⟨rfl, hb'⟩; have HB' := Lib.hid hb'; clear hb')
  go_ret2
  exact ⟨rfl, HB.out.trans (HB'.out.mono HB.out.size)⟩
theorem eqTT {a b : L8} (h : a = b) : ((mk a).toList == (mk b).toList) = true := by subst h; simp
theorem eqFF {a b : L8} (h : a ≠ b) : ((mk a).toList == (mk b).toList) = false := by rw [mk_toList, mk_toList]; simpa using h
def rightB (l : L8) : Bool := decide ((cl l).2 = 0 ∧ (cl l).1 = l)
theorem right_any (l : L8) (w : World) (hl : l.length ≤ 140737488355328) :
    Calls Tryz.prog 31 #[.string (mk l)] w fun e w' => e = .returned (.bool (rightB l)) ∧ Below w.heap.size w w' := by
  have HC := Lib.hid (clean_any l w hl)
  obtain ⟨R, hR⟩ : ∃ R, R = rightB l := ⟨_, rfl⟩
  rw [← hR]
  unfold rightB at hR
  generalize (cl l).1 = r at *
  generalize (cl l).2 = q at *
  by_cases hq : q = 0
  · by_cases hr : r = l
    · have e := eqTT hr
      have HR : Hid (R = true) := by show _ = _; rw [hR]; exact decide_eq_true ⟨hq, hr⟩
      subst hq
      clear hR hr
      go_enter Tryz.func31, Tryz.ntmps31
      go_wp2_with (go_at_call 47; refine HC.out.mono ?_; rintro e w' ⟨rfl, hb'⟩; have HB' := Lib.hid hb'; clear hb')
      go_ret
      exact ⟨by rw [HR.out]; rfl, HB'.out⟩
    · have e := eqFF hr
      have HR : Hid (R = false) := by show _ = _; rw [hR]; exact decide_eq_false (fun h => hr h.2)
      subst hq
      clear hR hr
      go_enter Tryz.func31, Tryz.ntmps31
      go_wp2_with (go_at_call 47; refine HC.out.mono ?_; rintro e w' ⟨rfl, hb'⟩; have HB' := Lib.hid hb'; clear hb')
      go_ret
      exact ⟨by rw [HR.out]; rfl, HB'.out⟩
  · have HR : Hid (R = false) := by show _ = _; rw [hR]; exact decide_eq_false (fun h => hq h.1)
    have hq2 : (q == 0) = false := by simpa using hq
    clear hR
    go_enter Tryz.func31, Tryz.ntmps31
    go_wp2_with (go_at_call 47; refine HC.out.mono ?_; rintro e w' ⟨rfl, hb'⟩; have HB' := Lib.hid hb'; clear hb')
    go_ret
    exact ⟨by rw [HR.out]; simp [hq2], HB'.out⟩

def commonL (a b : L8) : L8 := if endsB a (alikeN a b) = true ∧ endsB b (alikeN a b) = true then a.take (alikeN a b) else parentL (a.take (alikeN a b))
def relL (p top : L8) : L8 := if underB p top = true then (if top = [] then p else Lib.trimPrefix (p.drop top.length) [47]) else []
/-- a row that reads as these texts -/
def Txt (w : World) (v : Value) (ps : List L8) : Prop :=
  ∃ a c, v = .slice a ps.length c ∧ (ps ≠ [] → ∃ g off, a = some ⟨g, off, none⟩ ∧ ∀ (j : Nat) (x : L8), ps[j]? = some x → w.cell? ⟨g, off + j, none⟩ = some (.string (mk x)))
theorem SOwn.txt {w : World} {base : Nat} {v : Value} {ps : List L8} (h : SOwn w base v ps) : Txt w v ps := by
  rcases h.form with ⟨rfl, rfl⟩ | ⟨g, cap, rfl, _, _, _, _, hc⟩
  · exact ⟨none, 0, rfl, fun h => absurd rfl h⟩
  · exact ⟨_, cap, rfl, fun _ => ⟨g, 0, rfl, hc⟩⟩
theorem Txt.later {w w' : World} {v : Value} {ps : List L8} (h : Txt w v ps) (hb : Below w.heap.size w w') : Txt w' v ps := by
  obtain ⟨a, c, e, hc⟩ := h
  exact ⟨a, c, e, fun hn => by
    obtain ⟨g, off, ea, hx⟩ := hc hn
    exact ⟨g, off, ea, fun j x hj => cell_later hb (hx j x hj)⟩⟩
end Go.Proofs.YtokocfoeohddfaaGreatDoor.Pa
