/- What squash's packing is, in plain lists: matches, the best one, runs; what lies ahead of a place. (A template: seatgen.py fills it.) -/
import Derived.Test.YtboienpdnfcooaaNumAll
namespace Go.Proofs.Ytboienpdnfcooaa.Sq
open Go.Proofs.NumMath Go.Proofs.Ytboienpdnfcooaa.Num
set_option linter.unusedVariables false
set_option linter.unusedSimpArgs false

def Eq4 (l : List Int) (i j : Nat) : Prop := ∀ k, k < 4 → l.getD (i + k) 0 = l.getD (j + k) 0
instance (l : List Int) (i j : Nat) : Decidable (Eq4 l i j) := by unfold Eq4; infer_instance
theorem Eq4.symm {l : List Int} {i j : Nat} (h : Eq4 l i j) : Eq4 l j i := fun k hk => (h k hk).symm
theorem Eq4.trans {l : List Int} {i j m : Nat} (h : Eq4 l i j) (h' : Eq4 l j m) : Eq4 l i m := fun k hk => (h k hk).trans (h' k hk)

/-- how many bytes from a place on are each the one that stands d ahead, f at most -/
def lng (l : List Int) (d : Nat) : Nat → Nat → Nat
  | _, 0 => 0
  | p, f + 1 => if p < l.length ∧ l.getD p 0 = l.getD (p - d) 0 then lng l d (p + 1) f + 1 else 0
def Lg (l : List Int) (d p f n : Nat) : Prop :=
  n ≤ f ∧ p + n ≤ l.length ∧ (∀ i, i < n → l.getD (p + i) 0 = l.getD (p + i - d) 0) ∧ (n < f → p + n < l.length → l.getD (p + n) 0 ≠ l.getD (p + n - d) 0)
theorem lng_spec (l : List Int) (d : Nat) : ∀ f p, p ≤ l.length → Lg l d p f (lng l d p f) := by
  intro f
  induction f with
  | zero => intro p hp; exact ⟨by simp [lng], by simp [lng]; exact hp, fun i hi => by simp [lng] at hi, fun h => by simp [lng] at h⟩
  | succ f ih =>
    intro p hp
    unfold lng
    split
    · next h =>
      obtain ⟨h1, h2, h3, h4⟩ := ih (p + 1) (by omega)
      refine ⟨by omega, by omega, fun i hi => ?_, fun hn hl => ?_⟩
      · rcases i with _ | i
        · exact h.2
        · have := h3 i (by omega)
          rw [show p + (i + 1) = p + 1 + i from by omega]; exact this
      · have := h4 (by omega) (by omega)
        rw [show p + (lng l d (p + 1) f + 1) = p + 1 + lng l d (p + 1) f from by omega]; exact this
    · next h =>
      refine ⟨by omega, by omega, fun i hi => by omega, fun _ hl e => h ⟨by omega, by simpa using e⟩⟩
theorem Lg.uniq {l : List Int} {d p f n m : Nat} (h : Lg l d p f n) (k : Lg l d p f m) : n = m := by
  obtain ⟨h1, h2, h3, h4⟩ := h
  obtain ⟨k1, k2, k3, k4⟩ := k
  rcases Nat.lt_trichotomy n m with h | h | h
  · exact absurd (k3 n h) (h4 (by omega) (by omega))
  · exact h
  · exact absurd (h3 m h) (k4 (by omega) (by omega))
theorem Lg.eq {l : List Int} {d p f n : Nat} (h : Lg l d p f n) : lng l d p f = n := (lng_spec l d f p (by have := h.2.1; omega)).uniq h

def bst (l : List Int) (p : Nat) : Nat → Nat × Nat
  | 0 => (0, 0)
  | D + 1 => if (bst l p D).1 < lng l (D + 1) p 130 then (lng l (D + 1) p 130, D + 1) else bst l p D
def best (l : List Int) (p : Nat) : Nat × Nat := bst l p (min p 4096)
/-- the same, where it is a match at all -/
def bsp (l : List Int) (p D : Nat) : Nat × Nat := if 4 ≤ (bst l p D).1 then bst l p D else (0, 0)

theorem bst_spec (l : List Int) (p : Nat) : ∀ D, (bst l p D).1 = 0 ∨ (1 ≤ (bst l p D).2 ∧ (bst l p D).2 ≤ D ∧ lng l (bst l p D).2 p 130 = (bst l p D).1) := by
  intro D
  induction D with
  | zero => left; rfl
  | succ D ih =>
    unfold bst
    split
    · right; simp
    · rcases ih with h | h
      · exact .inl h
      · exact .inr ⟨h.1, by omega, h.2.2⟩
theorem bst_ge (l : List Int) (p : Nat) : ∀ D d, 1 ≤ d → d ≤ D → lng l d p 130 ≤ (bst l p D).1 := by
  intro D
  induction D with
  | zero => intro d h1 h2; omega
  | succ D ih =>
    intro d h1 h2
    unfold bst
    by_cases hd : d = D + 1
    · subst hd; split
      · exact Nat.le_refl _
      · omega
    · have := ih d h1 (by omega)
      split
      · simp only; omega
      · exact this
theorem bsp_same {l : List Int} {p D : Nat} (h : lng l (D + 1) p 130 < 4 ∨ lng l (D + 1) p 130 ≤ (bsp l p D).1) : bsp l p (D + 1) = bsp l p D := by
  unfold bsp at *
  by_cases h4 : 4 ≤ (bst l p D).1
  · rw [if_pos h4] at h
    have : bst l p (D + 1) = bst l p D := by
      conv => lhs; unfold bst
      rw [if_neg (by omega)]
    rw [this]
  · rw [if_neg h4] at h ⊢
    simp only at h
    have hs : ¬ 4 ≤ (bst l p (D + 1)).1 := by
      unfold bst
      split
      · simp only; omega
      · exact h4
    rw [if_neg hs]
theorem bsp_more {l : List Int} {p D n : Nat} (hn : lng l (D + 1) p 130 = n) (h4 : 4 ≤ n) (h : (bsp l p D).1 < n) : bsp l p (D + 1) = (n, D + 1) := by
  have hlt : (bst l p D).1 < n := by
    unfold bsp at h
    split at h
    · exact h
    · omega
  have : bst l p (D + 1) = (n, D + 1) := by
    conv => lhs; unfold bst
    rw [hn, if_pos hlt]
  unfold bsp
  rw [this, if_pos h4]
theorem bsp_run {l : List Int} {p D : Nat} : ∀ E, D ≤ E → (∀ d, D < d → d ≤ E → lng l d p 130 < 4 ∨ lng l d p 130 ≤ (bsp l p D).1) → bsp l p E = bsp l p D := by
  intro E
  induction E with
  | zero => intro h _; rw [show D = 0 from by omega]
  | succ E ih =>
    intro hDE h
    by_cases he : D = E + 1
    · rw [he]
    · have e := ih (by omega) (fun d h1 h2 => h d h1 (by omega))
      rw [← e]
      refine bsp_same ?_
      rw [e]
      exact h (E + 1) (by omega) (by omega)
theorem lng_le {l : List Int} {d p : Nat} (hp : p ≤ l.length) : lng l d p 130 ≤ 130 ∧ lng l d p 130 ≤ l.length - p := by
  obtain ⟨h1, h2, _⟩ := lng_spec l d 130 p hp
  exact ⟨h1, by omega⟩
/-- where four bytes differ there is no match -/
theorem lng_four {l : List Int} {d p : Nat} (hp : p ≤ l.length) (hd : d ≤ p) (h : ¬ Eq4 l p (p - d)) : lng l d p 130 < 4 := by
  obtain ⟨h1, h2, h3, _⟩ := lng_spec l d 130 p hp
  rcases Nat.lt_or_ge (lng l d p 130) 4 with h' | h'
  · exact h'
  · exact absurd (fun k hk => by have := h3 k (by omega); rw [show p - d + k = p + k - d from by omega]; exact this) h

/-- the nearest place below k from which on the same four bytes stand as from j on -/
def ahd (l : List Int) (j : Nat) : Nat → Int
  | 0 => -1
  | k + 1 => if Eq4 l k j then (k : Int) else ahd l j k
theorem ahd_lt (l : List Int) (j : Nat) : ∀ k, -1 ≤ ahd l j k ∧ ahd l j k < k := by
  intro k
  induction k with
  | zero => simp [ahd]
  | succ k ih => unfold ahd; split <;> omega
theorem ahd_eq4 (l : List Int) (j : Nat) : ∀ k, 0 ≤ ahd l j k → Eq4 l (ahd l j k).toNat j := by
  intro k
  induction k with
  | zero => intro h; simp [ahd] at h
  | succ k ih =>
    unfold ahd
    split
    · next h => intro _; simpa using h
    · exact ih
theorem ahd_none (l : List Int) (j : Nat) : ∀ k i : Nat, ahd l j k < (i : Int) → i < k → ¬ Eq4 l i j := by
  intro k
  induction k with
  | zero => intro i _ h; omega
  | succ k ih =>
    intro i h1 h2
    unfold ahd at h1
    split at h1
    · omega
    · next h =>
      by_cases e : i = k
      · subst e; exact h
      · exact ih i h1 (by omega)
theorem ahd_same (l : List Int) (j k : Nat) (h : Eq4 l k j) : ahd l j (k + 1) = (k : Int) := by unfold ahd; rw [if_pos h]
theorem ahd_other (l : List Int) (j k : Nat) (h : ¬ Eq4 l k j) : ahd l j (k + 1) = ahd l j k := by
  conv => lhs; unfold ahd
  rw [if_neg h]
def aheads (l : List Int) (n : Nat) : List Int := (List.range n).map (fun j => ahd l j j)
theorem aheads_succ (l : List Int) (n : Nat) : aheads l (n + 1) = aheads l n ++ [ahd l n n] := by simp [aheads, List.range_succ]
theorem aheads_length (l : List Int) (n : Nat) : (aheads l n).length = n := by simp [aheads]
theorem aheads_getD (l : List Int) (n j : Nat) (h : j < n) : (aheads l n).getD j 0 = ahd l j j := by
  simp [aheads, List.getD_eq_getElem?_getD, List.getElem?_map, List.getElem?_range h]

/-- bytes of a match, of a run -/
def mat (n d : Nat) : List Int := encR (2 * (n - 4) + 1) ++ encR d
def putR (out t : List Int) : List Int := if t = [] then out else out ++ encR (2 * t.length) ++ t
def cut (l : List Int) (i j : Nat) : List Int := (l.drop i).take (j - i)
theorem cut_length (l : List Int) (i j : Nat) (h : i ≤ j) (hj : j ≤ l.length) : (cut l i j).length = j - i := by simp [cut]; omega
theorem cut_self (l : List Int) (i : Nat) : cut l i i = [] := by simp [cut]
theorem cut_snoc (l : List Int) (i j : Nat) (h : i ≤ j) (hj : j < l.length) : cut l i (j + 1) = cut l i j ++ [l.getD j 0] := by
  unfold cut
  rw [show j + 1 - i = (j - i) + 1 from by omega, List.take_succ_eq_append_getElem (by simp; omega), List.getElem_drop]
  congr 2
  rw [List.getD_eq_getElem?_getD, List.getElem?_eq_getElem hj]
  simp only [Option.getD_some]
  congr 1
  omega
theorem cut_end (l : List Int) (i : Nat) : cut l i l.length = l.drop i := by
  unfold cut; exact List.take_of_length_le (by simp)

def packF (l : List Int) : Nat → Nat → Nat → List Int → List Int
  | 0, told, _, out => putR out (l.drop told)
  | f + 1, told, p, out => if p < l.length then
      (if (best l p).1 < 4 then packF l f told (p + 1) out
       else packF l f (p + (best l p).1) (p + (best l p).1) (putR out (cut l told p) ++ mat (best l p).1 (best l p).2))
      else putR out (l.drop told)
theorem packF_end (l : List Int) (f told p : Nat) (out : List Int) (h : l.length ≤ p) : packF l f told p out = putR out (l.drop told) := by
  cases f with
  | zero => rfl
  | succ f => unfold packF; rw [if_neg (by omega)]
theorem packF_fuel (l : List Int) : ∀ f g told p out, l.length - p ≤ f → l.length - p ≤ g → packF l f told p out = packF l g told p out := by
  intro f
  induction f with
  | zero => intro g told p out h1 h2; rw [packF_end _ _ _ _ _ (by omega), packF_end _ _ _ _ _ (by omega)]
  | succ f ih =>
    intro g told p out h1 h2
    by_cases hp : p < l.length
    · obtain ⟨g, rfl⟩ : ∃ g', g = g' + 1 := ⟨g - 1, by omega⟩
      unfold packF
      rw [if_pos hp, if_pos hp]
      split
      · exact ih g _ _ _ (by omega) (by omega)
      · exact ih g _ _ _ (by omega) (by omega)
    · rw [packF_end _ _ _ _ _ (by omega), packF_end _ _ _ _ _ (by omega)]
def pk (l : List Int) (told p : Nat) (out : List Int) : List Int := packF l (l.length - p) told p out
def packL (l : List Int) : List Int := pk l 0 0 []
theorem pk_end (l : List Int) (told p : Nat) (out : List Int) (h : l.length ≤ p) : pk l told p out = putR out (l.drop told) := packF_end _ _ _ _ _ h
theorem pk_tell (l : List Int) (told p : Nat) (out : List Int) (h : p < l.length) (hb : (best l p).1 < 4) : pk l told p out = pk l told (p + 1) out := by
  unfold pk
  rw [show l.length - p = (l.length - (p + 1)) + 1 from by omega]
  conv => lhs; unfold packF
  rw [if_pos h, if_pos hb]
theorem pk_match (l : List Int) (told p : Nat) (out : List Int) (h : p < l.length) (hb : 4 ≤ (best l p).1) :
    pk l told p out = pk l (p + (best l p).1) (p + (best l p).1) (putR out (cut l told p) ++ mat (best l p).1 (best l p).2) := by
  unfold pk
  rw [show l.length - p = (l.length - (p + 1)) + 1 from by omega]
  conv => lhs; unfold packF
  rw [if_pos h, if_neg (by omega)]
  exact packF_fuel _ _ _ _ _ _ (by omega) (by omega)
theorem best_bd (l : List Int) (p : Nat) (hp : p ≤ l.length) : (best l p).1 ≤ 130 ∧ p + (best l p).1 ≤ l.length ∧ (best l p).2 ≤ 4096 ∧ (best l p).2 ≤ p := by
  have hz : ∀ D, (bst l p D).2 ≤ D := by
    intro D
    induction D with
    | zero => simp [bst]
    | succ D ih =>
      unfold bst
      split
      · simp
      · omega
  have h2 := hz (min p 4096)
  have : (best l p).1 ≤ 130 ∧ p + (best l p).1 ≤ l.length := by
    rcases bst_spec l p (min p 4096) with h | ⟨_, _, h⟩
    · unfold best; omega
    · have := lng_le (l := l) (d := (bst l p (min p 4096)).2) hp
      unfold best; omega
  unfold best at *
  omega
theorem best_bsp (l : List Int) (p : Nat) : (4 ≤ (best l p).1 → bsp l p (min p 4096) = best l p) ∧ ((best l p).1 < 4 → bsp l p (min p 4096) = (0, 0)) := by
  unfold bsp best
  constructor
  · intro h; rw [if_pos h]
  · intro h; rw [if_neg (by omega)]
end Go.Proofs.Ytboienpdnfcooaa.Sq
