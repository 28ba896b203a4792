/- gear: the numbers, the sum, the ends of pieces, in plain lists. (A template: seatgen.py fills it.) -/
import Derived.Test.YtheklipnnflnaaaDoorGOwn
import Derived.Laws.BitsAllLaws
namespace Go.Proofs.GearMath
open Go.RowKit
set_option linter.unusedVariables false
set_option maxRecDepth 100000

def Ns : List Int := [2611923443488327891, 1376283091369227076, 11820040416388919760, 589684135938649225, 4983270260364809079, 13714699805381954668, 13883517620612518109, 4577018097722394903, 10526836309316205339, 15073842237943035308, 3458046377305235383, 13322122606961655446, 13437774018240085913, 2639559389850201335, 577009281997405206, 7163292796296056425]
def rot (n : Int) : Int := n / 4294967296 + n % 4294967296 * 4294967296
def gt (c : Int) : Int := bits .xor .u64 (Ns.getD (c % 16).toNat 0) (rot (Ns.getD (c / 16).toNat 0))
theorem sixteen {P : Nat → Prop} (h0 : P 0) (h1 : P 1) (h2 : P 2) (h3 : P 3) (h4 : P 4) (h5 : P 5) (h6 : P 6) (h7 : P 7) (h8 : P 8) (h9 : P 9) (h10 : P 10) (h11 : P 11) (h12 : P 12) (h13 : P 13) (h14 : P 14) (h15 : P 15) (j : Nat) (hj : j < 16) : P j := by
  have : j = 0 ∨ j = 1 ∨ j = 2 ∨ j = 3 ∨ j = 4 ∨ j = 5 ∨ j = 6 ∨ j = 7 ∨ j = 8 ∨ j = 9 ∨ j = 10 ∨ j = 11 ∨ j = 12 ∨ j = 13 ∨ j = 14 ∨ j = 15 := by omega
  rcases this with rfl | rfl | rfl | rfl | rfl | rfl | rfl | rfl | rfl | rfl | rfl | rfl | rfl | rfl | rfl | rfl <;> assumption
theorem Ns_bd (j : Nat) (hj : j < 16) : 0 ≤ Ns.getD j 0 ∧ Ns.getD j 0 ≤ 18446744073709551615 := by
  revert hj; revert j
  intro j hj
  refine sixteen (P := fun j => 0 ≤ Ns.getD j 0 ∧ Ns.getD j 0 ≤ 18446744073709551615) ?_ ?_ ?_ ?_ ?_ ?_ ?_ ?_ ?_ ?_ ?_ ?_ ?_ ?_ ?_ ?_ j hj <;> (unfold Ns; decide)
theorem rot_bd (n : Int) (h0 : 0 ≤ n) (h1 : n ≤ 18446744073709551615) : 0 ≤ rot n ∧ rot n ≤ 18446744073709551615 := by unfold rot; omega
theorem rot_or (n : Int) (h0 : 0 ≤ n) (h1 : n ≤ 18446744073709551615) : bits .or .u64 (n * 4294967296 % 18446744073709551616) (n / 4294967296) = rot n := by
  rw [u64_or _ _ (by omega) (by omega) (by omega) (by omega)]
  obtain ⟨m, rfl⟩ : ∃ m : Nat, n = m := ⟨n.toNat, by omega⟩
  have e1 : ((m : Int) * 4294967296 % 18446744073709551616).toNat = (m % 4294967296) <<< 32 := by rw [Nat.shiftLeft_eq]; omega
  have e2 : ((m : Int) / 4294967296).toNat = m / 4294967296 := by omega
  rw [e1, e2, ← Nat.shiftLeft_add_eq_or_of_lt (by omega), Nat.shiftLeft_eq]
  unfold rot
  omega
theorem gt_bd (c : Int) (h0 : 0 ≤ c) (h1 : c ≤ 255) : 0 ≤ gt c ∧ gt c ≤ 18446744073709551615 := by
  have a := Ns_bd (c % 16).toNat (by omega)
  have b := Ns_bd (c / 16).toNat (by omega)
  have d := rot_bd _ b.1 b.2
  unfold gt
  rw [u64_xor _ _ a.1 (by omega) d.1 (by omega)]
  have := Nat.xor_lt_two_pow (x := (Ns.getD (c % 16).toNat 0).toNat) (y := (rot (Ns.getD (c / 16).toNat 0)).toNat) (n := 64) (by omega) (by omega)
  omega

def gs (g c : Int) : Int := (2 * g + gt c) % 18446744073709551616
theorem gs_bd (g c : Int) : 0 ≤ gs g c ∧ gs g c ≤ 18446744073709551615 := by unfold gs; omega
theorem gs_two (g c : Int) : (2 * g % 18446744073709551616 + gt c) % 18446744073709551616 = gs g c := by unfold gs; omega
def gsum (l : List Int) : Int := l.foldl gs 0
def hit (L B : Int) (k : Nat) (g : Int) : Prop := L ≤ (k : Int) ∧ g / 2 ^ (64 - B).toNat = 0
instance (L B : Int) (k : Nat) (g : Int) : Decidable (hit L B k g) := by unfold hit; infer_instance

/-- so many more bytes at most, so many behind, their sum -/
def scan (L B : Int) (l : List Int) : Nat → Nat → Int → Nat
  | 0, k, _ => k
  | d + 1, k, g => if hit L B (k + 1) (gs g (l.getD k 0)) then k + 1 else scan L B l d (k + 1) (gs g (l.getD k 0))
theorem scan_le (L B : Int) (l : List Int) (d : Nat) : ∀ k g, scan L B l d k g ≤ k + d := by
  induction d with
  | zero => intro k g; exact Nat.le_refl _
  | succ d ih =>
    intro k g
    rw [scan]
    split
    · omega
    · have := ih (k + 1) (gs g (l.getD k 0)); omega
theorem scan_ge (L B : Int) (l : List Int) (d : Nat) : ∀ k g, k ≤ scan L B l d k g := by
  induction d with
  | zero => intro k g; exact Nat.le_refl _
  | succ d ih =>
    intro k g
    rw [scan]
    split
    · omega
    · have := ih (k + 1) (gs g (l.getD k 0)); omega
theorem scan_pos (L B : Int) (l : List Int) (d k : Nat) (g : Int) (hd : 0 < d) : k < scan L B l d k g := by
  obtain ⟨d, rfl⟩ : ∃ e, d = e + 1 := ⟨d - 1, by omega⟩
  rw [scan]
  split
  · omega
  · have := scan_ge L B l d (k + 1) (gs g (l.getD k 0)); omega
theorem scan_yes (L B : Int) (l : List Int) (d k : Nat) (g : Int) (hd : 0 < d) (h : hit L B (k + 1) (gs g (l.getD k 0))) : scan L B l d k g = k + 1 := by
  obtain ⟨d, rfl⟩ : ∃ e, d = e + 1 := ⟨d - 1, by omega⟩
  rw [scan, if_pos h]
theorem scan_no (L B : Int) (l : List Int) (d k : Nat) (g : Int) (hd : 0 < d) (h : ¬ hit L B (k + 1) (gs g (l.getD k 0))) : scan L B l d k g = scan L B l (d - 1) (k + 1) (gs g (l.getD k 0)) := by
  obtain ⟨d, rfl⟩ : ∃ e, d = e + 1 := ⟨d - 1, by omega⟩
  rw [scan, if_neg h]; rfl
/-- where the first piece ends, by numbers that may be -/
def fe (L M B : Int) (l : List Int) : Nat := scan L B l (min M.toNat l.length) 0 0
theorem fe_le (L M B : Int) (l : List Int) : fe L M B l ≤ l.length := by
  have := scan_le L B l (min M.toNat l.length) 0 0
  unfold fe; omega
theorem fe_most (L M B : Int) (l : List Int) : fe L M B l ≤ M.toNat := by
  have := scan_le L B l (min M.toNat l.length) 0 0
  unfold fe; omega
theorem fe_pos (L M B : Int) (l : List Int) (hM : 1 ≤ M) (hl : 0 < l.length) : 0 < fe L M B l := scan_pos L B l _ 0 0 (by omega)
def ok (L M B : Int) : Prop := 1 ≤ L ∧ L ≤ M ∧ M ≤ 65536 ∧ 1 ≤ B ∧ B ≤ 16
instance (L M B : Int) : Decidable (ok L M B) := by unfold ok; infer_instance

/-- the cuts from a place on -/
def cuts (L M B : Int) (l : List Int) (p : Nat) : List Nat :=
  if h : p < l.length then (p + max 1 (fe L M B (l.drop p))) :: cuts L M B l (p + max 1 (fe L M B (l.drop p))) else []
termination_by l.length - p
decreasing_by omega
theorem cuts_end (L M B : Int) (l : List Int) (p : Nat) (h : l.length ≤ p) : cuts L M B l p = [] := by rw [cuts, dif_neg (by omega)]
theorem fe_max (L M B : Int) (l : List Int) (p : Nat) (hM : 1 ≤ M) (h : p < l.length) : max 1 (fe L M B (l.drop p)) = fe L M B (l.drop p) := by
  have := fe_pos L M B (l.drop p) hM (by rw [List.length_drop]; omega)
  omega
theorem cuts_more (L M B : Int) (l : List Int) (p : Nat) (hM : 1 ≤ M) (h : p < l.length) : cuts L M B l p = (p + fe L M B (l.drop p)) :: cuts L M B l (p + fe L M B (l.drop p)) := by
  rw [cuts, dif_pos h, fe_max L M B l p hM h]
theorem fe_in (L M B : Int) (l : List Int) (p : Nat) (h : p ≤ l.length) : p + fe L M B (l.drop p) ≤ l.length := by
  have := fe_le L M B (l.drop p)
  rw [List.length_drop] at this; omega
theorem cuts_length (L M B : Int) (l : List Int) (hM : 1 ≤ M) : ∀ d p, l.length - p ≤ d → (cuts L M B l p).length ≤ l.length - p := by
  intro d
  induction d with
  | zero => intro p hp; rw [cuts_end _ _ _ _ _ (by omega)]; simp
  | succ d ih =>
    intro p hp
    by_cases h : p < l.length
    · rw [cuts_more L M B l p hM h, List.length_cons]
      have h1 := fe_pos L M B (l.drop p) hM (by rw [List.length_drop]; omega)
      have h2 := ih (p + fe L M B (l.drop p)) (by omega)
      omega
    · rw [cuts_end _ _ _ _ _ (by omega)]; simp
theorem cuts_in (L M B : Int) (l : List Int) (hM : 1 ≤ M) : ∀ d p, l.length - p ≤ d → ∀ x ∈ cuts L M B l p, p < x ∧ x ≤ l.length := by
  intro d
  induction d with
  | zero => intro p hp; rw [cuts_end _ _ _ _ _ (by omega)]; intro x hx; cases hx
  | succ d ih =>
    intro p hp x hx
    by_cases h : p < l.length
    · rw [cuts_more L M B l p hM h] at hx
      have h1 := fe_pos L M B (l.drop p) hM (by rw [List.length_drop]; omega)
      have h3 := fe_in L M B l p (by omega)
      rcases List.mem_cons.1 hx with rfl | hx
      · omega
      · have h2 := ih (p + fe L M B (l.drop p)) (by omega) x hx
        omega
    · rw [cuts_end _ _ _ _ _ (by omega)] at hx; cases hx
/-- behind a cut: what is left of the cuts is the cuts from there -/
theorem cuts_drop (L M B : Int) (l : List Int) (hM : 1 ≤ M) : ∀ i p, i < (cuts L M B l p).length → (cuts L M B l p).drop (i + 1) = cuts L M B l ((cuts L M B l p).getD i 0) := by
  intro i
  induction i with
  | zero =>
    intro p hi
    by_cases h : p < l.length
    · rw [cuts_more L M B l p hM h]; rfl
    · rw [cuts_end _ _ _ _ _ (by omega)] at hi; simp at hi
  | succ i ih =>
    intro p hi
    by_cases h : p < l.length
    · have e := cuts_more L M B l p hM h
      rw [e] at hi ⊢
      rw [List.drop_succ_cons, List.getD_cons_succ]
      exact ih _ (by rw [List.length_cons] at hi; omega)
    · rw [cuts_end _ _ _ _ _ (by omega)] at hi; simp at hi
/-- the rest, cut alone -/
theorem cuts_rest (L M B : Int) (l : List Int) (q : Nat) (hM : 1 ≤ M) : ∀ d p, l.length - (q + p) ≤ d → (cuts L M B (l.drop q) p).map (q + ·) = cuts L M B l (q + p) := by
  intro d
  induction d with
  | zero => intro p hp; rw [cuts_end _ _ _ _ _ (by rw [List.length_drop]; omega), cuts_end _ _ _ _ _ (by omega)]; rfl
  | succ d ih =>
    intro p hp
    by_cases h : q + p < l.length
    · have hl : p < (l.drop q).length := by rw [List.length_drop]; omega
      rw [cuts_more L M B l (q + p) hM h, cuts_more L M B (l.drop q) p hM hl, List.drop_drop, List.map_cons]
      have h1 := fe_pos L M B (l.drop (q + p)) hM (by rw [List.length_drop]; omega)
      rw [ih _ (by omega), Nat.add_assoc]
    · rw [cuts_end _ _ _ _ _ (by rw [List.length_drop]; omega), cuts_end _ _ _ _ _ (by omega)]; rfl
end Go.Proofs.GearMath
