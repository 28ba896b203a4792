/- Digits read: plain mathematics. -/
import Derived.Test.YtbkdimdnpekgpaaDoorSEq
namespace Go.Proofs.YtbkdimdnpekgpaaDoor
open Go.RowKit Go.Proofs.ShaMath
set_option linter.unusedVariables false

/-- the number that a digit stands for; of any other byte some number -/
def valB (c : Int) : Int := if 97 ≤ c then (c - 87) % 256 else (c - 48) % 256
/-- two digits as a byte -/
def twoB (x y : Int) : Int := bits .or .u8 (valB x * 16 % 256) (valB y)
/-- which digit; -1: none -/
def digB (c : Int) : Int := if 48 ≤ c ∧ c ≤ 57 then c - 48 else if 97 ≤ c ∧ c ≤ 102 then c - 87 else -1

theorem digB_hexd (a : Int) (h0 : 0 ≤ a) (h1 : a < 16) : digB (hexd a) = a := by
  rcases lt16 a h0 h1 with rfl | rfl | rfl | rfl | rfl | rfl | rfl | rfl | rfl | rfl | rfl | rfl | rfl | rfl | rfl | rfl <;> decide
theorem hexd_digB (c : Int) (h : 0 ≤ digB c) : hexd (digB c) = c ∧ digB c < 16 := by
  unfold digB at *
  unfold hexd
  split at h
  · rename_i h1
    rw [if_pos h1, if_pos (by omega)]
    omega
  · rename_i h1
    split at h
    · rename_i h2
      rw [if_neg h1, if_pos h2, if_neg (by omega)]
      omega
    · omega
theorem two_hexd (a b : Int) (h0 : 0 ≤ a) (h1 : a < 16) (h2 : 0 ≤ b) (h3 : b < 16) : twoB (hexd a) (hexd b) = 16 * a + b := by
  have key : ∀ p : Fin 16 × Fin 16, twoB (hexd ((p.1.val : Nat) : Int)) (hexd ((p.2.val : Nat) : Int)) = 16 * ((p.1.val : Nat) : Int) + ((p.2.val : Nat) : Int) := by
    intro ⟨p, q⟩
    revert p q
    decide +kernel
  have h := key (⟨a.toNat, by omega⟩, ⟨b.toNat, by omega⟩)
  have e1 : ((a.toNat : Nat) : Int) = a := by omega
  have e2 : ((b.toNat : Nat) : Int) = b := by omega
  simp only [e1, e2] at h
  exact h
theorem valB_bd (c : Int) : 0 ≤ valB c ∧ valB c ≤ 255 := by unfold valB; split <;> omega
theorem twoB_bd (x y : Int) : 0 ≤ twoB x y ∧ twoB x y ≤ 255 := by
  have := bounds_u8 (wf_bits .or .u8 (valB x * 16 % 256) (valB y))
  exact ⟨this.1, this.2⟩
/-- a pair of bytes is spelled the same way again just if both are digits -/
theorem pair_iff (x y : Int) : (hexd (twoB x y / 16) = x ∧ hexd (twoB x y % 16) = y) ↔ (0 ≤ digB x ∧ 0 ≤ digB y) := by
  have hb := twoB_bd x y
  constructor
  · rintro ⟨h1, h2⟩
    have a1 := digB_hexd (twoB x y / 16) (by omega) (by omega)
    have a2 := digB_hexd (twoB x y % 16) (by omega) (by omega)
    rw [h1] at a1
    rw [h2] at a2
    omega
  · rintro ⟨h1, h2⟩
    obtain ⟨e1, l1⟩ := hexd_digB x h1
    obtain ⟨e2, l2⟩ := hexd_digB y h2
    have h := two_hexd (digB x) (digB y) h1 l1 h2 l2
    rw [e1, e2] at h
    rw [h, show (16 * digB x + digB y) / 16 = digB x from by omega, show (16 * digB x + digB y) % 16 = digB y from by omega]
    exact ⟨e1, e2⟩
theorem pair_val (x y : Int) (h1 : 0 ≤ digB x) (h2 : 0 ≤ digB y) : 16 * digB x + digB y = twoB x y := by
  obtain ⟨e1, l1⟩ := hexd_digB x h1
  obtain ⟨e2, l2⟩ := hexd_digB y h2
  have h := two_hexd (digB x) (digB y) h1 l1 h2 l2
  rw [e1, e2] at h
  exact h.symm

/-- all pairs as bytes -/
def valL (l : List Int) : List Int := (List.range (l.length / 2)).map fun i => twoB (l.getD (2 * i) 0) (l.getD (2 * i + 1) 0)
theorem valL_length (l : List Int) : (valL l).length = l.length / 2 := by simp [valL]
theorem valL_oct (l : List Int) : Oct (valL l) := by
  intro c hc
  simp only [valL, List.mem_map] at hc
  obtain ⟨i, _, rfl⟩ := hc
  exact twoB_bd _ _
/-- are all bytes digits? -/
def digits (l : List Int) : Prop := ∀ i, i < l.length → 0 ≤ digB (l.getD i 0)
instance (l : List Int) : Decidable (digits l) := by unfold digits; infer_instance
theorem hexL_get (m : List Int) : ∀ i, i < m.length → (hexL m).getD (2 * i) 0 = hexd (m.getD i 0 / 16) ∧ (hexL m).getD (2 * i + 1) 0 = hexd (m.getD i 0 % 16) := by
  induction m with
  | nil => intro i hi; simp at hi
  | cons c m ih =>
    intro i hi
    cases i with
    | zero => simp [hexL]
    | succ i =>
      have h := ih i (by simp at hi; omega)
      rw [show 2 * (i + 1) = 2 * i + 2 from by omega]
      simpa [hexL] using h
theorem back_iff (l : List Int) (hl : l.length = 64) : hexL (valL l) = l ↔ digits l := by
  have hv : (valL l).length = 32 := by rw [valL_length, hl]
  have hg : ∀ i, i < 32 → (valL l).getD i 0 = twoB (l.getD (2 * i) 0) (l.getD (2 * i + 1) 0) := by
    intro i hi
    rw [List.getD_eq_getElem?_getD, valL, List.getElem?_map, List.getElem?_range (by omega)]
    rfl
  constructor
  · intro h i hi
    have hp := hexL_get (valL l) (i / 2) (by omega)
    rw [h, hg (i / 2) (by omega)] at hp
    have hq := (pair_iff _ _).1 ⟨hp.1.symm, hp.2.symm⟩
    rcases Nat.mod_two_eq_zero_or_one i with h2 | h2
    · rw [show i = 2 * (i / 2) from by omega]; exact hq.1
    · rw [show i = 2 * (i / 2) + 1 from by omega]; exact hq.2
  · intro h
    apply List.ext_getElem (by rw [hexL_length, hv, hl])
    intro i h1 h2
    have e : (hexL (valL l)).getD i 0 = l.getD i 0 := by
      have hp := hexL_get (valL l) (i / 2) (by omega)
      rw [hg (i / 2) (by omega)] at hp
      have hq := (pair_iff (l.getD (2 * (i / 2)) 0) (l.getD (2 * (i / 2) + 1) 0)).2 ⟨h _ (by omega), h _ (by omega)⟩
      rw [hq.1, hq.2] at hp
      rcases Nat.mod_two_eq_zero_or_one i with h3 | h3
      · rw [show i = 2 * (i / 2) from by omega]; exact hp.1
      · rw [show i = 2 * (i / 2) + 1 from by omega]; exact hp.2
    simpa [List.getD_eq_getElem?_getD, List.getElem?_eq_getElem h1, List.getElem?_eq_getElem h2] using e
theorem hexL_digits (m : List Int) (ho : Oct m) : digits (hexL m) := by
  intro i hi
  rw [hexL_length] at hi
  have hp := hexL_get m (i / 2) (by omega)
  have hb := ho.getD (i / 2)
  rcases Nat.mod_two_eq_zero_or_one i with h3 | h3
  · rw [show i = 2 * (i / 2) from by omega, hp.1, digB_hexd _ (by omega) (by omega)]; omega
  · rw [show i = 2 * (i / 2) + 1 from by omega, hp.2, digB_hexd _ (by omega) (by omega)]; omega
theorem valL_hexL (m : List Int) (ho : Oct m) : valL (hexL m) = m := by
  apply List.ext_getElem (by rw [valL_length, hexL_length]; omega)
  intro i h1 h2
  have hp := hexL_get m i h2
  have hb := ho.getD i
  simp only [valL, List.getElem_map, List.getElem_range]
  rw [hp.1, hp.2, two_hexd _ _ (by omega) (by omega) (by omega) (by omega)]
  rw [List.getD_eq_getElem?_getD, List.getElem?_eq_getElem h2] at hb ⊢
  simp only [Option.getD_some] at hb ⊢
  omega
end Go.Proofs.YtbkdimdnpekgpaaDoor
