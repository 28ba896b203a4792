/- Numbers of blocks: plain arithmetic. -/
namespace Go.Proofs.BlkMath
set_option linter.unusedVariables false

/-- the length that is taken of a size -/
def lenOf (s : Int) : Int :=
  if s ≤ 256 then 16 else if s ≤ 1024 then 32 else if s ≤ 4096 then 64 else if s ≤ 16384 then 128 else if s ≤ 65536 then 256 else if s ≤ 262144 then 512 else if s ≤ 1048576 then 1024 else if s ≤ 4194304 then 2048 else 4096

/-- what the loop has found so far -/
def Lok (s x : Int) : Prop :=
  x = 16 ∨ (x = 32 ∧ 256 < s) ∨ (x = 64 ∧ 1024 < s) ∨ (x = 128 ∧ 4096 < s) ∨ (x = 256 ∧ 16384 < s) ∨ (x = 512 ∧ 65536 < s) ∨ (x = 1024 ∧ 262144 < s) ∨ (x = 2048 ∧ 1048576 < s) ∨ (x = 4096 ∧ 4194304 < s)

/-- a size and a block length are right -/
def Rt (s b : Int) : Prop := (0 ≤ s ∧ s ≤ 131072) ∧ (16 ≤ b ∧ b ≤ 4096)
instance (s b : Int) : Decidable (Rt s b) := by unfold Rt; infer_instance

/-- how many blocks: of right ones -/
def cnt (s b : Int) : Int := (s + b - 1) / b

theorem cnt_spec {s b : Int} (h : Rt s b) : 0 ≤ cnt s b ∧ cnt s b ≤ s ∧ (cnt s b - 1) * b < s ∧ s ≤ cnt s b * b := by
  obtain ⟨⟨h0, h1⟩, h2, h3⟩ := h
  unfold cnt
  have hb : 0 < b := by omega
  have e := Int.emod_add_mul_ediv (s + b - 1) b
  have l0 := Int.emod_nonneg (s + b - 1) (by omega : b ≠ 0)
  have l1 := Int.emod_lt_of_pos (s + b - 1) hb
  have hn : 0 ≤ (s + b - 1) / b := Int.ediv_nonneg (by omega) (by omega)
  generalize (s + b - 1) / b = q at *
  generalize (s + b - 1) % b = r at *
  have hc : b * q = q * b := Int.mul_comm _ _
  have hs : (q - 1) * b = q * b - b := by rw [Int.sub_mul, Int.one_mul]
  refine ⟨hn, ?_, by omega, by omega⟩
  rcases Int.lt_or_le s q with hlt | hle
  · have hq : (s + 1) * b ≤ q * b := Int.mul_le_mul_of_nonneg_right (by omega) (by omega)
    have hq2 : (s + 1) * 16 ≤ (s + 1) * b := Int.mul_le_mul_of_nonneg_left (by omega) (by omega)
    have hq3 : (s + 1) * b = s * b + b := by rw [Int.add_mul, Int.one_mul]
    have hq4 : s * 16 ≤ s * b := Int.mul_le_mul_of_nonneg_left (by omega) (by omega)
    omega
  · exact hle

theorem cnt_lt {s b k : Int} (h : Rt s b) (hk : k < cnt s b) : k * b < s := by
  have hc := cnt_spec h
  obtain ⟨_, h2, h3⟩ := h
  have : k * b ≤ (cnt s b - 1) * b := Int.mul_le_mul_of_nonneg_right (by omega) (by omega)
  omega

theorem cnt_ge {s b k : Int} (h : Rt s b) (hk : cnt s b ≤ k) : s ≤ k * b := by
  have hc := cnt_spec h
  obtain ⟨_, h2, h3⟩ := h
  have : cnt s b * b ≤ k * b := Int.mul_le_mul_of_nonneg_right hk (by omega)
  omega

/-- the block in which a place lies -/
theorem which_spec {s b o : Int} (h : Rt s b) (h0 : 0 ≤ o) (h1 : o < s) : 0 ≤ o / b ∧ o / b < cnt s b ∧ o / b * b ≤ o ∧ o < o / b * b + b := by
  have hR := h
  obtain ⟨_, h2, h3⟩ := h
  have hb : 0 < b := by omega
  have e := Int.emod_add_mul_ediv o b
  have l0 := Int.emod_nonneg o (by omega : b ≠ 0)
  have l1 := Int.emod_lt_of_pos o hb
  have hn : 0 ≤ o / b := Int.ediv_nonneg (by omega) (by omega)
  generalize hq : o / b = q at *
  generalize o % b = r at *
  have hc : b * q = q * b := Int.mul_comm _ _
  refine ⟨hn, ?_, by omega, by omega⟩
  rcases Int.lt_or_le q (cnt s b) with hlt | hle
  · exact hlt
  · have := cnt_ge hR hle
    omega

theorem cnt_sq (s : Int) (h : Rt s (lenOf s)) : cnt s (lenOf s) ≤ lenOf s := by
  have hc := cnt_spec h
  obtain ⟨⟨h0, h1⟩, h2, h3⟩ := h
  have hsq : s ≤ lenOf s * lenOf s := by
    unfold lenOf
    repeat' split
    all_goals omega
  rcases Int.lt_or_le (lenOf s) (cnt s (lenOf s)) with hlt | hle
  · have : lenOf s * lenOf s ≤ (cnt s (lenOf s) - 1) * lenOf s := Int.mul_le_mul_of_nonneg_right (by omega) (by omega)
    omega
  · exact hle
end Go.Proofs.BlkMath
