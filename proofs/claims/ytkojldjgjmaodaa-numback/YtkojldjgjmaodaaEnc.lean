/- What is put is got: the bytes of a number, read. -/
import Derived.Test.YtkojldjgjmaodaaPut
namespace Go.Proofs.Ytkojldjgjmaodaa
open Go.RowKit Go.Proofs.NumMath
set_option linter.unusedVariables false

theorem lt_size (m : Nat) : m < 2 ^ (7 * sizeN m) := by
  induction m using Nat.strongRecOn with
  | _ m ih =>
    rw [sizeN]
    split
    · omega
    · next h =>
      have := ih (m / 128) (by omega)
      rw [show 7 * (sizeN (m / 128) + 1) = 7 * sizeN (m / 128) + 7 from by omega, Nat.pow_add]
      omega
theorem ge_size (m : Nat) : 2 ≤ sizeN m → 2 ^ (7 * (sizeN m - 1)) ≤ m := by
  induction m using Nat.strongRecOn with
  | _ m ih =>
    rw [sizeN]
    split
    · omega
    · next h =>
      intro _
      have hp := sizeN_pos (m / 128)
      by_cases h1 : sizeN (m / 128) = 1
      · rw [h1]; simp; omega
      · have := ih (m / 128) (by omega) (by omega)
        rw [show 7 * (sizeN (m / 128) + 1 - 1) = 7 * (sizeN (m / 128) - 1) + 7 from by omega, Nat.pow_add]
        omega

/-- groups make the number again -/
theorem Hn_row (f : Nat → Int) (m n : Nat) (hf : ∀ j, j < n → f j % 128 = rowN m j) : Hn f 0 n = ((m % 2 ^ (7 * n) : Nat) : Int) := by
  induction n with
  | zero => simp [Hn, Nat.mod_one]
  | succ n ih =>
    rw [Hn_succ', ih (fun j hj => hf j (by omega)), Nat.zero_add, hf n (by omega), pow128]
    unfold rowN
    rw [show 7 * (n + 1) = 7 * n + 7 from by omega, Nat.pow_add, Nat.mod_mul]
    push_cast
    rw [Int.mul_comm]

theorem heads_getD (m k j : Nat) (hj : j < k) : (heads m k).getD j 0 = rowN m j + 128 := by
  rw [List.getD_eq_getElem?_getD]; simp [heads, hj]
theorem encR_getD (m j : Nat) (post : List Int) (hj : j < sizeN m) : (encR m ++ post).getD j 0 = if j + 1 < sizeN m then rowN m j + 128 else rowN m j := by
  have hl : (heads m (sizeN m - 1)).length = sizeN m - 1 := by simp [heads]
  unfold encR
  rw [List.append_assoc, List.getD_eq_getElem?_getD]
  split
  · rw [List.getElem?_append_left (by omega), ← List.getD_eq_getElem?_getD, heads_getD _ _ _ (by omega)]
  · have : j = sizeN m - 1 := by omega
    rw [List.getElem?_append_right (by omega), hl, this]; simp

theorem cnt_of (l : List Int) (k : Nat) (h1 : k < l.length) (h2 : ∀ j, j < k → 127 < l.getD j 0) (h3 : l.getD k 0 ≤ 127) : cnt l = k := by
  have ha := cnt_le l
  have hb := cnt_lt l
  have hc := cnt_at l
  rcases Nat.lt_trichotomy (cnt l) k with h | h | h
  · have := h2 _ h; have := hc (by omega); omega
  · exact h
  · have := hb _ h; omega

theorem G_enc (pre post : List Int) (m : Nat) (hm : m ≤ 4611686018427387903) : G (pre ++ (encR m ++ post)) (pre.length : Nat) = ((m : Int), ((pre.length + sizeN m : Nat) : Int), 0) := by
  have hs1 := sizeN_pos m
  have hs9 : sizeN m ≤ 9 := sizeN_le 8 m (by omega)
  have hdrop : (pre ++ (encR m ++ post)).drop pre.length = encR m ++ post := by simp
  have hlen : (encR m ++ post).length = sizeN m + post.length := by rw [List.length_append, encR_length]
  have hlast : (encR m ++ post).getD (sizeN m - 1) 0 = rowN m (sizeN m - 1) := by rw [encR_getD _ _ _ (by omega), if_neg (by omega)]
  have hb := rowN_bd m (sizeN m - 1)
  have hcnt : cnt (encR m ++ post) = sizeN m - 1 := cnt_of _ _ (by omega) (fun j hj => by
    rw [encR_getD _ _ _ (by omega), if_pos (by omega)]
    have := rowN_bd m j; omega) (by rw [hlast]; omega)
  have hg : ∀ j, (pre ++ (encR m ++ post)).getD (pre.length + j) 0 = (encR m ++ post).getD j 0 := fun j => by
    rw [List.getD_eq_getElem?_getD, List.getD_eq_getElem?_getD, List.getElem?_append_right (by omega)]; congr 2; omega
  have hv : Hn (fun j => (pre ++ (encR m ++ post)).getD (pre.length + j) 0) 0 (sizeN m - 1 + 1) = (m : Int) := by
    rw [show sizeN m - 1 + 1 = sizeN m from by omega, Hn_row _ m (sizeN m) (fun j hj => by
      show (pre ++ (encR m ++ post)).getD (pre.length + j) 0 % 128 = _
      rw [hg, encR_getD _ _ _ hj]
      have := rowN_bd m j
      split <;> omega), Nat.mod_eq_of_lt (lt_size m)]
  unfold G
  rw [if_neg (by rw [List.length_append]; omega)]
  simp only [Int.toNat_natCast, hdrop, hcnt, hg, hlast]
  simp only [hg] at hv
  rw [hv]
  unfold getR
  rw [if_neg (by omega), if_neg (by rw [List.length_append, hlen]; omega), if_neg, if_neg (by unfold maxNum; omega)]
  · congr 2; omega
  · rintro ⟨h1, h2⟩
    have hge := ge_size m (by omega)
    have hlt := lt_size m
    unfold rowN at h1
    have e : 7 * sizeN m = 7 * (sizeN m - 1) + 7 := by omega
    rw [e, Nat.pow_add] at hlt
    have h3 : m / 2 ^ (7 * (sizeN m - 1)) < 128 := by
      rw [Nat.div_lt_iff_lt_mul (Nat.two_pow_pos _)]; rw [Nat.mul_comm]; exact hlt
    have h4 : 1 ≤ m / 2 ^ (7 * (sizeN m - 1)) := by
      rw [Nat.le_div_iff_mul_le (Nat.two_pow_pos _)]; omega
    omega
end Go.Proofs.Ytkojldjgjmaodaa
