/- Each number has one form: what is got is put as just these bytes. -/
import Derived.Test.YtkojldjgjmaodaaTextPut
import Derived.Test.YtkojldjgjmaodaaAwake
import Derived.Test.YtkojldjgjmaodaaMany
import Derived.Deep.RegionWith
namespace Go.Proofs.Ytkojldjgjmaodaa
open Go.RowKit Go.Proofs.NumMath
set_option linter.unusedVariables false

theorem Hn_part (f : Nat → Int) (n : Nat) : ∀ j, j < n → (Hn f 0 n).toNat / 2 ^ (7 * j) % 128 = (f j % 128).toNat := by
  intro j hj
  have key : ∀ (n s : Nat), ∀ j, j < n → (Hn f s n).toNat / 2 ^ (7 * j) % 128 = (f (s + j) % 128).toNat := by
    intro n
    induction n with
    | zero => intro s j hj; omega
    | succ n ih =>
      intro s j hj
      have hb := (Hn_bd f n (s + 1)).1
      have he : (Hn f s (n + 1)).toNat = (f s % 128).toNat + 128 * (Hn f (s + 1) n).toNat := by
        rw [show Hn f s (n + 1) = f s % 128 + 128 * Hn f (s + 1) n from rfl]; omega
      rw [he]
      cases j with
      | zero => simp; omega
      | succ j =>
        have h2 := ih (s + 1) j (by omega)
        rw [show 7 * (j + 1) = 7 + 7 * j from by omega, Nat.pow_add, ← Nat.div_div_eq_div_mul]
        have e : ((f s % 128).toNat + 128 * (Hn f (s + 1) n).toNat) / 2 ^ 7 = (Hn f (s + 1) n).toNat := by omega
        rw [e, h2, show s + 1 + j = s + (j + 1) from by omega]
  simpa using key n 0 j hj

/-- the number that is got, and where it ends -/
theorem G_once (l : List Int) (ho : Oct l) (p x i : Int) (h : G l p = (x, i, 0)) :
    0 ≤ p ∧ p < i ∧ i ≤ l.length ∧ 0 ≤ x ∧ x ≤ 4611686018427387903 ∧ encR x.toNat = (l.drop p.toNat).take (i - p).toNat ∧ (sizeN x.toNat : Int) = i - p := by
  unfold G at h
  split at h
  · simp at h
  · next hp =>
    obtain ⟨q, rfl⟩ : ∃ q : Nat, p = (q : Int) := ⟨p.toNat, by omega⟩
    simp only [Int.toNat_natCast] at *
    have hkl := cnt_le (l.drop q)
    have hk1 := cnt_lt (l.drop q)
    have hk2 := cnt_at (l.drop q)
    rw [List.length_drop] at hkl hk2
    have hd : ∀ j, (l.drop q).getD j 0 = l.getD (q + j) 0 := fun j => by simp [List.getD_eq_getElem?_getD]
    generalize cnt (l.drop q) = k at *
    unfold getR at h
    split at h
    · simp at h
    · split at h
      · simp at h
      · next h9 hkm =>
        split at h
        · simp at h
        · next hz =>
          split at h
          · simp at h
          · next hbig =>
            simp only [Prod.mk.injEq] at h
            obtain ⟨hx, hi, -⟩ := h
            have hlast := hk2 (by omega)
            have hb := Hn_bd (fun j => l.getD (q + j) 0) (k + 1) 0
            have hpart := Hn_part (fun j => l.getD (q + j) 0) (k + 1)
            unfold maxNum at hbig
            have hlt : (Hn (fun j => l.getD (q + j) 0) 0 (k + 1)).toNat < 2 ^ (7 * (k + 1)) := by
              have := hb.2
              rw [pow128] at this
              omega
            have hrow : ∀ j, j < k + 1 → rowN x.toNat j = l.getD (q + j) 0 % 128 := by
              intro j hj
              unfold rowN
              rw [← hx, hpart j hj]
              have := (ho.getD (q + j)).1
              omega
            have hsize : sizeN x.toNat = k + 1 := by
              rw [← hx]
              refine sizeN_pow k _ ?_ hlt
              by_cases hk0 : k = 0
              · exact .inl hk0
              · right
                have hp := hpart k (by omega)
                have hc := (ho.getD (q + k))
                rw [hd] at hlast
                have hne : l.getD (q + k) 0 ≠ 0 := fun e => hz ⟨e, by omega⟩
                have h1 : 1 ≤ (Hn (fun j => l.getD (q + j) 0) 0 (k + 1)).toNat / 2 ^ (7 * k) := by
                  rcases Nat.eq_zero_or_pos ((Hn (fun j => l.getD (q + j) 0) 0 (k + 1)).toNat / 2 ^ (7 * k)) with h | h
                  · rw [h] at hp; simp only [Nat.zero_mod] at hp; omega
                  · exact h
                rw [Nat.le_div_iff_mul_le (Nat.two_pow_pos _)] at h1
                omega
            refine ⟨by omega, by omega, by omega, by omega, by omega, ?_, by omega⟩
            have hm : (i - (q : Int)).toNat = k + 1 := by omega
            rw [hm]
            apply List.ext_getElem?
            intro j
            by_cases hj : j < k + 1
            · have he := encR_getD x.toNat j [] (by omega)
              rw [List.append_nil, List.getD_eq_getElem?_getD] at he
              have hl1 : j < (encR x.toNat).length := by rw [encR_length]; omega
              rw [List.getElem?_eq_getElem hl1] at he ⊢
              simp only [Option.getD_some] at he
              rw [List.getElem?_take, if_pos hj, List.getElem?_drop, List.getElem?_eq_getElem (by omega)]
              congr 1
              rw [he, hrow j hj]
              have hg : l.getD (q + j) 0 = l[q + j]'(by omega) := by rw [List.getD_eq_getElem?_getD, List.getElem?_eq_getElem (by omega)]; rfl
              have hc := ho.getD (q + j)
              split
              · have := hk1 j (by omega)
                rw [hd] at this
                rw [← hg]; omega
              · have : j = k := by omega
                subst this
                rw [hd] at hlast
                rw [← hg]; omega
            · rw [List.getElem?_eq_none (by rw [encR_length]; omega), List.getElem?_take, if_neg hj]

theorem zig_back (x : Int) (h0 : 0 ≤ x) (h1 : x ≤ 4611686018427387903) (i : Int) : zig (GI (x, i, 0)).1 = x.toNat := by
  unfold GI zig clamp
  simp only [if_true]
  split <;> split <;> simp only [] at * <;> omega
end Go.Proofs.Ytkojldjgjmaodaa
