/- squash: a packing cut short, in plain lists. (A template: seatgen.py fills it.) -/
import Derived.Test.YtboienpdnfcooaaSqBackM
namespace Go.Proofs.Ytboienpdnfcooaa.Sq
open Go.RowKit Go.Proofs.NumMath Go.Maps
open Num (trip encR encR_length encR_oct G_enc encR_getD)
set_option linter.unusedVariables false
set_option linter.unusedSimpArgs false
set_option maxRecDepth 1000000

theorem cnt_all : ∀ l : List Int, (∀ x ∈ l, 127 < x) → cnt l = l.length := by
  intro l
  induction l with
  | nil => intro _; rfl
  | cons c r ih =>
    intro h
    simp only [cnt]
    rw [if_pos (h c (by simp)), ih (fun x hx => h x (by simp [hx]))]
    rfl
theorem G_cut (pre : List Int) (m j : Nat) (hm : m ≤ 4611686018427387903) (hj : j < sizeN m) : G (pre ++ (encR m).take j) (pre.length : Nat) = (0, 0, 4) := by
  have hs9 : sizeN m ≤ 9 := sizeN_le 8 m (by omega)
  have hdrop : (pre ++ (encR m).take j).drop pre.length = (encR m).take j := by simp
  have hlt : ((encR m).take j).length = j := by rw [List.length_take, encR_length]; omega
  have hc : cnt ((encR m).take j) = j := by
    rw [cnt_all, hlt]
    intro x hx
    obtain ⟨i, hi, rfl⟩ := List.getElem_of_mem hx
    rw [hlt] at hi
    rw [List.getElem_take]
    have hg := encR_getD m i [] (by omega)
    rw [List.append_nil, if_pos (by omega), List.getD_eq_getElem?_getD, List.getElem?_eq_getElem (by rw [encR_length]; omega)] at hg
    simp only [Option.getD_some] at hg
    have := Num.rowN_bd m i
    omega
  unfold G
  rw [if_neg (by rw [List.length_append, hlt]; omega)]
  simp only [Int.toNat_natCast, hdrop, hc]
  unfold getR
  rw [if_neg (by omega), if_pos (by rw [List.length_append, hlt]; omega)]

/-- what a cut packing makes -/
def Cutok (l : List Int) (r : Except Int (List Int)) : Prop := r = .error 4 ∨ ∃ m, m ≤ l.length ∧ r = .ok (l.take m)
theorem rp_cut {L : List Int} {p s : Nat} {af : Bool} (h : G L p = (0, 0, 4)) : rp L p s af = .error 4 := by
  unfold rp
  rw [h, if_pos (by simp)]
theorem cut_head (l pre : List Int) (m j told : Nat) (af : Bool) (ht : told ≤ l.length) (hm : m ≤ 4611686018427387903) (hj : j < sizeN m) : Cutok l (un (pre ++ (encR m).take j) pre.length (l.take told) af) := by
  rcases Nat.eq_zero_or_pos j with h0 | h0
  · subst h0
    rw [un_end _ _ _ _ (by simp)]
    exact .inr ⟨told, ht, rfl⟩
  · left
    refine un_err _ _ _ _ _ ?_ (rp_cut (G_cut pre m j hm hj))
    rw [List.length_append, List.length_take, encR_length]; omega
theorem cut_run (l pre d : List Int) (j told : Nat) (hl : l.length ≤ 65536) (ht : told + d.length ≤ l.length) (h0 : d ≠ []) (hj : j < sizeN (2 * d.length) + d.length) : Cutok l (un (pre ++ (encR (2 * d.length) ++ d).take j) pre.length (l.take told) false) := by
  by_cases h1 : j < sizeN (2 * d.length)
  · rw [List.take_append_of_le_length (by rw [encR_length]; omega)]
    exact cut_head l pre _ j told false (by omega) (by omega) h1
  · left
    have e : (encR (2 * d.length) ++ d).take j = encR (2 * d.length) ++ d.take (j - sizeN (2 * d.length)) := by
      rw [List.take_append, encR_length, List.take_of_length_le (by rw [encR_length]; omega)]
    rw [e]
    have hG := G_enc pre (d.take (j - sizeN (2 * d.length))) (2 * d.length) (by omega)
    have hpos : 0 < d.length := List.length_pos_iff.2 h0
    have hs := sizeN_pos (2 * d.length)
    have hlen : (pre ++ (encR (2 * d.length) ++ d.take (j - sizeN (2 * d.length)))).length = pre.length + (sizeN (2 * d.length) + (j - sizeN (2 * d.length))) := by
      rw [List.length_append, List.length_append, encR_length, List.length_take]; omega
    refine un_err _ _ _ _ _ (by omega) ?_
    unfold rp
    rw [hG]
    simp only [Int.toNat_natCast]
    rw [if_neg (by simp), if_neg (by omega), if_neg (by simp; omega), show 2 * d.length / 2 = d.length from by omega]
    unfold rr
    rw [if_neg (by rw [List.length_take]; omega), if_pos (by omega)]
theorem cut_mat (l pre : List Int) (n d j told : Nat) (af : Bool) (hn : n ≤ 130) (h4 : 4 ≤ n) (hd : d ≤ 4096) (ht : told ≤ l.length) (hj : j < sizeN (2 * (n - 4) + 1) + sizeN d) : Cutok l (un (pre ++ (mat n d).take j) pre.length (l.take told) af) := by
  unfold mat
  by_cases h1 : j < sizeN (2 * (n - 4) + 1)
  · rw [List.take_append_of_le_length (by rw [encR_length]; omega)]
    exact cut_head l pre _ j told af ht (by omega) h1
  · left
    have e : (encR (2 * (n - 4) + 1) ++ encR d).take j = encR (2 * (n - 4) + 1) ++ (encR d).take (j - sizeN (2 * (n - 4) + 1)) := by
      rw [List.take_append, encR_length, List.take_of_length_le (by rw [encR_length]; omega)]
    rw [e]
    have hs := sizeN_pos (2 * (n - 4) + 1)
    have hG := G_enc pre ((encR d).take (j - sizeN (2 * (n - 4) + 1))) (2 * (n - 4) + 1) (by omega)
    have hG2 := G_cut (pre ++ encR (2 * (n - 4) + 1)) d (j - sizeN (2 * (n - 4) + 1)) (by omega) (by omega)
    rw [List.append_assoc, List.length_append, encR_length] at hG2
    have hlen : (pre ++ (encR (2 * (n - 4) + 1) ++ (encR d).take (j - sizeN (2 * (n - 4) + 1)))).length = pre.length + (sizeN (2 * (n - 4) + 1) + (j - sizeN (2 * (n - 4) + 1))) := by
      rw [List.length_append, List.length_append, encR_length, List.length_take, encR_length]; omega
    refine un_err _ _ _ _ _ (by omega) ?_
    unfold rp
    rw [hG]
    simp only [Int.toNat_natCast]
    rw [if_neg (by simp), if_pos (by omega), show (2 * (n - 4) + 1) / 2 + 4 = n from by omega]
    unfold rm
    rw [hG2]
    rw [if_neg (by omega), if_pos (by simp)]

theorem cut_any (l : List Int) (hl : l.length ≤ 65536) : ∀ n told p pre j, l.length - p ≤ n → told ≤ p → p ≤ l.length → Cutok l (un (pre ++ (pk l told p []).take j) pre.length (l.take told) false) := by
  have hend : ∀ told pre j, told ≤ l.length → Cutok l (un (pre ++ (putR [] (l.drop told)).take j) pre.length (l.take told) false) := by
    intro told pre j ht
    by_cases hj : j < (putR [] (l.drop told)).length
    · have hne : l.drop told ≠ [] := by intro e; rw [e] at hj; unfold putR at hj; rw [if_pos rfl] at hj; simp at hj
      have e : putR [] (l.drop told) = encR (2 * (l.drop told).length) ++ l.drop told := by unfold putR; rw [if_neg hne, List.nil_append]
      rw [e] at hj ⊢
      rw [List.length_append, encR_length] at hj
      exact cut_run l pre (l.drop told) j told hl (by rw [List.length_drop]; omega) hne hj
    · rw [List.take_of_length_le (by omega)]
      have h := back_any l hl 0 told l.length pre (by omega) ht (Nat.le_refl _)
      rw [pk_end _ _ _ _ (Nat.le_refl _)] at h
      rw [h]
      exact .inr ⟨l.length, Nat.le_refl _, by rw [List.take_length]⟩
  intro n
  induction n with
  | zero => intro told p pre j h h1 h2; rw [pk_end _ _ _ _ (by omega)]; exact hend told pre j (by omega)
  | succ n ih =>
    intro told p pre j h h1 h2
    by_cases hp : p < l.length
    · by_cases hb : (best l p).1 < 4
      · rw [pk_tell _ _ _ _ hp hb]; exact ih told (p + 1) pre j (by omega) (by omega) (by omega)
      · obtain ⟨m1, m2, m3, m4, m5, m6⟩ := best_match l p hp (by omega)
        rw [pk_match _ _ _ _ hp (by omega), pk_app l _ _ _ _ (Nat.le_refl _)]
        generalize best l p = bb at *
        obtain ⟨m, d⟩ := bb
        simp only at *
        have hml : (mat m d).length = sizeN (2 * (m - 4) + 1) + sizeN d := by unfold mat; rw [List.length_append, encR_length, encR_length]
        have hmatch : ∀ pre' af j, Cutok l (un (pre' ++ (mat m d ++ pk l (p + m) (p + m) []).take j) pre'.length (l.take p) af) := by
          intro pre' af j
          by_cases hj : j < (mat m d).length
          · rw [List.take_append_of_le_length (by omega)]
            rw [hml] at hj
            exact cut_mat l pre' m d j p af m4 (by omega) m3 (by omega) hj
          · have e : (mat m d ++ pk l (p + m) (p + m) []).take j = mat m d ++ (pk l (p + m) (p + m) []).take (j - (mat m d).length) := by
              rw [List.take_append, List.take_of_length_le (by omega)]
            rw [e]
            have hq := un_mat pre' ((pk l (p + m) (p + m) []).take (j - (mat m d).length)) (l.take p) af m d (by omega) m4 m1 m3 (by rw [List.length_take]; omega) (by rw [List.length_take]; omega)
            rw [hq, cpy_take l p d m1 m2 m m5 m6]
            have hi := ih (p + m) (p + m) (pre' ++ mat m d) (j - (mat m d).length) (by omega) (by omega) (by omega)
            rw [List.append_assoc, List.length_append, hml] at hi
            rw [hml]
            exact hi
        by_cases ht : told = p
        · subst ht
          rw [cut_self]
          rw [show putR [] ([] : List Int) = [] from by unfold putR; rw [if_pos rfl], List.nil_append]
          exact hmatch pre false j
        · have hcl : (cut l told p).length = p - told := cut_length _ _ _ h1 (by omega)
          have hne : cut l told p ≠ [] := by intro e; rw [e] at hcl; simp at hcl; omega
          have hpr : putR [] (cut l told p) = encR (2 * (cut l told p).length) ++ cut l told p := by unfold putR; rw [if_neg hne, List.nil_append]
          have htc : l.take told ++ cut l told p = l.take p := by
            unfold cut
            rw [show p = told + (p - told) from by omega, List.take_add]
            congr 2
            omega
          rw [hpr]
          have hrl : (encR (2 * (cut l told p).length) ++ cut l told p).length = sizeN (2 * (cut l told p).length) + (cut l told p).length := by rw [List.length_append, encR_length]
          rw [List.append_assoc (encR (2 * (cut l told p).length) ++ cut l told p)]
          by_cases hj : j < (encR (2 * (cut l told p).length) ++ cut l told p).length
          · rw [List.take_append_of_le_length (by omega)]
            rw [hrl] at hj
            exact cut_run l pre (cut l told p) j told hl (by omega) hne hj
          · have e : (encR (2 * (cut l told p).length) ++ cut l told p ++ (mat m d ++ pk l (p + m) (p + m) [])).take j = (encR (2 * (cut l told p).length) ++ cut l told p) ++ (mat m d ++ pk l (p + m) (p + m) []).take (j - (encR (2 * (cut l told p).length) ++ cut l told p).length) := by
              rw [List.take_append, List.take_of_length_le (by omega)]
            rw [e]
            have hr := un_run pre (cut l told p) ((mat m d ++ pk l (p + m) (p + m) []).take (j - (encR (2 * (cut l told p).length) ++ cut l told p).length)) (l.take told) hne (by rw [hcl, List.length_take]; omega)
            rw [htc] at hr
            have hm := hmatch (pre ++ (encR (2 * (cut l told p).length) ++ cut l told p)) true (j - (encR (2 * (cut l told p).length) ++ cut l told p).length)
            generalize (mat m d ++ pk l (p + m) (p + m) []).take (j - (encR (2 * (cut l told p).length) ++ cut l told p).length) = Z at *
            rw [List.append_assoc (encR (2 * (cut l told p).length)), hr]
            rw [List.append_assoc pre, List.append_assoc (encR (2 * (cut l told p).length)), List.length_append, hrl] at hm
            exact hm
    · rw [pk_end _ _ _ _ (by omega)]; exact hend told pre j (by omega)
theorem un_cut (l : List Int) (hl : l.length ≤ 65536) (j : Nat) : Cutok l (un ((packL l).take j) 0 [] false) := by
  have h := cut_any l hl l.length 0 0 [] j (by omega) (by omega) (by omega)
  exact h
end Go.Proofs.Ytboienpdnfcooaa.Sq
