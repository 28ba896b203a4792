/- squash: what is packed comes back, in plain lists; its length. (A template: seatgen.py fills it.) -/
import Derived.Test.YtboienpdnfcooaaSqUn
namespace Go.Proofs.Ytboienpdnfcooaa.Sq
open Go.RowKit Go.Proofs.NumMath Go.Maps
open Num (trip encR encR_length encR_oct G_enc)
set_option linter.unusedVariables false
set_option linter.unusedSimpArgs false
set_option maxRecDepth 1000000

theorem un_step {l : List Int} {p : Nat} {t : List Int} {af : Bool} {k d beh : Nat} {told : List Int} (h : p < l.length) (e : rp l p t.length af = .ok (k, d, told, beh)) (hb : p < beh) (t' : List Int) (ht : ex t k d told = t') (af' : Bool) (ha : decide (d = 0) = af') : un l p t af = un l beh t' af' := by
  subst ht ha
  exact un_ok h e hb

/-- a run -/
theorem un_run (pre d post t : List Int) (h0 : d ≠ []) (hn : d.length + t.length ≤ 65536) :
    un (pre ++ (encR (2 * d.length) ++ (d ++ post))) pre.length t false = un (pre ++ (encR (2 * d.length) ++ (d ++ post))) (pre.length + (sizeN (2 * d.length) + d.length)) (t ++ d) true := by
  have hpos : 0 < d.length := List.length_pos_iff.2 h0
  have hG := G_enc pre (d ++ post) (2 * d.length) (by omega)
  have hs := sizeN_pos (2 * d.length)
  have hlen : (pre ++ (encR (2 * d.length) ++ (d ++ post))).length = pre.length + (sizeN (2 * d.length) + (d.length + post.length)) := by
    rw [List.length_append, List.length_append, List.length_append, encR_length]
  have hdrop : ((pre ++ (encR (2 * d.length) ++ (d ++ post))).drop (pre.length + sizeN (2 * d.length))).take d.length = d := by
    rw [← List.append_assoc, List.drop_append_of_le_length (by rw [List.length_append, encR_length]; exact Nat.le_refl _), List.drop_of_length_le (by rw [List.length_append, encR_length]; exact Nat.le_refl _), List.nil_append, List.take_left]
  refine un_step (k := d.length) (d := 0) (told := d) (by omega) ?_ (by omega) _ (by unfold ex; rw [if_pos rfl]) _ (by simp)
  unfold rp
  rw [hG]
  simp only [Int.toNat_natCast]
  rw [if_neg (by simp), if_neg (by omega), if_neg (by simp; omega), show 2 * d.length / 2 = d.length from by omega]
  unfold rr
  rw [if_neg (by omega), if_neg (by omega), hdrop]
  rw [Nat.add_assoc]

/-- a match -/
theorem un_mat (pre post t : List Int) (af : Bool) (n d : Nat) (h4 : 4 ≤ n) (hn : n ≤ 130) (hd1 : 1 ≤ d) (hd : d ≤ 4096) (hdt : d ≤ t.length) (hl : n + t.length ≤ 65536) :
    un (pre ++ (mat n d ++ post)) pre.length t af = un (pre ++ (mat n d ++ post)) (pre.length + (sizeN (2 * (n - 4) + 1) + sizeN d)) (cpy t d n) false := by
  have hs := sizeN_pos (2 * (n - 4) + 1)
  have hs2 := sizeN_pos d
  have e1 : pre ++ (mat n d ++ post) = pre ++ (encR (2 * (n - 4) + 1) ++ (encR d ++ post)) := by unfold mat; rw [List.append_assoc]
  have e2 : pre ++ (mat n d ++ post) = (pre ++ encR (2 * (n - 4) + 1)) ++ (encR d ++ post) := by rw [e1, List.append_assoc]
  have hG := G_enc pre (encR d ++ post) (2 * (n - 4) + 1) (by omega)
  have hG2 := G_enc (pre ++ encR (2 * (n - 4) + 1)) post d (by omega)
  rw [← e1] at hG
  rw [← e2, List.length_append, encR_length] at hG2
  have hlen : (pre ++ (mat n d ++ post)).length = pre.length + (sizeN (2 * (n - 4) + 1) + (sizeN d + post.length)) := by
    rw [e1, List.length_append, List.length_append, List.length_append, encR_length, encR_length]
  refine un_step (k := n) (d := d) (told := []) (by omega) ?_ (by omega) _ (by unfold ex; rw [if_neg (by omega)]) _ (by simp; omega)
  unfold rp
  rw [hG]
  simp only [Int.toNat_natCast]
  rw [if_neg (by simp), if_pos (by omega), show (2 * (n - 4) + 1) / 2 + 4 = n from by omega]
  unfold rm
  rw [hG2]
  simp only [Int.toNat_natCast]
  rw [if_neg (by omega), if_neg (by simp), if_neg (by omega), if_neg (by omega), Nat.add_assoc]

theorem cpy_take (l : List Int) (p d : Nat) (hd : 1 ≤ d) (hdp : d ≤ p) : ∀ n, p + n ≤ l.length → (∀ i, i < n → l.getD (p + i) 0 = l.getD (p + i - d) 0) → cpy (l.take p) d n = l.take (p + n) := by
  intro n
  induction n with
  | zero => intro _ _; rfl
  | succ n ih =>
    intro hn h
    rw [cpy, ih (by omega) (fun i hi => h i (by omega)), ← Nat.add_assoc, take_snoc l (p + n) (by omega)]
    congr 2
    rw [List.length_take, Nat.min_eq_left (by omega), List.getD_eq_getElem?_getD, List.getElem?_take, if_pos (by omega), ← List.getD_eq_getElem?_getD]
    exact (h n (by omega)).symm
theorem best_match (l : List Int) (p : Nat) (hp : p < l.length) (h4 : 4 ≤ (best l p).1) : 1 ≤ (best l p).2 ∧ (best l p).2 ≤ p ∧ (best l p).2 ≤ 4096 ∧ (best l p).1 ≤ 130 ∧ p + (best l p).1 ≤ l.length ∧ ∀ i, i < (best l p).1 → l.getD (p + i) 0 = l.getD (p + i - (best l p).2) 0 := by
  obtain ⟨g1, g2, g3, g4⟩ := best_bd l p (by omega)
  rcases bst_spec l p (min p 4096) with h | ⟨h1, h2, h3⟩
  · exfalso; unfold best at h4; omega
  · have hs := (lng_spec l (bst l p (min p 4096)).2 130 p (by omega))
    rw [h3] at hs
    exact ⟨h1, g4, g3, g1, g2, hs.2.2.1⟩

/-- what the rest adds -/
theorem pk_app (l : List Int) : ∀ n told p out, l.length - p ≤ n → pk l told p out = out ++ pk l told p [] := by
  intro n
  induction n with
  | zero =>
    intro told p out h
    rw [pk_end _ _ _ _ (by omega), pk_end _ _ _ _ (by omega)]
    unfold putR
    split <;> simp
  | succ n ih =>
    intro told p out h
    by_cases hp : p < l.length
    · by_cases hb : (best l p).1 < 4
      · rw [pk_tell _ _ _ _ hp hb, pk_tell _ _ _ [] hp hb]; exact ih _ _ _ (by omega)
      · rw [pk_match _ _ _ _ hp (by omega), pk_match _ _ _ [] hp (by omega), ih _ _ (putR out (cut l told p) ++ _) (by omega), ih _ _ (putR [] (cut l told p) ++ _) (by omega)]
        unfold putR
        split <;> simp
    · rw [pk_end _ _ _ _ (by omega), pk_end _ _ _ _ (by omega)]
      unfold putR
      split <;> simp

theorem back_any (l : List Int) (hl : l.length ≤ 65536) : ∀ n told p pre, l.length - p ≤ n → told ≤ p → p ≤ l.length → un (pre ++ pk l told p []) pre.length (l.take told) false = .ok l := by
  have hend : ∀ told pre, told ≤ l.length → un (pre ++ putR [] (l.drop told)) pre.length (l.take told) false = .ok l := by
    intro told pre ht
    unfold putR
    split
    · next h0 =>
      rw [un_end _ _ _ _ (by simp)]
      have : l.length ≤ told := by have := congrArg List.length h0; rw [List.length_drop] at this; simp at this; omega
      rw [List.take_of_length_le this]
    · next h0 =>
      have h := un_run pre (l.drop told) [] (l.take told) h0 (by rw [List.length_drop, List.length_take]; omega)
      rw [List.append_nil] at h
      rw [List.nil_append, h, un_end, List.take_append_drop]
      rw [List.length_append, List.length_append, encR_length]
      omega
  intro n
  induction n with
  | zero => intro told p pre h h1 h2; rw [pk_end _ _ _ _ (by omega)]; exact hend told pre (by omega)
  | succ n ih =>
    intro told p pre h h1 h2
    by_cases hp : p < l.length
    · by_cases hb : (best l p).1 < 4
      · rw [pk_tell _ _ _ _ hp hb]; exact ih told (p + 1) pre (by omega) (by omega) (by omega)
      · obtain ⟨m1, m2, m3, m4, m5, m6⟩ := best_match l p hp (by omega)
        rw [pk_match _ _ _ _ hp (by omega), pk_app l _ _ _ _ (Nat.le_refl _)]
        generalize best l p = bb at *
        obtain ⟨m, d⟩ := bb
        simp only at *
        have hmatch : ∀ pre' af, un (pre' ++ (mat m d ++ pk l (p + m) (p + m) [])) pre'.length (l.take p) af = .ok l := by
          intro pre' af
          have hq := un_mat pre' (pk l (p + m) (p + m) []) (l.take p) af m d (by omega) m4 m1 m3 (by rw [List.length_take]; omega) (by rw [List.length_take]; omega)
          rw [hq, cpy_take l p d m1 m2 m m5 m6]
          have hi := ih (p + m) (p + m) (pre' ++ mat m d) (by omega) (by omega) (by omega)
          rw [List.append_assoc, List.length_append] at hi
          rw [show (mat m d).length = sizeN (2 * (m - 4) + 1) + sizeN d from by unfold mat; rw [List.length_append, encR_length, encR_length]] at hi
          exact hi
        by_cases ht : told = p
        · subst ht
          rw [cut_self]
          rw [show putR [] ([] : List Int) = [] from by unfold putR; rw [if_pos rfl], List.nil_append]
          exact hmatch pre false
        · have hcl : (cut l told p).length = p - told := cut_length _ _ _ h1 (by omega)
          have hne : cut l told p ≠ [] := by intro e; rw [e] at hcl; simp at hcl; omega
          have hpr : putR [] (cut l told p) = encR (2 * (cut l told p).length) ++ cut l told p := by unfold putR; rw [if_neg hne, List.nil_append]
          have hr := un_run pre (cut l told p) (mat m d ++ pk l (p + m) (p + m) []) (l.take told) hne (by rw [hcl, List.length_take]; omega)
          have htc : l.take told ++ cut l told p = l.take p := by
            unfold cut
            rw [show p = told + (p - told) from by omega, List.take_add]
            congr 2
            omega
          have hm := hmatch (pre ++ (encR (2 * (cut l told p).length) ++ cut l told p)) true
          rw [hpr]
          rw [htc] at hr
          rw [show pre ++ (encR (2 * (cut l told p).length) ++ cut l told p ++ mat m d ++ pk l (p + m) (p + m) []) = pre ++ (encR (2 * (cut l told p).length) ++ (cut l told p ++ (mat m d ++ pk l (p + m) (p + m) []))) from by simp only [List.append_assoc], hr]
          rw [show pre ++ (encR (2 * (cut l told p).length) ++ cut l told p) ++ (mat m d ++ pk l (p + m) (p + m) []) = pre ++ (encR (2 * (cut l told p).length) ++ (cut l told p ++ (mat m d ++ pk l (p + m) (p + m) []))) from by simp only [List.append_assoc]] at hm
          rw [List.length_append, List.length_append, encR_length] at hm
          exact hm
    · rw [pk_end _ _ _ _ (by omega)]; exact hend told pre (by omega)
theorem un_pack (l : List Int) (hl : l.length ≤ 65536) : un (packL l) 0 [] false = .ok l := by
  have h := back_any l hl l.length 0 0 [] (by omega) (by omega) (by omega)
  exact h

theorem szN1 (x : Nat) (h : x < 128) : sizeN x = 1 := by rw [sizeN]; simp [h]
theorem szN2 (x : Nat) (h : x < 16384) : sizeN x ≤ 2 := sizeN_le 1 x (by omega)
theorem szN3 (x : Nat) (h : x < 2097152) : sizeN x ≤ 3 := sizeN_le 2 x (by omega)
theorem pk_len (l : List Int) (hl : l.length ≤ 65536) : ∀ n told p out, l.length - p ≤ n → told ≤ p → p ≤ l.length → (pk l told p out).length ≤ out.length + (l.length - told) + (l.length - told) / 64 + 3 := by
  have hend : ∀ told (out : List Int), told ≤ l.length → (putR out (l.drop told)).length ≤ out.length + (l.length - told) + (l.length - told) / 64 + 3 := by
    intro told out ht
    unfold putR
    split
    · omega
    · have := szN3 (2 * (l.drop told).length) (by rw [List.length_drop]; omega)
      rw [List.length_append, List.length_append, encR_length]
      rw [List.length_drop] at this ⊢
      omega
  intro n
  induction n with
  | zero => intro told p out h h1 h2; rw [pk_end _ _ _ _ (by omega)]; exact hend told out (by omega)
  | succ n ih =>
    intro told p out h h1 h2
    by_cases hp : p < l.length
    · by_cases hb : (best l p).1 < 4
      · rw [pk_tell _ _ _ _ hp hb]; exact ih told (p + 1) out (by omega) (by omega) (by omega)
      · obtain ⟨m1, m2, m3, m4, m5, m6⟩ := best_match l p hp (by omega)
        rw [pk_match _ _ _ _ hp (by omega)]
        generalize best l p = bb at *
        obtain ⟨m, d⟩ := bb
        simp only at *
        refine Nat.le_trans (ih (p + m) (p + m) _ (by omega) (by omega) (by omega)) ?_
        have hd2 := szN2 d (by omega)
        have hml : (mat m d).length = sizeN (2 * (m - 4) + 1) + sizeN d := by unfold mat; rw [List.length_append, encR_length, encR_length]
        have hm2 : sizeN (2 * (m - 4) + 1) + 2 + 1 ≤ m := by
          by_cases hm : 2 * (m - 4) + 1 < 128
          · rw [szN1 _ hm]; omega
          · have := szN2 (2 * (m - 4) + 1) (by omega); omega
        have hcl : (cut l told p).length = p - told := cut_length _ _ _ h1 (by omega)
        have hrun : (putR out (cut l told p)).length ≤ out.length + (p - told) + 1 + (p - told) / 64 := by
          unfold putR
          split
          · omega
          · rw [List.length_append, List.length_append, encR_length, hcl]
            by_cases k1 : 2 * (p - told) < 128
            · rw [szN1 _ k1]; omega
            · by_cases k2 : 2 * (p - told) < 16384
              · have := szN2 _ k2; omega
              · have := szN3 (2 * (p - told)) (by omega); omega
        rw [List.length_append, hml]
        omega
    · rw [pk_end _ _ _ _ (by omega)]; exact hend told out (by omega)
theorem pack_len (l : List Int) (hl : l.length ≤ 65536) : (packL l).length ≤ l.length + l.length / 64 + 3 := by
  have h := pk_len l hl l.length 0 0 [] (by omega) (by omega) (by omega)
  unfold packL
  simpa using h
end Go.Proofs.Ytboienpdnfcooaa.Sq
