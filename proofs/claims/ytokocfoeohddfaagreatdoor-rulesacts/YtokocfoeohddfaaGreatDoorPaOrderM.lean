/- path: the order. (A template.) -/
import Derived.Test.YtokocfoeohddfaaGreatDoorPaBackM
namespace Go.Proofs.YtokocfoeohddfaaGreatDoor.Pa
open Go.RowKit
set_option linter.unusedVariables false
set_option linter.unusedSimpArgs false
set_option maxRecDepth 100000

def rk (c : UInt8) : Int := if c = 47 then 1 else 2 + (c.toNat : Int)
theorem rk_pos (c : UInt8) : 1 ≤ rk c := by unfold rk; split <;> omega
theorem rk_inj {a b : UInt8} (h : rk a = rk b) : a = b := by
  unfold rk at h
  split at h <;> split at h
  · simp_all
  · omega
  · omega
  · exact UInt8.toNat_inj.1 (by omega)
theorem rk_slash {c : UInt8} (h : rk c ≤ 1) : c = 47 := by
  unfold rk at h
  split at h
  · assumption
  · omega
def ltR : L8 → L8 → Bool
  | [], [] => false
  | [], _ :: _ => true
  | _ :: _, [] => false
  | x :: a, y :: b => if x = y then ltR a b else decide (rk x < rk y)
theorem rank_nil : rank [] 0 = 0 := by simp [rank]
theorem rank_zero (x : UInt8) (a : L8) : rank (x :: a) 0 = rk x := by
  unfold rank
  rw [if_neg (by simp)]
  have : bt (x :: a) 0 = (x.toNat : Int) := rfl
  rw [this]
  unfold rk
  by_cases h : x = 47
  · subst h; simp
  · rw [if_neg h, if_neg (fun e => h (UInt8.toNat_inj.1 (by have : x.toNat = 47 := by omega
                                                            rw [this]; rfl)))]
theorem rank_succ (x : UInt8) (a : L8) (n : Nat) : rank (x :: a) (n + 1) = rank a n := by
  unfold rank
  have : bt (x :: a) (n + 1) = bt a n := rfl
  rw [this]
  simp
theorem less_ltR (a b : L8) : lessB a b = ltR a b := by
  induction a generalizing b with
  | nil =>
    cases b with
    | nil => rfl
    | cons y b =>
      unfold lessB orderV
      rw [show alikeN [] (y :: b) = 0 from rfl, rank_nil, rank_zero]
      have := rk_pos y
      simp [ltR]; omega
  | cons x a ih =>
    cases b with
    | nil =>
      unfold lessB orderV
      rw [show alikeN (x :: a) [] = 0 from rfl, rank_nil, rank_zero]
      have := rk_pos x
      simp [ltR]; omega
    | cons y b =>
      by_cases h : x = y
      · subst h
        have e := ih b
        unfold lessB orderV at e ⊢
        rw [show alikeN (x :: a) (x :: b) = alikeN a b + 1 by simp [alikeN], rank_succ, rank_succ, e]
        simp [ltR]
      · unfold lessB orderV
        rw [show alikeN (x :: a) (y :: b) = 0 by simp [alikeN, h], rank_zero, rank_zero]
        simp only [ltR, if_neg h]
        apply decide_eq_decide.2
        omega
theorem ltR_irrefl (a : L8) : ltR a a = false := by
  induction a with
  | nil => rfl
  | cons x a ih => simp [ltR, ih]
theorem ltR_trans {a b c : L8} (h1 : ltR a b = true) (h2 : ltR b c = true) : ltR a c = true := by
  induction a generalizing b c with
  | nil =>
    cases c with
    | nil => cases b <;> simp [ltR] at h1 h2
    | cons z c => rfl
  | cons x a ih =>
    cases b with
    | nil => simp [ltR] at h1
    | cons y b =>
      cases c with
      | nil => simp [ltR] at h2
      | cons z c =>
        simp only [ltR] at h1 h2 ⊢
        by_cases e1 : x = y
        · subst e1
          rw [if_pos rfl] at h1
          by_cases e2 : x = z
          · subst e2
            rw [if_pos rfl] at h2 ⊢
            exact ih h1 h2
          · rw [if_neg e2] at h2 ⊢
            exact h2
        · rw [if_neg e1, decide_eq_true_iff] at h1
          by_cases e2 : y = z
          · subst e2
            rw [if_neg e1, decide_eq_true_iff]
            exact h1
          · rw [if_neg e2, decide_eq_true_iff] at h2
            have : x ≠ z := by intro e; subst e; omega
            rw [if_neg this, decide_eq_true_iff]
            omega
theorem ltR_total {a b : L8} (h1 : ltR a b = false) (h2 : ltR b a = false) : a = b := by
  induction a generalizing b with
  | nil => cases b with
    | nil => rfl
    | cons y b => simp [ltR] at h1
  | cons x a ih =>
    cases b with
    | nil => simp [ltR] at h2
    | cons y b =>
      simp only [ltR] at h1 h2
      by_cases e : x = y
      · subst e
        rw [if_pos rfl] at h1 h2
        rw [ih h1 h2]
      · rw [if_neg e, decide_eq_false_iff_not] at h1
        rw [if_neg (fun h => e h.symm), decide_eq_false_iff_not] at h2
        exact absurd (rk_inj (by omega)) e
theorem ltR_pre (a : L8) (x : UInt8) (d : L8) : ltR a (a ++ x :: d) = true := by
  induction a with
  | nil => rfl
  | cons y a ih => simp [ltR, ih]
/-- what stands between a text and one that goes on with a slash goes on with one too -/
theorem ltR_mid {a b d : L8} (h1 : ltR a b = true) (h2 : ltR b (a ++ 47 :: d) = true) : ∃ t, b = a ++ 47 :: t := by
  induction a generalizing b with
  | nil =>
    cases b with
    | nil => simp [ltR] at h1
    | cons y b =>
      simp only [List.nil_append, ltR] at h2
      by_cases e : y = 47
      · subst e; exact ⟨b, rfl⟩
      · rw [if_neg e, decide_eq_true_iff] at h2
        have h3 := rk_pos y
        have : rk 47 = 1 := by simp [rk]
        omega
  | cons x a ih =>
    cases b with
    | nil => simp [ltR] at h1
    | cons y b =>
      simp only [List.cons_append, ltR] at h1 h2
      by_cases e : x = y
      · subst e
        rw [if_pos rfl] at h1 h2
        obtain ⟨t, ht⟩ := ih h1 h2
        exact ⟨t, by rw [ht]; rfl⟩
      · rw [if_neg e, decide_eq_true_iff] at h1
        rw [if_neg (fun h => e h.symm), decide_eq_true_iff] at h2
        omega
theorem under_cases {p top : L8} (h : underB p top = true) : top = [] ∨ p = top ∨ ∃ t, p = top ++ 47 :: t := by
  unfold underB at h
  rcases of_decide_eq_true h with h | ⟨h1, h2⟩
  · exact .inl h
  · obtain ⟨r, rfl⟩ := List.isPrefixOf_iff_prefix.1 h1
    rw [ends_app, decide_eq_true_iff] at h2
    cases r with
    | nil => exact .inr (.inl (by simp))
    | cons x r => simp at h2; subst h2; exact .inr (.inr ⟨r, rfl⟩)
theorem under_of (top t : L8) : underB (top ++ 47 :: t) top = true := by
  unfold underB
  rw [decide_eq_true_iff]
  right
  exact ⟨List.isPrefixOf_iff_prefix.2 ⟨_, rfl⟩, by rw [ends_app]; simp⟩
theorem under_nil (p : L8) : underB p [] = true := by unfold underB; simp
theorem ord1 (a b c : L8) : lessB a b = true → lessB b c = true → lessB a c = true := by rw [less_ltR, less_ltR, less_ltR]; exact ltR_trans
theorem ord2 (a b : L8) : lessB a b = true → lessB b a = false := by
  rw [less_ltR, less_ltR]
  intro h
  cases h2 : ltR b a with
  | false => rfl
  | true => rw [← ltR_irrefl a]; exact (ltR_trans h h2).symm
theorem ord3 (a : L8) : lessB a a = false := by rw [less_ltR]; exact ltR_irrefl a
theorem ord4 (a b : L8) : lessB a b = false → lessB b a = false → a = b := by rw [less_ltR, less_ltR]; exact ltR_total
theorem ord5 (a b : L8) (hu : underB b a = true) (hd : depth a < depth b) : lessB a b = true := by
  rw [less_ltR]
  rcases under_cases hu with rfl | rfl | ⟨t, rfl⟩
  · cases b with
    | nil => simp at hd
    | cons y b => rfl
  · omega
  · exact ltR_pre _ _ _
theorem ord6 (a b c : L8) (hu : underB c a = true) (h1 : lessB a b = true) (h2 : lessB b c = true) : underB b a = true := by
  rw [less_ltR] at h1 h2
  rcases under_cases hu with rfl | rfl | ⟨t, rfl⟩
  · exact under_nil b
  · have := ltR_trans h1 h2
    rw [ltR_irrefl] at this; cases this
  · obtain ⟨s, rfl⟩ := ltR_mid h1 h2
    exact under_of _ _
end Go.Proofs.YtokocfoeohddfaaGreatDoor.Pa
