/- glob: each star doubled; as many slashes as stand for themselves. (A template.) -/
import Derived.Test.YtokocfoeohddfaaDoorGlRSmall
namespace Go.Proofs.YtokocfoeohddfaaDoor.Pa
set_option linter.unusedVariables false
set_option linter.unusedSimpArgs false
set_option maxRecDepth 100000

def Kinds (L : List Rg) : Prop := ∀ x ∈ L, x.kind ≤ 4 ∧ (x.kind = 0 → x.c < 256)
theorem sgnR_kind {l : L8} {a b : Nat} {x : Rg} (h : sgnR l a = some (x, b)) : x.kind ≤ 4 ∧ (x.kind = 0 → x.c < 256) := by
  unfold sgnR at h
  split at h
  · cases hc : clsR l (l.length + 1) (if bang l a = true then a + 2 else a + 1) noneS 0 with
    | none => rw [hc] at h; simp at h
    | some y => rw [hc] at h; simp at h; rw [← h.1]; simp
  · split at h
    · simp at h; rw [← h.1]; simp
    · split at h
      · simp at h; rw [← h.1]; split <;> simp
      · cases hr : rbN l a with
        | none => rw [hr] at h; simp at h
        | some y =>
          rw [hr] at h
          simp at h
          rw [← h.1]
          exact ⟨by simp, fun _ => (rb_some (c := y.1) (b := y.2) hr).2.1⟩
theorem sgnsR_kind {l : L8} : ∀ n a L, sgnsR l n a = some L → Kinds L := by
  intro n
  induction n with
  | zero => intro a L h; simp [sgnsR] at h
  | succ n ih =>
    intro a L h
    rw [sgnsR_eq] at h
    split at h
    · cases hs : sgnR l a with
      | none => rw [hs] at h; simp at h
      | some x =>
        obtain ⟨x, b⟩ := x
        rw [hs] at h
        simp only at h
        cases hr : sgnsR l n b with
        | none => rw [hr] at h; simp at h
        | some M =>
          rw [hr] at h
          simp only [Option.map_some, Option.some.injEq] at h
          subst h
          intro y hy
          rcases List.mem_cons.1 hy with rfl | hy
          · exact sgnR_kind hs
          · exact ih b M hr y hy
    · simp only [Option.some.injEq] at h
      subst h; intro x hx; simp at hx
def tok (x : Rg) : L8 := if x.kind = 0 then escC (UInt8.ofNat x.c) else if x.kind = 1 then [63] else [42, 42]
def toks (L : List Rg) : L8 := L.flatMap tok
def dbl (x : Rg) : Sg := if x.kind = 0 then ownSg (UInt8.ofNat x.c) else if x.kind = 1 then ⟨dropS allS 47, false, false, 0⟩ else ⟨allS, true, false, 0⟩
theorem toks_snoc {L : List Rg} {k : Nat} {x : Rg} (h : L[k]? = some x) : toks (L.take (k + 1)) = toks (L.take k) ++ tok x := by
  rw [List.take_add_one, h]; simp [toks]
theorem tok_len (x : Rg) : 1 ≤ (tok x).length ∧ (tok x).length ≤ 2 := by
  unfold tok
  split
  · unfold escC; split <;> simp
  · split <;> simp
theorem toks_len (L : List Rg) : L.length ≤ (toks L).length ∧ (toks L).length ≤ 2 * L.length := by
  induction L with
  | nil => simp [toks]
  | cons x L ih =>
    unfold toks at *
    rw [List.flatMap_cons, List.length_append, List.length_cons]
    have := tok_len x
    omega
theorem que_sgn (pre post : L8) : sgn (pre ++ [63] ++ post) pre.length = some (⟨dropS allS 47, false, false, 0⟩, pre.length + 1) := by
  have g0 : (pre ++ [63] ++ post)[pre.length]? = some 63 := by simp
  have n0 : nb (pre ++ [63] ++ post) pre.length = 63 := nb_get g0
  unfold sgn
  rw [n0, if_neg (by decide), if_pos rfl]
theorem star_sgn (pre post : L8) (h : post.head? ≠ some 42) : sgn (pre ++ [42, 42] ++ post) pre.length = some (⟨allS, true, false, 0⟩, pre.length + 2) := by
  have g0 : (pre ++ [42, 42] ++ post)[pre.length]? = some 42 := by simp
  have n0 : nb (pre ++ [42, 42] ++ post) pre.length = 42 := nb_get g0
  have hs : stars (pre ++ [42, 42] ++ post) pre.length = 2 := by
    unfold stars
    rw [List.append_assoc, List.drop_left]
    cases post with
    | nil => rfl
    | cons c r =>
      have hc : (c == 42) = false := by
        rw [beq_eq_false_iff_ne]; intro e; exact h (by rw [e]; rfl)
      simp [List.takeWhile_cons, hc]
  unfold sgn
  rw [n0, if_neg (by decide), if_neg (by decide), if_pos rfl, hs]
  rfl
theorem tok_head (x : Rg) (L : List Rg) (h : x.kind = 0 ∨ x.kind = 1) : (toks (x :: L)).head? ≠ some 42 := by
  unfold toks
  rw [List.flatMap_cons]
  unfold tok
  rcases h with h | h
  · rw [if_pos h]
    unfold escC
    cases hs : special (UInt8.ofNat x.c) with
    | true => simp
    | false =>
      unfold special at hs
      simp only [Bool.or_eq_false_iff, beq_eq_false_iff_ne] at hs
      simpa using hs.1.1.2
  · rw [if_neg (by omega), if_pos h]; simp
theorem apart_tail {x : Sg} {M : List Sg} (h : Apart (x :: M)) : Apart M := fun i a b h1 h2 => h (i + 1) a b (by simpa using h1) (by simpa using h2)
theorem sg_many2 (x : Rg) : x.sg.many = decide (x.kind = 2 ∨ x.kind = 3) := by
  unfold Rg.sg
  split
  · next h => rw [h]; rfl
  · split
    · next h => rw [h]; rfl
    · split
      · next h => rw [h]; rfl
      · next h0 h3 h4 =>
        show decide (x.kind = 2) = _
        by_cases h : x.kind = 2 <;> simp [h, h3]
theorem dbl_many {x : Rg} (h : x.kind ≤ 3) : (dbl x).many = x.sg.many := by
  rw [sg_many2]
  unfold dbl
  split
  · next h0 => rw [h0]; rfl
  · split
    · next h1 => rw [h1]; rfl
    · next h0 h1 =>
      show true = _
      exact (decide_eq_true (by omega)).symm
theorem toks_sgns : ∀ (L : List Rg) (pre : L8) (n : Nat), L.length < n → Apart (L.map Rg.sg) → (∀ x ∈ L, x.kind ≤ 3) → sgns (pre ++ toks L) n pre.length = some (L.map dbl) := by
  intro L
  induction L with
  | nil =>
    intro pre n hn _ _
    cases n with
    | zero => simp at hn
    | succ n => rw [sgns_eq, if_neg (by simp [toks])]; rfl
  | cons x L ih =>
    intro pre n hn hA hK
    cases n with
    | zero => simp at hn
    | succ n =>
      have e : pre ++ toks (x :: L) = pre ++ tok x ++ toks L := by simp [toks]
      have hl := tok_len x
      have hk := hK x (by simp)
      have hsg : sgn (pre ++ tok x ++ toks L) pre.length = some (dbl x, pre.length + (tok x).length) := by
        unfold tok dbl
        by_cases h0 : x.kind = 0
        · rw [if_pos h0, if_pos h0]; exact escC_sgn _ _ _
        · rw [if_neg h0, if_neg h0]
          by_cases h1 : x.kind = 1
          · rw [if_pos h1, if_pos h1]; exact que_sgn _ _
          · rw [if_neg h1, if_neg h1]
            refine star_sgn _ _ ?_
            cases L with
            | nil => simp [toks]
            | cons y L =>
              refine tok_head y L ?_
              have hy := hK y (by simp)
              have hna := hA 0 x.sg y.sg (by simp) (by simp)
              rw [sg_many2, sg_many2, decide_eq_true (by omega)] at hna
              have : ¬ (y.kind = 2 ∨ y.kind = 3) := fun q => hna rfl (decide_eq_true q)
              omega
      rw [sgns_eq, e, if_pos (by simp; omega), hsg]
      simp only
      have := ih (pre ++ tok x) n (by simp at hn; omega) (apart_tail hA) (fun y hy => hK y (by simp [hy]))
      rw [List.length_append] at this
      rw [this]
      rfl
theorem dbl_sub {x : Rg} (hk : x.kind ≤ 3) (hc : x.kind = 0 → x.c < 256) {d : Nat} (h : x.sg.S d = true) : (dbl x).S d = true := by
  unfold dbl
  unfold Rg.sg at h
  by_cases h0 : x.kind = 0
  · rw [if_pos h0] at h ⊢
    have e : (UInt8.ofNat x.c).toNat = x.c := by have := hc h0; simp; omega
    unfold ownSg
    rw [e]; exact h
  · rw [if_neg h0] at h ⊢
    by_cases h1 : x.kind = 1
    · rw [if_pos h1]
      rw [if_neg (by omega), if_neg (by omega)] at h
      exact h
    · rw [if_neg h1]; rfl
theorem lang_dbl : ∀ (L : List Rg) (s : L8), (∀ x ∈ L, x.kind ≤ 3 ∧ (x.kind = 0 → x.c < 256)) → Lang (L.map Rg.sg) s → Lang (L.map dbl) s := by
  intro L
  induction L with
  | nil => intro s _ h; exact h
  | cons x L ih =>
    intro s hK h
    obtain ⟨hk, hc⟩ := hK x (by simp)
    have hK2 : ∀ y ∈ L, y.kind ≤ 3 ∧ (y.kind = 0 → y.c < 256) := fun y hy => hK y (by simp [hy])
    rw [List.map_cons, Lang] at h ⊢
    rw [dbl_many hk]
    by_cases hm : x.sg.many = true
    · rw [if_pos hm] at h ⊢
      obtain ⟨s1, s2, rfl, h1, h2⟩ := h
      exact ⟨s1, s2, rfl, fun c hc' => dbl_sub hk hc (h1 c hc'), ih s2 hK2 h2⟩
    · rw [if_neg hm] at h ⊢
      obtain ⟨c, s2, rfl, h1, h2⟩ := h
      exact ⟨c, s2, rfl, dbl_sub hk hc h1, ih s2 hK2 h2⟩
theorem apart_dbl {L : List Rg} (hA : Apart (L.map Rg.sg)) (hK : ∀ x ∈ L, x.kind ≤ 3) : Apart (L.map dbl) := by
  intro i a b h1 h2 m1 m2
  rw [List.getElem?_map] at h1 h2
  cases hx : L[i]? with
  | none => rw [hx] at h1; simp at h1
  | some x =>
    cases hy : L[i + 1]? with
    | none => rw [hy] at h2; simp at h2
    | some y =>
      rw [hx] at h1; rw [hy] at h2
      simp at h1 h2
      subst h1 h2
      rw [dbl_many (hK x (List.mem_of_getElem? hx))] at m1
      rw [dbl_many (hK y (List.mem_of_getElem? hy))] at m2
      exact hA i x.sg y.sg (by rw [List.getElem?_map, hx]; rfl) (by rw [List.getElem?_map, hy]; rfl) m1 m2
/-- with each star doubled it matches all that it matched -/
theorem parts_match {p s : L8} {L : List Rg} (hp : p.length ≤ 100) (hR : readR p = some L) (hm : matchP p s = true) (hK : ∀ x ∈ L, x.kind ≠ 4) (hl : (toks L).length ≤ 100) : matchP (toks L) s = true := by
  have hr : readP p = some (L.map Rg.sg) := by rw [readP_R, if_pos hp, hR]; rfl
  have hA := (readP_kind hr).1
  have hkk : Kinds L := sgnsR_kind _ _ _ hR
  have hK3 : ∀ x ∈ L, x.kind ≤ 3 := fun x hx => by have := (hkk x hx).1; have := hK x hx; omega
  unfold matchP at hm
  rw [hr] at hm
  have hL := (match_iff hA s).1 hm
  have h1 := toks_sgns L [] ((toks L).length + 1) (by have := toks_len L; omega) hA hK3
  simp only [List.nil_append, List.length_nil] at h1
  have h2 : readP (toks L) = some (L.map dbl) := by unfold readP; rw [if_pos hl, h1]
  unfold matchP
  rw [h2]
  exact (match_iff (apart_dbl hA hK3) s).2 (lang_dbl L s (fun x hx => ⟨hK3 x hx, (hkk x hx).2⟩) hL)
def isSl (x : Rg) : Bool := decide (x.kind = 0) && decide (x.c = 47)
def slN (L : List Rg) : Nat := (L.filter isSl).length
def slS (s : L8) : Nat := (s.filter (· == 47)).length
def has3 (L : List Rg) : Bool := L.any fun x => decide (x.kind = 3)
theorem sg_47 {x : Rg} (h3 : x.kind ≠ 3) (h0 : x.kind ≠ 0) : x.sg.S 47 = false := by
  unfold Rg.sg
  rw [if_neg h0, if_neg h3]
  split
  · simp [classSg, dropS]
  · simp [dropS]
theorem slS_none {s : L8} {x : Rg} (h3 : x.kind ≠ 3) (h0 : x.kind ≠ 0) (h : ∀ c ∈ s, x.sg.S c.toNat = true) : slS s = 0 := by
  unfold slS
  rw [List.length_eq_zero_iff, List.filter_eq_nil_iff]
  intro c hc
  intro e
  have : c = 47 := by simpa using e
  subst this
  have h1 := h _ hc
  have h2 : x.sg.S (47 : UInt8).toNat = false := sg_47 h3 h0
  rw [h2] at h1; cases h1
theorem slS_app (a b : L8) : slS (a ++ b) = slS a + slS b := by simp [slS]
theorem parts_count : ∀ (L : List Rg) (s : L8), has3 L = false → Lang (L.map Rg.sg) s → slS s = slN L := by
  intro L
  induction L with
  | nil => intro s _ h; have : s = [] := h; subst this; rfl
  | cons x L ih =>
    intro s hn h
    unfold has3 at hn
    rw [List.any_cons, Bool.or_eq_false_iff] at hn
    have h3 : x.kind ≠ 3 := of_decide_eq_false hn.1
    rw [List.map_cons, Lang] at h
    have hsl : slN (x :: L) = (if isSl x then 1 else 0) + slN L := by
      unfold slN
      rw [List.filter_cons]
      split <;> simp; omega
    by_cases hm : x.sg.many = true
    · rw [if_pos hm] at h
      obtain ⟨s1, s2, rfl, h1, h2⟩ := h
      have h0 : x.kind ≠ 0 := by
        intro e; rw [sg_many2, e] at hm; cases hm
      rw [slS_app, slS_none h3 h0 h1, ih s2 hn.2 h2, hsl]
      unfold isSl
      rw [decide_eq_false h0]; simp
    · rw [if_neg hm] at h
      obtain ⟨c, s2, rfl, h1, h2⟩ := h
      rw [show c :: s2 = [c] ++ s2 from rfl, slS_app, ih s2 hn.2 h2, hsl]
      congr 1
      by_cases h0 : x.kind = 0
      · unfold Rg.sg at h1
        rw [if_pos h0] at h1
        have hc : c.toNat = x.c := by simpa [addS, noneS] using h1
        unfold slS isSl
        rw [decide_eq_true h0, Bool.true_and, ← hc]
        by_cases hq : c = 47
        · subst hq; rfl
        · have : ¬ c.toNat = 47 := fun e => hq (UInt8.toNat_inj.1 e)
          rw [decide_eq_false this]
          simp [hq]
      · have := slS_none (s := [c]) h3 h0 (by intro d hd; simp at hd; subst hd; exact h1)
        rw [this]
        unfold isSl
        rw [decide_eq_false h0]; rfl
theorem parts_slash {p s : L8} {L : List Rg} (hp : p.length ≤ 100) (hR : readR p = some L) (hm : matchP p s = true) : has3 L = true ∨ slS s = slN L := by
  have hr : readP p = some (L.map Rg.sg) := by rw [readP_R, if_pos hp, hR]; rfl
  unfold matchP at hm
  rw [hr] at hm
  have hL := (match_iff (readP_kind hr).1 s).1 hm
  cases h : has3 L with
  | true => exact .inl rfl
  | false => exact .inr (parts_count L s h hL)
theorem slN_snoc {L : List Rg} {k : Nat} {x : Rg} (h : L[k]? = some x) : slN (L.take (k + 1)) = slN (L.take k) + (if isSl x then 1 else 0) := by
  rw [List.take_add_one, h]
  unfold slN
  simp only [Option.toList_some, List.filter_append, List.length_append]
  congr 1
  rw [List.filter_cons]
  split <;> simp
theorem slS_snoc {s : L8} {k : Nat} (h : k < s.length) : slS (s.take (k + 1)) = slS (s.take k) + (if nb s k = 47 then 1 else 0) := by
  obtain ⟨c, hc, hn⟩ := take_nb h
  rw [hc, slS_app, ← hn]
  congr 1
  unfold slS
  by_cases e : c = 47
  · subst e; rfl
  · have : ¬ c.toNat = 47 := fun q => e (UInt8.toNat_inj.1 q)
    rw [if_neg this]; simp [e]
theorem has3_snoc {L : List Rg} {k : Nat} {x : Rg} (h : L[k]? = some x) : has3 (L.take (k + 1)) = (has3 (L.take k) || decide (x.kind = 3)) := by
  rw [List.take_add_one, h]
  unfold has3
  simp
theorem slN_le (L : List Rg) : slN L ≤ L.length := by unfold slN; exact List.length_filter_le _ _
theorem slS_le (s : L8) : slS s ≤ s.length := by unfold slS; exact List.length_filter_le _ _
end Go.Proofs.YtokocfoeohddfaaDoor.Pa
