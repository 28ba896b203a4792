/- path: parts of texts, in plain lists of bytes. (A template: seatgen.py fills it.) -/
import Derived.Test.YtokocfoeohddfaaGreatDoorRows
import Derived.Laws.RangeAny
import Derived.Lib.Strings
namespace Go.Proofs.YtokocfoeohddfaaGreatDoor.Pa
set_option linter.unusedVariables false

abbrev L8 := List UInt8
def mk (l : L8) : ByteArray := ⟨l.toArray⟩
theorem mk_data (s : ByteArray) : mk s.data.toList = s := by cases s; simp [mk]
theorem mk_list (l : L8) : (mk l).data.toList = l := by simp [mk]
theorem mk_size (l : L8) : (mk l).size = l.length := by simp [mk, ByteArray.size]
theorem mk_inj {a b : L8} (h : mk a = mk b) : a = b := by have := congrArg (fun s : ByteArray => s.data.toList) h; simpa [mk] using this
theorem mk_get (l : L8) (i : Nat) (h : i < (mk l).size) : (mk l)[i]'h = l[i]'(by rw [mk_size] at h; exact h) := by simp [mk, ByteArray.getElem_eq_getElem_data]
theorem mk_extract (l : L8) (a b : Nat) : (mk l).extract a b = mk ((l.drop a).take (b - a)) := by
  have h : ((mk l).extract a b).data = (mk ((l.drop a).take (b - a))).data := by
    rw [ByteArray.data_extract]
    simp [mk, List.extract_eq_take_drop]
  generalize (mk l).extract a b = x at h
  cases x; simp only at h; rw [h]

/-- what stands between the slashes -/
def cut : L8 → List L8
  | [] => [[]]
  | c :: l => if c = 47 then [] :: cut l else (c :: (cut l).headD []) :: (cut l).tail
theorem cut_ne (l : L8) : cut l ≠ [] := by cases l with | nil => simp [cut] | cons c l => rw [cut]; split <;> simp
def parts (l : L8) : List L8 := if l = [] then [] else cut l
def glue : List L8 → L8
  | [] => []
  | [p] => p
  | p :: q :: r => p ++ 47 :: glue (q :: r)
theorem cut_plain {a : L8} (h : ∀ c ∈ a, c ≠ 47) : cut a = [a] := by
  induction a with
  | nil => rfl
  | cons c a ih => rw [cut, if_neg (h c (by simp)), ih (fun x hx => h x (by simp [hx]))]; rfl
theorem cut_slash {a b : L8} (h : ∀ c ∈ a, c ≠ 47) : cut (a ++ 47 :: b) = a :: cut b := by
  induction a with
  | nil => rw [List.nil_append, cut, if_pos rfl]
  | cons c a ih => rw [List.cons_append, cut, if_neg (h c (by simp)), ih (fun x hx => h x (by simp [hx]))]; rfl
theorem glue_cons (p : L8) {r : List L8} (h : r ≠ []) : glue (p :: r) = p ++ 47 :: glue r := by
  cases r with
  | nil => exact absurd rfl h
  | cons q r => rfl
theorem glue_cut (l : L8) : glue (cut l) = l := by
  induction l with
  | nil => rfl
  | cons c l ih =>
    rw [cut]
    split
    · next h => subst h; rw [glue_cons _ (cut_ne l), ih]; rfl
    · rcases hc : cut l with _ | ⟨p, r⟩
      · exact absurd hc (cut_ne l)
      · rw [hc] at ih
        cases r with
        | nil => simp only [glue] at ih ⊢; simp [ih, glue]
        | cons q r => simp only [List.headD_cons, List.tail_cons]; rw [glue] at ih ⊢; rw [List.cons_append, ih]
theorem cut_free (l : L8) : ∀ p ∈ cut l, ∀ c ∈ p, c ≠ 47 := by
  induction l with
  | nil => simp [cut]
  | cons c l ih =>
    rw [cut]
    split
    · intro p hp; rcases List.mem_cons.1 hp with rfl | hp
      · simp
      · exact ih p hp
    · next hc =>
      intro p hp
      rcases List.mem_cons.1 hp with rfl | hp
      · intro x hx
        rcases List.mem_cons.1 hx with rfl | hx
        · exact hc
        · rcases hl : cut l with _ | ⟨q, r⟩
          · rw [hl] at hx; simp at hx
          · rw [hl] at hx; exact ih q (by rw [hl]; simp) x (by simpa using hx)
      · exact ih p (List.mem_of_mem_tail hp)
theorem cut_glue {ps : List L8} (h0 : ps ≠ []) (h : ∀ p ∈ ps, ∀ c ∈ p, c ≠ 47) : cut (glue ps) = ps := by
  induction ps with
  | nil => exact absurd rfl h0
  | cons p r ih =>
    by_cases hr : r = []
    · subst hr; exact cut_plain (h p (by simp))
    · rw [glue_cons p hr, cut_slash (h p (by simp)), ih hr (fun q hq => h q (by simp [hq]))]
theorem cut_length (l : L8) : (cut l).length = l.count 47 + 1 := by
  induction l with
  | nil => rfl
  | cons c l ih =>
    rw [cut]
    split
    · next h => subst h; rw [List.length_cons, ih, List.count_cons_self]
    · next h =>
      rw [List.length_cons, List.length_tail, ih, List.count_cons_of_ne (fun e => h e)]; omega
def depth (l : L8) : Nat := (parts l).length
theorem depth_eq (l : L8) : depth l = if l = [] then 0 else l.count 47 + 1 := by
  unfold depth parts
  split
  · rfl
  · exact cut_length l

/-- the k-th part begins at a place, and these are ahead -/
def At (l : L8) (k f : Nat) : Prop := f ≤ l.length ∧ k < (cut l).length ∧ (cut l).drop k = cut (l.drop f)
theorem At.zero (l : L8) : At l 0 0 := ⟨Nat.zero_le _, by have := cut_length l; omega, rfl⟩
def Free (l : L8) (f i : Nat) : Prop := ∀ j, f ≤ j → j < i → l[j]? ≠ some 47
theorem Free.seg {l : L8} {f i : Nat} (h : Free l f i) : ∀ c ∈ (l.drop f).take (i - f), c ≠ 47 := by
  intro c hc e
  subst e
  obtain ⟨j, hj, hjc⟩ := List.getElem_of_mem hc
  rw [List.length_take, List.length_drop] at hj
  have h1 : l[f + j]? = some 47 := by
    rw [← hjc, List.getElem_take, List.getElem_drop]
    rw [List.getElem?_eq_getElem (by omega)]
  exact h (f + j) (by omega) (by omega) h1
theorem At.slash {l : L8} {k f i : Nat} (h : At l k f) (hf : Free l f i) (hi : f ≤ i) (hs : l[i]? = some 47) : (cut l)[k]? = some ((l.drop f).take (i - f)) ∧ At l (k + 1) (i + 1) := by
  obtain ⟨h1, h2, h3⟩ := h
  have hlt : i < l.length := by
    rcases Nat.lt_or_ge i l.length with h | h
    · exact h
    · rw [List.getElem?_eq_none h] at hs; cases hs
  have e : l.drop f = (l.drop f).take (i - f) ++ 47 :: l.drop (i + 1) := by
    have e1 : (l.drop f).drop (i - f) = 47 :: l.drop (i + 1) := by
      rw [List.drop_drop, show f + (i - f) = i from by omega, List.drop_eq_getElem_cons hlt]
      rw [List.getElem?_eq_getElem hlt] at hs
      injection hs with hs
      rw [hs]
    rw [← e1, List.take_append_drop]
  have e2 : cut (l.drop f) = (l.drop f).take (i - f) :: cut (l.drop (i + 1)) := by
    conv => lhs; rw [e]
    exact cut_slash hf.seg
  rw [e2] at h3
  have h4 : (cut l)[k]? = some ((l.drop f).take (i - f)) := by
    have := congrArg (fun x : List L8 => x[0]?) h3
    simpa using this
  have h5 : (cut l).drop (k + 1) = cut (l.drop (i + 1)) := by
    have := congrArg List.tail h3
    simpa [List.tail_drop] using this
  refine ⟨h4, hlt, ?_, h5⟩
  rcases Nat.lt_or_ge (k + 1) (cut l).length with h | h
  · exact h
  · rw [List.drop_eq_nil_of_le h] at h5; exact absurd h5.symm (cut_ne _)
theorem At.last {l : L8} {k f : Nat} (h : At l k f) (hf : Free l f l.length) : (cut l)[k]? = some (l.drop f) ∧ (cut l).length = k + 1 := by
  obtain ⟨h1, h2, h3⟩ := h
  have e : (l.drop f).take (l.length - f) = l.drop f := List.take_of_length_le (by rw [List.length_drop]; omega)
  have hs := hf.seg
  rw [e] at hs
  rw [cut_plain hs] at h3
  have h4 : (cut l)[k]? = some (l.drop f) := by
    have := congrArg (fun x : List L8 => x[0]?) h3
    simpa using this
  have h5 := congrArg List.length h3
  simp at h5
  exact ⟨h4, by omega⟩
theorem Free.step {l : L8} {f i j : Nat} (h : Free l f i) (hj : ∀ x, i ≤ x → x < j → l[x]? ≠ some 47) : Free l f j := by
  intro x h1 h2
  by_cases hx : x < i
  · exact h x h1 hx
  · exact hj x (by omega) h2
theorem Free.empty (l : L8) (f i : Nat) (h : i ≤ f) : Free l f i := fun j h1 h2 => by omega

/-- one sign of a text: a slash is read as one, and nothing else is -/
theorem get_at' (s : ByteArray) (pos : Nat) (h : pos < s.size) : s.get! (pos + 0) = s[pos]'h := by
  show s.get! pos = _
  simp [ByteArray.get!, getElem!_pos, h]
  first | done | rfl
theorem get_bang (s : ByteArray) (i : Nat) (v : UInt8) (h : s.data.toList[i]? = some v) : s.get! i = v := by
  have hlt : i < s.data.toList.length := by
    rcases Nat.lt_or_ge i s.data.toList.length with h1 | h1
    · exact h1
    · rw [List.getElem?_eq_none h1] at h; cases h
  have hlt' : i < s.size := by simpa using hlt
  have e := get_at' s i hlt'
  rw [Nat.add_zero] at e
  obtain ⟨h1, h2⟩ := List.getElem?_eq_some_iff.1 h
  have e3 : s[i]'hlt' = s.data.toList[i]'h1 := by simp [ByteArray.getElem_eq_getElem_data]
  exact e.trans (e3.trans h2)
theorem decode_skip (s : ByteArray) (pos : Nat) (h : pos < s.size) (ha : 128 ≤ (s[pos]'h).toNat) : ∀ x, pos < x → x < pos + (Utf8.decode s pos).2 → 128 ≤ (s.get! x).toNat := by
  intro x h1 h2
  have hn : ¬ (s[pos]'h).toNat < 128 := by omega
  have e1 : pos + 1 = x ∨ pos + 2 = x ∨ pos + 3 = x ∨ pos + 4 ≤ x := by omega
  revert h2
  simp only [Utf8.decode, get_at' s pos h, hn, if_false]
  repeat' split
  all_goals intro h2
  all_goals (simp only at h2)
  all_goals first
    | omega
    | (rcases e1 with rfl | rfl | rfl | e1
       all_goals first
        | omega
        | (simp_all [Utf8.isCont]; done)
        | (simp_all; omega))
/-- a whole sign is gone past -/
theorem sign_past (l : L8) (pos : Nat) (h : pos < l.length) : ∃ d, (Utf8.decode (mk l) pos).2 = d + 1 ∧
    ((l[pos]? = some 47 ∧ (Utf8.decode (mk l) pos).1 = 47 ∧ d = 0) ∨ (l[pos]? ≠ some 47 ∧ (Utf8.decode (mk l) pos).1 ≠ 47 ∧ ∀ x, pos ≤ x → x < pos + (d + 1) → l[x]? ≠ some 47)) := by
  have hs : pos < (mk l).size := by rw [mk_size]; exact h
  obtain ⟨v, hv, hg⟩ : ∃ v, l[pos]? = some v ∧ (mk l)[pos]'hs = v := ⟨_, List.getElem?_eq_getElem h, mk_get l pos hs⟩
  rw [hv]
  by_cases ha : ((mk l)[pos]'hs).toNat < 128
  · have e := decode_ascii (mk l) pos hs ha
    rw [hg] at e ha
    refine ⟨0, by rw [e], ?_⟩
    rw [e]
    by_cases h47 : v = 47
    · left
      subst h47
      exact ⟨rfl, rfl, rfl⟩
    · right
      have hne : some v ≠ some 47 := by intro e; injection e with e; exact h47 e
      refine ⟨hne, ?_, ?_⟩
      · intro e2
        apply h47
        exact UInt8.toNat_inj.1 (by simpa using e2)
      · intro x h1 h2
        have : x = pos := by omega
        subst this
        rw [hv]
        exact hne
  · have hh := decode_high (mk l) pos hs (by omega)
    refine ⟨(Utf8.decode (mk l) pos).2 - 1, by omega, .inr ?_⟩
    have h47 : some v ≠ some 47 := by
      intro e; injection e with e
      rw [hg, e] at ha
      exact ha (by decide)
    refine ⟨h47, by omega, ?_⟩
    intro x h1 h2
    by_cases hx : x = pos
    · subst hx; rw [hv]; exact h47
    · intro e
      have h3 := decode_skip (mk l) pos hs (by omega) x (by omega) (by omega)
      have h4 := get_bang (mk l) x 47 (by rw [mk_list]; exact e)
      rw [h4] at h3
      exact absurd h3 (by decide)
end Go.Proofs.YtokocfoeohddfaaGreatDoor.Pa
