/- path: the document's Less, Under, Rel, Common. (A template.) -/
import Derived.Test.YteimbdbnipfmkaaPaRParts
namespace Go.Proofs.Yteimbdbnipfmkaa.Pa
open Go.RowKit
set_option linter.unusedVariables false
set_option linter.unusedSimpArgs false
set_option maxRecDepth 1000000

def lexp : List L8 → List L8 → Bool
  | [], [] => false
  | [], _ :: _ => true
  | _ :: _, [] => false
  | x :: a, y :: b => if x = y then lexp a b else Op.bytesLess x y
theorem bl_nil (y : UInt8) (b : L8) : Op.bytesLess [] (y :: b) = true := by simp [Op.bytesLess]
theorem bl_nil2 (x : UInt8) (a : L8) : Op.bytesLess (x :: a) [] = false := by simp [Op.bytesLess]
theorem bl_cons (x y : UInt8) (a b : L8) : Op.bytesLess (x :: a) (y :: b) = if x = y then Op.bytesLess a b else decide (x.toNat < y.toNat) := by
  simp only [Op.bytesLess]
  by_cases h : x = y
  · subst h; simp
  · rw [if_neg h]
    have : x.toNat ≠ y.toNat := fun e => h (UInt8.toNat_inj.1 e)
    by_cases h2 : x.toNat < y.toNat
    · simp [h2, UInt8.lt_iff_toNat_lt]
    · have h3 : y.toNat < x.toNat := by omega
      simp [h2, UInt8.lt_iff_toNat_lt, h3, h]
theorem lexp_cut (a b : L8) : lexp (cut a) (cut b) = ltR a b := by
  induction a generalizing b with
  | nil =>
    cases b with
    | nil => rfl
    | cons y b =>
      by_cases hy : y = 47
      · subst hy
        rw [hd_slash, show cut ([] : L8) = [[]] from rfl, cut_hd b]
        simp [lexp, ltR]
      · obtain ⟨u, t, e⟩ := hd_other b hy
        rw [e, show cut ([] : L8) = [[]] from rfl]
        simp [lexp, ltR, bl_nil]
  | cons x a ih =>
    cases b with
    | nil =>
      by_cases hx : x = 47
      · subst hx
        rw [hd_slash, show cut ([] : L8) = [[]] from rfl, cut_hd a]
        simp [lexp, ltR]
      · obtain ⟨u, t, e⟩ := hd_other a hx
        rw [e, show cut ([] : L8) = [[]] from rfl]
        simp [lexp, ltR, bl_nil2]
    | cons y b =>
      have ih := ih b
      by_cases hx : x = 47
      · subst hx
        by_cases hy : y = 47
        · subst hy
          rw [hd_slash, hd_slash]
          simp [lexp, ltR, ih]
        · obtain ⟨u, t, e⟩ := hd_other b hy
          rw [e, hd_slash]
          have : rk 47 < rk y := by
            have h1 : rk 47 = 1 := by simp [rk]
            have h2 : rk y = 2 + (y.toNat : Int) := by simp [rk, hy]
            omega
          have hy2 : ¬ (47 : UInt8) = y := fun h => hy h.symm
          simp [lexp, ltR, bl_nil, this, hy2]
      · by_cases hy : y = 47
        · subst hy
          obtain ⟨u, t, e⟩ := hd_other a hx
          rw [e, hd_slash]
          have : ¬ rk x < rk 47 := by
            have h1 : rk 47 = 1 := by simp [rk]
            have h2 : rk x = 2 + (x.toNat : Int) := by simp [rk, hx]
            omega
          simp [lexp, ltR, bl_nil2, this, hx]
        · have h1 : rk x = 2 + (x.toNat : Int) := by simp [rk, hx]
          have h2 : rk y = 2 + (y.toNat : Int) := by simp [rk, hy]
          rw [cut, if_neg hx, cut, if_neg hy]
          rw [cut_hd a, cut_hd b] at ih
          simp only [lexp] at ih ⊢
          by_cases hxy : x = y
          · subst hxy
            simp only [ltR, if_true]
            rw [← ih]
            by_cases hh : (cut a).headD [] = (cut b).headD []
            · rw [if_pos (by rw [hh]), if_pos hh]
            · rw [if_neg (by simpa using hh), if_neg hh, bl_cons, if_pos rfl]
          · rw [if_neg (by simp [hxy]), bl_cons, if_neg hxy]
            simp only [ltR, if_neg hxy]
            apply decide_eq_decide.2
            omega
theorem lexp_parts (a b : L8) : lexp (parts a) (parts b) = lessB a b := by
  rw [less_ltR]
  unfold parts
  by_cases ha : a = []
  · subst ha
    rw [if_pos rfl]
    by_cases hb : b = []
    · subst hb; rfl
    · rw [if_neg hb, cut_hd b]
      cases b with
      | nil => exact absurd rfl hb
      | cons y b => rfl
  · rw [if_neg ha]
    by_cases hb : b = []
    · subst hb
      rw [if_pos rfl, cut_hd a]
      cases a with
      | nil => exact absurd rfl ha
      | cons x a => rfl
    · rw [if_neg hb]; exact lexp_cut a b
theorem lexp_at {xs ys : List L8} {k : Nat} (h : ∀ j, j < k → xs[j]? = ys[j]?) (hx : k ≤ xs.length) (hy : k ≤ ys.length) :
    lexp xs ys = lexp (xs.drop k) (ys.drop k) := by
  induction k generalizing xs ys with
  | zero => rfl
  | succ k ih =>
    cases xs with
    | nil => simp at hx
    | cons x xs =>
      cases ys with
      | nil => simp at hy
      | cons y ys =>
        have h0 : x = y := by simpa using h 0 (by omega)
        subst h0
        simp only [lexp, if_true, List.drop_succ_cons]
        exact ih (fun j hj => by simpa using h (j + 1) (by omega)) (by simpa using hx) (by simpa using hy)
theorem drop_at {xs : List L8} {k : Nat} {x : L8} (h : xs[k]? = some x) : xs.drop k = x :: xs.drop (k + 1) := by
  obtain ⟨h1, h2⟩ := List.getElem?_eq_some_iff.1 h
  rw [← h2, ← List.drop_eq_getElem_cons h1]

set_option maxHeartbeats 8000000 in
theorem rless_any (a b : L8) (w : World) (ha : a.length ≤ 1048576) (hb : b.length ≤ 1048576) :
    Calls Try.prog 30 #[.string (mk a), .string (mk b)] w fun e w' => e = .returned (.bool (lessB a b)) ∧ Below w.heap.size w w' := by
  obtain ⟨R, hR⟩ : ∃ R, R = lessB a b := ⟨_, rfl⟩
  rw [← hR]
  rw [← lexp_parts] at hR
  have HS1 := Lib.hid (rsplit_any a w (by omega))
  have HS2 := Lib.hid (fun W => rsplit_any b W (by omega))
  obtain ⟨n, hn⟩ : ∃ n, n = (parts a).length := ⟨_, rfl⟩
  obtain ⟨m, hm⟩ : ∃ m, m = (parts b).length := ⟨_, rfl⟩
  have hna := parts_len a
  have hmb := parts_len b
  have hnb : n ≤ 1048577 := by omega
  have hmm : m ≤ 1048577 := by omega
  have HN := Lib.hid hn
  have HM := Lib.hid hm
  have HR := Lib.hid hR
  clear hR hn hm hna hmb
  go_enter Try.func30, Try.ntmps30
  go_wp2_with (first
    | (go_at_call 14; with_reducible refine HS1.out.mono ?_; rintro e w1 ⟨v1, rfl, hO, hb⟩; obtain ⟨a1, c1, e1⟩ := hO.slice; rw [← HN.out] at e1; have HT0 := Lib.hid hO.txt; have HB1 := Lib.hid hb; clear hO hb; subst e1)
    | (go_at_call 14; refine (HS2.out _).mono ?_; rintro e w2 ⟨v2, rfl, hO, hb⟩; obtain ⟨a2, c2, e2⟩ := hO.slice; rw [← HM.out] at e2; have HT2 := Lib.hid hO.txt; have HT1 := Lib.hid (HT0.out.later hb); have HB : Hid (Below w.heap.size w w2) := HB1.out.trans (hb.mono HB1.out.size); clear hO hb; subst e2))
  go_loopw [7] (fun c wr => ∃ k : Nat, c = .int .i64 k ∧ k ≤ n ∧ k ≤ m ∧ Hid (∀ j, j < k → (parts a)[j]? = (parts b)[j]?) ∧ Hid (Drew w2 wr)) (fun c _ => n - (intOf c).toNat)
  case atStart => exact ⟨0, rfl, Nat.zero_le _, Nat.zero_le _, (fun j hj => by omega), Drew.refl _⟩
  case round =>
    obtain ⟨k, rfl, hk1, hk2, HS, HD⟩ := hrel
    have HBR : Hid (Below w.heap.size w wr) := HB.out.trans (HD.out.below.mono HB.out.size)
    have HLA : Hid (R = lexp ((parts a).drop k) ((parts b).drop k)) := by
      show _ = _; rw [HR.out]; exact lexp_at HS.out (by have := HN.out; omega) (by have := HM.out; omega)
    by_cases h1 : k < n
    · have hI1 : (k : Int) < (n : Int) := by omega
      obtain ⟨x, hx⟩ : ∃ x, (parts a)[k]? = some x := ⟨_, List.getElem?_eq_getElem (by rw [← HN.out]; exact h1)⟩
      by_cases h2 : k < m
      · have hI2 : (k : Int) < (m : Int) := by omega
        obtain ⟨y, hy⟩ : ∃ y, (parts b)[k]? = some y := ⟨_, List.getElem?_eq_getElem (by rw [← HM.out]; exact h2)⟩
        obtain ⟨a1', c1', e1, t1⟩ := HT1.out
        obtain ⟨a2', c2', e2, t2⟩ := HT2.out
        obtain ⟨g1, o1, ea1, z1⟩ := t1 (by intro e; rw [e] at hx; simp at hx)
        obtain ⟨g2, o2, ea2, z2⟩ := t2 (by intro e; rw [e] at hy; simp at hy)
        have d1 := cell_later HD.out.below (z1 k x hx)
        have d2 := cell_later HD.out.below (z2 k y hy)
        rw [← HN.out] at e1
        rw [← HM.out] at e2
        simp only [Value.slice.injEq] at e1 e2
        obtain ⟨rfl, -, rfl⟩ := e1
        obtain ⟨rfl, -, rfl⟩ := e2
        subst ea1
        subst ea2
        have HX := Lib.hid hx
        have HY := Lib.hid hy
        clear z1 z2 t1 t2 hx hy
        by_cases hxy : x = y
        · have hq := eqTT hxy
          have HS2' : Hid (∀ j, j < k + 1 → (parts a)[j]? = (parts b)[j]?) := by
            intro j hj
            rcases Nat.lt_or_ge j k with h | h
            · exact HS.out j h
            · have : j = k := by omega
              subst this; rw [HX.out, HY.out, hxy]
          clear hxy
          go_wp2
          go_quiet (fail)
          go_wp2
          go_roundw
          case rel => exact ⟨k + 1, by go_num, by omega, by omega, HS2', HD.out.more _⟩
          case measure => simp [intOf]; omega
        · have hq := eqFF hxy
          have HF : Hid (R = Op.bytesLess (mk x).toList (mk y).toList) := by
            show _ = _
            rw [HLA.out, drop_at HX.out, drop_at HY.out, mk_toList, mk_toList]
            simp [lexp, hxy]
          clear hxy
          go_wp2
          go_quiet (fail)
          go_wp2
          go_quiet (fail)
          go_wp2
          go_ret
          exact ⟨by rw [HF.out]; rfl, below_drewN (below_drewN HBR.out _) _⟩
      · have hI2 : ¬ (k : Int) < (m : Int) := by omega
        have HF : Hid (R = false) := by
          show _ = _
          have e2 : (parts b).drop k = [] := List.drop_eq_nil_of_le (by have := HM.out; omega)
          rw [HLA.out, e2, drop_at hx]; rfl
        have hI3 : ¬ (n : Int) < (m : Int) := by omega
        clear hx
        go_wp2
        go_ret
        exact ⟨by rw [HF.out]; rfl, HBR.out⟩
    · have hI1 : ¬ (k : Int) < (n : Int) := by omega
      by_cases h2 : n < m
      · have hI3 : (n : Int) < (m : Int) := by omega
        have HF : Hid (R = true) := by
          show _ = _
          have e1 : (parts a).drop k = [] := List.drop_eq_nil_of_le (by have := HN.out; omega)
          rw [HLA.out, e1]
          obtain ⟨y, hy⟩ : ∃ y, (parts b)[k]? = some y := ⟨_, List.getElem?_eq_getElem (by rw [← HM.out]; omega)⟩
          rw [drop_at hy]; rfl
        go_wp2
        go_ret
        exact ⟨by rw [HF.out]; rfl, HBR.out⟩
      · have hI3 : ¬ (n : Int) < (m : Int) := by omega
        have HF : Hid (R = false) := by
          show _ = _
          have e1 : (parts a).drop k = [] := List.drop_eq_nil_of_le (by have := HN.out; omega)
          have e2 : (parts b).drop k = [] := List.drop_eq_nil_of_le (by have := HM.out; omega)
          rw [HLA.out, e1, e2]; rfl
        go_wp2
        go_ret
        exact ⟨by rw [HF.out]; rfl, HBR.out⟩

theorem pre_false {xs ys : List L8} {k : Nat} {y : L8} (hy : ys[k]? = some y) (h : xs[k]? ≠ some y) : ¬ ys <+: xs := by
  rintro ⟨m, rfl⟩
  apply h
  rw [List.getElem?_append_left (List.getElem?_eq_some_iff.1 hy).1]; exact hy
theorem pre_true {xs ys : List L8} (h : ∀ j, j < ys.length → ys[j]? = xs[j]?) (hl : ys.length ≤ xs.length) : ys <+: xs := by
  refine ⟨xs.drop ys.length, List.ext_getElem? (fun j => ?_)⟩
  rcases Nat.lt_or_ge j ys.length with g | g
  · rw [List.getElem?_append_left g]; exact h j g
  · rw [List.getElem?_append_right g, List.getElem?_drop]; congr 1; omega
set_option maxHeartbeats 8000000 in
theorem runder_any (p top : L8) (w : World) (hp : p.length ≤ 1048576) (ht : top.length ≤ 1048576) :
    Calls Try.prog 32 #[.string (mk p), .string (mk top)] w fun e w' => e = .returned (.bool (underB p top)) ∧ Below w.heap.size w w' := by
  obtain ⟨R, hR⟩ : ∃ R, R = underB p top := ⟨_, rfl⟩
  rw [← hR]
  have hu := under_parts p top
  rw [← hR] at hu
  have HU := Lib.hid hu
  have HS1 := Lib.hid (rsplit_any p w (by omega))
  have HS2 := Lib.hid (fun W => rsplit_any top W (by omega))
  obtain ⟨n, hn⟩ : ∃ n, n = (parts p).length := ⟨_, rfl⟩
  obtain ⟨m, hm⟩ : ∃ m, m = (parts top).length := ⟨_, rfl⟩
  have hna := parts_len p
  have hmb := parts_len top
  have hnb : n ≤ 1048577 := by omega
  have hmm : m ≤ 1048577 := by omega
  have HN := Lib.hid hn
  have HM := Lib.hid hm
  clear hR hu hn hm hna hmb
  go_enter Try.func32, Try.ntmps32
  go_wp2_with (first
    | (go_at_call 14; with_reducible refine HS1.out.mono ?_; rintro e w1 ⟨v1, rfl, hO, hb⟩; obtain ⟨a1, c1, e1⟩ := hO.slice; rw [← HN.out] at e1; have HT0 := Lib.hid hO.txt; have HB1 := Lib.hid hb; clear hO hb; subst e1)
    | (go_at_call 14; refine (HS2.out _).mono ?_; rintro e w2 ⟨v2, rfl, hO, hb⟩; obtain ⟨a2, c2, e2⟩ := hO.slice; rw [← HM.out] at e2; have HT2 := Lib.hid hO.txt; have HT1 := Lib.hid (HT0.out.later hb); have HB : Hid (Below w.heap.size w w2) := HB1.out.trans (hb.mono HB1.out.size); clear hO hb; subst e2))
  go_loopw [7] (fun c wr => ∃ k : Nat, c = .int .i64 k ∧ k ≤ n ∧ k ≤ m ∧ Hid (∀ j, j < k → (parts top)[j]? = (parts p)[j]?) ∧ Hid (Drew w2 wr)) (fun c _ => m - (intOf c).toNat)
  case atStart => exact ⟨0, rfl, Nat.zero_le _, Nat.zero_le _, (fun j hj => by omega), Drew.refl _⟩
  case round =>
    obtain ⟨k, rfl, hk1, hk2, HS, HD⟩ := hrel
    have HBR : Hid (Below w.heap.size w wr) := HB.out.trans (HD.out.below.mono HB.out.size)
    by_cases h2 : k < m
    · have hI2 : (k : Int) < (m : Int) := by omega
      obtain ⟨y, hy⟩ : ∃ y, (parts top)[k]? = some y := ⟨_, List.getElem?_eq_getElem (by rw [← HM.out]; exact h2)⟩
      by_cases h1 : k < n
      · have hI1 : decide ((n : Int) ≤ (k : Int)) = false := decide_eq_false (by omega)
        have hI1n : decide (n ≤ k) = false := decide_eq_false (by omega)
        have hI1' : ¬ (n : Int) ≤ (k : Int) := by omega
        have hI1'' : (k : Int) < (n : Int) := by omega
        obtain ⟨x, hx⟩ : ∃ x, (parts p)[k]? = some x := ⟨_, List.getElem?_eq_getElem (by rw [← HN.out]; exact h1)⟩
        obtain ⟨a1', c1', e1, t1⟩ := HT1.out
        obtain ⟨a2', c2', e2, t2⟩ := HT2.out
        obtain ⟨g1, o1, ea1, z1⟩ := t1 (by intro e; rw [e] at hx; simp at hx)
        obtain ⟨g2, o2, ea2, z2⟩ := t2 (by intro e; rw [e] at hy; simp at hy)
        have d1 := cell_later HD.out.below (z1 k x hx)
        have d2 := cell_later HD.out.below (z2 k y hy)
        rw [← HN.out] at e1
        rw [← HM.out] at e2
        simp only [Value.slice.injEq] at e1 e2
        obtain ⟨rfl, -, rfl⟩ := e1
        obtain ⟨rfl, -, rfl⟩ := e2
        subst ea1
        subst ea2
        have HX := Lib.hid hx
        have HY := Lib.hid hy
        clear z1 z2 t1 t2 hx hy
        by_cases hxy : x = y
        · have hq := eqTT hxy
          have HS2' : Hid (∀ j, j < k + 1 → (parts top)[j]? = (parts p)[j]?) := by
            intro j hj
            rcases Nat.lt_or_ge j k with h | h
            · exact HS.out j h
            · have : j = k := by omega
              subst this; rw [HX.out, HY.out, hxy]
          clear hxy
          go_wp2
          go_quiet (fail)
          go_wp2
          go_roundw
          case rel => exact ⟨k + 1, by go_num, by omega, by omega, HS2', HD.out.more _⟩
          case measure => simp [intOf]; omega
        · have hq := eqFF hxy
          have HF : Hid (R = false) := by
            show _ = _
            cases hb : R with
            | false => rfl
            | true => exact absurd (HU.out.1 hb) (pre_false HY.out (by rw [HX.out]; intro e; injection e with e; exact hxy e))
          clear hxy
          go_wp2
          go_quiet (fail)
          go_wp2
          go_ret
          exact ⟨by rw [HF.out]; rfl, below_drewN HBR.out _⟩
      · have hI1 : decide ((n : Int) ≤ (k : Int)) = true := decide_eq_true (by omega)
        have hI1n : decide (n ≤ k) = true := decide_eq_true (by omega)
        have hI1' : (n : Int) ≤ (k : Int) := by omega
        have HF : Hid (R = false) := by
          show _ = _
          cases hb : R with
          | false => rfl
          | true => exact absurd (HU.out.1 hb) (pre_false hy (by rw [List.getElem?_eq_none (by have := HN.out; omega)]; simp))
        clear hy
        go_wp2
        go_quiet (fail)
        go_wp2
        go_ret
        exact ⟨by rw [HF.out]; rfl, below_drewN HBR.out _⟩
    · have hI2 : ¬ (k : Int) < (m : Int) := by omega
      have HF : Hid (R = true) := HU.out.2 (pre_true (fun j hj => HS.out j (by have := HM.out; omega)) (by have := HM.out; have := HN.out; omega))
      go_wp2
      go_ret
      exact ⟨by rw [HF.out]; rfl, HBR.out⟩

theorem glue_of (W : World) (v : Value) (l : L8) (qs : List L8) (hl : l.length ≤ 1048576) (h : Txt W v qs) (hq : ∃ d m, parts l = d ++ qs ++ m) :
    Calls Try.prog 40 #[v] W fun e w' => e = .returned (.string (mk (glue qs))) ∧ Below W.heap.size W w' := by
  obtain ⟨d, m, e⟩ := hq
  have hgl : (glue (parts l)).length = l.length := by rw [glue_parts]
  have hpl := parts_len l
  have hql : qs.length ≤ (parts l).length := by rw [e]; simp; omega
  have h1 : ∀ k, (glue (qs.take k)).length ≤ l.length := by
    intro k
    have g1 := glue_sub (List.take_prefix k qs)
    have g2 := glue_suf (d := d) (m := qs)
    have g3 := glue_sub (d := d ++ qs) (g := parts l) (by rw [e]; exact List.prefix_append _ _)
    omega
  exact glue_any v qs W h (fun k => by have := h1 k; omega) (by omega) (fun p hp => by have := part_len l p (by rw [e]; simp [hp]); omega)
set_option maxHeartbeats 8000000 in
theorem rrel_any (p top : L8) (w : World) (hp : p.length ≤ 1048576) (ht : top.length ≤ 1048576) :
    Calls Try.prog 28 #[.string (mk p), .string (mk top)] w fun e w' => e = .returned (.tuple #[.string (mk (relL p top)), .bool (underB p top)]) ∧ Below w.heap.size w w' := by
  have HU := Lib.hid (runder_any p top w hp ht)
  cases eu : underB p top
  · have hr : relL p top = [] := by unfold relL; rw [if_neg (by rw [eu]; simp)]
    rw [hr]
    rw [eu] at HU
    clear eu hr
    go_enter Try.func28, Try.ntmps28
    go_wp2_with (go_at_call 32; refine HU.out.mono ?_; rintro e w1 ⟨rfl, hb⟩; have HB := Lib.hid hb; clear hb)
    go_ret2
    exact ⟨rfl, HB.out⟩
  · have hr := rel_parts eu
    rw [eu] at HU
    have hpre := (under_parts p top).1 eu
    have hle : (parts top).length ≤ (parts p).length := hpre.length_le
    have HS1 := Lib.hid (fun W => rsplit_any p W (by omega))
    have HS2 := Lib.hid (fun W => rsplit_any top W (by omega))
    obtain ⟨n, hn⟩ : ∃ n, n = (parts p).length := ⟨_, rfl⟩
    obtain ⟨m, hm⟩ : ∃ m, m = (parts top).length := ⟨_, rfl⟩
    have HN := Lib.hid hn
    have HM := Lib.hid hm
    rw [← hm] at hr
    have HG : Hid (∀ W v, Txt W v ((parts p).drop m) → Calls Try.prog 40 #[v] W fun e w' => e = .returned (.string (mk (relL p top))) ∧ Below W.heap.size W w') := by
      intro W v h
      rw [hr]
      exact glue_of W v p _ hp h ⟨(parts p).take m, [], by simp⟩
    have HRT : Hid (∀ W b a c, SOwn W b (.slice a n c) (parts p) → ∃ a', (∀ W, (Instr.slice 24 (.slice a n c) (some (.int .i64 (m : Int))) none none).run Try.prog W = .ok (.slice a' (n - m) (c - m)) W) ∧ Txt W (.slice a' (n - m) (c - m)) ((parts p).drop m)) := fun W b a c h => run_tail h m (by omega)
    have hnm : m ≤ n := by omega
    clear hr hpre hle hn hm eu
    generalize relL p top = R at *
    go_enter Try.func28, Try.ntmps28
    go_wp2_with (first
      | (go_at_call 32; refine HU.out.mono ?_; rintro e w1 ⟨rfl, hb⟩; have HB1 := Lib.hid hb; clear hb)
      | (go_at_call 14; with_reducible refine (HS1.out _).mono ?_; rintro e w2 ⟨v2, rfl, hO, hb⟩; obtain ⟨a2, c2, e2⟩ := hO.slice; rw [← HN.out] at e2; subst e2; obtain ⟨a', hsl, ht⟩ := HRT.out _ _ _ _ hO; have HT := Lib.hid ht; have HB2 := Lib.hid hb; clear hO hb ht)
      | (go_at_call 14; refine (HS2.out _).mono ?_; rintro e w3 ⟨v3, rfl, hO, hb⟩; obtain ⟨a3, c3, e3⟩ := hO.slice; rw [← HM.out] at e3; have HT2 := Lib.hid (HT.out.later hb); have HB3 := Lib.hid hb; clear hO hb; subst e3)
      | (go_at_call 40; refine (HG.out _ _ HT2.out).mono ?_; rintro e w4 ⟨rfl, hb⟩; have HB4 := Lib.hid hb; clear hb))
    go_ret2
    exact ⟨rfl, HB1.out.trans ((HB2.out.trans ((HB3.out.trans (HB4.out.mono HB3.out.size)).mono HB2.out.size)).mono HB1.out.size)⟩
end Go.Proofs.Yteimbdbnipfmkaa.Pa
