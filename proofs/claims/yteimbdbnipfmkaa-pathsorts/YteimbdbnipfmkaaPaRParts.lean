/- path: the document's nought, Right, Base, Parent, Depth. (A template.) -/
import Derived.Test.YteimbdbnipfmkaaPaRGlue
namespace Go.Proofs.Yteimbdbnipfmkaa.Pa
open Go.RowKit
set_option linter.unusedVariables false
set_option linter.unusedSimpArgs false
set_option maxRecDepth 1000000

theorem hel24 : Try.prog.elem 24 = 9 := by kernel_rfl
theorem run_head {w : World} {base : Nat} {a : Option Addr} {n c : Nat} {ps : List L8} (h : SOwn w base (.slice a n c) ps) (m : Nat) (hm : m ≤ ps.length) :
    ∃ a', (∀ W, (Instr.slice 24 (.slice a n c) none (some (.int .i64 (m : Int))) none).run Try.prog W = .ok (.slice a' m c) W) ∧ Txt w (.slice a' m c) (ps.take m) := by
  have key : n = ps.length ∧ ps.length ≤ c ∧ (ps ≠ [] → ∃ g, a = some ⟨g, 0, none⟩ ∧ ∀ (j : Nat) (x : L8), ps[j]? = some x → w.cell? ⟨g, 0 + j, none⟩ = some (.string (mk x))) := by
    rcases h.form with ⟨rfl, e⟩ | ⟨g, cap, e, _, _, hc, _, hx⟩
    · simp only [Value.slice.injEq] at e
      obtain ⟨rfl, rfl, rfl⟩ := e
      exact ⟨rfl, by simp, fun h => absurd rfl h⟩
    · simp only [Value.slice.injEq] at e
      obtain ⟨rfl, rfl, rfl⟩ := e
      exact ⟨rfl, hc, fun _ => ⟨g, rfl, hx⟩⟩
  obtain ⟨rfl, hc, hx⟩ := key
  have hr : ∀ W, (Instr.slice 24 (.slice a ps.length c) none (some (.int .i64 (m : Int))) none).run Try.prog W = .ok (.slice (if c = 0 then a else a.map (·.add (0 * 1))) m c) W := by
    intro W
    have hr := run_slice_h (P := Try.prog) (w := W) 24 a ps.length c (by rw [hel24]; exact Try.underlying24) .i64 m (by omega) (by omega)
    have hsz : (sizeOf (Try.prog.elem 24)).run Try.prog W = .ok 1 W := by rw [hel24]; rfl
    rw [hsz] at hr
    simpa [Result.andThen, sliced] using hr
  refine ⟨_, hr, _, c, by rw [List.length_take, Nat.min_eq_left hm], fun hne => ?_⟩
  have hn0 : ps ≠ [] := by intro e; subst e; simp at hne
  obtain ⟨g, rfl, hcell⟩ := hx hn0
  refine ⟨g, 0, by split <;> simp [Addr.add], fun j x hj => ?_⟩
  rw [List.getElem?_take] at hj
  split at hj
  · exact hcell j x hj
  · cases hj
theorem run_tail {w : World} {base : Nat} {a : Option Addr} {n c : Nat} {ps : List L8} (h : SOwn w base (.slice a n c) ps) (k : Nat) (hk : k ≤ ps.length) :
    ∃ a', (∀ W, (Instr.slice 24 (.slice a n c) (some (.int .i64 (k : Int))) none none).run Try.prog W = .ok (.slice a' (n - k) (c - k)) W) ∧ Txt w (.slice a' (n - k) (c - k)) (ps.drop k) := by
  have key : n = ps.length ∧ ps.length ≤ c ∧ (ps ≠ [] → ∃ g, a = some ⟨g, 0, none⟩ ∧ ∀ (j : Nat) (x : L8), ps[j]? = some x → w.cell? ⟨g, 0 + j, none⟩ = some (.string (mk x))) := by
    rcases h.form with ⟨rfl, e⟩ | ⟨g, cap, e, _, _, hc, _, hx⟩
    · simp only [Value.slice.injEq] at e
      obtain ⟨rfl, rfl, rfl⟩ := e
      exact ⟨rfl, by simp, fun h => absurd rfl h⟩
    · simp only [Value.slice.injEq] at e
      obtain ⟨rfl, rfl, rfl⟩ := e
      exact ⟨rfl, hc, fun _ => ⟨g, rfl, hx⟩⟩
  obtain ⟨rfl, hc, hx⟩ := key
  have hr : ∀ W, (Instr.slice 24 (.slice a ps.length c) (some (.int .i64 (k : Int))) none none).run Try.prog W = .ok (.slice (if c = k then a else a.map (·.add (k * 1))) (ps.length - k) (c - k)) W := by
    intro W
    have hr := run_slice_l (P := Try.prog) (w := W) 24 a ps.length c (by rw [hel24]; exact Try.underlying24) .i64 (k : Int) (by omega) (by omega)
    have hsz : (sizeOf (Try.prog.elem 24)).run Try.prog W = .ok 1 W := by rw [hel24]; rfl
    rw [hsz] at hr
    simp only [Result.andThen, sliced, Int.toNat_natCast] at hr
    exact hr
  refine ⟨_, hr, _, c - k, by rw [List.length_drop], fun hne => ?_⟩
  have hn0 : ps ≠ [] := by intro e; subst e; simp at hne
  have hkl : k < ps.length := by
    rcases Nat.lt_or_ge k ps.length with h | h
    · exact h
    · rw [List.drop_eq_nil_of_le h] at hne; exact absurd rfl hne
  obtain ⟨g, rfl, hcell⟩ := hx hn0
  refine ⟨g, k, ?_, fun j x hj => ?_⟩
  · rw [if_neg (by omega)]
    by_cases h0 : k = 0
    · subst h0; simp [Addr.add]
    · simp [Addr.add, h0]
  · rw [List.getElem?_drop] at hj
    have := hcell _ x hj
    rwa [Nat.zero_add] at this

set_option maxHeartbeats 2000000 in
theorem nought_any (p : L8) (w : World) (hl : p.length ≤ 4611686018427387904) :
    Calls Try.prog 37 #[.string (mk p)] w fun e w' => e = .returned (.bool (decide ((0 : UInt8) ∈ p))) ∧ w = w' := by
  have hs : (mk p).size = p.length := mk_size p
  obtain ⟨R, hR⟩ : ∃ R, R = decide ((0 : UInt8) ∈ p) := ⟨_, rfl⟩
  rw [← hR]
  have HR := Lib.hid hR
  have HS := Lib.hid hs
  clear hR hs
  go_enter Try.func37, Try.ntmps37
  go_wp2
  go_loopw [3] (fun c wr => ∃ k : Nat, c = .int .i64 k ∧ k ≤ p.length ∧ Hid (∀ j, j < k → p[j]? ≠ some 0) ∧ w = wr) (fun c _ => p.length - (intOf c).toNat)
  case atStart => exact ⟨0, rfl, Nat.zero_le _, (fun j hj => by omega), rfl⟩
  case round =>
    obtain ⟨k, rfl, hk, HN, rfl⟩ := hrel
    by_cases hlt : k < p.length
    · have hI : (k : Int) < ((mk p).size : Int) := by have := HS.out; omega
      have hidx := run_at p k hlt
      by_cases h0 : p[k]? = some 0
      · have hb : bt p k = 0 := by rw [bt_of h0]; rfl
        rw [hb] at hidx
        have HF : Hid (R = true) := by show _ = _; rw [HR.out]; exact decide_eq_true (List.mem_of_getElem? h0)
        clear h0 hb hlt
        go_wp2
        go_ret
        exact ⟨by rw [HF.out]; rfl, rfl⟩
      · have hb : ¬ bt p k = 0 := by
          intro e
          apply h0
          rw [List.getElem?_eq_getElem hlt] at h0 ⊢
          rw [bt_of (List.getElem?_eq_getElem hlt)] at e
          congr 1
          exact UInt8.toNat_inj.1 (by have : p[k].toNat = 0 := by omega
                                      rw [this]; rfl)
        have hb2 : (bt p k == 0) = false := by simpa using hb
        have HN2 : Hid (∀ j, j < k + 1 → p[j]? ≠ some 0) := by
          intro j hj
          rcases Nat.lt_or_ge j k with h | h
          · exact HN.out j h
          · have : j = k := by omega
            subst this; exact h0
        generalize bt p k = x at *
        have HLT : Hid (k < p.length) := hlt
        clear h0 hlt
        go_wp2
        go_roundw
        case rel => exact ⟨k + 1, by go_num, by have := HLT.out; omega, HN2, trivial⟩
        case measure => simp [intOf]; have := HLT.out; omega
    · have hI : ¬ (k : Int) < ((mk p).size : Int) := by have := HS.out; omega
      have HF : Hid (R = false) := by
        show _ = _
        rw [HR.out]
        refine decide_eq_false (fun hm => ?_)
        obtain ⟨j, hj, e⟩ := List.getElem_of_mem hm
        exact HN.out j (by omega) (by rw [List.getElem?_eq_getElem hj, e])
      clear hlt
      go_wp2
      go_ret
      exact ⟨by rw [HF.out]; rfl, rfl⟩

theorem right_iff (l : L8) : rightB l = true ↔ ((parts l).length ≤ 12 ∧ l.length ≤ 200 ∧ ∀ p ∈ parts l, skip p = false ∧ refV p = 0) := by
  constructor
  · intro h
    obtain ⟨g, hg, rfl⟩ := right_fine h
    rw [hg.parts]
    exact ⟨hg.few, hg.short, fun p hp => ⟨(hg.may p hp).1, (hg.may p hp).2.1⟩⟩
  · rintro ⟨h1, h2, h3⟩
    have hF : Fine (parts l) := ⟨fun p hp => ⟨(h3 p hp).1, (h3 p hp).2, parts_free l p hp⟩, h1, by rw [glue_parts]; exact h2⟩
    have := hF.right
    rwa [glue_parts] at this
theorem bad_part {p : L8} (h : ¬ (skip p = false ∧ refV p = 0)) : p = [] ∨ p = [46] ∨ p = [46, 46] ∨ 48 < p.length ∨ (0 : UInt8) ∈ p := by
  by_cases h1 : p = []
  · exact .inl h1
  · by_cases h2 : p = [46]
    · exact .inr (.inl h2)
    · right; right
      by_cases h3 : p = [46, 46]
      · exact .inl h3
      · right
        by_cases h4 : 48 < p.length
        · exact .inl h4
        · right
          apply Classical.byContradiction
          intro h5
          exact h ⟨decide_eq_false (fun e => e.elim h1 h2), by unfold refV; rw [if_neg h3, if_neg h5, if_neg h4]⟩
theorem good_part {p : L8} (h : skip p = false ∧ refV p = 0) : p ≠ [] ∧ p ≠ [46] ∧ p ≠ [46, 46] ∧ ¬ 48 < p.length ∧ ¬ (0 : UInt8) ∈ p := by
  obtain ⟨h1, h2⟩ := h
  have h3 := of_decide_eq_false h1
  unfold refV at h2
  split at h2
  · omega
  · next h4 =>
    split at h2
    · omega
    · next h5 =>
      split at h2
      · omega
      · next h6 => exact ⟨fun e => h3 (.inl e), fun e => h3 (.inr e), h4, h6, h5⟩
theorem in_glue {ps : List L8} {p : L8} (h : p ∈ ps) : p.length ≤ (glue ps).length := by
  induction ps with
  | nil => cases h
  | cons q r ih =>
    by_cases hr : r = []
    · subst hr
      simp at h; subst h; exact Nat.le_refl _
    · rw [glue_cons q hr]
      rcases List.mem_cons.1 h with rfl | h
      · simp
      · have := ih h; simp; omega
theorem part_len (l : L8) (p : L8) (h : p ∈ parts l) : p.length ≤ l.length := by
  have := in_glue h
  rwa [glue_parts] at this
theorem glue_sub {d g : List L8} (h : d <+: g) : (glue d).length ≤ (glue g).length := by
  obtain ⟨m, rfl⟩ := h
  by_cases hd : d = []
  · subst hd; simp [glue]
  · by_cases hm : m = []
    · subst hm; simp
    · rw [glue_app hd hm]; simp
theorem glue_suf {d m : List L8} : (glue m).length ≤ (glue (d ++ m)).length := by
  by_cases hd : d = []
  · subst hd; simp
  · by_cases hm : m = []
    · subst hm; simp [glue]
    · rw [glue_app hd hm]; simp; omega
set_option maxHeartbeats 8000000 in
theorem rright_any (l : L8) (w : World) (hl : l.length ≤ 1048576) :
    Calls Try.prog 11 #[.string (mk l)] w fun e w' => e = .returned (.bool (rightB l)) ∧ Below w.heap.size w w' := by
  have hs : (mk l).size = l.length := mk_size l
  obtain ⟨R, hR⟩ : ∃ R, R = rightB l := ⟨_, rfl⟩
  rw [← hR]
  have hri := right_iff l
  rw [← hR] at hri
  have HRI := Lib.hid hri
  have HSP := Lib.hid (rsplit_any l w (by omega))
  obtain ⟨n, hn⟩ : ∃ n, n = (parts l).length := ⟨_, rfl⟩
  have HN := Lib.hid hn
  have hpl := parts_len l
  have hnb : n ≤ 1048577 := by omega
  have hpb : ∀ p ∈ parts l, p.length ≤ 1048576 := fun p hp => Nat.le_trans (part_len l p hp) hl
  have HPB := Lib.hid hpb
  clear hR hri hpl hpb
  by_cases h12 : 12 < n
  · have hI : (12 : Int) < (n : Int) := by omega
    have HF : Hid (R = false) := by
      show _ = _
      cases hb : R with
      | false => rfl
      | true => have := (HRI.out.1 hb).1; omega
    clear hn h12 hs
    go_enter Try.func11, Try.ntmps11
    go_wp2_with (go_at_call 14; refine HSP.out.mono ?_; rintro e w1 ⟨v, rfl, hO, hb⟩; obtain ⟨a3, c3, e3⟩ := hO.slice; rw [← HN.out] at e3; have HB := Lib.hid hb; clear hO hb; subst e3)
    go_ret
    exact ⟨by rw [HF.out]; rfl, HB.out⟩
  · have hI : ¬ (12 : Int) < (n : Int) := by omega
    by_cases h200 : 200 < l.length
    · have hI2 : (200 : Int) < ((mk l).size : Int) := by omega
      have HF : Hid (R = false) := by
        show _ = _
        cases hb : R with
        | false => rfl
        | true => have := (HRI.out.1 hb).2.1; omega
      clear hn h12 hs h200
      go_enter Try.func11, Try.ntmps11
      go_wp2_with (go_at_call 14; refine HSP.out.mono ?_; rintro e w1 ⟨v, rfl, hO, hb⟩; obtain ⟨a3, c3, e3⟩ := hO.slice; rw [← HN.out] at e3; have HB := Lib.hid hb; clear hO hb; subst e3)
      go_ret
      exact ⟨by rw [HF.out]; rfl, HB.out⟩
    · have hI2 : ¬ (200 : Int) < ((mk l).size : Int) := by omega
      have H12 : Hid (n ≤ 12) := by show _ ≤ _; omega
      have H200 : Hid (l.length ≤ 200) := by show _ ≤ _; omega
      clear hn h12 hs h200
      go_enter Try.func11, Try.ntmps11
      go_wp2_with (go_at_call 14; refine HSP.out.mono ?_; rintro e w1 ⟨v, rfl, hO, hb⟩; obtain ⟨a3, c3, e3⟩ := hO.slice; rw [← HN.out] at e3; have HB := Lib.hid hb; have HT := Lib.hid hO.txt; clear hO hb; subst e3)
      go_loopw [4] (fun c wr => ∃ k : Nat, c = .int .i64 k ∧ k ≤ n ∧ Hid (∀ j p, j < k → (parts l)[j]? = some p → skip p = false ∧ refV p = 0) ∧ w1 = wr) (fun c _ => n - (intOf c).toNat)
      case atStart => exact ⟨0, rfl, Nat.zero_le _, (fun j p hj => by omega), rfl⟩
      case round =>
        obtain ⟨k, rfl, hk, HG, rfl⟩ := hrel
        by_cases hlt : k < n
        · have hIk : (k : Int) < (n : Int) := by omega
          obtain ⟨x, hx⟩ : ∃ x, (parts l)[k]? = some x := ⟨_, List.getElem?_eq_getElem (by rw [← HN.out]; exact hlt)⟩
          obtain ⟨a', c', e', ht⟩ := HT.out
          obtain ⟨g, off, ea, hcell⟩ := ht (by intro e; rw [e] at hx; simp at hx)
          rw [← HN.out] at e'
          simp only [Value.slice.injEq] at e'
          obtain ⟨rfl, -, rfl⟩ := e'
          subst ea
          have hcx := hcell k x hx
          have hxs : (mk x).size = x.length := mk_size x
          have hxb := HPB.out x (List.mem_of_getElem? hx)
          have HNO := Lib.hid (fun W => nought_any x W (by omega))
          have HX := Lib.hid hx
          clear hcell ht hx
          by_cases hgood : skip x = false ∧ refV x = 0
          · obtain ⟨g1, g2, g3, g4, g5⟩ := good_part hgood
            have e1 := emptyF g1
            have e2 := dotF g2
            have e3 := dotsF g3
            have e4 : ¬ (48 : Int) < ((mk x).size : Int) := by omega
            have e5 : decide ((48 : Int) < ((mk x).size : Int)) = false := decide_eq_false e4
            rw [decide_eq_false g5] at HNO
            have HG2 : Hid (∀ j p, j < k + 1 → (parts l)[j]? = some p → skip p = false ∧ refV p = 0) := by
              intro j p hj hp
              rcases Nat.lt_or_ge j k with h | h
              · exact HG.out j p h hp
              · have : j = k := by omega
                subst this
                rw [HX.out] at hp
                injection hp with hp
                subst hp; exact hgood
            clear hgood g1 g2 g3 g4 g5 hxs hxb
            go_wp2_with (go_at_call 37; refine (HNO.out _).mono ?_; rintro e w2 ⟨rfl, rfl⟩)
            go_roundw
            case rel => exact ⟨k + 1, by go_num, by omega, HG2, trivial⟩
            case measure => simp [intOf]; omega
          · have HF : Hid (R = false) := by
              show _ = _
              cases hb : R with
              | false => rfl
              | true => exact absurd ((HRI.out.1 hb).2.2 x (List.mem_of_getElem? HX.out)) hgood
            have hbad := bad_part hgood
            by_cases b1 : x = []
            · have e1 := emptyT b1
              clear hgood hbad b1 hxs hxb
              go_wp2
              go_ret
              exact ⟨by rw [HF.out]; rfl, HB.out⟩
            · by_cases b2 : x = [46]
              · have e1 := emptyX b2
                have e2 := dotT b2
                clear hgood hbad b1 b2 hxs hxb
                go_wp2
                go_ret
                exact ⟨by rw [HF.out]; rfl, HB.out⟩
              · have e1 := emptyF b1
                have e2 := dotF b2
                by_cases b3 : x = [46, 46]
                · have e3 := dotsT b3
                  clear hgood hbad b1 b2 b3 hxs hxb
                  go_wp2
                  go_ret
                  exact ⟨by rw [HF.out]; rfl, HB.out⟩
                · have e3 := dotsF b3
                  by_cases b4 : 48 < x.length
                  · have e4 : (48 : Int) < ((mk x).size : Int) := by omega
                    clear hgood hbad b1 b2 b3 b4 hxs hxb
                    go_wp2
                    go_ret
                    exact ⟨by rw [HF.out]; rfl, HB.out⟩
                  · have e4 : ¬ (48 : Int) < ((mk x).size : Int) := by omega
                    have e5 : decide ((48 : Int) < ((mk x).size : Int)) = false := decide_eq_false e4
                    have b5 : (0 : UInt8) ∈ x := by
                      rcases hbad with h | h | h | h | h
                      · exact absurd h b1
                      · exact absurd h b2
                      · exact absurd h b3
                      · exact absurd h b4
                      · exact h
                    rw [decide_eq_true b5] at HNO
                    clear hgood hbad b1 b2 b3 b4 b5 hxs hxb
                    go_wp2_with (go_at_call 37; refine (HNO.out _).mono ?_; rintro e w2 ⟨rfl, rfl⟩)
                    go_ret
                    exact ⟨by rw [HF.out]; rfl, HB.out⟩
        · have hIk : ¬ (k : Int) < (n : Int) := by omega
          have HF : Hid (R = true) := by
            show _ = _
            refine HRI.out.2 ⟨by rw [← HN.out]; exact H12.out, H200.out, fun p hp => ?_⟩
            obtain ⟨j, hj, e⟩ := List.getElem_of_mem hp
            exact HG.out j p (by have := HN.out; omega) (by rw [List.getElem?_eq_getElem hj, e])
          go_wp2
          go_ret
          exact ⟨by rw [HF.out]; rfl, HB.out⟩

theorem base_parts (l : L8) : (parts l = [] ∧ baseL l = []) ∨ ∃ I, parts l = I ++ [baseL l] := by
  by_cases h : l = []
  · subst h
    left
    refine ⟨rfl, ?_⟩
    have := (parent_cut []).2
    have h2 := congrArg List.getLast? this
    simp [cut] at h2
    exact h2
  · right
    refine ⟨(cut l).dropLast, ?_⟩
    unfold parts
    rw [if_neg h]
    exact (parent_cut l).2
theorem parent_parts (l : L8) : parentL l = glue (parts l).dropLast := by
  by_cases h : l = []
  · subst h; rw [(parent_cut _).1]; rfl
  · rw [(parent_cut l).1]; unfold parts; rw [if_neg h]
set_option maxHeartbeats 2000000 in
theorem rbase_any (l : L8) (w : World) (hl : l.length ≤ 1048576) :
    Calls Try.prog 16 #[.string (mk l)] w fun e w' => e = .returned (.string (mk (baseL l))) ∧ Below w.heap.size w w' := by
  have HSP := Lib.hid (rsplit_any l w (by omega))
  obtain ⟨n, hn⟩ : ∃ n, n = (parts l).length := ⟨_, rfl⟩
  have HN := Lib.hid hn
  have hpl := parts_len l
  have hnb : n ≤ 1048577 := by omega
  rcases base_parts l with ⟨h1, h2⟩ | ⟨I, h1⟩
  · have hn0 : n = 0 := by rw [hn, h1]; rfl
    subst hn0
    rw [h2]
    clear hn h1 h2 hpl
    go_enter Try.func16, Try.ntmps16
    go_wp2_with (go_at_call 14; refine HSP.out.mono ?_; rintro e w1 ⟨v, rfl, hO, hb⟩; obtain ⟨a3, c3, e3⟩ := hO.slice; rw [← HN.out] at e3; have HB := Lib.hid hb; clear hO hb; subst e3)
    go_ret
    exact ⟨rfl, HB.out⟩
  · have hnI : n = I.length + 1 := by rw [hn, h1]; simp
    have hlast : (parts l)[I.length]? = some (baseL l) := by rw [h1]; simp
    have HL := Lib.hid hlast
    generalize baseL l = z at *
    obtain ⟨k, hk⟩ : ∃ k, k = I.length := ⟨_, rfl⟩
    rw [← hk] at hnI HL
    subst hnI
    clear hn h1 hpl hlast hk
    go_enter Try.func16, Try.ntmps16
    go_wp2_with (go_at_call 14; refine HSP.out.mono ?_; rintro e w1 ⟨v, rfl, hO, hb⟩; obtain ⟨a3, c3, e3, hcell⟩ := hO.txt; obtain ⟨g, off, ea, hcell⟩ := hcell (by intro e; have := HL.out; rw [e] at this; simp at this); rw [← HN.out] at e3; have hcx := hcell k z HL.out; have HB := Lib.hid hb; clear hO hb hcell; subst ea; subst e3)
    go_ret
    exact ⟨rfl, HB.out⟩
theorem rdepth_any (l : L8) (w : World) (hl : l.length ≤ 1048576) :
    Calls Try.prog 20 #[.string (mk l)] w fun e w' => e = .returned (.int .i64 (depth l : Nat)) ∧ Below w.heap.size w w' := by
  have HSP := Lib.hid (rsplit_any l w (by omega))
  obtain ⟨n, hn⟩ : ∃ n, n = (parts l).length := ⟨_, rfl⟩
  have HN := Lib.hid hn
  unfold depth
  rw [← hn]
  clear hn
  go_enter Try.func20, Try.ntmps20
  go_wp2_with (go_at_call 14; refine HSP.out.mono ?_; rintro e w1 ⟨v, rfl, hO, hb⟩; obtain ⟨a3, c3, e3⟩ := hO.slice; rw [← HN.out] at e3; have HB := Lib.hid hb; clear hO hb; subst e3)
  go_ret
  exact ⟨rfl, HB.out⟩
set_option maxHeartbeats 2000000 in
theorem rparent_any (l : L8) (w : World) (hl : l.length ≤ 1048576) :
    Calls Try.prog 18 #[.string (mk l)] w fun e w' => e = .returned (.string (mk (parentL l))) ∧ Below w.heap.size w w' := by
  have HSP := Lib.hid (rsplit_any l w (by omega))
  obtain ⟨n, hn⟩ : ∃ n, n = (parts l).length := ⟨_, rfl⟩
  have HN := Lib.hid hn
  have hpl := parts_len l
  have hnb : n ≤ 1048577 := by omega
  have hpp := parent_parts l
  by_cases h2 : n < 2
  · have hI : (n : Int) < 2 := by omega
    have hz : parentL l = [] := by
      rw [hpp]
      have : (parts l).dropLast = [] := List.eq_nil_of_length_eq_zero (by rw [List.length_dropLast]; omega)
      rw [this]; rfl
    rw [hz]
    clear hn hpl h2 hz hpp
    go_enter Try.func18, Try.ntmps18
    go_wp2_with (go_at_call 14; refine HSP.out.mono ?_; rintro e w1 ⟨v, rfl, hO, hb⟩; obtain ⟨a3, c3, e3⟩ := hO.slice; rw [← HN.out] at e3; have HB := Lib.hid hb; clear hO hb; subst e3)
    go_ret
    exact ⟨rfl, HB.out⟩
  · have hI : ¬ (n : Int) < 2 := by omega
    have hm : (n : Int) - 1 = ((n - 1 : Nat) : Int) := by omega
    have htk : (parts l).take (n - 1) = (parts l).dropLast := by rw [List.dropLast_eq_take, ← hn]
    have HG : Hid (∀ W v, Txt W v ((parts l).take (n - 1)) → Calls Try.prog 40 #[v] W fun e w' => e = .returned (.string (mk (parentL l))) ∧ Below W.heap.size W w') := by
      intro W v h
      have hgl : (glue (parts l)).length = l.length := by rw [glue_parts]
      have := glue_any v _ W h (fun k => by
        have h1 := glue_sub (d := ((parts l).take (n - 1)).take k) (g := parts l) ((List.take_prefix _ _).trans (List.take_prefix _ _))
        omega) (by rw [List.length_take]; omega) (fun p hp => by have := part_len l p (List.mem_of_mem_take hp); omega)
      rwa [htk, ← hpp] at this
    have HRH : Hid (∀ W a c, SOwn W w.heap.size (.slice a n c) (parts l) → ∃ a', (∀ W, (Instr.slice 24 (.slice a n c) none (some (.int .i64 ((n - 1 : Nat) : Int))) none).run Try.prog W = .ok (.slice a' (n - 1) c) W) ∧ Txt W (.slice a' (n - 1) c) ((parts l).take (n - 1))) := fun W a c h => run_head h (n - 1) (by omega)
    clear hn hpl h2 hpp htk
    go_enter Try.func18, Try.ntmps18
    go_wp2_with (first
      | (go_at_call 14; refine HSP.out.mono ?_; rintro e w1 ⟨v, rfl, hO, hb⟩; obtain ⟨a3, c3, e3⟩ := hO.slice; rw [← HN.out] at e3; subst e3; obtain ⟨a', hsl, ht⟩ := HRH.out _ _ _ hO; have HT := Lib.hid ht; have HB := Lib.hid hb; clear hO hb ht)
      | (go_at_call 40; refine (HG.out _ _ HT.out).mono ?_; rintro e w2 ⟨rfl, hb2⟩; have HB2 := Lib.hid hb2; clear hb2))
    go_ret
    exact ⟨rfl, HB.out.trans (HB2.out.mono HB.out.size)⟩
end Go.Proofs.Yteimbdbnipfmkaa.Pa
