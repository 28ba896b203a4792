/- squash: longest. (A template: seatgen.py fills it.) -/
import Derived.Test.YtboienpdnfcooaaSqLike
import Derived.ScopeJumps
import Derived.WalkSmall
import Derived.Deep.QuietTactic
namespace Go.Proofs.Ytboienpdnfcooaa.Sq
open Go.RowKit Go.Proofs.NumMath Go.Maps
set_option linter.unusedVariables false
set_option maxRecDepth 1000000

theorem Cm.uniq {l m : List Int} {n k : Nat} (h : Cm l m n) (h' : Cm l m k) : n = k := by
  obtain ⟨a1, a2, a3⟩ := h
  obtain ⟨b1, b2, b3⟩ := h'
  rcases Nat.lt_trichotomy n k with h | h | h
  · exact absurd (b2 n h) (a3 (by omega))
  · exact h
  · exact absurd (a2 k h) (b3 (by omega))
theorem common_at (v1 v2 : Value) (l m : List Int) (n : Nat) (w : World) (h1 : Sl w v1 l) (h2 : Sl w v2 m) (hle : m.length ≤ l.length) (hm : m.length ≤ 9223372036854775807) (hn : Cm l m n) :
    Calls Try.prog 34 #[v1, v2] w fun e w' => e = .returned (.int .i64 n) ∧ w' = w := by
  refine (common_any v1 v2 l m w h1 h2 hle hm).mono ?_
  rintro e w' ⟨⟨k, rfl, hk⟩, rfl⟩
  rw [hk.uniq hn]
  exact ⟨rfl, rfl⟩
theorem cm_lng {l : List Int} {f p L : Nat} (hf : f < p) (hp : p < l.length) (hL : L = min 130 (l.length - p)) : Cm (l.drop f) (cut l p (p + L)) (lng l (p - f) p 130) := by
  obtain ⟨h1, h2, h3, h4⟩ := lng_spec l (p - f) 130 p (by omega)
  have hlen : (cut l p (p + L)).length = L := by rw [cut_length _ _ _ (by omega) (by omega)]; omega
  have g1 : ∀ i, (l.drop f).getD i 0 = l.getD (f + i) 0 := fun i => by simp [List.getD_eq_getElem?_getD]
  have g2 : ∀ i, i < L → (cut l p (p + L)).getD i 0 = l.getD (p + i) 0 := fun i hi => by
    simp only [cut, List.getD_eq_getElem?_getD, List.getElem?_take, List.getElem?_drop]
    rw [if_pos (by omega)]
  refine ⟨by omega, fun i hi => ?_, fun hn => ?_⟩
  · rw [g1, g2 i (by omega), h3 i hi]; congr 1; omega
  · rw [g1, g2 _ (by omega)]
    have := h4 (by omega) (by omega)
    intro e; apply this; rw [← e]; congr 1; omega
theorem IOwn.form {w : World} {base : Nat} {u : Value} {zs : List Int} (h : IOwn w base u zs) : (∃ a cap, u = .slice a zs.length cap) ∧ (zs ≠ [] → ∃ g cap, u = .slice (some ⟨g, 0, none⟩) zs.length cap ∧ ∀ i, i < zs.length → w.cell? ⟨g, i, none⟩ = some (.int .i64 (zs.getD i 0))) := by
  have h' := h
  obtain ⟨h1, h2⟩ := h
  rcases h2 with ⟨rfl, h0⟩ | ⟨g, cap, cur, rfl, h4, h5, h6, h7, h8, h9⟩
  · exact ⟨⟨none, 0, by rw [h0]⟩, fun hne => absurd (List.eq_nil_of_length_eq_zero h0) hne⟩
  · refine ⟨⟨_, cap, rfl⟩, fun _ => ⟨g, cap, rfl, fun i hi => ?_⟩⟩
    have := World.ownsRow.cellAt h' i (by omega)
    rw [this, List.getElem?_map, List.getElem?_eq_getElem hi, List.getD_eq_getElem?_getD, List.getElem?_eq_getElem hi]
    rfl

theorem scope_once {P : Program} {a : Act} {w : World} {Q : Exit → Act → World → Prop} {c rest : Code} (l : Nat) (J : Act → World → Prop) (μ : Act → World → Nat) (hf : findLabel c l = some (Code.skip.seq rest))
    (pass : ∀ a w, J a w → rest.wp P (Exit.jump l (fun a' w' => J a' w' ∧ μ a' w' < μ a w) Q) a w)
    (first : (∀ a w, J a w → rest.wp P (Exit.jump l J Q) a w) → c.wp P (Exit.jump l J Q) a w) : (Code.scope c).wp P Q a w :=
  wp_scope_jumps l J μ hf (first (fun a w h => wp_mono (pass a w h) (fun e a w he => by
    cases e <;> simp only [Exit.jump] at he ⊢
    case goto => exact ⟨he.1, he.2.1⟩
    all_goals exact he))) (fun a w h => wp_seq (wp_skip (pass a w h)))
theorem add_some (b off q : Nat) : (some (⟨b, off, none⟩ : Addr)).map (·.add (q * 1)) = some ⟨b, off + q, none⟩ := by
  by_cases h : q = 0
  · subst h; simp [Addr.add]
  · simp [Addr.add, h]

/-- one step of the search, in plain words: from the place f the next one ahead -/
theorem step_none {l : List Int} {p f : Nat} {X : Int} (hX : X = ahd l f f) (hp : p < l.length) (hf : f ≤ p) (hfar : p - f ≤ 4096) (he : Eq4 l f p) (h : X < 0 ∨ 4096 < (p : Int) - X) :
    bsp l p (min p 4096) = bsp l p (p - f) := by
  refine bsp_run _ (by omega) (fun d h1 h2 => .inl (lng_four (by omega) (by omega) (fun e => ?_)))
  have hb := ahd_lt l f f
  exact ahd_none l f f (p - d) (by omega) (by omega) (e.symm.trans he.symm)
theorem step_skip {l : List Int} {p f : Nat} {X : Int} (hX : X = ahd l f f) (hp : p < l.length) (hf : f ≤ p) (he : Eq4 l f p) (h0 : 0 ≤ X) :
    X.toNat < f ∧ Eq4 l X.toNat p ∧ bsp l p (p - X.toNat - 1) = bsp l p (p - f) := by
  have hb := ahd_lt l f f
  have h4 := ahd_eq4 l f f (by omega)
  rw [← hX] at h4
  refine ⟨by omega, h4.trans he, ?_⟩
  refine bsp_run _ (by omega) (fun d h1 h2 => .inl (lng_four (by omega) (by omega) (fun e => ?_)))
  exact ahd_none l f f (p - d) (by omega) (by omega) (e.symm.trans he.symm)
theorem step_unlike {l : List Int} {p f n d : Nat} (hp : p < l.length) (hf : f < p) (hb : bsp l p (p - f - 1) = (n, d)) (hn : p + n < l.length) (hne : l.getD (f + n) 0 ≠ l.getD (p + n) 0) : bsp l p (p - f) = (n, d) := by
  rw [show p - f = (p - f - 1) + 1 from by omega, bsp_same (.inr ?_)]
  · exact hb
  · rw [hb, show p - f - 1 + 1 = p - f from by omega]
    obtain ⟨h1, h2, h3, h4⟩ := lng_spec l (p - f) 130 p (by omega)
    rcases Nat.lt_or_ge n (lng l (p - f) p 130) with h | h
    · exact absurd (by rw [h3 n h]; congr 1; omega) hne.symm
    · exact h
theorem step_like {l : List Int} {p f n d k : Nat} (hk : lng l (p - f) p 130 = k) (hp : p < l.length) (hf : f < p) (hb : bsp l p (p - f - 1) = (n, d)) (h4 : 4 ≤ l.length - p) (he : Eq4 l f p) :
    4 ≤ k ∧ (n < k → bsp l p (p - f) = (k, p - f)) ∧ (k ≤ n → bsp l p (p - f) = (n, d)) := by
  have e1 : p - f = (p - f - 1) + 1 := by omega
  have hk4 : 4 ≤ k := by
    obtain ⟨h1, h2, h3, h5⟩ := lng_spec l (p - f) 130 p (by omega)
    rw [hk] at *
    rcases Nat.lt_or_ge k 4 with h | h
    · exact absurd (by have := he k h; rw [← this]; congr 1; omega) (h5 (by omega) (by omega))
    · exact h
  refine ⟨hk4, fun h => ?_, fun h => ?_⟩
  · rw [e1, bsp_more (n := k) (by rw [← e1]; exact hk) hk4 (by rw [hb]; exact h), ← e1]
  · rw [e1, bsp_same (.inr (by rw [← e1, hk, hb]; exact h))]; exact hb
theorem step_full {l : List Int} {p f n d : Nat} (hp : p < l.length) (hf : f ≤ p) (hfar : p - f ≤ 4096) (hb : bsp l p (p - f) = (n, d)) (hn : min 130 (l.length - p) ≤ n) : bsp l p (min p 4096) = (n, d) := by
  rw [bsp_run (D := p - f) _ (by omega) (fun d' h1 h2 => .inr ?_)]
  · exact hb
  · have := lng_le (l := l) (d := d') (p := p) (by omega)
    rw [hb]; simp only; omega

set_option maxHeartbeats 8000000 in
theorem longest_any (v u : Value) (l : List Int) (p base : Nat) (w : World) (h : Sl w v l) (hu : IOwn w base u (aheads l (l.length - 3))) (hp : p < l.length) (hl : l.length ≤ 65536) :
    Calls Try.prog 22 #[v, .int .i64 p, u] w fun e w' => e = .returned (two (bsp l p (min p 4096))) ∧ Below w.heap.size w w' := by
  obtain ⟨a, cap, rfl, hB, hn, hc⟩ := h
  obtain ⟨⟨ua, ucap, hua⟩, hcells⟩ := hu.form
  rw [aheads_length] at hua hcells
  by_cases hend : l.length ≤ p + 3
  · have hz : bsp l p (min p 4096) = (0, 0) := by
      rw [bsp_run (D := 0) _ (by omega) (fun d _ _ => .inl ?_)]
      · rfl
      · have := lng_le (l := l) (d := d) (p := p) (by omega); omega
    rw [hz]
    subst hua
    have h1 : ((l.length - 3 : Nat) : Int) ≤ (p : Int) := by omega
    clear hcells hB hu
    generalize l.length - 3 = M at *
    generalize l.length = N at *
    go_enter Try.func22, Try.ntmps22
    go_wp2
    go_step3
    go_wp2
    rw [Exit.noGoto_ret]
    go_ret2
    exact ⟨rfl, Below.refl _ _⟩
  · obtain ⟨g, gcap, rfl, hcell⟩ := hcells (by intro e; have := congrArg List.length e; rw [aheads_length] at this; simp at this; omega)
    obtain ⟨b, off, rfl, hbc⟩ := hB.2 (by intro e; subst e; simp at hp)
    have HC : Hid (∀ i, i < l.length - 3 → w.cell? ⟨g, i, none⟩ = some (.int .i64 (ahd l i i))) := fun i hi => by
      have := hcell i hi; rw [aheads_getD _ _ _ hi] at this; exact this
    have HB := Lib.hid hbc
    have HSL : Hid (Sl w (.slice (some ⟨b, off, none⟩) l.length cap) l) := ⟨_, cap, rfl, hB, hn, hc⟩
    obtain ⟨N, hN⟩ : ∃ N, N = l.length := ⟨_, rfl⟩
    obtain ⟨L, hL⟩ : ∃ L, L = min 130 (l.length - p) := ⟨_, rfl⟩
    rw [← hN] at hc hp hl hend ⊢
    clear hcell hbc hB hu hn
    have HN := Lib.hid hN
    have HL := Lib.hid hL
    have hL1 : 4 ≤ L ∧ L ≤ 130 ∧ p + L ≤ N := by omega
    have hLI : min (130 : Int) ((N : Int) - (p : Int)) = (L : Int) := by omega
    have hmin : ∀ W, (Builtin.min_ #[3, 3] 3 #[.int .i64 130, .int .i64 ((N : Int) - (p : Int))]).run Try.prog W = .ok (.int .i64 (L : Int)) W := by
      intro W
      by_cases h130 : (130 : Int) < (N : Int) - (p : Int)
      · have : (L : Int) = 130 := by omega
        rw [this]
        simp [Builtin.min_, Builtin.min2]
        try omega
      · have : (L : Int) = (N : Int) - (p : Int) := by omega
        rw [this]
        simp [Builtin.min_, Builtin.min2]
        try omega
    clear hL hN
    go_enter Try.func22, Try.ntmps22
    go_wp2
    refine scope_once 0 (fun a' wr => ∃ n d f : Nat, (∃ (u10 u11 u12 u13 u14 u15 u16 u17 u18 u19 u20 u21 u22 u23 u24 u25 u26 u27 u28 u29 u30 u31 u32 u33 u34 u35 u36 u37 u38 u39 u40 u41 u42 u43 u44 u45 u46 u47 u48 u49 u50 u51 u52 u53 u54 u55 u56 u57 u58 u59 u60 u61 u62 u63 u64 u65 u66 u67 : Value), a' = { tmps := #[.slice (some ⟨b, off, none⟩) N cap, .int .i64 (p : Int), .slice (some ⟨g, 0, none⟩) (N - 3) ucap, undef, undef, undef, .int .i64 (n : Int), .int .i64 (d : Int), .int .i64 (L : Int), .int .i64 (f : Int), u10, u11, u12, u13, u14, u15, u16, u17, u18, u19, u20, u21, u22, u23, u24, u25, u26, u27, u28, u29, u30, u31, u32, u33, u34, u35, u36, u37, u38, u39, u40, u41, u42, u43, u44, u45, u46, u47, u48, u49, u50, u51, u52, u53, u54, u55, u56, u57, u58, u59, u60, u61, u62, u63, u64, u65, u66, u67, undef, undef], defers := [] }) ∧ f ≤ p ∧ p - f ≤ 4096 ∧ Eq4 l f p ∧ bsp l p (p - f) = (n, d) ∧ n < L ∧ Below w.heap.size w wr) (fun a' _ => (intOf (a'.tmps.getD 9 undef)).toNat) rfl ?_ ?_
    · rintro a' wr ⟨n, d, f, ⟨u10, u11, u12, u13, u14, u15, u16, u17, u18, u19, u20, u21, u22, u23, u24, u25, u26, u27, u28, u29, u30, u31, u32, u33, u34, u35, u36, u37, u38, u39, u40, u41, u42, u43, u44, u45, u46, u47, u48, u49, u50, u51, u52, u53, u54, u55, u56, u57, u58, u59, u60, u61, u62, u63, u64, u65, u66, u67, rfl⟩, hf, hfar, he4, hb, hnL, hbel⟩
      have hxc := cell_later hbel (HC.out f (by rw [← HN.out]; omega))
      obtain ⟨X, hX⟩ : ∃ X, X = ahd l f f := ⟨_, rfl⟩
      rw [← hX] at hxc
      have HBEL := Lib.hid hbel
      by_cases h12 : X < 0 ∨ 4096 < (p : Int) - X
      · have HR : Hid (bsp l p (min p 4096) = (n, d)) := by show _ = _; rw [step_none hX (by rw [← HN.out]; omega) hf hfar he4 h12]; exact hb
        have hXb := ahd_lt l f f
        rw [← hX] at hXb
        clear hX hbel hb he4
        by_cases hx0 : X < 0
        · clear h12
          go_wp2
          simp only [Exit.jump]
          go_ret2
          rw [HR.out]
          exact ⟨rfl, HBEL.out⟩
        · have hx2 : 4096 < (p : Int) - X := by omega
          clear h12
          go_wp2
          simp only [Exit.jump]
          go_ret2
          rw [HR.out]
          exact ⟨rfl, HBEL.out⟩
      · obtain ⟨hq1, hq2, hq3⟩ := step_skip hX (by rw [← HN.out]; omega) hf he4 (by omega)
        obtain ⟨q, hq⟩ : ∃ q : Nat, X = (q : Int) := ⟨X.toNat, by omega⟩
        subst hq
        simp only [Int.toNat_natCast] at hq1 hq2 hq3
        rw [hb] at hq3
        have hqf : (p : Int) - (q : Int) ≤ 4096 := by omega
        obtain ⟨A, hA⟩ : ∃ A, A = q + n := ⟨_, rfl⟩
        obtain ⟨B, hB⟩ : ∃ B, B = p + n := ⟨_, rfl⟩
        have c1 := cell_later hbel (HB.out A (by rw [← HN.out]; omega))
        have c2 := cell_later hbel (HB.out B (by rw [← HN.out]; omega))
        obtain ⟨x, hx⟩ : ∃ x, x = l.getD A 0 := ⟨_, rfl⟩
        obtain ⟨y, hy⟩ : ∃ y, y = l.getD B 0 := ⟨_, rfl⟩
        rw [← hx] at c1
        rw [← hy] at c2
        have hAI : (q : Int) + (n : Int) = (A : Int) := by omega
        have hBI : (p : Int) + (n : Int) = (B : Int) := by omega
        have hA1 : A < N := by omega
        have hB1 : B < N := by omega
        have HQ4 := Lib.hid hq2
        have HQ3 := Lib.hid hq3
        clear hX hb he4 h12 hq2 hq3
        by_cases hxy : x = y
        · subst hxy
          obtain ⟨k, hk⟩ : ∃ k, k = lng l (p - q) p 130 := ⟨_, rfl⟩
          obtain ⟨hk4, hkm, hkn⟩ := step_like hk.symm (by rw [← HN.out]; omega) (by omega) HQ3.out (by rw [← HN.out]; omega) HQ4.out
          have hkL : k ≤ L := by
            have := lng_le (l := l) (d := p - q) (p := p) (by rw [← HN.out]; omega)
            have e := HL.out
            omega
          have hcm := cm_lng (l := l) (f := q) (p := p) (L := L) (by omega) (by rw [← HN.out]; omega) HL.out
          rw [← hk] at hcm
          obtain ⟨_, _, es, hBy, hnil, _⟩ := HSL.out.later hbel
          simp only [Value.slice.injEq] at es
          obtain ⟨rfl, -, rfl⟩ := es
          have hS1 := sl_stretch hBy cap (by rw [← HN.out]; exact hc) hnil q (N - q) (by rw [← HN.out]; omega)
          rw [if_neg (by omega), add_some, List.take_of_length_le (by rw [List.length_drop, ← HN.out]; omega)] at hS1
          have hS2 := sl_stretch hBy cap (by rw [← HN.out]; exact hc) hnil p L (by rw [← HN.out]; omega)
          rw [if_neg (by omega), add_some] at hS2
          have hcl : (l.drop p).take L = cut l p (p + L) := by unfold cut; rw [show p + L - p = L from by omega]
          rw [hcl] at hS2
          have hlc : (cut l p (p + L)).length = L := by rw [cut_length _ _ _ (by omega) (by rw [← HN.out]; omega)]; omega
          have HC2 : Hid (∀ i, Calls Try.prog 34 #[.slice (some ⟨b, off + q, none⟩) (N - q) (cap - q), .slice (some ⟨b, off + p, none⟩) L (cap - p)] (wr.drewN i) fun e w' => e = .returned (.int .i64 k) ∧ w' = wr.drewN i) := fun i =>
            common_at _ _ _ _ k _ hS1 hS2 (by rw [hlc, List.length_drop, ← HN.out]; omega) (by rw [hlc]; omega) hcm
          obtain ⟨E, hE⟩ : ∃ E, E = p + L := ⟨_, rfl⟩
          have hEI : (p : Int) + (L : Int) = (E : Int) := by omega
          have hE1 : E ≤ N := by omega
          have hE2 : (p : Int) ≤ (E : Int) := by omega
          have hE3 : (E : Int) ≤ (cap : Int) := by omega
          have hE4 : E - p = L := by omega
          have hE5 : (q : Int) ≤ (N : Int) := by omega
          have hE6 : IntKind.i64.wrap (E : Int) = (E : Int) := wrapN E (by omega)
          have hE7 : p ≤ E := by omega
          have hE8 : ¬ cap = p := by omega
          have hE9 : ¬ cap = q := by omega
          have hE10 : E ≤ cap := by omega
          clear hE
          clear hA hB hx hy hbel hS1 hS2 hBy hnil hcm hk hcl hlc
          go_wp2
          go_quiet (fail)
          clear c1 c2 hAI hBI hA1 hB1
          go_wp2
          go_quiet (first | (go_at_call 34; exact Calls.quiet_of_same (HC2.out _)) | (go_at_call 34; refine (HC2.out _).mono ?_; rintro e w2 ⟨rfl, rfl⟩; exact ⟨rfl, _, rfl⟩))
          clear hEI hE1 hE2 hE3 hE4 hE5 hE6 hE7 hE8 hE9 hE10
          by_cases hnk : n < k
          · have HR := Lib.hid (hkm hnk)
            have hnkI : (n : Int) < (k : Int) := by omega
            have hpq : (p : Int) - (q : Int) = ((p - q : Nat) : Int) := by omega
            clear hkm hkn
            by_cases hkl : k < L
            · have hklI : (k : Int) < (L : Int) := by omega
              generalize hdq : p - q = D at *
              go_wp2
              go_step3
              refine ⟨rfl, ⟨k, D, q, ⟨_, _, _, _, _, _, _, _, _, _, _, _, _, _, _, _, _, _, _, _, _, _, _, _, _, _, _, _, _, _, _, _, _, _, _, _, _, _, _, _, _, _, _, _, _, _, _, _, _, _, _, _, _, _, _, _, _, _, rfl⟩, by omega, by omega, HQ4.out, by rw [hdq]; exact HR.out, hkl, below_drewN HBEL.out _⟩, ?_⟩
              simp [intOf]
              omega
            · have hklI : ¬ (k : Int) < (L : Int) := by omega
              have HF : Hid (bsp l p (min p 4096) = (k, p - q)) := step_full (by rw [← HN.out]; omega) (by omega) (by omega) HR.out (by rw [← HL.out]; omega)
              generalize p - q = D at *
              go_wp2
              simp only [Exit.jump]
              go_ret2
              rw [HF.out]
              exact ⟨rfl, below_drewN HBEL.out _⟩
          · have HR := Lib.hid (hkn (by omega))
            have hnkI : ¬ (n : Int) < (k : Int) := by omega
            have hnLI : (n : Int) < (L : Int) := by omega
            clear hkm hkn
            go_wp2
            go_step3
            refine ⟨rfl, ⟨n, d, q, ⟨_, _, _, _, _, _, _, _, _, _, _, _, _, _, _, _, _, _, _, _, _, _, _, _, _, _, _, _, _, _, _, _, _, _, _, _, _, _, _, _, _, _, _, _, _, _, _, _, _, _, _, _, _, _, _, _, _, _, rfl⟩, by omega, by omega, HQ4.out, HR.out, hnL, below_drewN HBEL.out _⟩, ?_⟩
            simp [intOf]
            omega
        · have hxb : (x != y) = true := by simpa using hxy
          have HR : Hid (bsp l p (p - q) = (n, d)) := step_unlike (by rw [← HN.out]; omega) (by omega) HQ3.out (by rw [← HN.out]; omega) (by rw [← hA, ← hB, ← hx, ← hy]; exact hxy)
          clear hA hB hx hy hxy hbel
          go_wp2
          go_quiet (fail)
          go_wp2
          go_step3
          refine ⟨rfl, ⟨n, d, q, ⟨_, _, _, _, _, _, _, _, _, _, _, _, _, _, _, _, _, _, _, _, _, _, _, _, _, _, _, _, _, _, _, _, _, _, _, _, _, _, _, _, _, _, _, _, _, _, _, _, _, _, _, _, _, _, _, _, _, _, rfl⟩, by omega, by omega, HQ4.out, HR.out, hnL, below_drewN HBEL.out _⟩, ?_⟩
          simp [intOf]
          omega
    · intro hpass
      go_wp2
      go_step3
      rename_i _ hK
      refine hK _ _ (hpass _ _ ⟨0, 0, p, ⟨_, _, _, _, _, _, _, _, _, _, _, _, _, _, _, _, _, _, _, _, _, _, _, _, _, _, _, _, _, _, _, _, _, _, _, _, _, _, _, _, _, _, _, _, _, _, _, _, _, _, _, _, _, _, _, _, _, _, rfl⟩, by omega, by omega, fun _ _ => rfl, by rw [show p - p = 0 from by omega]; rfl, by omega, Below.refl _ _⟩)
end Go.Proofs.Ytboienpdnfcooaa.Sq
