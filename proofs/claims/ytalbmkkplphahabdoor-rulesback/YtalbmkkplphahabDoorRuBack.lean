/- rules: the law of there and back. (A template.) -/
import Derived.Test.YtalbmkkplphahabDoorRuAwake
import Derived.Test.YtalbmkkplphahabDoorRuLight
import Derived.Test.YtalbmkkplphahabDoorRuBackM
import Derived.Test.YtalbmkkplphahabDoorRuSame
namespace Go.Proofs.YtalbmkkplphahabDoor.Pa
open Go.RowKit
set_option linter.unusedVariables false
set_option linter.unusedSimpArgs false
set_option maxRecDepth 1000000

def VW (w : World) (v : Value) (L : List Ru) (W : World) : Prop := RuAt W v L ∧ Below w.heap.size w W
theorem VW.keep {w W W' : World} {v : Value} {L : List Ru} (h : VW w v L W) (hb : Below W.heap.size W W') : VW w v L W' := ⟨h.1.later hb, h.2.trans (hb.mono h.2.size)⟩
theorem printR_cases (r : Ru) : (refE r.act r.pat = 0 ∧ printR r = (lineOf r, 0)) ∨ (refE r.act r.pat ≠ 0 ∧ printR r = ([], refE r.act r.pat)) := by
  unfold printR
  by_cases h : refE r.act r.pat = 0
  · left; exact ⟨h, if_neg (by simpa using h)⟩
  · right; exact ⟨h, if_pos h⟩
theorem parse_len (l : L8) : (parseR l).1.pat.length ≤ l.length := by
  have h1 : (lineRu l).pat.length ≤ l.length := by
    show (cuts (cutp (l.drop 2)).1).1.length ≤ _
    have := cuts_len (cutp (l.drop 2)).1
    have := cutp_len (l.drop 2)
    rw [List.length_drop] at this
    omega
  unfold parseR
  split
  · show (0 : Nat) ≤ _; omega
  · split
    · show (0 : Nat) ≤ _; omega
    · exact h1
theorem textGo_len (L : List Ru) (h : ∀ r ∈ L, r.pat.length ≤ 200) : ∀ acc : L8, (textGo acc L).1.length ≤ acc.length + L.length * 205 := by
  induction L with
  | nil => intro acc; rw [textGo]; simp
  | cons r L ih =>
    intro acc
    rw [textGo]
    split
    · show (0 : Nat) ≤ _; omega
    · have h1 := ih (fun x hx => h x (by simp [hx])) (acc ++ lineOf r ++ [10])
      have h2 := lineOf_len r
      have h3 := h r (by simp)
      simp only [List.length_append, List.length_cons, List.length_nil] at h1 ⊢
      omega
theorem text_len (L : List Ru) (h : ∀ r ∈ L, r.pat.length ≤ 200) (hl : L.length ≤ 80) : (textR L).1.length ≤ 1000000 := by
  unfold textR
  split
  · show (0 : Nat) ≤ _; omega
  · have := textGo_len L h []
    simp only [List.length_nil] at this
    omega
set_option maxHeartbeats 16000000 in
theorem rulesBack_walk (L : List Ru) (v : Value) (l : L8) (w : World) (hv : RuAt w v L) (hl : l.length ≤ maxLen) :
    Calls Tryd.prog 4 #[v, .string (mk l)] w fun e w' => e = .returned (.bool true) ∧ Below w.heap.size w w' := by
  unfold maxLen at hl
  have HK : Hid (VW w v L w) := ⟨hv, Below.refl _ _⟩
  have HAK : Hid (∀ W, VW w v L W → Calls Tryd.prog 9 #[] W fun e w' => e = .returned (.bool true) ∧ VW w v L w') := fun W hk => (awake_ru W).mono fun e w' ⟨h1, h2⟩ => ⟨h1, hk.keep h2⟩
  have HLI : Hid (∀ W, VW w v L W → Calls Tryd.prog 15 #[v] W fun e w' => e = .returned (.bool (lightB L)) ∧ VW w v L w') := fun W hk => (light_any L v W hk.1).mono fun e w' ⟨h1, h2⟩ => ⟨h1, hk.keep h2⟩
  have hsl : (mk l).size = l.length := mk_size l
  obtain ⟨a, c, ea, hrow⟩ := hv
  subst ea
  have HROW := Lib.hid hrow
  clear hrow
  by_cases hA : lightB L = true
  · rw [hA] at HLI
    have hll := lightB_of hA
    have hpl : ∀ r ∈ L, r.pat.length ≤ 1000000 := fun r hr => by have := hll.2 r hr; omega
    have hL80 := hll.1
    have htl := text_len L hll.2 hL80
    clear hA hll
    by_cases hB : 300 < l.length
    · have hI : (300 : Int) < ((mk l).size : Int) := by omega
      clear hB hsl hl hpl htl hL80
      generalize mk l = s at *
      go_enter Tryd.func4, Tryd.ntmps4
      go_wp2_with (first
        | (go_at_call 15; (with_reducible refine (HLI.out _ HK.out).mono ?_); rintro e w1 ⟨rfl, hk⟩; have HK := Lib.hid hk; clear hk)
        | (go_at_call 9; (with_reducible refine (HAK.out _ HK.out).mono ?_); rintro e w1 ⟨rfl, hk⟩; have HK := Lib.hid hk; clear hk))
      go_ret
      exact ⟨rfl, HK.out.2⟩
    · have hI : ¬ (300 : Int) < ((mk l).size : Int) := by omega
      have hl3 : l.length ≤ 300 := by omega
      -- the text of the rules, and back
      obtain ⟨T, hT⟩ : ∃ T, T = (textR L).1 := ⟨_, rfl⟩
      obtain ⟨E, hE⟩ : ∃ E, E = (textR L).2 := ⟨_, rfl⟩
      have hTE : textR L = (T, E) := by rw [hT, hE]
      have HTX : Hid (∀ W, VW w (.slice a L.length c) L W → Calls Tryd.prog 17 #[.slice a L.length c] W fun e w' => e = .returned (.tuple #[.string (mk T), .int .i64 E]) ∧ VW w (.slice a L.length c) L w') := fun W hk => by
        have h := text_any L (.slice a L.length c) W hk.1 hpl
        rw [hTE] at h
        exact Calls.mono h fun e w' ⟨h1, h2⟩ => ⟨h1, hk.keep h2⟩
      have HSP : Hid (∀ r ∈ L, r.pat.length ≤ 1000000) := hpl
      have HLEN := Lib.hid hL80
      have HL3 := Lib.hid hl3
      have HTE := Lib.hid hTE
      -- the line, and back
      obtain ⟨q, hq⟩ : ∃ q, q = (parseR l).1 := ⟨_, rfl⟩
      obtain ⟨G, hG⟩ : ∃ G, G = (parseR l).2 := ⟨_, rfl⟩
      have hqG : parseR l = (q, G) := by rw [hq, hG]
      have hqp : q.pat.length ≤ 300 := by rw [hq]; have := parse_len l; omega
      have HPL : Hid (∀ W, VW w (.slice a L.length c) L W → Calls Tryd.prog 10 #[.string (mk l)] W fun e w' => e = .returned (.tuple #[.agg #[.int .i64 q.act, .string (mk q.pat), .bool q.dir, .bool q.anch], .int .i64 G]) ∧ VW w (.slice a L.length c) L w') := fun W hk => by
        have h := parse_ru l W (by omega)
        rw [hqG] at h
        exact Calls.mono h fun e w' ⟨h1, h2⟩ => ⟨h1, hk.keep h2⟩
      have HPQ : Hid (∀ W, VW w (.slice a L.length c) L W → Calls Tryd.prog 16 #[.agg #[.int .i64 q.act, .string (mk q.pat), .bool q.dir, .bool q.anch]] (W.alloc (.cells #[.int .i64 q.act, .string (mk q.pat), .bool q.dir, .bool q.anch] 24)) fun e w' => e = .returned (.tuple #[.string (mk (printR q).1), .int .i64 (printR q).2]) ∧ VW w (.slice a L.length c) L w') := fun W hk =>
        (print_any q _ (by omega)).mono fun e w' ⟨h1, h2⟩ => ⟨h1, (hk.keep ((Below.refl _ _).alloc (Nat.le_refl _) _)).keep h2⟩
      have HGQ : Hid (G = 0 → printR q = (l, 0)) := fun h0 => by
        obtain ⟨h1, h2⟩ := print_parse (l := l) (r := q) (by rw [hqG, h0])
        unfold printR
        rw [if_neg (by simpa using h1), h2]
      have hTL : Hid (T.length ≤ 1000000) := by show _ ≤ _; rw [hT]; exact htl
      clear hB hsl hl hpl hL80 htl hl3 hT hE hTE hq hG hqG hqp
      go_enter Tryd.func4, Tryd.ntmps4
      go_wp2_with (first
        | (go_at_call 15; (with_reducible refine (HLI.out _ HK.out).mono ?_); rintro e w1 ⟨rfl, hk⟩; have HK := Lib.hid hk; clear hk))
      go_loopw [31] (fun i wr => ∃ k : Nat, i = .int .i64 k ∧ Hid (k ≤ L.length) ∧ Hid (VW w (.slice a L.length c) L wr)) (fun i _ => L.length - (intOf i).toNat)
      case atStart => exact ⟨0, rfl, Nat.zero_le _, HK⟩
      case round =>
        clear HK HLI
        obtain ⟨k, rfl, HKL0, HK⟩ := hrel
        by_cases hk : k < L.length
        · have hIk : (k : Int) < (L.length : Int) := by omega
          obtain ⟨r, hr⟩ : ∃ r, L[k]? = some r := ⟨_, List.getElem?_eq_getElem hk⟩
          have hw1 : IntKind.i64.wrap ((k : Int) + 1) = (k : Int) + 1 := IntWalk.i64_in _ (by have := HLEN.out; omega)
          obtain ⟨g, off, ea, hg, hc⟩ := HROW.out (by intro e; rw [e] at hr; simp at hr)
          obtain ⟨c0, c1, c2, c3⟩ := hc k r hr
          have k0 := (HK.out.2.cell (p := ⟨g, off + k * 4, none⟩) hg).trans c0
          have k1 := (HK.out.2.cell (p := ⟨g, off + k * 4 + 1, none⟩) hg).trans c1
          have k2 := (HK.out.2.cell (p := ⟨g, off + k * 4 + 2, none⟩) hg).trans c2
          have k3 := (HK.out.2.cell (p := ⟨g, off + k * 4 + 3, none⟩) hg).trans c3
          have hrp := HSP.out r (List.mem_of_getElem? hr)
          have HKL := Lib.hid hk
          subst ea
          clear hk hr hc c0 c1 c2 c3 HTX HTE HPL HPQ HGQ
          have heq := fun W => eq_ru r r W
          rw [decide_eq_true rfl] at heq
          have hgd := ruGuard
          have hb1 : Below wr.heap.size wr (wr.alloc (.cells #[.int .i64 r.act, .string (mk r.pat), .bool r.dir, .bool r.anch] 24)) := (Below.refl _ _).alloc (Nat.le_refl _) _
          have hr1 : (wr.alloc (.cells #[.int .i64 r.act, .string (mk r.pat), .bool r.dir, .bool r.anch] 24)).heap[wr.heap.size]? = some (.cells #[.int .i64 r.act, .string (mk r.pat), .bool r.dir, .bool r.anch] 24) := heap_new _ _
          rcases printR_cases r with ⟨hz, hpr⟩ | ⟨hz, hpr⟩
          · have HPT : Hid (Calls Tryd.prog 16 #[.agg #[.int .i64 r.act, .string (mk r.pat), .bool r.dir, .bool r.anch]] (wr.alloc (.cells #[.int .i64 r.act, .string (mk r.pat), .bool r.dir, .bool r.anch] 24)) fun e w' => e = .returned (.tuple #[.string (mk (lineOf r)), .int .i64 0]) ∧ w'.heap[wr.heap.size]? = some (.cells #[.int .i64 r.act, .string (mk r.pat), .bool r.dir, .bool r.anch] 24) ∧ VW w (.slice (some ⟨g, off, none⟩) L.length c) L w') := by
              have h := print_any r (wr.alloc (.cells #[.int .i64 r.act, .string (mk r.pat), .bool r.dir, .bool r.anch] 24)) (by omega)
              rw [hpr] at h
              exact Calls.mono h fun e w' ⟨h1, h2⟩ => ⟨h1, (h2.block _ (Array.getElem?_eq_some_iff.1 hr1).1).trans hr1, (HK.out.keep hb1).keep h2⟩
            have HPS : Hid (∀ W, W.heap[wr.heap.size]? = some (.cells #[.int .i64 r.act, .string (mk r.pat), .bool r.dir, .bool r.anch] 24) ∧ VW w (.slice (some ⟨g, off, none⟩) L.length c) L W → Calls Tryd.prog 10 #[.string (mk (lineOf r))] W fun e w' => e = .returned (.tuple #[.agg #[.int .i64 r.act, .string (mk r.pat), .bool r.dir, .bool r.anch], .int .i64 0]) ∧ w'.heap[wr.heap.size]? = some (.cells #[.int .i64 r.act, .string (mk r.pat), .bool r.dir, .bool r.anch] 24) ∧ VW w (.slice (some ⟨g, off, none⟩) L.length c) L w') := fun W hk => by
              have h := parse_ru (lineOf r) W (by have := lineOf_len r; omega)
              rw [parse_print hz] at h
              exact Calls.mono h fun e w' ⟨h1, h2⟩ => ⟨h1, (h2.block _ (Array.getElem?_eq_some_iff.1 hk.1).1).trans hk.1, hk.2.keep h2⟩
            have HAL : Hid (∀ W : World, W.heap[wr.heap.size]? = some (.cells #[.int .i64 r.act, .string (mk r.pat), .bool r.dir, .bool r.anch] 24) → (W.alloc (.cells #[.int .i64 r.act, .string (mk r.pat), .bool r.dir, .bool r.anch] 24)).heap[wr.heap.size]? = some (.cells #[.int .i64 r.act, .string (mk r.pat), .bool r.dir, .bool r.anch] 24)) := fun W h => (Below.heap_alloc _ _ _ (Array.getElem?_eq_some_iff.1 h).1).trans h
            have HVA : Hid (∀ W, VW w (.slice (some ⟨g, off, none⟩) L.length c) L W → VW w (.slice (some ⟨g, off, none⟩) L.length c) L (W.alloc (.cells #[.int .i64 r.act, .string (mk r.pat), .bool r.dir, .bool r.anch] 24))) := fun W h => h.keep ((Below.refl _ _).alloc (Nat.le_refl _) _)
            clear hrp hb1 hr1 hz hpr HSP
            obtain ⟨act, pat, rd, an⟩ := r
            simp only at k0 k1 k2 k3 HPT HPS HAL HVA heq
            generalize mk (lineOf ⟨act, pat, rd, an⟩) = sn at *
            generalize mk pat = sq at *
            go_wp2_with (first
              | (go_at_call 16; refine HPT.out.mono ?_; rintro e w1 ⟨rfl, hro, hk⟩; have HRO := Lib.hid hro; have HK := Lib.hid hk; clear hk hro)
              | (go_at_call 10; refine (HPS.out _ ⟨HRO.out, HK.out⟩).mono ?_; rintro e w2 ⟨rfl, hro, hk⟩; have hx := HAL.out _ hro; obtain ⟨⟨j0, j1, j2, j3⟩, -⟩ := cells4 hx; have HK := Lib.hid (HVA.out _ hk); clear hk hro hx))
            go_roundw
            case rel => exact ⟨k + 1, rfl, HKL.out, HK⟩
            case measure => have := HKL.out; simp [intOf]; omega
          · have hne : (refE r.act r.pat == 0) = false := by simpa using hz
            have HPT : Hid (Calls Tryd.prog 16 #[.agg #[.int .i64 r.act, .string (mk r.pat), .bool r.dir, .bool r.anch]] (wr.alloc (.cells #[.int .i64 r.act, .string (mk r.pat), .bool r.dir, .bool r.anch] 24)) fun e w' => e = .returned (.tuple #[.string { data := #[] }, .int .i64 (refE r.act r.pat)]) ∧ VW w (.slice (some ⟨g, off, none⟩) L.length c) L w') := by
              have h := print_any r (wr.alloc (.cells #[.int .i64 r.act, .string (mk r.pat), .bool r.dir, .bool r.anch] 24)) (by omega)
              rw [hpr] at h
              exact Calls.mono h fun e w' ⟨h1, h2⟩ => ⟨h1, (HK.out.keep hb1).keep h2⟩
            have HPS : Hid (∀ W, VW w (.slice (some ⟨g, off, none⟩) L.length c) L W → Calls Tryd.prog 10 #[.string { data := #[] }] W fun e w' => e = .returned (.tuple #[.agg #[.int .i64 0, .string { data := #[] }, .bool false, .bool false], .int .i64 5]) ∧ VW w (.slice (some ⟨g, off, none⟩) L.length c) L w') := fun W hk => by
              have h := parse_ru [] W (by simp)
              exact Calls.mono h fun e w' ⟨h1, h2⟩ => ⟨h1, hk.keep h2⟩
            have HVA : Hid (∀ W, VW w (.slice (some ⟨g, off, none⟩) L.length c) L W → VW w (.slice (some ⟨g, off, none⟩) L.length c) L (W.alloc (.cells #[.int .i64 0, .string { data := #[] }, .bool false, .bool false] 24))) := fun W h => h.keep ((Below.refl _ _).alloc (Nat.le_refl _) _)
            clear hrp hb1 hr1 hz hpr HSP heq
            obtain ⟨act, pat, rd, an⟩ := r
            simp only at k0 k1 k2 k3 HPT hne
            generalize refE act pat = er at *
            generalize mk pat = sq at *
            go_wp2_with (first
              | (go_at_call 16; refine HPT.out.mono ?_; rintro e w1 ⟨rfl, hk⟩; have HK := Lib.hid hk; clear hk)
              | (go_at_call 10; refine (HPS.out _ HK.out).mono ?_; rintro e w2 ⟨rfl, hk⟩; have HK := Lib.hid (HVA.out _ hk); clear hk))
            go_roundw
            case rel => exact ⟨k + 1, rfl, HKL.out, HK⟩
            case measure => have := HKL.out; simp [intOf]; omega
        · have hIk : ¬ (k : Int) < (L.length : Int) := by omega
          clear hk HSP
          have htx := hTL.out
          by_cases hE0 : E = 0
          · have hlt : linesR T = (L, 0, 0) := lines_text (by rw [HTE.out, hE0])
            subst hE0
            have HLS : Hid (∀ W, VW w (.slice a L.length c) L W → Calls Tryd.prog 12 #[.string (mk T)] W fun e w' => ∃ a2 c2, e = .returned (.tuple #[.slice a2 L.length c2, .int .i64 0, .int .i64 0]) ∧ RuAt w' (.slice a2 L.length c2) L ∧ VW w (.slice a L.length c) L w') := fun W hk => by
              have h := lines_any T W htx
              rw [hlt] at h
              refine Calls.mono h ?_
              rintro e w' ⟨v, h1, h2, h3⟩
              obtain ⟨a2, c2, rfl⟩ := h2.slice
              exact ⟨a2, c2, h1, h2.at, hk.keep h3⟩
            have HSM : Hid (∀ W u, VW w (.slice a L.length c) L W → RuAt W u L → Calls Tryd.prog 14 #[.slice a L.length c, u] W fun e w' => e = .returned (.bool true) ∧ VW w (.slice a L.length c) L w') := fun W u hk hu => by
              have h := same_any L L (.slice a L.length c) u W hk.1 hu (by have := HLEN.out; omega) (by have := HLEN.out; omega)
              rw [decide_eq_true rfl] at h
              exact Calls.mono h fun e w' ⟨h1, h2⟩ => ⟨h1, hk.keep h2⟩
            clear hlt htx HTE hTL
            by_cases hG0 : G = 0
            · have hpq := HGQ.out hG0
              subst hG0
              rw [hpq] at HPQ
              have hee : ((mk l).toList == (mk l).toList) = true := eqTT rfl
              clear hpq HGQ HL3
              generalize mk T = st at *
              generalize mk l = sl at *
              obtain ⟨act, pat, rd, an⟩ := q
              simp only at HPL HPQ
              generalize mk pat = sq at *
              go_wp2_with (first
                | (go_at_call 17; (with_reducible refine (HTX.out _ HK.out).mono ?_); rintro e w1 ⟨rfl, hk⟩; have HK := Lib.hid hk; clear hk)
                | (go_at_call 12; (with_reducible refine (HLS.out _ HK.out).mono ?_); rintro e w2 ⟨a2, c2, rfl, hat, hk⟩; have HAT := Lib.hid hat; have HK := Lib.hid hk; clear hk hat)
                | (go_at_call 14; (with_reducible refine (HSM.out _ _ HK.out HAT.out).mono ?_); rintro e w3 ⟨rfl, hk⟩; have HK := Lib.hid hk; clear hk)
                | (go_at_call 10; (with_reducible refine (HPL.out _ HK.out).mono ?_); rintro e w1 ⟨rfl, hk⟩; have HK := Lib.hid hk; clear hk)
                | (go_at_call 16; (with_reducible refine (HPQ.out _ HK.out).mono ?_); rintro e w1 ⟨rfl, hk⟩; have HK := Lib.hid hk; clear hk)
                | (go_at_call 9; (with_reducible refine (HAK.out _ HK.out).mono ?_); rintro e w1 ⟨rfl, hk⟩; have HK := Lib.hid hk; clear hk))
              go_ret
              exact ⟨rfl, HK.out.2⟩
            · have hg : (G == 0) = false := by simpa using hG0
              clear HGQ HL3
              generalize mk T = st at *
              generalize mk l = sl at *
              generalize mk (printR q).1 = sx at *
              generalize (printR q).2 = ex at *
              obtain ⟨act, pat, rd, an⟩ := q
              simp only at HPL HPQ
              generalize mk pat = sq at *
              go_wp2_with (first
                | (go_at_call 17; (with_reducible refine (HTX.out _ HK.out).mono ?_); rintro e w1 ⟨rfl, hk⟩; have HK := Lib.hid hk; clear hk)
                | (go_at_call 12; (with_reducible refine (HLS.out _ HK.out).mono ?_); rintro e w2 ⟨a2, c2, rfl, hat, hk⟩; have HAT := Lib.hid hat; have HK := Lib.hid hk; clear hk hat)
                | (go_at_call 14; (with_reducible refine (HSM.out _ _ HK.out HAT.out).mono ?_); rintro e w3 ⟨rfl, hk⟩; have HK := Lib.hid hk; clear hk)
                | (go_at_call 10; (with_reducible refine (HPL.out _ HK.out).mono ?_); rintro e w1 ⟨rfl, hk⟩; have HK := Lib.hid hk; clear hk)
                | (go_at_call 16; (with_reducible refine (HPQ.out _ HK.out).mono ?_); rintro e w1 ⟨rfl, hk⟩; have HK := Lib.hid hk; clear hk)
                | (go_at_call 9; (with_reducible refine (HAK.out _ HK.out).mono ?_); rintro e w1 ⟨rfl, hk⟩; have HK := Lib.hid hk; clear hk))
              go_ret
              exact ⟨rfl, HK.out.2⟩
          · have hee0 : (E == 0) = false := by simpa using hE0
            obtain ⟨M, hM⟩ : ∃ M, M = (linesR T).1 := ⟨_, rfl⟩
            obtain ⟨N, hN⟩ : ∃ N, N = (linesR T).2.1 := ⟨_, rfl⟩
            obtain ⟨F, hF⟩ : ∃ F, F = (linesR T).2.2 := ⟨_, rfl⟩
            obtain ⟨nm, hnm⟩ : ∃ nm, nm = M.length := ⟨_, rfl⟩
            have HLS : Hid (∀ W, VW w (.slice a L.length c) L W → Calls Tryd.prog 12 #[.string (mk T)] W fun e w' => ∃ a2 c2, e = .returned (.tuple #[.slice a2 nm c2, .int .i64 N, .int .i64 F]) ∧ RuAt w' (.slice a2 nm c2) M ∧ VW w (.slice a L.length c) L w') := fun W hk => by
              have h := lines_any T W htx
              rw [← hM, ← hN, ← hF] at h
              refine Calls.mono h ?_
              rintro e w' ⟨v, h1, h2, h3⟩
              obtain ⟨a2, c2, rfl⟩ := h2.slice
              rw [hnm]
              exact ⟨a2, c2, h1, h2.at, hk.keep h3⟩
            clear hE0 hM hN hF hnm htx HTE hTL
            by_cases hG0 : G = 0
            · have hpq := HGQ.out hG0
              subst hG0
              rw [hpq] at HPQ
              have hee : ((mk l).toList == (mk l).toList) = true := eqTT rfl
              clear hpq HGQ HL3
              generalize mk T = st at *
              generalize mk l = sl at *
              obtain ⟨act, pat, rd, an⟩ := q
              simp only at HPL HPQ
              generalize mk pat = sq at *
              go_wp2_with (first
                | (go_at_call 17; (with_reducible refine (HTX.out _ HK.out).mono ?_); rintro e w1 ⟨rfl, hk⟩; have HK := Lib.hid hk; clear hk)
                | (go_at_call 12; (with_reducible refine (HLS.out _ HK.out).mono ?_); rintro e w2 ⟨a2, c2, rfl, hat, hk⟩; have HAT := Lib.hid hat; have HK := Lib.hid hk; clear hk hat)
                | (go_at_call 10; (with_reducible refine (HPL.out _ HK.out).mono ?_); rintro e w1 ⟨rfl, hk⟩; have HK := Lib.hid hk; clear hk)
                | (go_at_call 16; (with_reducible refine (HPQ.out _ HK.out).mono ?_); rintro e w1 ⟨rfl, hk⟩; have HK := Lib.hid hk; clear hk)
                | (go_at_call 9; (with_reducible refine (HAK.out _ HK.out).mono ?_); rintro e w1 ⟨rfl, hk⟩; have HK := Lib.hid hk; clear hk))
              go_ret
              exact ⟨rfl, HK.out.2⟩
            · have hg : (G == 0) = false := by simpa using hG0
              clear HGQ HL3
              generalize mk T = st at *
              generalize mk l = sl at *
              generalize mk (printR q).1 = sx at *
              generalize (printR q).2 = ex at *
              obtain ⟨act, pat, rd, an⟩ := q
              simp only at HPL HPQ
              generalize mk pat = sq at *
              go_wp2_with (first
                | (go_at_call 17; (with_reducible refine (HTX.out _ HK.out).mono ?_); rintro e w1 ⟨rfl, hk⟩; have HK := Lib.hid hk; clear hk)
                | (go_at_call 12; (with_reducible refine (HLS.out _ HK.out).mono ?_); rintro e w2 ⟨a2, c2, rfl, hat, hk⟩; have HAT := Lib.hid hat; have HK := Lib.hid hk; clear hk hat)
                | (go_at_call 10; (with_reducible refine (HPL.out _ HK.out).mono ?_); rintro e w1 ⟨rfl, hk⟩; have HK := Lib.hid hk; clear hk)
                | (go_at_call 16; (with_reducible refine (HPQ.out _ HK.out).mono ?_); rintro e w1 ⟨rfl, hk⟩; have HK := Lib.hid hk; clear hk)
                | (go_at_call 9; (with_reducible refine (HAK.out _ HK.out).mono ?_); rintro e w1 ⟨rfl, hk⟩; have HK := Lib.hid hk; clear hk))
              go_ret
              exact ⟨rfl, HK.out.2⟩
  · have hA2 : lightB L = false := by simpa using hA
    rw [hA2] at HLI
    clear hA hA2 hsl hl
    generalize mk l = s at *
    go_enter Tryd.func4, Tryd.ntmps4
    go_wp2_with (first
      | (go_at_call 15; (with_reducible refine (HLI.out _ HK.out).mono ?_); rintro e w1 ⟨rfl, hk⟩; have HK := Lib.hid hk; clear hk)
      | (go_at_call 9; (with_reducible refine (HAK.out _ HK.out).mono ?_); rintro e w1 ⟨rfl, hk⟩; have HK := Lib.hid hk; clear hk))
    go_ret
    exact ⟨rfl, HK.out.2⟩
end Go.Proofs.YtalbmkkplphahabDoor.Pa
