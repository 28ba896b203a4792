/- glob: read, by its contracts. (A template.) -/
import Derived.Test.YtokocfoeohddfaaGreatDoorGlRead
import Derived.Deep.LoopGhost
import Derived.WalkMore
namespace Go.Proofs.YtokocfoeohddfaaGreatDoor.Pa
open Go.RowKit
set_option linter.unusedVariables false
set_option linter.unusedSimpArgs false
set_option maxRecDepth 100000

set_option maxHeartbeats 16000000 in
theorem read_any (l : L8) (w : World) (hl : l.length ≤ 9223372036854775807) :
    Calls Tryz.prog 48 #[.string (mk l)] w fun e w' => ∃ v, e = .returned v ∧ RD l w.heap.size v w' ∧ Below w.heap.size w w' := by
  have hs : (mk l).size = l.length := mk_size l
  by_cases hbig : 100 < l.length
  · have hI : (100 : Int) < ((mk l).size : Int) := by omega
    have HR : Hid (RD l w.heap.size (.tuple #[.slice none 0 0, .int .i64 7]) w) := by
      show RD _ _ _ _; unfold RD; rw [if_pos hbig]
    clear hs hbig hl
    go_enter Tryz.func48, Tryz.ntmps48
    go_wp2
    go_step3
    go_wp2
    try rw [Exit.noGoto_ret]
    go_ret2
    exact ⟨_, rfl, HR.out, Below.refl _ _⟩
  · have hI : ¬ (100 : Int) < ((mk l).size : Int) := by omega
    have HLL : Hid (l.length ≤ 100) := by show _ ≤ _; omega
    obtain ⟨R, hR⟩ : ∃ R, R = sgns l (l.length + 1) 0 := ⟨_, rfl⟩
    have HRD : Hid (∀ v W, (match R with | none => v = .tuple #[.slice none 0 0, .int .i64 5] | some L => ∃ g c, v = .tuple #[.slice (some ⟨g, 0, none⟩) L.length c, .int .i64 0] ∧ GsOwn W w.heap.size (.slice (some ⟨g, 0, none⟩) L.length c) L) → RD l w.heap.size v W) := by
      intro v W h; unfold RD; rw [if_neg hbig, ← hR]; exact h
    have H0 : Hid (Rest l R [] 0) := by show Rest _ _ _ _; unfold Rest; rw [← hR]; cases R <;> simp
    obtain ⟨cs0, hmk, hown⟩ := made_sg w l.length (by omega)
    rw [← hs] at hmk hown
    obtain ⟨w0, hw0⟩ : ∃ w0, w0 = w.alloc (.cells cs0 77) := ⟨_, rfl⟩
    rw [← hw0] at hmk hown
    have HO0 : Hid (GsOwn w0 w.heap.size (.slice (some ⟨w.heap.size, 0, none⟩) 0 (mk l).size) []) := hown
    have HB0 : Hid (Below w.heap.size w w0) := by show Below _ _ _; rw [hw0]; exact (Below.refl _ _).alloc (Nat.le_refl _) _
    clear hown hbig hl hR hw0
    have HS := Lib.hid hs
    clear hs
    go_enter Tryz.func48, Tryz.ntmps48
    go_wp2
    go_step3
    go_wp2
    go_step3
    go_wp2
    go_loopg [4, 5] l.length (fun k v c wr => ∃ (L : List Sg) (a : Nat), c = .int .i64 a ∧ Hid (a + k = l.length) ∧ Hid (L.length ≤ a) ∧ Hid (Rest l R L a) ∧ (∃ g cc, v = .slice (some ⟨g, 0, none⟩) L.length cc) ∧ Hid (GsOwn wr w.heap.size v L) ∧ Hid (Below w.heap.size w wr))
    case atStart => exact ⟨[], 0, rfl, Nat.zero_add _, Nat.le_refl _, H0, ⟨_, _, rfl⟩, HO0, HB0⟩
    case round =>
      clear HB0 HO0 hmk H0
      obtain ⟨L, a, rfl, HA, HLA, HRS, ⟨g4, c4, rfl⟩, HO, HB⟩ := hrel
      have hA := HA.out
      have hLL := HLL.out
      by_cases ha : a < l.length
      · have hIa : (a : Int) < ((mk l).size : Int) := by rw [HS.out]; omega
        have hx := run_at l a ha
        by_cases h91 : nb l a = 91
        · have hb91 : bt l a = 91 := by rw [bt_nb, h91]; rfl
          rw [hb91] at hx
          have HBG := Lib.hid (begin_ci l a w wr g4 c4 L ha (by omega) HO.out HB.out)
          obtain ⟨st, hst⟩ : ∃ st, st = (if bang l a then a + 2 else a + 1 : Nat) := ⟨_, rfl⟩
          have HIN : Hid (InC l a st noneS) := by show InC _ _ _ _; rw [hst]; exact ⟨h91, rfl⟩
          have hstl : st ≤ l.length ∧ a < st := by
            rw [hst]; split
            · next h => have := bang_lt h; omega
            · omega
          have HSTL := Lib.hid hstl
          rw [← hst] at HBG
          obtain ⟨B, hB⟩ : ∃ B, B = bang l a := ⟨_, rfl⟩
          rw [← hB] at HBG
          have HBV := Lib.hid hB
          have HAL := Lib.hid ha
          obtain ⟨gC, hgC⟩ : ∃ gC, gC = wr.heap.size := ⟨_, rfl⟩
          have HGC := Lib.hid hgC
          clear hA hLL ha h91 hst hstl hB hb91 hgC
          go_wp2_with (go_at_call 60; refine HBG.out.mono ?_; rintro e w1 ⟨rfl, hci⟩; rw [← HGC.out] at hci; have HCI := Lib.hid hci; clear hci)
          rw [← HGC.out]
          clear HBG
          go_loopg [4, 5] (l.length - st) (fun k v c wx => ∃ (a2 : Nat) (S : Nat → Bool), v = .slice (some ⟨g4, 0, none⟩) L.length c4 ∧ c = .int .i64 a2 ∧ Hid (a2 + k = l.length) ∧ Hid (a < a2) ∧ Hid (InC l a a2 S) ∧ Hid (CI w wx gC g4 c4 B L S))
          case atStart => exact ⟨st, noneS, rfl, rfl, by show _ = _; have := HSTL.out; omega, HSTL.out.2, HIN, HCI⟩
          case round =>
            clear HCI HIN
            obtain ⟨a2, S, rfl, rfl, HA2, HLT2, HIN, HCI⟩ := hrel
            have hA2 := HA2.out
            have hLL := HLL.out
            by_cases ha2 : a2 < l.length
            · have hIa2 : (a2 : Int) < ((mk l).size : Int) := by rw [HS.out]; omega
              have hx2 := run_at l a2 ha2
              by_cases h93 : nb l a2 = 93
              · have hb93 : bt l a2 = 93 := by rw [bt_nb, h93]; rfl
                rw [hb93] at hx2
                have HEM := Lib.hid (classEmpty_any S gC wr HCI.out.set)
                cases he : emptyS S with
                | true =>
                  rw [he] at HEM
                  have HRN : Hid (R = none) := rest_none HRS.out HAL.out (inc_empty HIN.out ha2 h93 he)
                  clear hA2 hLL ha2 h93 hb93 he
                  go_wp2_with (go_at_call 61; refine HEM.out.mono ?_; rintro e w2 ⟨rfl, rfl⟩)
                  try rw [Exit.noGoto_ret]
                  go_ret2
                  exact ⟨_, rfl, HRD.out _ _ (by rw [HRN.out]; rfl), HCI.out.bel⟩
                | false =>
                  rw [he] at HEM
                  have HNX : Hid (Rest l R (L ++ [classSg B S]) (a2 + 1)) := by
                    show Rest _ _ _ _; rw [HBV.out]; exact rest_next HRS.out HAL.out (inc_done HIN.out ha2 h93 he)
                  have HSN0 := classSign_any S gC B wr HCI.out.set HCI.out.nt HCI.out.lt
                  have hw1 : IntKind.i64.wrap ((a2 : Int) + 1) = (a2 : Int) + 1 := IntWalk.i64_in _ (by omega)
                  obtain ⟨x, hxx⟩ : ∃ x, x = classSg B S := ⟨_, rfl⟩
                  have HXC : Hid (x.cs = [.int .u64 (wd (dropS (if B then turnS S else S) 47) 0 : Int), .int .u64 (wd (dropS (if B then turnS S else S) 47) 1 : Int), .int .u64 (wd (dropS (if B then turnS S else S) 47) 2 : Int), .int .u64 (wd (dropS (if B then turnS S else S) 47) 3 : Int), .bool false, .bool false, .int .u8 0]) := by show _ = _; rw [hxx]; rfl
                  rw [← hxx] at HNX
                  unfold signV at HSN0
                  have HSN := Lib.hid HSN0
                  clear HSN0
                  have HA2L := Lib.hid ha2
                  generalize (dropS (if B then turnS S else S) 47) = D at *
                  generalize wd D 0 = s0 at *
                  generalize wd D 1 = s1 at *
                  generalize wd D 2 = s2 at *
                  generalize wd D 3 = s3 at *
                  clear hA2 hLL ha2 h93 hb93 he hxx
                  go_wp2_with (first
                    | (go_at_call 61; refine HEM.out.mono ?_; rintro e w2 ⟨rfl, rfl⟩)
                    | (go_at_call 62; refine HSN.out.mono ?_; rintro e w2 ⟨rfl, hb⟩
                       have hci2 := HCI.out.later hb
                       have HB2 := Lib.hid hci2.bel
                       have HW2 : Hid (w.heap.size ≤ w2.heap.size) := hci2.bel.size
                       have hbA : Below w2.heap.size w2 (w2.alloc (.cells #[.int .u64 (s0 : Int), .int .u64 (s1 : Int), .int .u64 (s2 : Int), .int .u64 (s3 : Int), .bool false, .bool false, .int .u8 0] 77)) := (Below.refl _ _).alloc (Nat.le_refl _) _
                       have HO4 := Lib.hid (hci2.own.later hbA)
                       have HB4 := Lib.hid (HB2.out.trans (hbA.mono HW2.out))
                       have HC4 : Hid (∀ j u, x.cs[j]? = some u → (w2.alloc (.cells #[.int .u64 (s0 : Int), .int .u64 (s1 : Int), .int .u64 (s2 : Int), .int .u64 (s3 : Int), .bool false, .bool false, .int .u8 0] 77)).cell? ⟨w2.heap.size, j, none⟩ = some u) := by
                         intro j u hj
                         have hh := heap_new w2 (.cells #[.int .u64 (s0 : Int), .int .u64 (s1 : Int), .int .u64 (s2 : Int), .int .u64 (s3 : Int), .bool false, .bool false, .int .u8 0] 77)
                         rw [cell_of_row _ _ j _ _ (0, 0) hh]
                         rw [HXC.out] at hj
                         simpa using hj
                       clear hb hbA hci2)
                    | (at_builtin; go_must (refine append_sg rfl (.tmp 54) (.tmp 56) rfl w.heap.size (.slice (some ⟨g4, 0, none⟩) L.length c4) L x rfl HO4.out w2.heap.size 1 rfl HC4.out (by have := HLA.out; have := HLL.out; have := HAL.out; omega) (by simp; have := HW2.out; omega) ?_); intro v5 w5 hO5 hG5 hV5
                       have HO5 := Lib.hid hO5; have HB5 := Lib.hid (HB4.out.grown hG5 HB4.out.size (fun k hk => (HO4.out.lt k hk).1)); clear hG5 hV5 hO5))
                  obtain ⟨g5, c5, rfl⟩ : ∃ g c, v5 = .slice (some ⟨g, 0, none⟩) (L ++ [x]).length c := by
                    rcases HO5.out.form with ⟨h, -⟩ | ⟨g, c, h, -⟩
                    · simp at h
                    · exact ⟨g, c, h⟩
                  go_roundg (l.length - (a2 + 1))
                  case measure => have := HA.out; have := HLT2.out; have := HA2L.out; omega
                  case rel => exact ⟨L ++ [x], a2 + 1, by go_num, by show _ = _; have := HA2L.out; omega, by show _ ≤ _; have := HLT2.out; have := HLA.out; simp; omega, HNX, ⟨_, _, rfl⟩, HO5, HB5⟩
              · have hne2 : (bt l a2 == 93) = false := by rw [show (93 : Int) = ((93 : Nat) : Int) from rfl, nb91, decide_eq_false h93]
                have HRM := Lib.hid (readMember_any l a2 wr ha2 (by omega))
                generalize bt l a2 = cc at *
                cases hrm : rm l a2 with
                | none =>
                  have HRN : Hid (R = none) := rest_none HRS.out HAL.out (inc_bad HIN.out ha2 h93 hrm)
                  have HF : Hid (∀ v, RM l a2 v → ∃ x y z, v = .tuple #[.int .u8 x, .int .u8 y, .int .i64 z, .bool false]) := by
                    intro v hv; unfold RM at hv; rw [hrm] at hv; exact hv
                  clear hA2 hLL ha2 h93 hrm
                  go_wp2_with (go_at_call 63; refine HRM.out.mono ?_; rintro e w2 ⟨v, rfl, hv, hb⟩; obtain ⟨x1, x2, x3, e⟩ := HF.out v hv; subst e; have HC2 := Lib.hid (HCI.out.later hb); clear hv hb)
                  try rw [Exit.noGoto_ret]
                  go_ret2
                  exact ⟨_, rfl, HRD.out _ _ (by rw [HRN.out]; rfl), HC2.out.bel⟩
                | some y =>
                  obtain ⟨f, g, b⟩ := y
                  have HBD := Lib.hid (rm_bd hrm)
                  have HNI := Lib.hid (inc_next HIN.out ha2 h93 hrm)
                  have HF : Hid (∀ v, RM l a2 v → v = .tuple #[.int .u8 (f : Int), .int .u8 (g : Int), .int .i64 (b : Int), .bool true]) := by
                    intro v hv; unfold RM at hv; rw [hrm] at hv; exact hv
                  have HAD : Hid (∀ W, CI w W gC g4 c4 B L S → Calls Tryz.prog 64 #[.pointer (some ⟨gC, 0, none⟩), .int .u8 (f : Int), .int .u8 (g : Int)] W fun e w' => e = .returned (.tuple #[]) ∧ CI w w' gC g4 c4 B L (spanS S f (g + 1))) := by
                    intro W hc
                    refine (classAdd_any S gC f g W HBD.out.1 HBD.out.2.1 hc.set).mono ?_
                    rintro e w' ⟨h1, h2, h3⟩
                    exact ⟨h1, hc.add h2 h3⟩
                  clear hA2 hLL ha2 h93 hrm
                  go_wp2_with (first
                    | (go_at_call 63; refine HRM.out.mono ?_; rintro e w2 ⟨v, rfl, hv, hb⟩; have e := HF.out v hv; subst e; have HC2 := Lib.hid (HCI.out.later hb); clear hv hb)
                    | (go_at_call 64; refine (HAD.out _ HC2.out).mono ?_; rintro e w3 ⟨rfl, hc3⟩; have HC3 := Lib.hid hc3; clear hc3))
                  go_roundg (l.length - b)
                  case measure => have := HA2.out; have := HBD.out; omega
                  case rel => exact ⟨b, spanS S f (g + 1), rfl, rfl, by show _ = _; have := HBD.out; omega, by show _ < _; have := HBD.out; have := HLT2.out; omega, HNI, HC3⟩
            · have hIa2 : ¬ (a2 : Int) < ((mk l).size : Int) := by rw [HS.out]; omega
              have HRN : Hid (R = none) := rest_none HRS.out HAL.out (inc_end HIN.out ha2)
              clear hA2 hLL ha2
              go_wp2
              try rw [Exit.noGoto_ret]
              go_ret2
              exact ⟨_, rfl, HRD.out _ _ (by rw [HRN.out]; rfl), HCI.out.bel⟩
        · have hne : (bt l a == 91) = false := by rw [show (91 : Int) = ((91 : Nat) : Int) from rfl, nb91, decide_eq_false h91]
          have HSG := Lib.hid (readSign_any l a wr ha (by omega) h91)
          generalize bt l a = c at *
          cases hsg : sgn l a with
          | none =>
            have HRN : Hid (R = none) := rest_none HRS.out ha hsg
            have HF : Hid (∀ v, RS l a v → v = .tuple #[.agg #[.int .u64 0, .int .u64 0, .int .u64 0, .int .u64 0, .bool false, .bool false, .int .u8 0], .int .i64 0, .bool false]) := by
              intro v hv; unfold RS at hv; rw [hsg] at hv; exact hv
            clear hA hLL ha h91 hsg
            go_wp2_with (go_at_call 59; refine HSG.out.mono ?_; rintro e w2 ⟨v, rfl, hv, hb⟩; have e := HF.out v hv; subst e; have HB2 := Lib.hid (HB.out.trans (hb.mono HB.out.size)); clear hv hb)
            try rw [Exit.noGoto_ret]
            go_ret2
            exact ⟨_, rfl, HRD.out _ _ (by rw [HRN.out]; rfl), HB2.out.alloc HB2.out.size _⟩
          | some y =>
            obtain ⟨x, b⟩ := y
            have hb := sgn_bd ha hsg
            have HNX := Lib.hid (rest_next HRS.out ha hsg)
            have HF : Hid (∀ v, RS l a v → v = .tuple #[.agg #[.int .u64 (wd x.S 0 : Int), .int .u64 (wd x.S 1 : Int), .int .u64 (wd x.S 2 : Int), .int .u64 (wd x.S 3 : Int), .bool x.many, .bool x.itself, .int .u8 (x.c : Int)], .int .i64 (b : Int), .bool true]) := by
              intro v hv; unfold RS at hv; rw [hsg] at hv; exact hv
            have HBB : Hid (a < b ∧ b ≤ l.length) := hb
            have HXC : Hid (x.cs = [.int .u64 (wd x.S 0 : Int), .int .u64 (wd x.S 1 : Int), .int .u64 (wd x.S 2 : Int), .int .u64 (wd x.S 3 : Int), .bool x.many, .bool x.itself, .int .u8 (x.c : Int)]) := rfl
            obtain ⟨s0, hs0⟩ : ∃ s0, s0 = wd x.S 0 := ⟨_, rfl⟩
            obtain ⟨s1, hs1⟩ : ∃ s1, s1 = wd x.S 1 := ⟨_, rfl⟩
            obtain ⟨s2, hs2⟩ : ∃ s2, s2 = wd x.S 2 := ⟨_, rfl⟩
            obtain ⟨s3, hs3⟩ : ∃ s3, s3 = wd x.S 3 := ⟨_, rfl⟩
            obtain ⟨m4, hm4⟩ : ∃ m4, m4 = x.many := ⟨_, rfl⟩
            obtain ⟨m5, hm5⟩ : ∃ m5, m5 = x.itself := ⟨_, rfl⟩
            obtain ⟨m6, hm6⟩ : ∃ m6, m6 = x.c := ⟨_, rfl⟩
            rw [← hs0, ← hs1, ← hs2, ← hs3, ← hm4, ← hm5, ← hm6] at HF HXC
            clear hA hLL ha h91 hsg hb hs0 hs1 hs2 hs3 hm4 hm5 hm6
            have HBS : Hid (w.heap.size ≤ wr.heap.size) := HB.out.size
            go_wp2_with (first
              | (go_at_call 59; refine HSG.out.mono ?_; rintro e w2 ⟨v, rfl, hv, hb⟩; have e := HF.out v hv; subst e; have HO2 := Lib.hid (HO.out.later hb); have HB2 := Lib.hid (HB.out.trans (hb.mono HB.out.size)); have HW2 : Hid (w.heap.size ≤ w2.heap.size) := HB2.out.size
                 have hbA : Below w2.heap.size w2 ((w2.alloc (.cells #[.int .u64 (s0 : Int), .int .u64 (s1 : Int), .int .u64 (s2 : Int), .int .u64 (s3 : Int), .bool m4, .bool m5, .int .u8 (m6 : Int)] 77)).alloc (.cells #[.int .u64 (s0 : Int), .int .u64 (s1 : Int), .int .u64 (s2 : Int), .int .u64 (s3 : Int), .bool m4, .bool m5, .int .u8 (m6 : Int)] 77)) := ((Below.refl _ _).alloc (Nat.le_refl _) _).alloc (by simp) _
                 have HO4 := Lib.hid (HO2.out.later hbA)
                 have HB4 := Lib.hid (HB2.out.trans (hbA.mono HW2.out))
                 have HC4 : Hid (∀ j u, x.cs[j]? = some u → ((w2.alloc (.cells #[.int .u64 (s0 : Int), .int .u64 (s1 : Int), .int .u64 (s2 : Int), .int .u64 (s3 : Int), .bool m4, .bool m5, .int .u8 (m6 : Int)] 77)).alloc (.cells #[.int .u64 (s0 : Int), .int .u64 (s1 : Int), .int .u64 (s2 : Int), .int .u64 (s3 : Int), .bool m4, .bool m5, .int .u8 (m6 : Int)] 77)).cell? ⟨w2.heap.size + 1, j, none⟩ = some u) := by
                   intro j u hj
                   have hh := heap_new (w2.alloc (.cells #[.int .u64 (s0 : Int), .int .u64 (s1 : Int), .int .u64 (s2 : Int), .int .u64 (s3 : Int), .bool m4, .bool m5, .int .u8 (m6 : Int)] 77)) (.cells #[.int .u64 (s0 : Int), .int .u64 (s1 : Int), .int .u64 (s2 : Int), .int .u64 (s3 : Int), .bool m4, .bool m5, .int .u8 (m6 : Int)] 77)
                   rw [World.size_alloc] at hh
                   rw [cell_of_row _ _ j _ _ (0, 0) hh]
                   rw [HXC.out] at hj
                   simpa using hj
                 clear hv hb hbA)
              | (at_builtin; go_must (refine append_sg rfl (.tmp 37) (.tmp 39) rfl w.heap.size (.slice (some ⟨g4, 0, none⟩) L.length c4) L x rfl HO4.out (w2.heap.size + 1) 1 rfl HC4.out (by have := HLA.out; have := HLL.out; have := HBB.out; omega) (by simp; have := HW2.out; omega) ?_); intro v5 w5 hO5 hG5 hV5
                 have HO5 := Lib.hid hO5; have HB5 := Lib.hid (HB4.out.grown hG5 HB4.out.size (fun k hk => (HO4.out.lt k hk).1)); clear hG5 hV5 hO5))
            obtain ⟨g5, c5, rfl⟩ : ∃ g c, v5 = .slice (some ⟨g, 0, none⟩) (L ++ [x]).length c := by
              rcases HO5.out.form with ⟨h, -⟩ | ⟨g, c, h, -⟩
              · simp at h
              · exact ⟨g, c, h⟩
            go_roundg (l.length - b)
            case measure => have := HA.out; have := HBB.out; omega
            case rel => exact ⟨L ++ [x], b, rfl, by show _ = _; have := HBB.out; omega, by show _ ≤ _; have := HBB.out; have := HLA.out; simp; omega, HNX, ⟨_, _, rfl⟩, HO5, HB5⟩
      · have hIa : ¬ (a : Int) < ((mk l).size : Int) := by rw [HS.out]; omega
        have HRL : Hid (R = some L) := rest_stop HRS.out ha
        clear hA hLL ha
        go_wp2
        try rw [Exit.noGoto_ret]
        go_ret2
        exact ⟨_, rfl, HRD.out _ _ (by rw [HRL.out]; exact ⟨_, _, rfl, HO.out⟩), HB.out⟩
end Go.Proofs.YtokocfoeohddfaaGreatDoor.Pa
