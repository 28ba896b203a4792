/- rules: Parse. (A template.) -/
import Derived.Test.YtokocfoeohddfaaDoorRuParse
namespace Go.Proofs.YtokocfoeohddfaaDoor.Pa
open Go.RowKit
set_option linter.unusedVariables false
set_option linter.unusedSimpArgs false
set_option maxRecDepth 100000

set_option maxHeartbeats 8000000 in
theorem parse_ru (l : L8) (w : World) (hl : l.length ≤ 4611686018427387904) :
    Calls Tryd.prog 30 #[.string (mk l)] w fun e w' => e = .returned (.tuple #[(parseR l).1.val, .int .i64 (parseR l).2]) ∧ Below w.heap.size w w' := by
  have hs : (mk l).size = l.length := mk_size l
  have HR0 : Hid ((w.alloc (.cells #[.int .i64 0, .string { data := #[] }, .bool false, .bool false] 42)).heap[w.heap.size]? = some (.cells #[.int .i64 0, .string { data := #[] }, .bool false, .bool false] 42)) := heap_new _ _
  have HB0 : Hid (Below w.heap.size w (w.alloc (.cells #[.int .i64 0, .string { data := #[] }, .bool false, .bool false] 42))) := (Below.refl _ _).alloc (Nat.le_refl _) _
  by_cases h2 : l.length < 2
  · have hD : decide (((mk l).size : Int) < 2) = true := decide_eq_true (by omega)
    have e : parseR l = (zeroRu, 5) := by unfold parseR; rw [if_pos (.inl h2)]
    rw [e]
    clear hs hl h2 e
    generalize mk l = p at *
    go_enter Tryd.func30, Tryd.ntmps30
    go_wp2
    try simp only [Exit.inBlock, Exit.then]
    refine bodyPost_ret (v := .tuple #[zeroRu.val, .int .i64 5]) (results_cell2_row (p := 2) (u := 3) rfl _ _ w.heap.size 42 #[.int .i64 0, .string { data := #[] }, .bool false, .bool false] (0, 0) _ rfl HR0.out Tryd.underlying42 rfl (by kernel_rfl)) rfl ?_
    exact ⟨rfl, HB0.out⟩
  · have hD : decide (((mk l).size : Int) < 2) = false := decide_eq_false (by omega)
    have hx1 := run_at l 1 (by omega)
    simp only [Int.cast_ofNat_Int] at hx1
    rw [bt_nb] at hx1
    by_cases h32 : nb l 1 = 32
    · rw [h32] at hx1
      have hx0 := run_at l 0 (by omega)
      simp only [Int.cast_ofNat_Int] at hx0
      rw [bt_nb] at hx0
      have HI : Hid (∀ W, Calls Tryd.prog 50 #[.string { data := #[43, 45, 80, 82] }, .int .u8 (nb l 0 : Int)] W fun e w' => e = .returned (.int .i64 (signI (l.getD 0 0))) ∧ w' = W) := by
        intro W
        have := Tryd.strings_IndexByte { data := #[43, 45, 80, 82] } (nb l 0 : Int) W
        have e1 : ((nb l 0 : Int)).toNat.toUInt8 = l.getD 0 0 := by unfold nb; simp
        rw [e1] at this
        exact this
      have hsb := signI_bd (l.getD 0 0)
      obtain ⟨S, hS⟩ : ∃ S, S = signI (l.getD 0 0) := ⟨_, rfl⟩
      rw [← hS] at HI hsb
      by_cases hneg : S < 0
      · have hDn : decide (S < 0) = true := decide_eq_true hneg
        have e : parseR l = (zeroRu, 5) := by unfold parseR; rw [if_pos (.inr (.inr (hS ▸ hneg)))]
        rw [e]
        clear hs hl h2 e hS hsb h32
        generalize nb l 0 = c0 at *
        generalize mk l = p at *
        go_enter Tryd.func30, Tryd.ntmps30
        go_wp2_with (go_at_call 50; refine (HI.out _).mono ?_; rintro e w' ⟨rfl, rfl⟩)
        try simp only [Exit.inBlock, Exit.then]
        refine bodyPost_ret (v := .tuple #[zeroRu.val, .int .i64 5]) (results_cell2_row (p := 2) (u := 3) rfl _ _ w.heap.size 42 #[.int .i64 0, .string { data := #[] }, .bool false, .bool false] (0, 0) _ rfl HR0.out Tryd.underlying42 rfl (by kernel_rfl)) rfl ?_
        exact ⟨rfl, HB0.out⟩
      · have hDn : decide (S < 0) = false := decide_eq_false hneg
        have hw1 : IntKind.i64.wrap (1 + S) = 1 + S := IntWalk.i64_in _ (by omega)
        have hxt := run_tl l 2 (by omega)
        simp only [Int.cast_ofNat_Int] at hxt
        have hdl : (l.drop 2).length ≤ 4611686018427387904 := by rw [List.length_drop]; omega
        have hcl := cutp_len (l.drop 2)
        have hcl2 := cuts_len (cutp (l.drop 2)).1
        have HCP := Lib.hid (fun W => cutp_any (l.drop 2) W hdl)
        have HCS := Lib.hid (fun W => cuts_any (cutp (l.drop 2)).1 W (by omega))
        have hE : lineRu l = ⟨1 + S, (cuts (cutp (l.drop 2)).1).1, (cuts (cutp (l.drop 2)).1).2, (cutp (l.drop 2)).2⟩ := by unfold lineRu; rw [← hS]
        have hP : parseR l = if refE (1 + S) (cuts (cutp (l.drop 2)).1).1 ≠ 0 then (zeroRu, refE (1 + S) (cuts (cutp (l.drop 2)).1).1) else (lineRu l, 0) := by
          unfold parseR
          rw [if_neg (by rw [← hS]; simp only [not_or]; exact ⟨h2, fun h => h h32, hneg⟩), hE]
        rw [hE] at hP
        rw [hP]
        obtain ⟨q1, hq1⟩ : ∃ q, q = (cutp (l.drop 2)).1 := ⟨_, rfl⟩
        obtain ⟨an, han⟩ : ∃ b, b = (cutp (l.drop 2)).2 := ⟨_, rfl⟩
        rw [← hq1] at HCP HCS hP hcl2 hcl ⊢
        rw [← han] at HCP hP ⊢
        obtain ⟨q2, hq2⟩ : ∃ q, q = (cuts q1).1 := ⟨_, rfl⟩
        obtain ⟨di, hdi⟩ : ∃ b, b = (cuts q1).2 := ⟨_, rfl⟩
        rw [← hq2] at HCS hP hcl2 ⊢
        rw [← hdi] at HCS hP ⊢
        obtain ⟨act, hact⟩ : ∃ a, a = 1 + S := ⟨_, rfl⟩
        have ha1 : IntKind.i64.wrap (1 + S) = act := by rw [hact]; exact hw1
        rw [← hact] at hP ⊢
        obtain ⟨w2, hw2⟩ : ∃ w2, w2 = (w.alloc (.cells #[.int .i64 0, .string { data := #[] }, .bool false, .bool false] 42)).alloc (.cells #[.int .i64 act, .string (mk q2), .bool di, .bool an] 42) := ⟨_, rfl⟩
        have r2 : w2.heap[w.heap.size]? = some (.cells #[.int .i64 0, .string { data := #[] }, .bool false, .bool false] 42) := by rw [hw2, Below.heap_alloc _ _ _ (by simp)]; exact heap_new _ _
        have r3 : w2.heap[w.heap.size + 1]? = some (.cells #[.int .i64 act, .string (mk q2), .bool di, .bool an] 42) := by
          have := heap_new (w.alloc (.cells #[.int .i64 0, .string { data := #[] }, .bool false, .bool false] 42)) (.cells #[.int .i64 act, .string (mk q2), .bool di, .bool an] 42)
          rw [World.size_alloc] at this
          rw [hw2]; exact this
        have b2 : Below w.heap.size w w2 := by rw [hw2]; exact ((Below.refl _ _).alloc (Nat.le_refl _) _).alloc (by simp) _
        have HRF : Hid (Calls Tryd.prog 48 #[ruV act (mk q2) di an] w2 fun e w' => e = .returned (.int .i64 (refE act q2)) ∧ w'.heap[w.heap.size]? = some (.cells #[.int .i64 0, .string { data := #[] }, .bool false, .bool false] 42) ∧ w'.heap[w.heap.size + 1]? = some (.cells #[.int .i64 act, .string (mk q2), .bool di, .bool an] 42) ∧ Below w.heap.size w w') :=
          (refused_ru act q2 di an w2 (by omega)).mono fun e w' ⟨h1, h2⟩ => ⟨h1, (h2.block _ (Array.getElem?_eq_some_iff.1 r2).1).trans r2, (h2.block _ (Array.getElem?_eq_some_iff.1 r3).1).trans r3, b2.trans (h2.mono b2.size)⟩
        rw [hw2] at HRF
        have HP2 : Hid ((if refE act q2 ≠ 0 then (zeroRu, refE act q2) else ((⟨act, q2, di, an⟩ : Ru), 0)) = if refE act q2 ≠ 0 then (zeroRu, refE act q2) else ((⟨act, q2, di, an⟩ : Ru), 0)) := rfl
        clear hs hl h2 h32 hneg hsb hS hdl hcl hcl2 hE hP hq1 han hq2 hdi hw2 r2 r3 b2
        clear hw1 hact
        generalize nb l 0 = c0 at *
        generalize mk (l.drop 2) = t2 at *
        generalize mk l = p at *
        by_cases hz : refE act q2 = 0
        · rw [if_neg (by simpa using hz)]
          rw [hz] at HRF
          clear hz HP2
          have HV : Hid ((⟨act, q2, di, an⟩ : Ru).val = .agg #[.int .i64 act, .string (mk q2), .bool di, .bool an]) := rfl
          rw [HV.out]
          generalize mk q2 = s2 at *
          generalize mk q1 = s1 at *
          go_enter Tryd.func30, Tryd.ntmps30
          go_wp2_with (first
            | (go_at_call 50; refine (HI.out _).mono ?_; rintro e w' ⟨rfl, rfl⟩)
            | (go_at_call 51; refine (HCP.out _).mono ?_; rintro e w' ⟨rfl, rfl⟩)
            | (go_at_call 52; refine (HCS.out _).mono ?_; rintro e w' ⟨rfl, rfl⟩)
            | (go_at_call 48; refine HRF.out.mono ?_; rintro e w3 ⟨rfl, hr2, hr3, hb3⟩; obtain ⟨⟨k0, k1, k2, k3⟩, f0, f1, f2, f3⟩ := cells4 hr2; obtain ⟨⟨j0, j1, j2, j3⟩, -⟩ := cells4 hr3; have HR2 := Lib.hid hr2; have HB3 := Lib.hid hb3; clear hr2 hr3 hb3))
          try simp only [Exit.inBlock, Exit.then]
          refine bodyPost_ret (v := .tuple #[.agg #[.int .i64 act, .string s2, .bool di, .bool an], .int .i64 0]) (results_cell2_row (p := 2) (u := 3) rfl _ _ w.heap.size 42 #[.int .i64 act, .string s2, .bool di, .bool an] (0, 0) _ rfl (by exact row4 HR2.out _ _ _ _) Tryd.underlying42 rfl (by kernel_rfl)) rfl ?_
          exact ⟨rfl, (((HB3.out.setCell (Nat.le_refl _) _).setCell (Nat.le_refl _) _).setCell (Nat.le_refl _) _).setCell (Nat.le_refl _) _⟩
        · rw [if_pos hz]
          have hne : (refE act q2 == 0) = false := by simpa using hz
          generalize refE act q2 = er at *
          clear hz HP2
          generalize mk q2 = s2 at *
          generalize mk q1 = s1 at *
          go_enter Tryd.func30, Tryd.ntmps30
          go_wp2_with (first
            | (go_at_call 50; refine (HI.out _).mono ?_; rintro e w' ⟨rfl, rfl⟩)
            | (go_at_call 51; refine (HCP.out _).mono ?_; rintro e w' ⟨rfl, rfl⟩)
            | (go_at_call 52; refine (HCS.out _).mono ?_; rintro e w' ⟨rfl, rfl⟩)
            | (go_at_call 48; refine HRF.out.mono ?_; rintro e w3 ⟨rfl, hr2, hr3, hb3⟩; obtain ⟨⟨k0, k1, k2, k3⟩, f0, f1, f2, f3⟩ := cells4 hr2; have HR2 := Lib.hid hr2; have HB3 := Lib.hid hb3; clear hr2 hr3 hb3))
          try simp only [Exit.inBlock, Exit.then]
          refine bodyPost_ret (v := .tuple #[zeroRu.val, .int .i64 er]) (results_cell2_row (p := 2) (u := 3) rfl _ _ w.heap.size 42 #[.int .i64 0, .string { data := #[] }, .bool false, .bool false] (0, 0) _ rfl (by exact row4 HR2.out _ _ _ _) Tryd.underlying42 rfl (by kernel_rfl)) rfl ?_
          exact ⟨rfl, (((HB3.out.setCell (Nat.le_refl _) _).setCell (Nat.le_refl _) _).setCell (Nat.le_refl _) _).setCell (Nat.le_refl _) _⟩
    · have hq : (((nb l 1 : Nat) : Int) == 32) = false := by
        have : ¬ ((nb l 1 : Int) = 32) := by omega
        simpa using this
      have e : parseR l = (zeroRu, 5) := by unfold parseR; rw [if_pos (.inr (.inl h32))]
      rw [e]
      clear hs hl h2 e h32
      generalize nb l 1 = c1 at *
      generalize mk l = p at *
      go_enter Tryd.func30, Tryd.ntmps30
      go_wp2
      try simp only [Exit.inBlock, Exit.then]
      refine bodyPost_ret (v := .tuple #[zeroRu.val, .int .i64 5]) (results_cell2_row (p := 2) (u := 3) rfl _ _ w.heap.size 42 #[.int .i64 0, .string { data := #[] }, .bool false, .bool false] (0, 0) _ rfl HR0.out Tryd.underlying42 rfl (by kernel_rfl)) rfl ?_
      exact ⟨rfl, HB0.out⟩
end Go.Proofs.YtokocfoeohddfaaDoor.Pa
