/- squash: the document's long and best. (A template: seatgen.py fills it.) -/
import Derived.Test.YtkbpjgkggmbbjaaSqLike
import Derived.ScopeJumps
import Derived.WalkSmall
import Derived.BigQuiet
import Derived.Deep.QuietTactic
namespace Go.Proofs.Ytkbpjgkggmbbjaa.Sq
open Go.RowKit Go.Proofs.NumMath Go.Maps
set_option linter.unusedVariables false
set_option maxRecDepth 1000000

theorem bst_skip {l : List Int} {p d n f : Nat} (hd : 1 ≤ d) (hb : bst l p (d - 1) = (n, f)) (h : lng l d p 130 ≤ n) : bst l p d = (n, f) := by
  obtain ⟨e, rfl⟩ : ∃ e, d = e + 1 := ⟨d - 1, by omega⟩
  rw [Nat.add_sub_cancel] at hb
  unfold bst
  rw [hb, if_neg (by simp only; omega)]
theorem bst_take {l : List Int} {p d n f k : Nat} (hd : 1 ≤ d) (hb : bst l p (d - 1) = (n, f)) (hk : lng l d p 130 = k) (h : n < k) : bst l p d = (k, d) := by
  obtain ⟨e, rfl⟩ : ∃ e, d = e + 1 := ⟨d - 1, by omega⟩
  rw [Nat.add_sub_cancel] at hb
  unfold bst
  rw [hb, hk, if_pos (by simp only; omega)]
theorem lng_stop {l : List Int} {p d n : Nat} (hp : p ≤ l.length) (h : l.getD (p + n) 0 ≠ l.getD (p + n - d) 0) : lng l d p 130 ≤ n := by
  obtain ⟨h1, h2, h3, h4⟩ := lng_spec l d 130 p hp
  rcases Nat.lt_or_ge n (lng l d p 130) with g | g
  · exact absurd (h3 n g) h
  · exact g

set_option maxHeartbeats 4000000 in
theorem rlong_any (v : Value) (l : List Int) (p d : Nat) (w : World) (h : Sl w v l) (hp : p < l.length) (hd : 1 ≤ d) (hdp : d ≤ p) (hl : l.length ≤ 65536) :
    Calls Try.prog 35 #[v, .int .i64 p, .int .i64 d] w fun e w' => e = .returned (.int .i64 (lng l d p 130 : Nat)) ∧ Below w.heap.size w w' := by
  obtain ⟨a, cap, rfl, hB, hn, hc⟩ := h
  obtain ⟨b, off, rfl, hbc⟩ := hB.2 (by intro e; subst e; simp at hp)
  have HB := Lib.hid hbc
  obtain ⟨N, hN⟩ : ∃ N, N = l.length := ⟨_, rfl⟩
  have HN := Lib.hid hN
  rw [← hN] at hc hp hl ⊢
  clear hbc hB hn hN
  go_enter Try.func35, Try.ntmps35
  go_wp2
  go_loopw [7] (fun c wr => ∃ n : Nat, c = .int .i64 n ∧ n ≤ 130 ∧ p + n ≤ N ∧ Hid (∀ i, i < n → l.getD (p + i) 0 = l.getD (p + i - d) 0) ∧ Below w.heap.size w wr) (fun c _ => 130 - (intOf c).toNat)
  case atStart => exact ⟨0, rfl, by omega, by omega, (show ∀ i, i < 0 → _ from fun i hi => absurd hi (by omega)), Below.refl _ _⟩
  case round =>
    obtain ⟨n, rfl, hn1, hn2, HS, hbel⟩ := hrel
    have HBEL := Lib.hid hbel
    by_cases h130 : n < 130
    · have h130I : (n : Int) < 130 := by omega
      by_cases hend : p + n < N
      · obtain ⟨A, hA⟩ : ∃ A, A = p + n := ⟨_, rfl⟩
        obtain ⟨B, hB⟩ : ∃ B, B = p + n - d := ⟨_, rfl⟩
        have c1 := cell_later hbel (HB.out A (by rw [← HN.out]; omega))
        have c2 := cell_later hbel (HB.out B (by rw [← HN.out]; omega))
        obtain ⟨x, hx⟩ : ∃ x, x = l.getD A 0 := ⟨_, rfl⟩
        obtain ⟨y, hy⟩ : ∃ y, y = l.getD B 0 := ⟨_, rfl⟩
        rw [← hx] at c1
        rw [← hy] at c2
        have hAI : (p : Int) + (n : Int) = (A : Int) := by omega
        have hBI : (A : Int) - (d : Int) = (B : Int) := by omega
        have hA1 : A < N := by omega
        have hB1 : B < N := by omega
        have hA2 : (A : Int) < (N : Int) := by omega
        have hAw : IntKind.i64.wrap (A : Int) = (A : Int) := wrapN A (by omega)
        have hBw : IntKind.i64.wrap (B : Int) = (B : Int) := wrapN B (by omega)
        by_cases hxy : x = y
        · subst hxy
          have HN1 : Hid (∀ i, i < n + 1 → l.getD (p + i) 0 = l.getD (p + i - d) 0) := by
            show ∀ i, i < n + 1 → _
            intro i hi
            rcases Nat.lt_or_ge i n with h | h
            · exact HS.out i h
            · have : i = n := by omega
              subst this; rw [← hB, ← hA, ← hx, ← hy]
          clear hA hB hx hy hbel hend
          try go_wp2
          go_quiet (fail)
          go_wp2
          go_roundw
          case rel => exact ⟨n + 1, by go_num, by omega, by omega, HN1, below_drewN HBEL.out _⟩
          case measure => simp [intOf]; omega
        · have hxb : (x == y) = false := by simpa using hxy
          have HR : Hid (lng l d p 130 = n) := Lg.eq ⟨by omega, by rw [← HN.out]; omega, HS.out, fun _ _ => by rw [← hB, ← hA, ← hx, ← hy]; exact hxy⟩
          clear hA hB hx hy hbel hend
          try go_wp2
          go_quiet (fail)
          go_wp2
          go_ret
          rw [HR.out]
          exact ⟨rfl, below_drewN HBEL.out _⟩
      · have hNI : (p : Int) + (n : Int) = (N : Int) := by omega
        have hNw : IntKind.i64.wrap (N : Int) = (N : Int) := wrapN N (by omega)
        have HR : Hid (lng l d p 130 = n) := Lg.eq ⟨by omega, by rw [← HN.out]; omega, HS.out, fun _ h => absurd h (by rw [← HN.out]; omega)⟩
        clear hbel hend
        try go_wp2
        go_quiet (fail)
        go_wp2
        go_ret
        rw [HR.out]
        exact ⟨rfl, below_drewN HBEL.out _⟩
    · have h130I : ¬ (n : Int) < 130 := by omega
      have h130d : decide ((n : Int) < 130) = false := by simp; omega
      have HR : Hid (lng l d p 130 = n) := Lg.eq ⟨by omega, by rw [← HN.out]; omega, HS.out, fun h => absurd h h130⟩
      clear hbel
      try go_wp2
      go_quiet (fail)
      go_wp2
      go_ret
      rw [HR.out]
      exact ⟨rfl, below_drewN HBEL.out _⟩

set_option maxHeartbeats 16000000 in
theorem rbest_any (v : Value) (l : List Int) (p : Nat) (w : World) (h : Sl w v l) (hp : p < l.length) (hl : l.length ≤ 65536) :
    Calls Try.prog 25 #[v, .int .i64 p] w fun e w' => e = .returned (two (best l p)) ∧ Below w.heap.size w w' := by
  have HSL := Lib.hid h
  obtain ⟨a, cap, rfl, hB, hn, hc⟩ := h
  obtain ⟨b, off, rfl, hbc⟩ := hB.2 (by intro e; subst e; simp at hp)
  have HB := Lib.hid hbc
  obtain ⟨N, hN⟩ : ∃ N, N = l.length := ⟨_, rfl⟩
  have HN := Lib.hid hN
  rw [← hN] at hc hp hl HSL ⊢
  clear hbc hB hn hN
  go_enter Try.func25, Try.ntmps25
  go_wp2
  go_loopw [6, 7, 8] (fun c1 c2 c3 wr => ∃ n f d : Nat, c1 = .int .i64 n ∧ c2 = .int .i64 f ∧ c3 = .int .i64 d ∧ 1 ≤ d ∧ d ≤ min p 4096 + 1 ∧ Hid (bst l p (d - 1) = (n, f)) ∧ n ≤ 130 ∧ p + n ≤ N ∧ Below w.heap.size w wr) (fun _ _ c _ => 5000 - (intOf c).toNat)
  case atStart => exact ⟨0, 0, 1, rfl, rfl, rfl, by omega, by omega, (show bst l p (1 - 1) = (0, 0) from rfl), by omega, by omega, Below.refl _ _⟩
  case round =>
    obtain ⟨n, f, d, rfl, rfl, rfl, hd, hdm, HBS, hn1, hn2, hbel⟩ := hrel
    have HBEL := Lib.hid hbel
    by_cases hin : d ≤ p ∧ d ≤ 4096
    · obtain ⟨hdp, hd4⟩ := hin
      have hdpI : (d : Int) ≤ (p : Int) := by omega
      have hd4I : (d : Int) ≤ 4096 := by omega
      obtain ⟨B, hB⟩ : ∃ B, B = p - d := ⟨_, rfl⟩
      have c1 := cell_later hbel (HB.out p (by rw [← HN.out]; omega))
      have c2 := cell_later hbel (HB.out B (by rw [← HN.out]; omega))
      obtain ⟨x, hx⟩ : ∃ x, x = l.getD p 0 := ⟨_, rfl⟩
      obtain ⟨y, hy⟩ : ∃ y, y = l.getD B 0 := ⟨_, rfl⟩
      rw [← hx] at c1
      rw [← hy] at c2
      have hBI : (p : Int) - (d : Int) = (B : Int) := by omega
      have hB1 : B < N := by omega
      have hBw : IntKind.i64.wrap (B : Int) = (B : Int) := wrapN B (by omega)
      by_cases hxy : x = y
      · subst hxy
        obtain ⟨k, hk⟩ : ∃ k, k = lng l d p 130 := ⟨_, rfl⟩
        have HK : Hid (lng l d p 130 = k) := hk.symm
        have hkb := lng_le (l := l) (d := d) (p := p) (by rw [← HN.out]; omega)
        rw [← hk, ← HN.out] at hkb
        have HLO : Hid (∀ i, Calls Try.prog 35 #[.slice (some ⟨b, off, none⟩) N cap, .int .i64 (p : Int), .int .i64 (d : Int)] (wr.drewN i) fun e w' => e = .returned (.int .i64 (k : Nat)) ∧ Below w.heap.size w w') := fun i => by
          have hb0 := below_drewN hbel i
          refine (rlong_any _ l p d _ (HSL.out.later hb0) (by rw [← HN.out]; omega) hd hdp (by rw [← HN.out]; omega)).mono ?_
          rintro e w' ⟨rfl, hb⟩
          exact ⟨by rw [HK.out], hb0.trans (hb.mono hb0.size)⟩
        clear hk hx hy hB
        by_cases h0 : n = 0
        · have h0N : ¬ 0 < n := by omega
          have h0d : decide (0 < n) = false := by simp; omega
          have h0D : decide ((0 : Int) < (n : Int)) = false := by simp; omega
          clear h0
          clear hbel
          by_cases hk : n < k
          · have hkI : (n : Int) < (k : Int) := by omega
            have HR : Hid (bst l p d = (k, d)) := bst_take hd HBS.out HK.out hk
            try go_wp2
            go_quiet (fail)
            go_wp2_with (go_at_call 35; refine (HLO.out _).mono ?_; rintro e w2 ⟨rfl, hb2⟩)
            go_roundw
            case rel => exact ⟨k, d, d + 1, rfl, rfl, by go_num, by omega, by omega, HR, by omega, by omega, hb2⟩
            case measure => simp [intOf]; omega
          · have hkI : ¬ (n : Int) < (k : Int) := by omega
            have HR : Hid (bst l p d = (n, f)) := bst_skip hd HBS.out (by rw [HK.out]; omega)
            try go_wp2
            go_quiet (fail)
            go_wp2_with (go_at_call 35; refine (HLO.out _).mono ?_; rintro e w2 ⟨rfl, hb2⟩)
            go_roundw
            case rel => exact ⟨n, f, d + 1, rfl, rfl, by go_num, by omega, by omega, HR, by omega, by omega, hb2⟩
            case measure => simp [intOf]; omega
        · have h0I : (0 : Int) < (n : Int) := by omega
          have h0N : 0 < n := by omega
          have h0d : decide (0 < n) = true := by simp; omega
          have h0D : decide ((0 : Int) < (n : Int)) = true := by simp; omega
          by_cases hend : p + n < N
          · obtain ⟨A, hA⟩ : ∃ A, A = p + n := ⟨_, rfl⟩
            obtain ⟨C, hC⟩ : ∃ C, C = p + n - d := ⟨_, rfl⟩
            have c3 := cell_later hbel (HB.out A (by rw [← HN.out]; omega))
            have c4 := cell_later hbel (HB.out C (by rw [← HN.out]; omega))
            obtain ⟨z, hz⟩ : ∃ z, z = l.getD A 0 := ⟨_, rfl⟩
            obtain ⟨q, hq⟩ : ∃ q, q = l.getD C 0 := ⟨_, rfl⟩
            rw [← hz] at c3
            rw [← hq] at c4
            have hAI : (p : Int) + (n : Int) = (A : Int) := by omega
            have hCI : (A : Int) - (d : Int) = (C : Int) := by omega
            have hA1 : A < N := by omega
            have hC1 : C < N := by omega
            have hA2 : (A : Int) < (N : Int) := by omega
            have hAw : IntKind.i64.wrap (A : Int) = (A : Int) := wrapN A (by omega)
            have hCw : IntKind.i64.wrap (C : Int) = (C : Int) := wrapN C (by omega)
            by_cases hzq : z = q
            · subst hzq
              clear hA hC hz hq hend
              clear hbel
              by_cases hk : n < k
              · have hkI : (n : Int) < (k : Int) := by omega
                have HR : Hid (bst l p d = (k, d)) := bst_take hd HBS.out HK.out hk
                try go_wp2
                go_quiet (fail)
                go_wp2_with (go_at_call 35; refine (HLO.out _).mono ?_; rintro e w2 ⟨rfl, hb2⟩)
                go_roundw
                case rel => exact ⟨k, d, d + 1, rfl, rfl, by go_num, by omega, by omega, HR, by omega, by omega, hb2⟩
                case measure => simp [intOf]; omega
              · have hkI : ¬ (n : Int) < (k : Int) := by omega
                have HR : Hid (bst l p d = (n, f)) := bst_skip hd HBS.out (by rw [HK.out]; omega)
                try go_wp2
                go_quiet (fail)
                go_wp2_with (go_at_call 35; refine (HLO.out _).mono ?_; rintro e w2 ⟨rfl, hb2⟩)
                go_roundw
                case rel => exact ⟨n, f, d + 1, rfl, rfl, by go_num, by omega, by omega, HR, by omega, by omega, hb2⟩
                case measure => simp [intOf]; omega
            · have hzb : (z != q) = true := by simpa using hzq
              have HR : Hid (bst l p d = (n, f)) := bst_skip hd HBS.out (lng_stop (by rw [← HN.out]; omega) (by rw [← hC, ← hA, ← hz, ← hq]; exact hzq))
              clear hA hC hz hq hend hzq
              clear hbel
              try go_wp2
              go_quiet (fail)
              go_wp2
              go_roundw
              case rel => exact ⟨n, f, d + 1, rfl, rfl, by go_num, by omega, by omega, HR, by omega, by omega, below_drewN HBEL.out _⟩
              case measure => simp [intOf]; omega
          · have hNI : (p : Int) + (n : Int) = (N : Int) := by omega
            have hNw : IntKind.i64.wrap (N : Int) = (N : Int) := wrapN N (by omega)
            clear hend
            clear hbel
            by_cases hk : n < k
            · have hkI : (n : Int) < (k : Int) := by omega
              have HR : Hid (bst l p d = (k, d)) := bst_take hd HBS.out HK.out hk
              try go_wp2
              go_quiet (fail)
              go_wp2_with (go_at_call 35; refine (HLO.out _).mono ?_; rintro e w2 ⟨rfl, hb2⟩)
              go_roundw
              case rel => exact ⟨k, d, d + 1, rfl, rfl, by go_num, by omega, by omega, HR, by omega, by omega, hb2⟩
              case measure => simp [intOf]; omega
            · have hkI : ¬ (n : Int) < (k : Int) := by omega
              have HR : Hid (bst l p d = (n, f)) := bst_skip hd HBS.out (by rw [HK.out]; omega)
              try go_wp2
              go_quiet (fail)
              go_wp2_with (go_at_call 35; refine (HLO.out _).mono ?_; rintro e w2 ⟨rfl, hb2⟩)
              go_roundw
              case rel => exact ⟨n, f, d + 1, rfl, rfl, by go_num, by omega, by omega, HR, by omega, by omega, hb2⟩
              case measure => simp [intOf]; omega
      · have hxb : (x != y) = true := by simpa using hxy
        have HR : Hid (bst l p d = (n, f)) := bst_skip hd HBS.out (Nat.le_trans (lng_stop (n := 0) (by rw [← HN.out]; omega) (by rw [Nat.add_zero, ← hB, ← hx, ← hy]; exact hxy)) (Nat.zero_le _))
        clear hB hx hy hxy
        clear hbel
        try go_wp2
        go_quiet (fail)
        go_wp2
        go_roundw
        case rel => exact ⟨n, f, d + 1, rfl, rfl, by go_num, by omega, by omega, HR, by omega, by omega, below_drewN HBEL.out _⟩
        case measure => simp [intOf]; omega
    · have HR : Hid (best l p = (n, f)) := by
        show best l p = (n, f)
        unfold best
        rw [← HBS.out]; congr 1; omega
      clear hbel
      by_cases hdp : d ≤ p
      · have hdpI : (d : Int) ≤ (p : Int) := by omega
        have hd4I : ¬ (d : Int) ≤ 4096 := by omega
        clear hin
        go_wp2
        go_ret2
        rw [HR.out]
        exact ⟨rfl, HBEL.out⟩
      · have hdpI : ¬ (d : Int) ≤ (p : Int) := by omega
        clear hin
        go_wp2
        go_ret2
        rw [HR.out]
        exact ⟨rfl, HBEL.out⟩
end Go.Proofs.Ytkbpjgkggmbbjaa.Sq
