/- gear: the document's numbers; where the first piece ends. (A template: seatgen.py fills it.) -/
import Derived.Test.YtheklipnnflnaaaDoorGrBase
import Derived.Test.YtheklipnnflnaaaDoorGrChk
namespace Go.Proofs.YtheklipnnflnaaaDoor.Gear
open Go.RowKit Go.Proofs.GearMath
set_option linter.unusedVariables false
set_option maxRecDepth 1000000

set_option maxHeartbeats 8000000 in
theorem rnumber_any (i : Int) (w : World) (h0 : 0 ≤ i) (h1 : i < 16) :
    Calls Tryd.prog 24 #[.int .i64 i] w fun e w' => e = .returned (.int .u64 (Ns.getD i.toNat 0)) ∧ Below w.heap.size w w' := by
  have hb : ∀ o, Below w.heap.size w (w.alloc o) := fun o => (Below.refl _ _).alloc (Nat.le_refl _) o
  have hi : i = 0 ∨ i = 1 ∨ i = 2 ∨ i = 3 ∨ i = 4 ∨ i = 5 ∨ i = 6 ∨ i = 7 ∨ i = 8 ∨ i = 9 ∨ i = 10 ∨ i = 11 ∨ i = 12 ∨ i = 13 ∨ i = 14 ∨ i = 15 := by omega
  clear h0 h1
  rcases hi with rfl | rfl | rfl | rfl | rfl | rfl | rfl | rfl | rfl | rfl | rfl | rfl | rfl | rfl | rfl | rfl
  all_goals
    (go_enter Tryd.func24, Tryd.ntmps24
     go_wp2
     go_ret
     exact ⟨rfl, hb _⟩)

theorem rtable_any (c : Int) (w : World) (h0 : 0 ≤ c) (h1 : c ≤ 255) :
    Calls Tryd.prog 11 #[.int .u8 c] w fun e w' => e = .returned (.int .u64 (gt c)) ∧ Below w.heap.size w w' := by
  have b1 := Ns_bd (c % 16).toNat (by omega)
  have b2 := Ns_bd (c / 16).toNat (by omega)
  have H1 := Lib.hid (fun W => rnumber_any (c % 16) W (by omega) (by omega))
  have H2 := Lib.hid (fun W => rnumber_any (c / 16) W (by omega) (by omega))
  have HG : Hid (bits .xor .u64 (Ns.getD (c % 16).toNat 0) (rot (Ns.getD (c / 16).toNat 0)) = gt c) := rfl
  have hq : c.tdiv 16 = c / 16 := Int.tdiv_eq_ediv_of_nonneg h0
  have hm : c.tmod 16 = c % 16 := Int.tmod_eq_emod_of_nonneg h0
  generalize Ns.getD (c % 16).toNat 0 = x at *
  generalize Ns.getD (c / 16).toNat 0 = y at *
  have m0 : 0 ≤ c % 16 := by omega
  have m1 : c % 16 < 16 := by omega
  have d0 : 0 ≤ c / 16 := by omega
  have d1 : c / 16 < 16 := by omega
  generalize c % 16 = cm at *
  generalize hcd : c / 16 = cd at *
  obtain ⟨y0, y1⟩ := b2
  obtain ⟨x0, x1⟩ := b1
  have e1 : y.tdiv 4294967296 = y / 4294967296 := Int.tdiv_eq_ediv_of_nonneg y0
  have e2 : y.tmod 4294967296 = y % 4294967296 := Int.tmod_eq_emod_of_nonneg y0
  have r0 : 0 ≤ y / 4294967296 ∧ y / 4294967296 ≤ 4294967295 := by omega
  have r1 : 0 ≤ y % 4294967296 ∧ y % 4294967296 ≤ 4294967295 := by omega
  go_enter Tryd.func11, Tryd.ntmps11
  go_wp2_with fail
  refine (H2.out _).mono ?_
  rintro e w1 ⟨rfl, hb1⟩
  have B1 := Lib.hid hb1
  clear hb1
  go_wp2_with fail
  refine (H1.out _).mono ?_
  rintro e w2 ⟨rfl, hb2⟩
  have B2 := Lib.hid hb2
  clear hb2
  go_wp2
  go_ret
  refine ⟨?_, B1.out.trans (B2.out.mono B1.out.size)⟩
  rw [← HG.out]
  unfold rot
  show Ending.returned (.int .u64 _) = _
  congr 3

theorem three_at {w w1 : World} {L M B : Int} {t : TypeId} (h : w1 = w.alloc (Obj.cells #[.int .i64 L, .int .i64 M, .int .i64 B] t)) :
    w1.cell? ⟨w.heap.size, 0, none⟩ = some (.int .i64 L) ∧ w1.cell? ⟨w.heap.size, 1, none⟩ = some (.int .i64 M) ∧ w1.cell? ⟨w.heap.size, 2, none⟩ = some (.int .i64 B) := by
  subst h
  refine ⟨?_, ?_, ?_⟩ <;> go_simp

set_option maxHeartbeats 4000000 in
theorem firstEnd_any (u : Value) (l : List Int) (L M B : Int) (w : World) (hT : Tab w) (hS : Sl w u l) (ho : Oct l) (hok : ok L M B) (hlen : l.length ≤ 9223372036854775807) :
    Calls Tryd.prog 25 #[u, P3 L M B] w fun e w' => e = .returned (.int .i64 (fe L M B l : Nat)) ∧ Below w.heap.size w w' := by
  obtain ⟨a, cap, rfl, hB, hnil, hcap⟩ := hS
  obtain ⟨k1, k2, k3, k4, k5⟩ := hok
  obtain ⟨N, hN⟩ : ∃ N, N = l.length := ⟨_, rfl⟩
  obtain ⟨m, hm⟩ : ∃ m, m = min M.toNat l.length := ⟨_, rfl⟩
  have hmN : m ≤ N := by omega
  have hmn : ∀ W, (Builtin.min_ #[3, 3] 3 #[.int .i64 M, .int .i64 (N : Nat)]).run Tryd.prog W = .ok (.int .i64 (m : Nat)) W := by
    intro W
    by_cases h : M < (N : Int)
    · simp [Builtin.min_, Builtin.min2]
      first | rfl | omega | (congr 2; omega) | (trace_state; sorry)
    · simp [Builtin.min_, Builtin.min2]
      first | rfl | omega | (congr 2; omega) | (trace_state; sorry)
  have hf := run_first hB cap hcap hnil m (by omega)
  obtain ⟨a', hr, hs⟩ := hf
  rw [← hN] at hr hcap hlen ⊢
  have HT := Lib.hid hT
  have HO := Lib.hid ho
  have HF : Hid (fe L M B l = scan L B l m 0 0) := by show _ = _; rw [hm]; rfl
  obtain ⟨a2, cap2, e2, hB2, _, hcap2⟩ := hs
  have hlm : (l.take m).length = m := by rw [List.length_take]; omega
  rw [hlm] at e2 hcap2
  injection e2 with e21 e22 e23
  subst e21 e23
  have HB2 := Lib.hid hB2
  have HLM := Lib.hid hlm
  have HGD : Hid (∀ k, k < m → (l.take m).getD k 0 = l.getD k 0) := fun k hk => by rw [List.getD_eq_getElem?_getD, List.getElem?_take, if_pos hk, ← List.getD_eq_getElem?_getD]
  clear hB hB2 hT ho hm hlm hN e22 hcap2
  unfold P3
  generalize fe L M B l = r at *
  obtain ⟨w1, hw1⟩ : ∃ w1, w1 = w.alloc (Obj.cells #[.int .i64 L, .int .i64 M, .int .i64 B] 28) := ⟨_, rfl⟩
  obtain ⟨f0, f1, f2⟩ := three_at hw1
  have HB1 : Hid (Below w.heap.size w w1) := by rw [hw1]; exact (Below.refl _ _).alloc (Nat.le_refl _) _
  go_enter Tryd.func25, Tryd.ntmps25
  go_wp2
  rw [← hw1]
  clear hw1
  go_loopw [6, 18] (fun vs vi wr => ∃ (k : Nat) (g : Int), vi = .int .i64 k ∧ vs = .int .u64 g ∧ k ≤ m ∧ 0 ≤ g ∧ g ≤ 18446744073709551615 ∧ Hid (r = scan L B l (m - k) k g) ∧ Below w1.heap.size w1 wr) (fun _ vi _ => m - (intOf vi).toNat)
  case atStart => exact ⟨0, 0, rfl, rfl, by omega, by omega, by omega, HF, Below.refl _ _⟩
  case round =>
    obtain ⟨k, g, rfl, rfl, hkm, hg0, hg1, HK, hbel⟩ := hrel
    have hb0 : Below w.heap.size w wr := HB1.out.trans (hbel.mono HB1.out.size)
    have HB0 := Lib.hid hb0
    by_cases hlt : k < m
    · have hltI : (k : Int) < (m : Int) := by omega
      obtain ⟨b, off, ha, hc⟩ := HB2.out.2 (by intro e; have := HLM.out; rw [e] at this; simp at this; omega)
      subst ha
      have hck := cell_later hb0 (hc k (by rw [HLM.out]; exact hlt))
      rw [HGD.out k hlt] at hck
      have ⟨hc0, hc1⟩ := HO.out.getD k
      have hta := table_any (l.getD k 0) wr (HT.out.later hb0) hc0 hc1
      have HY := Lib.hid (scan_yes L B l (m - k) k g (by omega))
      have HNO := Lib.hid (scan_no L B l (m - k) k g (by omega))
      have hgb := gs_bd g (l.getD k 0)
      have hgt := gs_two g (l.getD k 0)
      have hgt' := gt_bd (l.getD k 0) hc0 hc1
      generalize gs g (l.getD k 0) = g' at *
      generalize l.getD k 0 = ck at *
      have HTA := Lib.hid hta
      generalize gt ck = t at *
      have hwr : IntKind.u64.wrap (IntKind.u64.wrap (2 * g) + t) = g' := by rw [IntKind.wrap_u64, IntKind.wrap_u64]; exact hgt
      clear hgt
      obtain ⟨ht0, ht1⟩ := hgt'
      obtain ⟨hg2, hg3⟩ := hgb
      clear hta hc
      go_wp2_with fail
      refine HTA.out.mono ?_
      rintro e w2 ⟨rfl, hb2⟩
      have hb12 : Below w1.heap.size w1 w2 := hbel.trans (hb2.mono hbel.size)
      have HB12 := Lib.hid hb12
      have g0 := cell_later hb12 f0
      have g2 := cell_later hb12 f2
      clear hb2 hb12 HTA hck hbel hb0
      have hD0 : 0 ≤ 64 - B := by omega
      have hD1 : 64 - B ≤ 64 := by omega
      by_cases hL : L ≤ (k : Int) + 1
      · by_cases hz : g' / 2 ^ (64 - B).toNat = 0
        · have e : r = k + 1 := by rw [HK.out]; exact HY.out ⟨by omega, hz⟩
          have hzb : (g' / 2 ^ (64 - B).toNat == 0) = true := by simpa using hz
          go_wp2
          go_ret
          exact ⟨by rw [e]; rfl, HB1.out.trans (HB12.out.mono HB1.out.size)⟩
        · have e : r = scan L B l (m - k - 1) (k + 1) g' := by rw [HK.out]; exact HNO.out (fun h => hz h.2)
          rw [Nat.sub_sub] at e
          have E := Lib.hid e
          have hzb : (g' / 2 ^ (64 - B).toNat == 0) = false := by simpa using hz
          clear e
          go_wp2
          go_roundw
          case rel => exact ⟨k + 1, g', by go_num, rfl, by omega, hg2, hg3, E, HB12.out⟩
          case measure => simp [intOf]; omega
      · have e : r = scan L B l (m - k - 1) (k + 1) g' := by rw [HK.out]; exact HNO.out (fun h => hL (by have := h.1; omega))
        rw [Nat.sub_sub] at e
        have E := Lib.hid e
        clear e
        go_wp2
        go_roundw
        case rel => exact ⟨k + 1, g', by go_num, rfl, by omega, hg2, hg3, E, HB12.out⟩
        case measure => simp [intOf]; omega
    · have hltI : ¬ (k : Int) < (m : Int) := by omega
      have hk : k = m := by omega
      have hr0 := HK.out
      rw [hk, Nat.sub_self, scan] at hr0
      go_wp2
      go_ret
      exact ⟨by first | rfl | (rw [hr0]; rfl), hb0⟩

def nxt (L M B : Int) (l : List Int) : Nat := if ok L M B then fe L M B l else 0
theorem next_any (u : Value) (l : List Int) (L M B : Int) (w : World) (hT : Tab w) (hS : Sl w u l) (ho : Oct l) (hlen : l.length ≤ 9223372036854775807) :
    Calls Tryd.prog 16 #[u, P3 L M B] w fun e w' => e = .returned (.int .i64 (nxt L M B l : Nat)) ∧ Below w.heap.size w w' := by
  have HC := Lib.hid (fun W => check_any L M B W)
  obtain ⟨w1, hw1⟩ : ∃ w1, w1 = w.alloc (Obj.cells #[.int .i64 L, .int .i64 M, .int .i64 B] 28) := ⟨_, rfl⟩
  obtain ⟨f0, f1, f2⟩ := three_at hw1
  have HB1 : Hid (Below w.heap.size w w1) := by rw [hw1]; exact (Below.refl _ _).alloc (Nat.le_refl _) _
  by_cases hok : ok L M B
  · have hn : nxt L M B l = fe L M B l := if_pos hok
    have hc : chk L M B = 0 := if_pos hok
    have HF : Hid (∀ W, Below w.heap.size w W → Calls Tryd.prog 25 #[u, P3 L M B] W fun e w' => e = .returned (.int .i64 (fe L M B l : Nat)) ∧ Below W.heap.size W w') := fun W hb => firstEnd_any u l L M B W (hT.later hb) (hS.later hb) ho hok hlen
    rw [hc] at HC
    rw [hn]
    generalize fe L M B l = r at *
    clear hT hS ho hlen hn hc hok
    unfold P3 at *
    go_enter Tryd.func16, Tryd.ntmps16
    go_wp2_with fail
    rw [← hw1]
    clear hw1
    refine (HC.out _).mono ?_
    rintro e w2 ⟨rfl, hb2⟩
    have g0 := cell_later hb2 f0
    have g1 := cell_later hb2 f1
    have g2 := cell_later hb2 f2
    have HB2 : Hid (Below w.heap.size w w2) := HB1.out.trans (hb2.mono HB1.out.size)
    clear hb2
    go_wp2_with fail
    refine (HF.out _ HB2.out).mono ?_
    rintro e w3 ⟨rfl, hb3⟩
    go_wp2
    go_ret
    exact ⟨rfl, HB2.out.trans (hb3.mono HB2.out.size)⟩
  · have hn : nxt L M B l = 0 := if_neg hok
    have hc : chk L M B = 2 := if_neg hok
    rw [hc] at HC
    rw [hn]
    clear hT hS ho hlen hn hc hok
    unfold P3 at *
    go_enter Tryd.func16, Tryd.ntmps16
    go_wp2_with fail
    rw [← hw1]
    clear hw1
    refine (HC.out _).mono ?_
    rintro e w2 ⟨rfl, hb2⟩
    have HB2 : Hid (Below w.heap.size w w2) := HB1.out.trans (hb2.mono HB1.out.size)
    clear hb2
    go_wp2
    go_ret
    exact ⟨rfl, HB2.out⟩

set_option maxHeartbeats 4000000 in
theorem rnext_any (u : Value) (l : List Int) (L M B : Int) (w : World) (hS : Sl w u l) (ho : Oct l) (hlen : l.length ≤ 9223372036854775807) :
    Calls Tryd.prog 17 #[u, P3 L M B] w fun e w' => e = .returned (.int .i64 (nxt L M B l : Nat)) ∧ Below w.heap.size w w' := by
  have HC := Lib.hid (fun W => rcheck_any L M B W)
  obtain ⟨w1, hw1⟩ : ∃ w1, w1 = w.alloc (Obj.cells #[.int .i64 L, .int .i64 M, .int .i64 B] 23) := ⟨_, rfl⟩
  obtain ⟨f0, f1, f2⟩ := three_at hw1
  have HB1 : Hid (Below w.heap.size w w1) := by rw [hw1]; exact (Below.refl _ _).alloc (Nat.le_refl _) _
  by_cases hok : ok L M B
  · have hn : nxt L M B l = fe L M B l := if_pos hok
    have hc : chk L M B = 0 := if_pos hok
    rw [hc] at HC
    rw [hn]
    obtain ⟨k1, k2, k3, k4, k5⟩ := hok
    obtain ⟨a, cap, rfl, hB, hnil, hcap⟩ := hS
    have HB := Lib.hid hB
    obtain ⟨m, hm⟩ : ∃ m, m = min M.toNat l.length := ⟨_, rfl⟩
    have HF : Hid (fe L M B l = scan L B l m 0 0) := by show _ = _; rw [hm]; rfl
    obtain ⟨N, hN⟩ : ∃ N, N = l.length := ⟨_, rfl⟩
    have HN := Lib.hid hN
    rw [← hN] at hm hcap hlen ⊢
    have HO := Lib.hid ho
    clear hn hc hB hN ho
    generalize fe L M B l = r at *
    unfold P3 at *
    go_enter Tryd.func17, Tryd.ntmps17
    go_wp2_with fail
    rw [← hw1]
    clear hw1
    refine (HC.out _).mono ?_
    rintro e w2 ⟨rfl, hb2⟩
    have g0 := cell_later hb2 f0
    have g1 := cell_later hb2 f1
    have g2 := cell_later hb2 f2
    have HB2 : Hid (Below w.heap.size w w2) := HB1.out.trans (hb2.mono HB1.out.size)
    clear hb2 f0 f1 f2 HC
    go_wp2
    go_loopw [5, 6] (fun vs vi wr => ∃ (k : Nat) (g : Int), vi = .int .i64 k ∧ vs = .int .u64 g ∧ k ≤ m ∧ (k < m ∨ m = N) ∧ 0 ≤ g ∧ g ≤ 18446744073709551615 ∧ Hid (r = scan L B l (m - k) k g) ∧ Below w2.heap.size w2 wr) (fun _ vi _ => m - (intOf vi).toNat)
    case atStart => exact ⟨0, 0, rfl, rfl, by omega, by omega, by omega, by omega, HF, Below.refl _ _⟩
    case round =>
      obtain ⟨k, g, rfl, rfl, hkm, hkN, hg0, hg1, HK, hbel⟩ := hrel
      have hb0 : Below w.heap.size w wr := HB2.out.trans (hbel.mono HB2.out.size)
      by_cases hlt : k < m
      · have hltI : (k : Int) < (N : Int) := by omega
        obtain ⟨b, off, ha, hcl⟩ := HB.out.2 (by intro e; have := HN.out; rw [e] at this; simp at this; omega)
        subst ha
        have hck := cell_later hb0 (hcl k (by rw [← HN.out]; omega))
        have ⟨hc0, hc1⟩ := HO.out.getD k
        have hta := rtable_any (l.getD k 0) wr hc0 hc1
        have HY := Lib.hid (scan_yes L B l (m - k) k g (by omega))
        have HNO := Lib.hid (scan_no L B l (m - k) k g (by omega))
        have hgb := gs_bd g (l.getD k 0)
        have hgt := gs_two g (l.getD k 0)
        have hgt' := gt_bd (l.getD k 0) hc0 hc1
        generalize gs g (l.getD k 0) = g' at *
        generalize l.getD k 0 = ck at *
        have HTA := Lib.hid hta
        generalize gt ck = t at *
        have hwr : IntKind.u64.wrap (IntKind.u64.wrap (2 * g) + t) = g' := by rw [IntKind.wrap_u64, IntKind.wrap_u64]; exact hgt
        clear hgt
        obtain ⟨ht0, ht1⟩ := hgt'
        obtain ⟨hg2, hg3⟩ := hgb
        clear hta hcl
        go_wp2_with fail
        refine HTA.out.mono ?_
        rintro e w3 ⟨rfl, hb3⟩
        have hb12 : Below w2.heap.size w2 w3 := hbel.trans (hb3.mono hbel.size)
        have HB12 := Lib.hid hb12
        have q0 := cell_later hb12 g0
        have q1 := cell_later hb12 g1
        have q2 := cell_later hb12 g2
        clear hb3 hb12 HTA hck hbel hb0
        have hD0 : 0 ≤ 64 - B := by omega
        have hD1 : 64 - B ≤ 64 := by omega
        by_cases hM : (k : Int) + 1 = M
        · have hkm1 : k + 1 = m := by omega
          have e : r = k + 1 := by
            rw [HK.out]
            by_cases h : hit L B (k + 1) g'
            · exact HY.out h
            · rw [HNO.out h, show m - k - 1 = 0 from by omega, scan]
          have hMb : ((k : Int) + 1 == M) = true := by simpa using hM
          go_wp2
          go_ret
          exact ⟨by rw [e]; first | rfl | (show Ending.returned (.int .i64 M) = _; rw [← hM]; rfl), HB2.out.trans (HB12.out.mono HB2.out.size)⟩
        · have hMb : ((k : Int) + 1 == M) = false := by simpa using hM
          by_cases hL : L ≤ (k : Int) + 1
          · by_cases hz : g' / 2 ^ (64 - B).toNat = 0
            · have e : r = k + 1 := by rw [HK.out]; exact HY.out ⟨by omega, hz⟩
              have hzb : (g' / 2 ^ (64 - B).toNat == 0) = true := by simpa using hz
              go_wp2
              go_ret
              exact ⟨by rw [e]; rfl, HB2.out.trans (HB12.out.mono HB2.out.size)⟩
            · have e : r = scan L B l (m - k - 1) (k + 1) g' := by rw [HK.out]; exact HNO.out (fun h => hz h.2)
              rw [Nat.sub_sub] at e
              have E := Lib.hid e
              have hzb : (g' / 2 ^ (64 - B).toNat == 0) = false := by simpa using hz
              clear e
              go_wp2
              go_roundw
              case rel => exact ⟨k + 1, g', by go_num, rfl, by omega, by omega, hg2, hg3, E, HB12.out⟩
              case measure => simp [intOf]; omega
          · have e : r = scan L B l (m - k - 1) (k + 1) g' := by rw [HK.out]; exact HNO.out (fun h => hL (by have := h.1; omega))
            rw [Nat.sub_sub] at e
            have E := Lib.hid e
            clear e
            go_wp2
            go_roundw
            case rel => exact ⟨k + 1, g', by go_num, rfl, by omega, by omega, hg2, hg3, E, HB12.out⟩
            case measure => simp [intOf]; omega
      · have hltI : ¬ (k : Int) < (N : Int) := by omega
        have hk : k = m := by omega
        have hr0 := HK.out
        rw [hk, Nat.sub_self, scan] at hr0
        have hrN : r = N := by omega
        clear hr0 hk hm
        go_wp2
        go_ret
        exact ⟨by first | rfl | (rw [hrN]; rfl), hb0⟩
  · have hn : nxt L M B l = 0 := if_neg hok
    have hc : chk L M B = 2 := if_neg hok
    rw [hc] at HC
    rw [hn]
    clear hS ho hlen hn hc hok
    unfold P3 at *
    go_enter Tryd.func17, Tryd.ntmps17
    go_wp2_with fail
    rw [← hw1]
    clear hw1
    refine (HC.out _).mono ?_
    rintro e w2 ⟨rfl, hb2⟩
    have HB2 : Hid (Below w.heap.size w w2) := HB1.out.trans (hb2.mono HB1.out.size)
    clear hb2
    go_wp2
    go_ret
    exact ⟨rfl, HB2.out⟩
end Go.Proofs.YtheklipnnflnaaaDoor.Gear
