/- P3.4 at the edges: texts of one byte, cut in two. -/
import Derived.Test.YtbkdimdnpekgpaaDoorSRow
namespace Go.Proofs.YtbkdimdnpekgpaaDoor
open Go.RowKit Go.Proofs.ShaMath Go.Proofs.CopyW
set_option linter.unusedVariables false

theorem run_min (a b p : Int) (W : World) (h : p = if a ≤ b then a else b) : (Builtin.min_ #[3, 3] 3 #[.int .i64 a, .int .i64 b]).run Tryd.prog W = .ok (.int .i64 p) W := by
  by_cases hab : a ≤ b
  · rw [if_pos hab] at h
    subst h
    have h2 : ¬ b < p := by omega
    simp [Builtin.min_, Builtin.min2, h2]
  · rw [if_neg hab] at h
    subst h
    have h2 : p < a := by omega
    simp [Builtin.min_, Builtin.min2, h2]
theorem run_max (a b p : Int) (W : World) (h : p = if a ≤ b then b else a) : (Builtin.max_ #[3, 3] 3 #[.int .i64 a, .int .i64 b]).run Tryd.prog W = .ok (.int .i64 p) W := by
  by_cases hab : a ≤ b
  · rw [if_pos hab] at h
    subst h
    by_cases h2 : a < p
    · simp [Builtin.max_, Builtin.max2, h2]
    · have : a = p := by omega
      subst this
      simp [Builtin.max_, Builtin.max2]
  · rw [if_neg hab] at h
    subst h
    have h2 : ¬ p < b := by omega
    simp [Builtin.max_, Builtin.max2, h2]

/-- the first bytes, apart from a block -/
theorem first_src {w : World} {g : Nat} {a : Option Addr} {l : List Int} (h : Src w g a l) (cap n : Nat) (hn : n = l.length) (hcap : n ≤ cap) (hnil : a = none → cap = 0) (m : Nat) (hm : m ≤ n) :
    ∃ a', (∀ W, (Instr.slice 22 (.slice a n cap) none (some (.int .i64 (m : Int))) none).run Tryd.prog W = .ok (.slice a' m cap) W) ∧ Src w g a' (l.take m) ∧ (a' = none → cap = 0) := by
  subst hn
  refine ⟨(if cap = 0 then a else a.map (·.add (0 * 1))), fun W => ?_, ⟨h.1.take m, fun hne => ?_⟩, ?_⟩
  · have hr := run_slice_h (P := Tryd.prog) (w := W) 22 a l.length cap (by rw [hel]; exact Tryd.underlying22) .i64 m (by omega) (by omega)
    have hsz : (sizeOf (Tryd.prog.elem 22)).run Tryd.prog W = .ok 1 W := by rw [hel]; rfl
    rw [hsz] at hr
    simpa [Result.andThen, sliced] using hr
  · have hl : l ≠ [] := by intro e; subst e; simp at hne
    obtain ⟨b, off, rfl, hn, hc⟩ := h.2 hl
    refine ⟨b, off, ?_, hn, fun i hi => ?_⟩
    · split <;> simp [Addr.add]
    · have hi' : i < m := by rw [List.length_take] at hi; omega
      rw [List.getD_eq_getElem?_getD, List.getElem?_take, if_pos hi', ← List.getD_eq_getElem?_getD]
      exact hc i (by omega)
  · intro h0
    split at h0
    · assumption
    · simp at h0; exact hnil h0

theorem made_zero (N : Nat) : madeCells (Value.int .u8 0).cells (N * 1) = ((List.replicate N (0 : Int)).map (Value.int .u8)).toArray := by
  apply Array.ext'
  simp only [madeCells, Value.cells, Array.toList_map, Array.toList_range, List.map_replicate, Nat.mul_one]
  rw [List.eq_replicate_iff]
  refine ⟨by simp, fun b hb => ?_⟩
  obtain ⟨i, _, rfl⟩ := List.mem_map.1 hb
  simp [Nat.mod_one]

theorem fill_take (N k : Nat) (c : Int) (h : k < N) : (List.replicate k c ++ List.replicate (N - k) 0).set k c = List.replicate (k + 1) c ++ List.replicate (N - (k + 1)) (0 : Int) := by
  have e : N - k = (N - (k + 1)) + 1 := by omega
  rw [e, List.set_append, if_neg (by simp), List.length_replicate, Nat.sub_self, List.replicate_succ, List.set_cons_zero, List.replicate_succ' (n := k)]
  simp

/-- a row of bytes in a block of its own -/
theorem row_src (w : World) (b g : Nat) (l : List Int) (fr : Nat × Nat) (h : w.heap[b]? = some (.cells (l.map (Value.int .u8)).toArray 5 fr)) (ho : Oct l) (hb : b ≠ g) : Src w g (some ⟨b, 0, none⟩) l :=
  ⟨ho, fun _ => ⟨b, 0, rfl, hb, fun i hi => by
    rw [cell_of_row w b _ _ 5 fr h, List.getElem?_toArray, Nat.zero_add, List.getElem?_map, List.getElem?_eq_getElem hi, List.getD_eq_getElem?_getD, List.getElem?_eq_getElem hi]; rfl⟩⟩

set_option maxHeartbeats 8000000 in
set_option maxRecDepth 1000000 in
theorem edges_walk (c n at' : Int) (w : World) (hT0 : Tab w 0 Ks) (hT1 : Tab w 1 Ks) (hc0 : 0 ≤ c) (hc1 : c ≤ 255) :
    Calls Tryd.prog 8 #[.int .u8 c, .int .i64 n, .int .i64 at'] w fun e w' => e = .returned (.bool true) ∧ Below w.heap.size w w' := by
  obtain ⟨p, hp⟩ : ∃ p, p = if n ≤ 700 then n else 700 := ⟨_, rfl⟩
  obtain ⟨N, hN⟩ : ∃ N : Nat, (N : Int) = if 0 ≤ p then p else 0 := ⟨(if 0 ≤ p then p else 0).toNat, by split <;> omega⟩
  obtain ⟨q, hq⟩ : ∃ q, q = if at' ≤ (N : Int) then at' else (N : Int) := ⟨_, rfl⟩
  obtain ⟨M, hM⟩ : ∃ M : Nat, (M : Int) = if 0 ≤ q then q else 0 := ⟨(if 0 ≤ q then q else 0).toNat, by split <;> omega⟩
  have hN7 : N ≤ 700 := by split at hN <;> split at hp <;> omega
  have hMN : M ≤ N := by split at hM <;> split at hq <;> omega
  have m1 := fun W => run_min n 700 p W hp
  have m2 := fun W => run_max 0 p N W hN
  have m3 := fun W => run_min at' N q W hq
  have m4 := fun W => run_max 0 q M W hM
  obtain ⟨i0, hi0, hz0, hz1, hzz⟩ := info_parts Tryd.info5
  have hmk := run_make (P := Tryd.prog) w 22 5 i0 (.int .u8 0) Tryd.underlying22 hi0 hz0 .i64 .i64 N N (by omega) (by omega) (by rw [hzz]; omega) (by omega)
  rw [hz1] at hmk
  simp only [Int.toNat_natCast] at hmk
  rw [made_zero] at hmk
  obtain ⟨gb, hgb⟩ : ∃ gb, gb = w.heap.size := ⟨_, rfl⟩
  have H0 : Hid ((w.alloc (.cells ((List.replicate 0 c ++ List.replicate (N - 0) 0).map (Value.int .u8)).toArray 5)).heap[gb]? = some (.cells ((List.replicate 0 c ++ List.replicate (N - 0) 0).map (Value.int .u8)).toArray 5)) := by show _ = _; rw [hgb]; exact heap_new _ _
  rw [show List.replicate 0 c ++ List.replicate (N - 0) (0 : Int) = List.replicate N 0 from by simp] at H0
  have HB0 : Hid (Below gb w (w.alloc (.cells ((List.replicate N (0 : Int)).map (Value.int .u8)).toArray 5))) := by rw [hgb]; exact (Below.refl _ _).alloc (Nat.le_refl _) _
  have HT0 := Lib.hid hT0
  have HT1 := Lib.hid hT1
  rw [← hgb] at hmk
  generalize w.alloc (.cells ((List.replicate N (0 : Int)).map (Value.int .u8)).toArray 5) = w1 at hmk H0 HB0
  have HGB := Lib.hid hgb
  clear hT0 hT1 hgb hp hN hq hM
  go_enter Tryd.func8, Tryd.ntmps8
  go_wp2
  go_loopw [21] (fun i wr => ∃ k : Nat, i = .int .i64 k ∧ k ≤ N ∧ Hid (wr.heap[gb]? = some (.cells ((List.replicate k c ++ List.replicate (N - k) 0).map (Value.int .u8)).toArray 5)) ∧ Hid (Below gb w wr)) (fun i _ => N - (intOf i).toNat)
  case atStart => exact ⟨0, rfl, by omega, by simpa using H0, HB0⟩
  case round =>
    clear H0 HB0 hmk m1 m2 m3 m4
    obtain ⟨k, rfl, hk, HH, HBL⟩ := hrel
    by_cases hkN : k < N
    · have hcell : (wr.cell? ⟨gb, k, none⟩).isSome = true := by
        rw [cell_of_row wr gb k _ 5 (0, 0) HH.out, List.getElem?_toArray, List.getElem?_map, List.getElem?_eq_getElem (by simp; omega)]; rfl
      obtain ⟨v, hv⟩ := Option.isSome_iff_exists.1 hcell
      have hfz : wr.frozen? ⟨gb, k, none⟩ = false := unfrozen HH.out
      have HN : Hid ((wr.setCell ⟨gb, k, none⟩ (.int .u8 c)).heap[gb]? = some (.cells ((List.replicate (k + 1) c ++ List.replicate (N - (k + 1)) 0).map (Value.int .u8)).toArray 5)) := by
        show _ = _
        rw [Joins.block_setCell HH.out _, List.setIfInBounds_toArray, ← fill_take N k c hkN, List.map_set]
      have HB2 : Hid (Below gb w (wr.setCell ⟨gb, k, none⟩ (.int .u8 c))) := Below.setCell (p := ⟨gb, k, none⟩) HBL.out (Nat.le_refl _) _
      have p0 : (0 : Int) ≤ (k : Int) := by omega
      have p1 : (k : Int) < (N : Int) := by omega
      clear hcell
      go_wp2
      go_roundw
      case rel => exact ⟨k + 1, by go_num, by omega, HN, HB2⟩
      case measure => simp [intOf]; omega
    · have hkk : ¬ (k : Int) < (N : Int) := by omega
      obtain ⟨L, hL⟩ : ∃ L, L = List.replicate N c := ⟨_, rfl⟩
      have hLl : N = L.length := by rw [hL]; simp
      have hLo : Oct L := by rw [hL]; intro x hx; simp at hx; omega
      have hH : wr.heap[gb]? = some (.cells (L.map (Value.int .u8)).toArray 5) := by
        have h := HH.out
        rw [show k = N from by omega] at h
        rw [hL]
        simpa using h
      obtain ⟨g, hg⟩ : ∃ g, g = wr.heap.size := ⟨_, rfl⟩
      have hgbl : gb < wr.heap.size := heap_lt hH
      have hBw : Below w.heap.size w wr := by have := HBL.out; rw [HGB.out] at this; exact this
      have hB1 : Below wr.heap.size wr (wr.alloc (.cells (stc init (List.replicate 64 0) 0).toArray 55)) := (Below.refl _ _).alloc (Nat.le_refl _) _
      have hS0 : Src wr g (some ⟨gb, 0, none⟩) L := row_src wr gb g L (0, 0) hH hLo (by omega)
      obtain ⟨a1, hc1', hS1, hn1⟩ := first_src hS0 N N hLl (Nat.le_refl _) (fun h => by cases h) M hMN
      obtain ⟨a2, hc2, hS2, hn2⟩ := from_src hS0 N N hLl (Nat.le_refl _) (fun h => by cases h) M (N - M) M rfl (by omega)
      have h1g : g ≠ 1 := by have := HT1.out.1; have := hBw.size; omega
      have HNW : Hid (Calls Tryd.prog 18 #[] wr fun e w' => e = .returned (.pointer (some ⟨g, 0, none⟩)) ∧ wr.alloc (.cells (stc init (List.replicate 64 0) 0).toArray 55) = w') := by
        have h := new_walk wr; rw [← hg] at h; exact h
      have hW0 : Wrote (wr.alloc (.cells (stc init (List.replicate 64 0) 0).toArray 55)) g Ks [] := by rw [hg]; exact new_wrote wr Ks
      generalize wr.alloc (.cells (stc init (List.replicate 64 0) 0).toArray 55) = w2 at HNW hW0 hB1
      have HW1 : Hid (Calls Tryd.prog 19 #[.pointer (some ⟨g, 0, none⟩), .slice a1 M N] w2 fun e w' => e = .returned (.tuple #[]) ∧ Wrote w' g Ks (L.take M) ∧ But w2 w' g) := by
        have h := write_walk a1 N g Ks [] (L.take M) w2 hW0 ((HT1.out.later hBw).later hB1) h1g (hS1.but (But.of_below hB1)) hn1 (by rw [List.length_take]; omega) (by omega) (by rw [List.length_take]; simp; omega)
        rw [List.nil_append, show (L.take M).length = M from by rw [List.length_take]; omega] at h
        exact h
      have HW2 : Hid (∀ w3, But w2 w3 g → Wrote w3 g Ks (L.take M) → Calls Tryd.prog 19 #[.pointer (some ⟨g, 0, none⟩), .slice a2 (N - M) (N - M)] w3 fun e w' => e = .returned (.tuple #[]) ∧ Wrote w' g Ks L ∧ But w3 w' g) := by
        intro w3 hb3 hw3
        have hT3 : Tab w3 1 Ks := by
          obtain ⟨t1, t2, t3, t4⟩ := (HT1.out.later hBw).later hB1
          exact ⟨Nat.lt_of_lt_of_le t1 hb3.2.2.2.1, t2, t3, fun j hj => hb3.cell (Ne.symm h1g) (t4 j hj)⟩
        have h := write_walk a2 (N - M) g Ks (L.take M) (L.drop M) w3 hw3 hT3 h1g ((hS2.but (But.of_below hB1)).but hb3) hn2 (by rw [List.length_drop]; omega) (by omega) (by rw [List.length_take, List.length_drop]; omega)
        rw [List.take_append_drop, show (L.drop M).length = N - M from by rw [List.length_drop]; omega] at h
        exact h
      have HFIN : Hid (∀ w4, But w2 w4 g → Wrote w4 g Ks L → Below w.heap.size w w4 ∧ Tab w4 1 Ks ∧ Tab w4 0 Ks ∧ Bytes w4 (some ⟨gb, 0, none⟩) L) := by
        intro w4 hb4 hw4
        have hbb : Below w.heap.size w w4 := (hBw.trans (hB1.mono hBw.size)).trans (hb4.below (by have := hBw.size; omega) (by have := hBw.size; have := hB1.size; omega))
        exact ⟨hbb, HT1.out.later hbb, HT0.out.later hbb, ((hS0.but (But.of_below hB1)).but hb4).bytes⟩
      have HSM : Hid (∀ W, Wrote W g Ks L → Tab W 1 Ks → Calls Tryd.prog 20 #[.pointer (some ⟨g, 0, none⟩)] W fun e w' => e = .returned (.string (strOfNums (sumB Ks L))) ∧ Below W.heap.size W w') := fun W h1 h2 => sum_walk g Ks L W h1 h2 (by omega)
      have HSO : Hid (∀ W, Tab W 1 Ks → Bytes W (some ⟨gb, 0, none⟩) L → Calls Tryd.prog 12 #[.slice (some ⟨gb, 0, none⟩) N N] W fun e w' => e = .returned (.string (strOfNums (sumB Ks L))) ∧ Below W.heap.size W w') := by
        intro W h1 h2
        have h := sumof_walk (some ⟨gb, 0, none⟩) N Ks L W h2 h1 (fun h => by cases h) (by omega) (by omega) (by omega)
        rw [← hLl] at h
        exact h
      have HRS : Hid (∀ W, Tab W 0 Ks → Bytes W (some ⟨gb, 0, none⟩) L → Calls Tryd.prog 13 #[.slice (some ⟨gb, 0, none⟩) N N] W fun e w' => e = .returned (.string (strOfNums (sumB Ks L))) ∧ Below W.heap.size W w') := by
        intro W h1 h2
        exact rsum_walk (.slice (some ⟨gb, 0, none⟩) N N) L Ks W ⟨_, N, by rw [← hLl], h2, (fun h => by cases h), by omega⟩ hLo (by omega) h1
      have hA := sum_size Ks L
      generalize strOfNums (sumB Ks L) = A at HSM HSO HRS hA
      clear hS0 hS1 hS2 hn1 hn2 hW0 hB1 hBw hH hLo hLl hL HH HBL h1g hgbl hg
      go_wp2_with fail
      refine HNW.out.mono ?_
      rintro e w' ⟨rfl, rfl⟩
      go_wp2_with fail
      refine HW1.out.mono ?_
      rintro e w3 ⟨rfl, hw3, hb3⟩
      have HC2 := Lib.hid (HW2.out w3 hb3 hw3)
      have HB3 := Lib.hid hb3
      clear hw3 hb3 HW1 HW2 HNW
      go_wp2_with fail
      refine HC2.out.mono ?_
      rintro e w4 ⟨rfl, hw4, hb4⟩
      obtain ⟨f1, f2, f3, f4⟩ := HFIN.out w4 (HB3.out.trans hb4) hw4
      have HC5 := Lib.hid (HSM.out w4 hw4 f2)
      have F1 := Lib.hid f1
      have F2 := Lib.hid f2
      have F3 := Lib.hid f3
      have F4 := Lib.hid f4
      clear hw4 hb4 HC2 HFIN f1 f2 f3 f4 HSM HB3
      go_wp2_with fail
      refine HC5.out.mono ?_
      rintro e w5 ⟨rfl, hb5⟩
      have B5 := Lib.hid hb5
      clear hb5
      go_wp2_with fail
      refine (HSO.out _ (F2.out.later B5.out) (F4.out.later B5.out)).mono ?_
      rintro e w6 ⟨rfl, hb6⟩
      have B6 := Lib.hid (B5.out.trans (hb6.mono B5.out.size))
      clear hb6
      go_wp2_with fail
      refine (HSO.out _ (F2.out.later B6.out) (F4.out.later B6.out)).mono ?_
      rintro e w7 ⟨rfl, hb7⟩
      have B7 := Lib.hid (B6.out.trans (hb7.mono B6.out.size))
      clear hb7
      go_wp2_with fail
      refine (HRS.out _ (F3.out.later B7.out) (F4.out.later B7.out)).mono ?_
      rintro e w8 ⟨rfl, hb8⟩
      have B8 := Lib.hid (B7.out.trans (hb8.mono B7.out.size))
      clear hb8
      go_wp2_with fail
      refine (HSO.out _ (F2.out.later B8.out) (F4.out.later B8.out)).mono ?_
      rintro e w9 ⟨rfl, hb9⟩
      have B9 := Lib.hid (B8.out.trans (hb9.mono B8.out.size))
      clear hb9
      go_wp2_with fail
      refine (awake_any _ (F2.out.later B9.out)).mono ?_
      rintro e w10 ⟨rfl, hb10⟩
      go_wp2
      go_ret
      refine ⟨rfl, F1.out.trans ((B9.out.trans (hb10.mono B9.out.size)).mono F1.out.size)⟩
end Go.Proofs.YtbkdimdnpekgpaaDoor
