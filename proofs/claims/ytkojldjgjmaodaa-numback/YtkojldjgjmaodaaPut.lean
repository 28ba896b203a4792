/- num.copied, num.lengthened, num.Put. -/
import Derived.Test.YtkojldjgjmaodaaOwn
import Derived.Test.YtkojldjgjmaodaaGroups
namespace Go.Proofs.Ytkojldjgjmaodaa
open Go.RowKit Go.Proofs.NumMath
set_option linter.unusedVariables false

theorem heap_new (w : World) (o : Obj) : (w.alloc o).heap[w.heap.size]? = some o := by
  show (w.heap.push o)[w.heap.size]? = _
  simp

theorem oneCells (l : List Int) : ∀ v ∈ l.map (Value.int .u8), v.oneCell' = true := by
  intro v hv
  obtain ⟨c, _, rfl⟩ := List.mem_map.1 hv
  rfl

/-- the bytes of a slice lie where append and copy look for them -/
theorem Bytes.at {w : World} {b off : Nat} {l : List Int} (h : ∀ i, i < l.length → w.cell? ⟨b, off + i, none⟩ = some (.int .u8 (l.getD i 0))) :
    ∀ j v, (l.map (Value.int .u8))[j]? = some v → w.cell? ((⟨b, off, none⟩ : Addr).add j) = some v := by
  intro j v hj
  rw [List.getElem?_map] at hj
  by_cases hlt : j < l.length
  · rw [List.getElem?_eq_getElem hlt] at hj
    have hc := h j hlt
    rw [List.getD_eq_getElem?_getD, List.getElem?_eq_getElem hlt] at hc
    simp at hj hc
    rw [← hj, ← hc]
    by_cases h0 : j = 0
    · subst h0; simp [Addr.add]
    · simp [Addr.add, h0]
  · rw [List.getElem?_eq_none (by omega)] at hj; cases hj

set_option maxHeartbeats 400000 in
theorem copied_any (a : Option Addr) (cap r : Nat) (l : List Int) (w : World) (hB : Bytes w a l) (hr : l.length + r ≤ 281474976710656) :
    Calls Try.prog 27 #[.slice a l.length cap, .int .i64 r] w fun e w' => ∃ v, e = .returned v ∧ Own w' w.heap.size v l ∧ Below w.heap.size w w' := by
  obtain ⟨i0, hi, hz0, hz1, hz2⟩ := info_parts Try.info5
  have hmk := run_make (P := Try.prog) w 22 5 i0 (.int .u8 0) Try.underlying22 hi hz0 .i64 .i64 (l.length : Int) ((l.length : Int) + r) (by omega) (by omega) (by rw [hz2]; omega) (by omega)
  rw [hz1] at hmk
  obtain ⟨n, hn⟩ : ∃ n, n = l.length := ⟨_, rfl⟩
  have HK3 : Hid (0 < (l.map (Value.int .u8)).length → (some (⟨w.heap.size, 0, none⟩ : Addr)) = some ⟨w.heap.size, 0, none⟩ ∧ ∃ ad, a = some ad ∧ ∀ j v, (l.map (Value.int .u8))[j]? = some v → (w.alloc (.cells (madeCells #[.int .u8 0] (n + r)) 5)).cell? (ad.add j) = some v) := by
    intro hpos
    refine ⟨rfl, ?_⟩
    have hne : l ≠ [] := by intro e; subst e; simp at hpos
    obtain ⟨b, off, rfl, hc⟩ := hB.2 hne
    refine ⟨_, rfl, Bytes.at fun i hi => ?_⟩
    exact cell_later ((Below.refl _ _).alloc (Nat.le_refl _) _) (hc i hi)
  rw [← hn] at hmk hr ⊢
  have HN := Lib.hid hn; clear hn
  have hs1 : (Try.prog.info? 5).map (·.size) = some 1 := by rw [hi]; simp [hz1]
  have HK1 : Hid ((w.alloc (.cells (madeCells #[.int .u8 0] (n + r)) 5)).heap[w.heap.size]? = some (.cells (madeCells #[.int .u8 0] (n + r)).toList.toArray 5 (0, 0))) := by
    show _ = _
    rw [Array.toArray_toList]; exact heap_new _ _
  have HK2 : Hid ((l.map (Value.int .u8)).length = Nat.min n n) := by show _ = _; rw [List.length_map, ← HN.out]; exact (Nat.min_self n).symm
  have HK4 : Hid (0 + (l.map (Value.int .u8)).length ≤ (madeCells #[.int .u8 0] (n + r)).toList.length) := by
    show _ ≤ _
    rw [List.length_map, ← HN.out, Array.length_toList, size_madeCells]; omega
  have HK5 := Lib.hid (oneCells l)
  have HK6 : Hid (Below w.heap.size w (w.alloc (.cells (madeCells #[.int .u8 0] (n + r)) 5))) := (Below.refl _ _).alloc (Nat.le_refl _) _
  clear hB
  go_enter Try.func27, Try.ntmps27
  go_wp2_with (with_reducible refine wpList_copy_splice rfl (.tmp 13) (.tmp 14) 22 22 rfl 5 Try.underlying22 hs1 (some ⟨w.heap.size, 0, none⟩) a n (n + r) n cap rfl rfl w.heap.size 0 (madeCells #[.int .u8 0] (n + r)).toList 5 HK1.out (l.map (Value.int .u8)) HK2.out HK3.out HK4.out HK5.out w.heap.size w HK6.out (Nat.le_refl _) ?_)
  intro w2 hg2 hb2
  go_wp2
  go_ret
  refine ⟨.slice (some ⟨w.heap.size, 0, none⟩) n (n + r), rfl, ⟨by simp, .inr ⟨w.heap.size, n + r, _, by rw [← HN.out], Nat.le_refl _, hg2.out, by rw [← HN.out]; omega, by unfold maxLen; omega, ?_, ?_⟩⟩, hb2⟩
  · have h4 := HK4.out
    simp only [List.size_toArray, Nat.mul_one]
    rw [length_splice _ _ _ h4, Array.length_toList, size_madeCells]
  · simp only [splice, List.take_zero, List.nil_append, Nat.mul_one]
    rw [List.take_append_of_le_length (by simp)]
    exact List.take_of_length_le (by simp)

theorem rowN_bd (m j : Nat) : 0 ≤ rowN m j ∧ rowN m j < 128 := by unfold rowN; omega

/-- the first k groups, each but for the last with 128 more -/
def heads (m k : Nat) : List Int := (List.range k).map (fun j => rowN m j + 128)
theorem heads_succ (m k : Nat) : heads m (k + 1) = heads m k ++ [rowN m k + 128] := by simp [heads, List.range_succ]
/-- the bytes of a number -/
def encR (m : Nat) : List Int := heads m (sizeN m - 1) ++ [rowN m (sizeN m - 1)]

abbrev rowA (m : Nat) : Array Value := #[.int .u8 (rowN m 0), .int .u8 (rowN m 1), .int .u8 (rowN m 2), .int .u8 (rowN m 3), .int .u8 (rowN m 4), .int .u8 (rowN m 5), .int .u8 (rowN m 6), .int .u8 (rowN m 7), .int .u8 (rowN m 8)]
theorem rowA_cell {w : World} {k m : Nat} (h : w.heap[k]? = some (.cells (rowA m) 42 (0, 0))) : ∀ j, j < 9 → w.cell? ⟨k, j, none⟩ = some (.int .u8 (rowN m j)) := by
  intro j hj
  simp only [World.cell?, h]
  match j, hj with
  | 0, _ | 1, _ | 2, _ | 3, _ | 4, _ | 5, _ | 6, _ | 7, _ | 8, _ => rfl

/-- what an append of one byte does to the relation -/
theorem step_own {base B : Nat} {w wr w' : World} {v v' : Value} {l : List Int} {x y : Int} {k : Nat} {cs : Array Value} {o : Obj}
    (hown : Own wr base v l) (hbel : Below B w wr) (hB : B ≤ base) (hbw : base ≤ wr.heap.size) (hrow : wr.heap[k]? = some (.cells cs 42 (0, 0))) (hxy : x = y)
    (hown' : w'.ownsRow base 5 1 v' (l.length + 1) (l.map (Value.int .u8) ++ [.int .u8 x])) (hg : (wr.alloc o).grownBy w' v.ownBlock) :
    Own w' base v' (l ++ [y]) ∧ Below B w w' ∧ base ≤ w'.heap.size ∧ w'.heap[k]? = some (.cells cs 42 (0, 0)) := by
  have hsz := hg.size
  have h1 : (wr.alloc o).heap.size = wr.heap.size + 1 := by simp
  have hk : k < wr.heap.size := by
    rcases Nat.lt_or_ge k wr.heap.size with h | h
    · exact h
    · rw [Array.getElem?_eq_none h] at hrow; cases hrow
  refine ⟨?_, ?_, by omega, ?_⟩
  · subst hxy
    unfold Own
    simpa using hown'
  · exact (hbel.alloc (by omega) o).grown hg (by omega) (fun j hj => by have := hown.base_le j hj; omega)
  · rw [hg.block k (by omega) (Own.apart hown hrow (by decide)), Below.heap_alloc _ _ _ hk]; exact hrow

set_option maxHeartbeats 1000000 in
theorem lengthened_any (v : Value) (l : List Int) (n : Int) (base : Nat) (w : World) (hown : Own w base v l) (hb : base ≤ w.heap.size) (hl : l.length + 9 ≤ 140737488355328) :
    Calls Try.prog 26 #[v, .int .i64 n] w fun e w' => ∃ v', e = .returned v' ∧ Own w' base v' (l ++ encR (heldN n)) ∧ Below base w w' := by
  obtain ⟨i0, hi, hz0, hz1, hz2⟩ := info_parts Try.info5
  obtain ⟨m, hm⟩ : ∃ m, m = heldN n := ⟨_, rfl⟩
  have hm1 : m ≤ 4611686018427387903 := by rw [hm]; unfold heldN; omega
  have hgr := fun W => groups_any n W
  rw [← hm] at hgr ⊢
  have hs1 := sizeN_pos m
  have hs9 : sizeN m ≤ 9 := sizeN_le 8 m (by omega)
  have HG := Lib.hid hgr
  have HO := Lib.hid hown
  clear hm hgr hown
  go_enter Try.func26, Try.ntmps26
  go_wp2_with (go_at_call 31; refine (HG.out _).mono ?_; rintro e w1 ⟨rfl, hb1⟩)
  have hown1 : Own (w1.alloc (.cells (rowA m) 42)) base v (l ++ heads m 0) := by
    have : l ++ heads m 0 = l := by simp [heads]
    rw [this]; exact (HO.out.below hb1).below ((Below.refl _ _).alloc (Nat.le_refl _) _)
  have hsz1 := hb1.size
  have HSZ := Lib.hid hsz1; clear hsz1
  have HO1 := Lib.hid hown1; clear hown1
  go_loopw [0, 15] (fun u c wr => ∃ k : Nat, k + 1 ≤ sizeN m ∧ c = .int .i64 k ∧ Own wr base u (l ++ heads m k) ∧ Below base w wr ∧ base ≤ wr.heap.size ∧ wr.heap[w1.heap.size]? = some (.cells (rowA m) 42 (0, 0))) (fun _ c _ => sizeN m - (intOf c).toNat)
  case atStart => exact ⟨0, by omega, rfl, HO1.out, (hb1.mono hb).alloc (by have := HSZ.out; omega) _, by have := HSZ.out; simp; omega, heap_new _ _⟩
  case round =>
    obtain ⟨k, hk, rfl, hown, hbel, hbw, hrow⟩ := hrel
    have hcell := rowA_cell hrow k (by omega)
    have hbd := rowN_bd m k
    have HX := Lib.hid (u8_or128_right (rowN m k) hbd.1 hbd.2)
    obtain ⟨L, hL⟩ : ∃ L, L = l ++ heads m k := ⟨_, rfl⟩
    rw [← hL] at hown
    have hlen : L.length = l.length + k := by rw [hL]; simp [heads]
    have HO2 := Lib.hid hown
    have HR := Lib.hid hrow
    have HL := Lib.hid hlen
    have HLL := Lib.hid hL
    by_cases hlt : k + 1 < sizeN m
    · clear hown hrow hlen hL
      go_wp2_with (at_builtin; refine wpList_append_own _ rfl (.tmp 18) (.tmp 23) 22 rfl base 5 i0 (.int .u8 0) 1 1 Try.underlying22 hi hz0 hz1 hz2 rfl (by decide) _ _ _ rfl (World.ownsRow.alloc HO2.out _) ⟨wr.heap.size, 0, none⟩ 1 1 [.int .u8 (bits .or .u8 (rowN m k) 128)] rfl rfl (cell_one_new _ _ _) (by simp [Value.oneCell']) (by rw [HL.out]; unfold maxLen; omega) (by rw [HL.out]; omega) (by simp; omega) ?_)
      intro v' w2 hown' hgrow _
      obtain ⟨r1, r2, r3, r4⟩ := step_own HO2.out hbel (Nat.le_refl _) hbw HR.out HX.out hown' hgrow
      have R1 := Lib.hid r1
      have R4 := Lib.hid r4
      clear hown' hgrow r1 r4
      go_wp2
      go_roundw
      case rel => exact ⟨k + 1, by omega, by go_num, by rw [heads_succ, ← List.append_assoc, ← HLL.out]; exact R1.out, r2, r3, R4.out⟩
      case measure => simp [intOf]; omega
    · have hke : sizeN m = k + 1 := by omega
      have HKE := Lib.hid hke
      have hcell2 := rowA_cell hrow (sizeN m - 1) (by omega)
      have HE : Hid (l ++ encR m = L ++ [rowN m (sizeN m - 1)]) := by show _ = _; unfold encR; rw [hL, hke]; simp
      clear hown hrow hlen hL hke
      go_wp2_with (at_builtin; refine wpList_append_own _ rfl (.tmp 26) (.tmp 31) 22 rfl base 5 i0 (.int .u8 0) 1 1 Try.underlying22 hi hz0 hz1 hz2 rfl (by decide) _ _ _ rfl (World.ownsRow.alloc HO2.out _) ⟨wr.heap.size, 0, none⟩ 1 1 [.int .u8 (rowN m (sizeN m - 1))] rfl rfl (cell_one_new _ _ _) (by simp [Value.oneCell']) (by rw [HL.out]; unfold maxLen; omega) (by rw [HL.out]; omega) (by simp; omega) ?_)
      intro v' w2 hown' hgrow _
      obtain ⟨r1, r2, r3, r4⟩ := step_own HO2.out hbel (Nat.le_refl _) hbw HR.out rfl hown' hgrow
      have R1 := Lib.hid r1
      clear hown' hgrow r1 r4
      go_wp2
      go_ret
      exact ⟨_, rfl, by rw [HE.out]; exact R1.out, r2⟩

theorem encR_oct (m : Nat) : Oct (encR m) := by
  intro c hc
  rcases List.mem_append.1 hc with h | h
  · obtain ⟨j, _, rfl⟩ := List.mem_map.1 h
    have := rowN_bd m j
    show 0 ≤ rowN m j + 128 ∧ rowN m j + 128 ≤ 255
    omega
  · have := rowN_bd m (sizeN m - 1)
    simp at h; subst h; omega
theorem encR_length (m : Nat) : (encR m).length = sizeN m := by
  have := sizeN_pos m
  simp [encR, heads]; omega

set_option maxHeartbeats 400000 in
theorem put_any (a : Option Addr) (cap : Nat) (l : List Int) (n : Int) (w : World) (hB : Bytes w a l) (hl : l.length + 9 ≤ 140737488355328) :
    Calls Try.prog 11 #[.slice a l.length cap, .int .i64 n] w fun e w' => ∃ v, e = .returned v ∧ Own w' w.heap.size v (l ++ encR (heldN n)) ∧ Below w.heap.size w w' := by
  have HC := Lib.hid (copied_any a cap 9 l w hB (by omega))
  go_enter Try.func11, Try.ntmps11
  go_wp2_with fail
  refine HC.out.mono ?_
  rintro e w1 ⟨v, rfl, hown, hb1⟩
  have HO := Lib.hid hown
  have hsz := hb1.size
  clear hown
  go_wp2_with fail
  refine (lengthened_any v l n w.heap.size w1 HO.out hsz hl).mono ?_
  rintro e w2 ⟨v2, rfl, hown2, hb2⟩
  have HO2 := Lib.hid hown2
  clear hown2
  go_wp2
  go_ret
  exact ⟨_, rfl, HO2.out, hb1.trans hb2⟩

/-- behind nothing -/
theorem put_nil (n : Int) (w : World) :
    Calls Try.prog 11 #[.slice none 0 0, .int .i64 n] w fun e w' => ∃ a' cap, e = .returned (.slice a' (sizeN (heldN n)) cap) ∧ Bytes w' a' (encR (heldN n)) ∧ Below w.heap.size w w' := by
  refine (put_any none 0 [] n w ⟨fun i => by simp, fun h => absurd rfl h⟩ (by simp)).mono ?_
  rintro e w' ⟨v, rfl, hown, hb⟩
  obtain ⟨a', cap', rfl, hB⟩ := Own.bytes hown (by simpa using encR_oct _)
  rw [List.nil_append] at hB ⊢
  exact ⟨a', cap', by rw [encR_length], hB, hb⟩
end Go.Proofs.Ytkojldjgjmaodaa
