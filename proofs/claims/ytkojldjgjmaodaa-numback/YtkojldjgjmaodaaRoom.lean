/- num.PutText where the room that num.copied made is all that is ever used: no append grows. -/
import Derived.Test.YtkojldjgjmaodaaTextPut
import Derived.Test.YtkojldjgjmaodaaAwake
import Derived.OwnWalk
import Derived.Room.AppendFits
import Derived.Deep.DeepCutAuto
namespace Go.Proofs.Ytkojldjgjmaodaa
open Go.RowKit Go.Proofs.NumMath
set_option linter.unusedVariables false

set_option maxHeartbeats 400000 in
theorem copied_cap (a : Option Addr) (cap r : Nat) (l : List Int) (w : World) (hB : Bytes w a l) (hr : l.length + r ≤ 281474976710656) :
    Calls Try.prog 27 #[.slice a l.length cap, .int .i64 r] w fun e w' => ∃ g, e = .returned (.slice (some ⟨g, 0, none⟩) l.length (l.length + r)) ∧ Own w' w.heap.size (.slice (some ⟨g, 0, none⟩) l.length (l.length + r)) l ∧ Below w.heap.size w w' := by
  obtain ⟨i0, hi, hz0, hz1, hz2⟩ := info_parts Try.info5
  have hmk := run_make (P := Try.prog) w 22 5 i0 (.int .u8 0) Try.underlying22 hi hz0 .i64 .i64 (l.length : Int) ((l.length : Int) + r) (by omega) (by omega) (by rw [hz2]; omega) (by omega)
  rw [hz1] at hmk
  obtain ⟨n, hn⟩ : ∃ n, n = l.length := ⟨_, rfl⟩
  have HK3 : Hid (0 < (l.map (Value.int .u8)).length → (some (⟨w.heap.size, 0, none⟩ : Addr)) = some ⟨w.heap.size, 0, none⟩ ∧ ∃ ad, a = some ad ∧ ∀ j v, (l.map (Value.int .u8))[j]? = some v → (w.alloc (.cells (madeCells #[.int .u8 0] (n + r)) 5)).cell? (ad.add j) = some v) := by
    intro hpos
    refine ⟨rfl, ?_⟩
    have hne : l ≠ [] := by intro e; subst e; simp at hpos
    obtain ⟨b, off, rfl, hc⟩ := hB.2 hne
    refine ⟨_, rfl, Bytes.at fun i hi => ?_⟩
    exact cell_later ((Below.refl _ _).alloc (Nat.le_refl _) _) (hc i hi)
  rw [← hn] at hmk hr ⊢
  have HN := Lib.hid hn; clear hn
  have hs1 : (Try.prog.info? 5).map (·.size) = some 1 := by rw [hi]; simp [hz1]
  have HK1 : Hid ((w.alloc (.cells (madeCells #[.int .u8 0] (n + r)) 5)).heap[w.heap.size]? = some (.cells (madeCells #[.int .u8 0] (n + r)).toList.toArray 5 (0, 0))) := by
    show _ = _
    rw [Array.toArray_toList]; exact heap_new _ _
  have HK2 : Hid ((l.map (Value.int .u8)).length = Nat.min n n) := by show _ = _; rw [List.length_map, ← HN.out]; exact (Nat.min_self n).symm
  have HK4 : Hid (0 + (l.map (Value.int .u8)).length ≤ (madeCells #[.int .u8 0] (n + r)).toList.length) := by
    show _ ≤ _
    rw [List.length_map, ← HN.out, Array.length_toList, size_madeCells]; omega
  have HK5 := Lib.hid (oneCells l)
  have HK6 : Hid (Below w.heap.size w (w.alloc (.cells (madeCells #[.int .u8 0] (n + r)) 5))) := (Below.refl _ _).alloc (Nat.le_refl _) _
  clear hB
  go_enter Try.func27, Try.ntmps27
  go_wp2_with (with_reducible refine wpList_copy_splice rfl (.tmp 13) (.tmp 14) 22 22 rfl 5 Try.underlying22 hs1 (some ⟨w.heap.size, 0, none⟩) a n (n + r) n cap rfl rfl w.heap.size 0 (madeCells #[.int .u8 0] (n + r)).toList 5 HK1.out (l.map (Value.int .u8)) HK2.out HK3.out HK4.out HK5.out w.heap.size w HK6.out (Nat.le_refl _) ?_)
  intro w2 hg2 hb2
  go_wp2
  go_ret
  refine ⟨w.heap.size, rfl, ⟨by simp, .inr ⟨w.heap.size, n + r, _, by rw [← HN.out], Nat.le_refl _, hg2.out, by rw [← HN.out]; omega, by unfold maxLen; omega, ?_, ?_⟩⟩, hb2⟩
  · have h4 := HK4.out
    simp only [List.size_toArray, Nat.mul_one]
    rw [length_splice _ _ _ h4, Array.length_toList, size_madeCells]
  · simp only [splice, List.take_zero, List.nil_append, Nat.mul_one]
    rw [List.take_append_of_le_length (by simp)]
    exact List.take_of_length_le (by simp)

set_option maxHeartbeats 1000000 in
theorem lengthened_room (g cap p : Nat) (l : List Int) (n : Int) (base : Nat) (w : World) (hp : p = l.length) (hown : Own w base (.slice (some ⟨g, 0, none⟩) p cap) l) (hb : base ≤ w.heap.size) (hl : p + 9 ≤ cap) (hcap : cap ≤ maxLen) :
    Calls Try.prog 26 #[.slice (some ⟨g, 0, none⟩) p cap, .int .i64 n] w fun e w' => ∃ q, e = .returned (.slice (some ⟨g, 0, none⟩) q cap) ∧ Own w' base (.slice (some ⟨g, 0, none⟩) q cap) (l ++ encR (heldN n)) ∧ Below base w w' := by
  obtain ⟨i0, hi, hz0, hz1, hz2⟩ := info_parts Try.info5
  obtain ⟨m, hm⟩ : ∃ m, m = heldN n := ⟨_, rfl⟩
  have hm1 : m ≤ 4611686018427387903 := by rw [hm]; unfold heldN; omega
  have hgr := fun W => groups_any n W
  rw [← hm] at hgr ⊢
  have hs1 := sizeN_pos m
  have hs9 : sizeN m ≤ 9 := sizeN_le 8 m (by omega)
  have HG := Lib.hid hgr
  have HO := Lib.hid hown
  have HP := Lib.hid hp
  unfold maxLen at hcap
  clear hm hgr hown hp
  go_enter Try.func26, Try.ntmps26
  go_wp2_with (go_at_call 31; refine (HG.out _).mono ?_; rintro e w1 ⟨rfl, hb1⟩)
  have hown1 : Own (w1.alloc (.cells (rowA m) 42)) base (.slice (some ⟨g, 0, none⟩) p cap) (l ++ heads m 0) := by
    have : l ++ heads m 0 = l := by simp [heads]
    rw [this]; exact (HO.out.below hb1).below ((Below.refl _ _).alloc (Nat.le_refl _) _)
  have hsz1 := hb1.size
  have HSZ := Lib.hid hsz1; clear hsz1
  have HO1 := Lib.hid hown1; clear hown1
  go_loopw [0, 15] (fun u c wr => ∃ k : Nat, k + 1 ≤ sizeN m ∧ c = .int .i64 k ∧ u = .slice (some ⟨g, 0, none⟩) (p + k) cap ∧ Own wr base u (l ++ heads m k) ∧ Below base w wr ∧ base ≤ wr.heap.size ∧ wr.heap[w1.heap.size]? = some (.cells (rowA m) 42 (0, 0))) (fun _ c _ => sizeN m - (intOf c).toNat)
  case atStart => exact ⟨0, by omega, rfl, rfl, HO1.out, (hb1.mono hb).alloc (by have := HSZ.out; omega) _, by have := HSZ.out; simp; omega, heap_new _ _⟩
  case round =>
    obtain ⟨k, hk, rfl, rfl, hown, hbel, hbw, hrow⟩ := hrel
    have hcell := rowA_cell hrow k (by omega)
    have hbd := rowN_bd m k
    have HX := Lib.hid (u8_or128_right (rowN m k) hbd.1 hbd.2)
    obtain ⟨L, hL⟩ : ∃ L, L = l ++ heads m k := ⟨_, rfl⟩
    rw [← hL] at hown
    have hlen : L.length = p + k := by rw [hL, HP.out]; simp [heads]
    have hrowk : wr.ownsRow base 5 1 (.slice (some ⟨g, 0, none⟩) (p + k) cap) (p + k) (L.map (Value.int .u8)) := by rw [← hlen]; rw [← hlen] at hown; exact hown
    have HRK := Lib.hid hrowk
    clear hrowk
    have HO2 := Lib.hid hown
    have HR := Lib.hid hrow
    have HL := Lib.hid hlen
    have HLL := Lib.hid hL
    by_cases hlt : k + 1 < sizeN m
    · clear hown hrow hlen hL
      go_wp2_with (at_builtin; refine wpList_append_fits _ rfl (.tmp 18) (.tmp 23) 22 rfl base 5 i0 1 Try.underlying22 hi hz1 g (p + k) cap _ rfl (World.ownsRow.alloc HRK.out _) ⟨wr.heap.size, 0, none⟩ 1 1 [.int .u8 (bits .or .u8 (rowN m k) 128)] rfl rfl (cell_one_new _ _ _) (by simp [Value.oneCell']) (by omega) ?_)
      intro w2 hown' hgrow
      rw [← HL.out] at hown'
      obtain ⟨r1, r2, r3, r4⟩ := step_own HO2.out hbel (Nat.le_refl _) hbw HR.out HX.out hown' hgrow
      rw [HL.out] at r1
      have R1 := Lib.hid r1
      have R4 := Lib.hid r4
      clear hown' hgrow r1 r4
      go_wp2
      go_roundw
      case rel => exact ⟨k + 1, by omega, by go_num, rfl, by rw [heads_succ, ← List.append_assoc, ← HLL.out]; exact R1.out, r2, r3, R4.out⟩
      case measure => simp [intOf]; omega
    · have hke : sizeN m = k + 1 := by omega
      have HKE := Lib.hid hke
      have hcell2 := rowA_cell hrow (sizeN m - 1) (by omega)
      have HE : Hid (l ++ encR m = L ++ [rowN m (sizeN m - 1)]) := by show _ = _; unfold encR; rw [hL, hke]; simp
      clear hown hrow hlen hL hke
      go_wp2_with (at_builtin; refine wpList_append_fits _ rfl (.tmp 26) (.tmp 31) 22 rfl base 5 i0 1 Try.underlying22 hi hz1 g (p + k) cap _ rfl (World.ownsRow.alloc HRK.out _) ⟨wr.heap.size, 0, none⟩ 1 1 [.int .u8 (rowN m (sizeN m - 1))] rfl rfl (cell_one_new _ _ _) (by simp [Value.oneCell']) (by omega) ?_)
      intro w2 hown' hgrow
      rw [← HL.out] at hown'
      obtain ⟨r1, r2, r3, r4⟩ := step_own HO2.out hbel (Nat.le_refl _) hbw HR.out rfl hown' hgrow
      rw [HL.out] at r1
      have R1 := Lib.hid r1
      clear hown' hgrow r1 r4
      go_wp2
      go_ret
      exact ⟨_, rfl, by rw [HE.out]; exact R1.out, r2⟩

set_option maxHeartbeats 1000000 in
theorem puttext_room (a : Option Addr) (cap : Nat) (l : List Int) (s : ByteArray) (w : World) (hB : Bytes w a l) (hl : l.length + s.size + 9 ≤ 281474976710656) :
    Calls Try.prog 15 #[.slice a l.length cap, .string s] w fun e w' => ∃ v, e = .returned v ∧ Own w' w.heap.size v (l ++ encR s.size ++ strL s) ∧ Below w.heap.size w w' := by
  obtain ⟨i0, hi, hz0, hz1, hz2⟩ := info_parts Try.info5
  have HC := Lib.hid (copied_cap a cap (9 + s.size) l w hB (by omega))
  have HN := Lib.hid (heldN_nat s.size (by omega))
  have he := encR_le s.size (by omega)
  clear hB
  go_enter Try.func15, Try.ntmps15
  go_wp2_with fail
  rw [show (9 + (s.size : Int)) = ((9 + s.size : Nat) : Int) from by omega]
  refine HC.out.mono ?_
  rintro e w1 ⟨g, rfl, hown, hb1⟩
  have HO := Lib.hid hown
  have hsz := hb1.size
  clear hown
  go_wp2_with fail
  refine (lengthened_room g (l.length + (9 + s.size)) l.length l s.size w.heap.size w1 rfl HO.out hsz (by omega) (by unfold maxLen; omega)).mono ?_
  rintro e w2 ⟨q, rfl, hown2, hb2⟩
  rw [HN.out] at hown2
  obtain ⟨L, hL⟩ : ∃ L, L = l ++ encR s.size := ⟨_, rfl⟩
  rw [← hL] at hown2
  have HLL := Lib.hid hL
  have hLl : L.length ≤ l.length + 9 := by rw [hL, List.length_append]; omega
  have HO2 := Lib.hid hown2
  have hsz2 : w.heap.size ≤ w2.heap.size := Nat.le_trans hsz hb2.size
  have hq : q = L.length := by
    obtain ⟨_, h2⟩ := hown2
    rcases h2 with ⟨h, _⟩ | ⟨_, _, _, h, _⟩
    · cases h
    · simp at h; omega
  subst hq
  clear hown2 hL
  go_wp2_with (at_builtin; refine Lib.wpList_append_fits_string _ rfl (.tmp 14) (.tmp 15) 22 9 rfl w.heap.size 5 i0 Try.underlying22 Try.underlying9 hi hz1 (some ⟨g, 0, none⟩) L.length _ _ rfl HO2.out s rfl (by omega) (by omega) ?_)
  intro w3 hown' hgrow
  have R := Lib.hid (own_more (m := strL s) HO2.out hsz2 (by rw [strL_length, strL_cells]; exact hown') hgrow)
  clear hown' hgrow
  go_wp2
  go_ret
  exact ⟨_, rfl, by rw [← HLL.out]; exact R.out.1, hb1.trans (hb2.trans R.out.2)⟩

end Go.Proofs.Ytkojldjgjmaodaa
