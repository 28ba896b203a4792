/- Seal: the bytes, and their sum behind. -/
import Derived.Test.YtkojldjgjmaodabDoorOwn
namespace Go.Proofs.YtkojldjgjmaodabDoor
open Go.RowKit Go.Proofs.CrcMath
set_option linter.unusedVariables false

set_option maxHeartbeats 1000000 in
theorem seal_any (a : Option Addr) (cap n : Nat) (l : List Int) (w : World) (hn : n = l.length) (hT : Tab w) (hB : Bytes w a l) (hl : n ≤ 1000000) :
    Calls Tryd.prog 6 #[.slice a n cap] w fun e w' => ∃ v, e = .returned v ∧ Own w' w.heap.size v (l ++ leB (crcN l) 4) ∧ Below w.heap.size w w' := by
  obtain ⟨i0, hi, hz0, hz1, hz2⟩ := info_parts Tryd.info5
  have hmk := run_make (P := Tryd.prog) w 22 5 i0 (.int .u8 0) Tryd.underlying22 hi hz0 .i64 .i64 (n : Int) ((n : Int) + 4) (by omega) (by omega) (by rw [hz2]; omega) (by omega)
  rw [hz1] at hmk
  have HK3 : Hid (0 < (l.map (Value.int .u8)).length → (some (⟨w.heap.size, 0, none⟩ : Addr)) = some ⟨w.heap.size, 0, none⟩ ∧ ∃ ad, a = some ad ∧ ∀ j v, (l.map (Value.int .u8))[j]? = some v → (w.alloc (.cells (madeCells #[.int .u8 0] (n + 4)) 5)).cell? (ad.add j) = some v) := by
    intro hpos
    refine ⟨rfl, ?_⟩
    have hne : l ≠ [] := by intro e; subst e; simp at hpos
    obtain ⟨b, off, rfl, hc⟩ := hB.2 hne
    refine ⟨_, rfl, Bytes.at fun i hi => ?_⟩
    exact cell_later ((Below.refl _ _).alloc (Nat.le_refl _) _) (hc i hi)
  have HN := Lib.hid hn; clear hn
  have hs1 : (Tryd.prog.info? 5).map (·.size) = some 1 := by rw [hi]; simp [hz1]
  have HK1 : Hid ((w.alloc (.cells (madeCells #[.int .u8 0] (n + 4)) 5)).heap[w.heap.size]? = some (.cells (madeCells #[.int .u8 0] (n + 4)).toList.toArray 5 (0, 0))) := by
    show _ = _
    rw [Array.toArray_toList]; exact heap_new _ _
  have HK2 : Hid ((l.map (Value.int .u8)).length = Nat.min n n) := by show _ = _; rw [List.length_map, ← HN.out]; exact (Nat.min_self n).symm
  have HK4 : Hid (0 + (l.map (Value.int .u8)).length ≤ (madeCells #[.int .u8 0] (n + 4)).toList.length) := by
    show _ ≤ _
    rw [List.length_map, ← HN.out, Array.length_toList, size_madeCells]; omega
  have HK5 := Lib.hid (oneCells l)
  have HK6 : Hid (Below w.heap.size w (w.alloc (.cells (madeCells #[.int .u8 0] (n + 4)) 5))) := (Below.refl _ _).alloc (Nat.le_refl _) _
  have HT := Lib.hid hT
  have HB := Lib.hid hB
  clear hB hT
  go_enter Tryd.func6, Tryd.ntmps6
  go_wp2_with (with_reducible refine wpList_copy_splice rfl (.tmp 12) (.tmp 13) 22 22 rfl 5 Tryd.underlying22 hs1 (some ⟨w.heap.size, 0, none⟩) a n (n + 4) n cap rfl rfl w.heap.size 0 (madeCells #[.int .u8 0] (n + 4)).toList 5 HK1.out (l.map (Value.int .u8)) HK2.out HK3.out HK4.out HK5.out w.heap.size w HK6.out (Nat.le_refl _) ?_)
  intro w2 hg2 hb2
  have hown2 : Own w2 w.heap.size (.slice (some ⟨w.heap.size, 0, none⟩) n (n + 4)) l := by
    refine ⟨by simp, .inr ⟨w.heap.size, n + 4, _, by rw [← HN.out], Nat.le_refl _, hg2.out, by rw [← HN.out]; omega, by unfold maxLen; omega, ?_, ?_⟩⟩
    · have h4 := HK4.out
      simp only [List.size_toArray, Nat.mul_one]
      rw [length_splice _ _ _ h4, Array.length_toList, size_madeCells]
    · simp only [splice, List.take_zero, List.nil_append, Nat.mul_one]
      rw [List.take_append_of_le_length (by simp)]
      exact List.take_of_length_le (by simp)
  have HO2 := Lib.hid hown2
  have hsz2 := hb2.size
  clear hown2 hg2 HK1 HK2 HK3 HK4 HK5 HK6 hmk
  go_wp2_with fail
  refine (of_one w2 a n cap l 22 HN.out (HT.out.later hb2) (HB.out.later hb2) (by rw [← HN.out]; omega)).mono ?_
  rintro e w' ⟨rfl, rfl⟩
  obtain ⟨s, hs⟩ : ∃ s, s = crcN l := ⟨_, rfl⟩
  have hs32 : s < 2 ^ 32 := by rw [hs]; exact crcN_lt l HB.out.1
  rw [← hs]
  have HSS := Lib.hid hs
  have HS32 := Lib.hid hs32
  clear hs hs32
  have hb3 : Below w.heap.size w (w2.alloc (.cells #[.slice a n cap] 22)) := hb2.alloc hsz2 _
  have hown3 := HO2.out.below ((Below.refl w2.heap.size w2).alloc (Nat.le_refl _) (.cells #[.slice a n cap] 22))
  generalize w2.alloc (.cells #[.slice a n cap] 22) = w3 at hb3 hown3
  have HO3 := Lib.hid hown3
  have HB3 := Lib.hid hb3
  clear hown3 hb3 hb2 HO2 hsz2
  go_wp2
  go_loopw [3, 18] (fun u c wr => ∃ k : Nat, k ≤ 4 ∧ c = .int .i64 k ∧ Own wr w.heap.size u (l ++ leB s k) ∧ Below w.heap.size w wr ∧ w.heap.size ≤ wr.heap.size) (fun _ c _ => 4 - (intOf c).toNat)
  case atStart => exact ⟨0, by omega, rfl, by simpa [leB] using HO3.out, HB3.out, HB3.out.size⟩
  case round =>
    obtain ⟨k, hk, rfl, hown, hbel, hbw⟩ := hrel
    obtain ⟨L, hL⟩ : ∃ L, L = l ++ leB s k := ⟨_, rfl⟩
    rw [← hL] at hown
    have hlen : L.length = n + k := by rw [hL, List.length_append, leB_length, HN.out]
    have HO := Lib.hid hown
    have HL := Lib.hid hlen
    have HLL := Lib.hid hL
    clear hown hlen hL
    by_cases hlt : k < 4
    · have hq := shr_byte s k
      obtain ⟨x, hx⟩ : ∃ x, x = ((s / 2 ^ (8 * k) % 256 : Nat) : Int) := ⟨_, rfl⟩
      rw [← hx] at hq
      have HX := Lib.hid hx
      clear hx
      go_wp2_with (at_builtin; refine wpList_append_own _ rfl (.tmp 21) (.tmp 27) 22 rfl w.heap.size 5 i0 (.int .u8 0) 1 1 Tryd.underlying22 hi hz0 hz1 hz2 rfl (by decide) _ _ _ rfl (World.ownsRow.alloc HO.out _) ⟨wr.heap.size, 0, none⟩ 1 1 [.int .u8 x] rfl rfl (cell_one_new _ _ _) (by simp [Value.oneCell']) (by rw [HL.out]; unfold maxLen; omega) (by rw [HL.out]; omega) (by simp; omega) ?_)
      intro v' w4 hown' hgrow _
      have R := Lib.hid (step1 HO.out hbel hbw HX.out hown' hgrow)
      clear hown' hgrow hq
      go_wp2
      go_roundw
      case rel => exact ⟨k + 1, by omega, by go_num, by rw [leB_succ, ← List.append_assoc, ← HLL.out]; exact R.out.1, R.out.2.1, R.out.2.2⟩
      case measure => simp [intOf]; omega
    · have hk4 : k = 4 := by omega
      subst hk4
      go_wp2
      go_ret
      exact ⟨_, rfl, by rw [← HSS.out, ← HLL.out]; exact HO.out, hbel⟩
end Go.Proofs.YtkojldjgjmaodabDoor
