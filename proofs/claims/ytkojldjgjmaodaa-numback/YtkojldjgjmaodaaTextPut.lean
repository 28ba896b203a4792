/- PutInt of the document; PutText, both. -/
import Derived.Test.YtkojldjgjmaodaaRefPut
import Derived.Lib.AppendStr
import Derived.Laws.IdiomStrings
namespace Go.Proofs.Ytkojldjgjmaodaa
open Go.RowKit Go.Proofs.NumMath
set_option linter.unusedVariables false

set_option maxHeartbeats 400000 in
theorem rputint_any (v : Value) (l : List Int) (n : Int) (w : World) (h : Sl w v l) (hl : l.length + 9 ≤ 140737488355328) :
    Calls Try.prog 14 #[v, .int .i64 n] w fun e w' => ∃ v', e = .returned v' ∧ Own w' w.heap.size v' (l ++ encR (zig n)) ∧ Below w.heap.size w w' := by
  have hh := held_any n (-2305843009213693952) 2305843009213693951 w (by omega)
  obtain ⟨c, hc⟩ : ∃ c, c = clamp n := ⟨_, rfl⟩
  have hcb : -2305843009213693952 ≤ c ∧ c ≤ 2305843009213693951 := by rw [hc]; unfold clamp; omega
  rw [show min (max n (-2305843009213693952)) 2305843009213693951 = c from by rw [hc]; rfl] at hh
  have hm := zig_le n
  have hz : (zig n : Int) = if c < 0 then 2 * -(c + 1) + 1 else 2 * c := by unfold zig; rw [← hc]; split <;> omega
  have he := encR_le _ hm
  have ho := encR_oct (zig n)
  generalize zig n = m at *
  have HZ := Lib.hid hz
  have HH := Lib.hid hh
  have HS := Lib.hid h
  have HO := Lib.hid ho
  clear hh h ho hz hc
  by_cases hneg : c < 0
  · go_enter Try.func14, Try.ntmps14
    go_wp2_with fail
    refine HH.out.mono ?_
    rintro e w' ⟨rfl, rfl⟩
    go_wp2_with fail
    rw [show 2 * -(c + 1) + 1 = (m : Int) from by rw [HZ.out, if_pos hneg]]
    refine (rgroups_any m w hm).mono ?_
    rintro e w1 ⟨v1, rfl, hown, hb1⟩
    have HS1 := Lib.hid (HS.out.later hb1)
    have HS2 := Lib.hid (hown.sl HO.out)
    have hsz := hb1.size
    clear hown
    go_wp2_with fail
    refine (behind_any v v1 l (encR m) w1 HS1.out HS2.out (by omega)).mono ?_
    rintro e w2 ⟨v2, rfl, hown2, hb2⟩
    have HO2 := Lib.hid (hown2.lower hsz)
    clear hown2
    go_wp2
    go_ret
    exact ⟨_, rfl, HO2.out, hb1.trans (hb2.mono hsz)⟩
  · go_enter Try.func14, Try.ntmps14
    go_wp2_with fail
    refine HH.out.mono ?_
    rintro e w' ⟨rfl, rfl⟩
    go_wp2_with fail
    rw [show 2 * c = (m : Int) from by rw [HZ.out, if_neg (by omega)]]
    refine (rgroups_any m w hm).mono ?_
    rintro e w1 ⟨v1, rfl, hown, hb1⟩
    have HS1 := Lib.hid (HS.out.later hb1)
    have HS2 := Lib.hid (hown.sl HO.out)
    have hsz := hb1.size
    clear hown
    go_wp2_with fail
    refine (behind_any v v1 l (encR m) w1 HS1.out HS2.out (by omega)).mono ?_
    rintro e w2 ⟨v2, rfl, hown2, hb2⟩
    have HO2 := Lib.hid (hown2.lower hsz)
    clear hown2
    go_wp2
    go_ret
    exact ⟨_, rfl, HO2.out, hb1.trans (hb2.mono hsz)⟩

/-- a text's bytes, as numbers -/
def strL (s : ByteArray) : List Int := s.data.toList.map fun b => (b.toNat : Int)
theorem strL_length (s : ByteArray) : (strL s).length = s.size := by simp [strL]
theorem strL_oct (s : ByteArray) : Oct (strL s) := by
  intro c hc
  obtain ⟨b, _, rfl⟩ := List.mem_map.1 hc
  have := b.toNat_lt
  show 0 ≤ ((b.toNat : Nat) : Int) ∧ ((b.toNat : Nat) : Int) ≤ 255
  omega
theorem strL_cells (s : ByteArray) : (strL s).map (Value.int .u8) = Lib.strCells s := by simp [strL, Lib.strCells]
theorem strOfNums_strL (s : ByteArray) : strOfNums (strL s) = s := by
  unfold strOfNums strL
  rw [List.map_map]
  have : ((fun n : Int => UInt8.ofNat n.toNat) ∘ fun b : UInt8 => (b.toNat : Int)) = id := by funext b; simp
  rw [this]; simp

theorem heldN_nat (k : Nat) (h : k ≤ 4611686018427387903) : heldN (k : Int) = k := by unfold heldN; omega

set_option maxHeartbeats 1000000 in
theorem puttext_any (a : Option Addr) (cap : Nat) (l : List Int) (s : ByteArray) (w : World) (hB : Bytes w a l) (hl : l.length + s.size + 9 ≤ 140737488355328) :
    Calls Try.prog 15 #[.slice a l.length cap, .string s] w fun e w' => ∃ v, e = .returned v ∧ Own w' w.heap.size v (l ++ encR s.size ++ strL s) ∧ Below w.heap.size w w' := by
  obtain ⟨i0, hi, hz0, hz1, hz2⟩ := info_parts Try.info5
  have HC := Lib.hid (copied_any a cap (9 + s.size) l w hB (by omega))
  have HN := Lib.hid (heldN_nat s.size (by omega))
  have he := encR_le s.size (by omega)
  clear hB
  go_enter Try.func15, Try.ntmps15
  go_wp2_with fail
  rw [show (9 + (s.size : Int)) = ((9 + s.size : Nat) : Int) from by omega]
  refine HC.out.mono ?_
  rintro e w1 ⟨v, rfl, hown, hb1⟩
  have HO := Lib.hid hown
  have hsz := hb1.size
  clear hown
  go_wp2_with fail
  refine (lengthened_any v l s.size w.heap.size w1 HO.out hsz (by omega)).mono ?_
  rintro e w2 ⟨v2, rfl, hown2, hb2⟩
  rw [HN.out] at hown2
  obtain ⟨L, hL⟩ : ∃ L, L = l ++ encR s.size := ⟨_, rfl⟩
  rw [← hL] at hown2
  have HLL := Lib.hid hL
  have hLl : L.length ≤ l.length + 9 := by rw [hL, List.length_append]; omega
  have HO2 := Lib.hid hown2
  have hsz2 : w.heap.size ≤ w2.heap.size := Nat.le_trans hsz hb2.size
  clear hown2 hL
  go_wp2_with (at_builtin; refine Lib.wpList_append_own_string _ rfl (.tmp 14) (.tmp 15) 22 9 rfl w.heap.size 5 i0 Try.underlying22 Try.underlying9 hi hz0 hz1 hz2 _ _ _ rfl HO2.out s rfl (by unfold maxLen; omega) (by omega) hsz2 ?_)
  intro v' w3 hown' hgrow _
  have R := Lib.hid (own_more (m := strL s) HO2.out hsz2 (by rw [strL_length, strL_cells]; exact hown') hgrow)
  clear hown' hgrow
  go_wp2
  go_ret
  exact ⟨_, rfl, by rw [← HLL.out]; exact R.out.1, hb1.trans (hb2.trans R.out.2)⟩

theorem sl_bytes (w : World) (s : ByteArray) (c : Nat) (hc : s.size ≤ c) (fr : Nat × Nat) : Sl (w.alloc (.cells (bytesRow s c) 5 fr)).drew (.slice (some ⟨w.heap.size, 0, none⟩) s.size c) (strL s) := by
  refine ⟨some ⟨w.heap.size, 0, none⟩, c, by rw [strL_length], ⟨fun i => (strL_oct s).getD i, fun _ => ⟨w.heap.size, 0, rfl, fun i hi => ?_⟩⟩, (fun h => by cases h), by rw [strL_length]; exact hc⟩
  rw [strL_length] at hi
  have hh : (w.alloc (.cells (bytesRow s c) 5 fr)).drew.heap[w.heap.size]? = some (.cells (bytesRow s c) 5 fr) := heap_new w _
  have hi' : i < s.data.toList.length := by simpa using hi
  simp only [World.cell?, hh, Nat.zero_add]
  simp only [bytesRow]
  have h2 : i < s.data.size := hi
  rw [Array.getElem?_append_left (by simpa using h2), Array.getElem?_map, Array.getElem?_eq_getElem h2, List.getD_eq_getElem?_getD]
  simp [strL]
  rw [Array.getElem?_eq_getElem h2]; rfl

set_option maxHeartbeats 1000000 in
theorem rputtext_any (v : Value) (l : List Int) (s : ByteArray) (w : World) (h : Sl w v l) (hl : l.length + s.size + 9 ≤ 140737488355328) :
    Calls Try.prog 16 #[v, .string s] w fun e w' => ∃ v', e = .returned v' ∧ Own w' w.heap.size v' (l ++ encR s.size ++ strL s) ∧ Below w.heap.size w w' := by
  have HN := Lib.hid (heldN_nat s.size (by omega))
  have he := encR_le s.size (by omega)
  have HS := Lib.hid h
  clear h
  have hcv := fun W => run_bytes_of_string (P := Try.prog) W 9 22 5 s Try.underlying9 Try.underlying22 Try.underlying5
  go_enter Try.func16, Try.ntmps16
  go_wp2_with fail
  refine (rput_any v l s.size w HS.out (by omega)).mono ?_
  rintro e w1 ⟨v1, rfl, hown1, hb1⟩
  rw [HN.out] at hown1
  obtain ⟨L, hL⟩ : ∃ L, L = l ++ encR s.size := ⟨_, rfl⟩
  have hLo : Oct L := by rw [hL]; exact HS.out.oct.append (encR_oct _)
  have hLl : L.length ≤ l.length + 9 := by rw [hL, List.length_append]; omega
  rw [← hL] at hown1
  have HLL := Lib.hid hL
  have HS1 := Lib.hid (hown1.sl hLo)
  have hsz := hb1.size
  clear hown1 hL hLo
  go_wp2_with fail
  have hge := grownCap_ge w1 s.size 0 5
  generalize grownCap w1 s.size 0 5 = c at hge
  have hS2 := sl_bytes w1 s c hge ((bytesRow s c).size, (bytesRow s c).size + 1)
  have hbA : Below w1.heap.size w1 (w1.alloc (.cells (bytesRow s c) 5 ((bytesRow s c).size, (bytesRow s c).size + 1))).drew := ((Below.refl _ _).alloc (Nat.le_refl _) _).drew
  have hS1 := HS1.out.later hbA
  generalize (w1.alloc (.cells (bytesRow s c) 5 ((bytesRow s c).size, (bytesRow s c).size + 1))).drew = w2 at hS1 hS2 hbA
  have hsz2 := hbA.size
  refine (behind_any v1 _ L (strL s) w2 hS1 hS2 (by rw [strL_length]; omega)).mono ?_
  rintro e w3 ⟨v3, rfl, hown3, hb3⟩
  have HO3 := Lib.hid (hown3.lower (show w.heap.size ≤ w2.heap.size by omega))
  clear hown3 hS1 hS2
  go_wp2
  go_ret
  exact ⟨_, rfl, by rw [← HLL.out]; exact HO3.out, hb1.trans ((hbA.mono hsz).trans (hb3.mono (by omega)))⟩
end Go.Proofs.Ytkojldjgjmaodaa
