/- The chapter's examples. -/
import Derived.Test.YtkppnbehkmpogaaDoorSgBytes
import Derived.BigQuiet
namespace Go.Proofs.YtkppnbehkmpogaaDoor
open Go.RowKit Go.Shelf Go.Proofs.BlkMath Go.Proofs.RangeLaw
open Num (encR heldN)
set_option linter.unusedVariables false
set_option maxRecDepth 100000

theorem sizeN_small (x : Nat) (h : x < 128) : Go.Proofs.NumMath.sizeN x = 1 := by rw [Go.Proofs.NumMath.sizeN]; simp [h]
def z40 : List Int := List.replicate 40 0
theorem z40_oct : Oct z40 := by decide
theorem z40_len : z40.length = 40 := by decide
theorem made40 : madeCells (Value.int .u8 0).cells (40 * 1) = (z40.map (Value.int .u8)).toArray := by kernel_rfl
theorem z40_sl (w : World) : Sl (w.alloc (.cells (madeCells (Value.int .u8 0).cells (40 * 1)) 5)) (.slice (some ⟨w.heap.size, 0, none⟩) 40 40) z40 := by
  rw [made40]
  exact ⟨_, 40, rfl, lit_bytes w z40 (0, 0) z40_oct, (fun h => by cases h), by decide⟩
theorem cnt40 : (cnt (40 : Nat) (16 : Nat)).toNat = 3 := by decide
theorem mks_st (K l : List Int) (blk st N : Nat) (h : st ≤ 32) : ∀ m ∈ mks K l blk st N, m.2.size = st := by
  intro m hm
  simp only [mks, List.mem_map] at hm
  obtain ⟨k, _, rfl⟩ := hm
  exact strong_size K _ st h
theorem chk40 (K : List Int) : chkE (40 : Nat) (16 : Nat) (2 : Nat) (mks K z40 16 2 3) = 0 := by
  have h1 : numE (40 : Nat) (16 : Nat) (2 : Nat) = 0 := by decide
  have h2 : cntB (40 : Nat) (16 : Nat) = 3 := by decide
  unfold chkE
  rw [if_pos h1, h2, mks_length, if_pos (show ((3 : Nat) : Int) = 3 from rfl), if_pos]
  intro m hm
  rw [mks_st K z40 16 2 3 (by omega) m hm]
theorem len40 (K : List Int) : (sigL (40 : Nat) (16 : Nat) (2 : Nat) (mks K z40 16 2 3)).length = 21 := by
  unfold sigL sigParts
  rw [List.flatten_cons, List.length_append, mflat_length _ 2 (mks_st K z40 16 2 3 (by omega)), mks_length]
  have : (encAll [((40 : Nat) : Int), ((16 : Nat) : Int), ((2 : Nat) : Int)]).length = 3 := by
    have h1 : heldN ((40 : Nat) : Int) = 40 := by decide
    have h2 : heldN ((16 : Nat) : Int) = 16 := by decide
    have h3 : heldN ((2 : Nat) : Int) = 2 := by decide
    simp only [encAll, List.map_cons, List.map_nil, List.flatten_cons, List.flatten_nil, List.length_append, List.length_nil, Num.encR_length, h1, h2, h3]
    rw [sizeN_small 40 (by omega), sizeN_small 16 (by omega), sizeN_small 2 (by omega)]
  rw [this]

set_option maxRecDepth 1000000 in
set_option maxHeartbeats 4000000 in
theorem awake_sig (K : List Int) (w : World) (hR : TabR w K) (hC : Crc.Tab w) :
    Calls Tryd.prog 10 #[] w fun e w' => e = .returned (.bool true) ∧ Below w.heap.size w w' := by
  obtain ⟨i0, hi, hz0, hz1, hz2⟩ := info_parts Tryd.infoB
  have hmk := run_make (P := Tryd.prog) w 22 5 i0 (.int .u8 0) Tryd.underlying22 hi hz0 .i64 .i64 40 40 (by omega) (by omega) (by rw [hz2]; omega) (by omega)
  rw [hz1] at hmk
  have e40 : (40 : Int).toNat = 40 := rfl
  simp only [e40] at hmk
  have hb1 : Below w.heap.size w (w.alloc (.cells (madeCells (Value.int .u8 0).cells (40 * 1)) 5)) := (Below.refl _ _).alloc (Nat.le_refl _) _
  have hOf := sigof_yes _ K z40 16 16 2 _ (z40_sl w) z40_oct (by rw [z40_len]; decide) (hR.later hb1) (by omega) (by omega) (.inr ⟨by decide, rfl⟩)
  rw [z40_len, cnt40] at hOf
  have HOF := Lib.hid hOf
  have HB1 := Lib.hid hb1
  generalize w.alloc (.cells (madeCells (Value.int .u8 0).cells (40 * 1)) 5) = w1 at hmk HOF HB1
  have HR := Lib.hid hR
  have HC := Lib.hid hC
  clear hOf hb1 hR hC e40
  unfold sigV at HOF
  go_enter Tryd.func10, Tryd.ntmps10
  go_wp2_with fail
  refine HOF.out.mono ?_
  rintro e w2 ⟨v, rfl, hmo, hb2⟩
  obtain ⟨av, cv, ev⟩ := row_form hmo
  rw [mks_length] at ev
  subst ev
  obtain ⟨a', c', e', hM⟩ := hmo.sl (mks_bd K z40 16 2 3)
  rw [mks_length] at e'
  cases e'
  have HB2 : Hid (Below w.heap.size w w2) := HB1.out.trans (hb2.mono HB1.out.size)
  have HBY : Hid (∀ W, Below w2.heap.size w2 W → Calls Tryd.prog 15 #[sigV (40 : Nat) (16 : Nat) (2 : Nat) (.slice av 3 cv)] W fun e w' => ∃ v, e = .returned (.tuple #[v, .int .i64 0]) ∧ Own w' W.heap.size v (sigL (40 : Nat) (16 : Nat) (2 : Nat) (mks K z40 16 2 3) ++ Crc.leB (Go.Proofs.CrcMath.crcN (sigL (40 : Nat) (16 : Nat) (2 : Nat) (mks K z40 16 2 3))) 4) ∧ Below W.heap.size W w') := by
    intro W hb
    exact bytes_yes (40 : Nat) (16 : Nat) (2 : Nat) av cv 3 (mks K z40 16 2 3) W (mks_length _ _ _ _ _).symm (hM.later hb) (by omega) (fun m hm => by rw [mks_st K z40 16 2 3 (by omega) m hm]; omega) (chk40 K) (HC.out.later (HB2.out.trans (hb.mono HB2.out.size))) (by rw [len40]; omega)
  have HLN : Hid ((sigL (40 : Nat) (16 : Nat) (2 : Nat) (mks K z40 16 2 3) ++ Crc.leB (Go.Proofs.CrcMath.crcN (sigL (40 : Nat) (16 : Nat) (2 : Nat) (mks K z40 16 2 3))) 4).length = 25) := by
    show _ = _
    rw [List.length_append, len40, Crc.leB_length]
  generalize (sigL (40 : Nat) (16 : Nat) (2 : Nat) (mks K z40 16 2 3) ++ Crc.leB (Go.Proofs.CrcMath.crcN (sigL (40 : Nat) (16 : Nat) (2 : Nat) (mks K z40 16 2 3))) 4) = L25 at HBY HLN
  have HNI : Hid (∀ W, Below w.heap.size w W → Calls Tryd.prog 11 #[.slice none 0 0, .int .i64 0, .int .i64 1] W fun e w' => ∃ v, e = .returned (.tuple #[sigV (0 : Nat) (16 : Nat) (1 : Nat) v, .int .i64 0]) ∧ MOwn w' W.heap.size v [] ∧ Below W.heap.size W w') := by
    intro W hb
    have h := sigof_yes (.slice none 0 0) K [] 0 16 1 W ⟨none, 0, rfl, ⟨by decide, fun h => absurd rfl h⟩, fun _ => rfl, by simp⟩ (by decide) (by decide) (HR.out.later hb) (by omega) (by omega) (.inl ⟨rfl, fun W => length_any 0 W⟩)
    exact h
  unfold sigV at HBY HNI
  clear hmo hM hb2 HOF hmk
  go_wp2_with fail
  have hbA : Below w2.heap.size w2 (w2.alloc (Obj.cells #[Value.int IntKind.i64 40, Value.int IntKind.i64 16, Value.int IntKind.i64 2, Value.slice av 3 cv] 26)) := (Below.refl _ _).alloc (Nat.le_refl _) _
  have hhA := heap_new w2 (Obj.cells #[Value.int IntKind.i64 40, Value.int IntKind.i64 16, Value.int IntKind.i64 2, Value.slice av 3 cv] 26)
  refine (HBY.out _ hbA).mono ?_
  rintro e w3 ⟨vb, rfl, hvb, hb3⟩
  obtain ⟨ab, cb, evb⟩ := own_form hvb
  rw [HLN.out] at evb
  subst evb
  have hh3 := (KeepC.of_below hb3).2 _ _ _ _ hhA
  have HH3 := Lib.hid hh3
  have hb23 : Below w2.heap.size w2 w3 := hbA.trans (hb3.mono hbA.size)
  have HB3 : Hid (Below w.heap.size w w3) := HB2.out.trans (hb23.mono HB2.out.size)
  clear hvb hb3 hbA hhA hb23 hh3 HBY HLN
  go_wp2_with fail
  refine (HNI.out _ HB3.out).mono ?_
  rintro e w4 ⟨vn, rfl, hmn, hb4⟩
  obtain ⟨an, cn, evn⟩ := row_form hmn
  subst evn
  have hh4 := (KeepC.of_below hb4).2 _ _ _ _ HH3.out
  have q3 : ∀ o, (w4.alloc o).cell? ⟨w2.heap.size, 3, none⟩ = some (.slice av 3 cv) := fun o => cell_later ((Below.refl _ _).alloc (Nat.le_refl _) o) (by rw [cell_of_row w4 _ 3 _ _ (0, 0) hh4]; rfl)
  have HB4 : Hid (Below w.heap.size w w4) := HB3.out.trans (hb4.mono HB3.out.size)
  clear hmn hb4 hh4 HNI HH3
  go_wp2
  go_ret
  exact ⟨rfl, HB4.out.alloc HB4.out.size _⟩
end Go.Proofs.YtkppnbehkmpogaaDoor
