/- sig.numbers, sig.weakBytes; slices.Grow, slices.Concat; sig.sealed. -/
import Derived.Test.YtkppnbehkmpogaaDoorSgCheck
import Derived.Test.YtkppnbehkmpogaaDoorNumAll
import Derived.Test.YtkppnbehkmpogaaDoorCrcAll
import Derived.Lib.AppendZeros
namespace Go.Proofs.YtkppnbehkmpogaaDoor
open Go.RowKit Go.Shelf Go.Proofs.BlkMath Go.Proofs.RangeLaw
open Go.Proofs.NumMath
open Num (encR heldN encR_length encR_oct)
open Crc (leB)
set_option linter.unusedVariables false
set_option maxRecDepth 100000

/-- numbers that lie one behind the other -/
def Ints (w : World) (a : Option Addr) (l : List Int) : Prop := l ≠ [] → ∃ b off, a = some ⟨b, off, none⟩ ∧ ∀ i, i < l.length → w.cell? ⟨b, off + i, none⟩ = some (.int .i64 (l.getD i 0))

theorem nput_any (v : Value) (l : List Int) (n : Int) (w : World) (hS : Sl w v l) (hl : l.length + 9 ≤ 140737488355328) :
    Calls Tryd.prog 69 #[v, .int .i64 n] w fun e w' => ∃ v', e = .returned v' ∧ Own w' w.heap.size v' (l ++ encR (heldN n)) ∧ Below w.heap.size w w' := by
  obtain ⟨a, cap, rfl, hB, _, _⟩ := hS
  exact Num.put_any a cap l n w ⟨fun i => hB.1.getD i, hB.2⟩ hl

def encAll (l : List Int) : List Int := (l.map fun n => encR (heldN n)).flatten
theorem encAll_oct (l : List Int) : Oct (encAll l) := by
  intro c hc
  simp only [encAll, List.mem_flatten, List.mem_map] at hc
  obtain ⟨_, ⟨n, _, rfl⟩, hc⟩ := hc
  exact encR_oct _ c hc
theorem enc_le (n : Int) : (encR (heldN n)).length ≤ 9 := Num.encR_le _ (Num.heldN_le n)
theorem encAll_le (l : List Int) : (encAll l).length ≤ 9 * l.length := by
  induction l with
  | nil => simp [encAll]
  | cons x l ih =>
    have h1 := enc_le x
    have h2 : encAll (x :: l) = encR (heldN x) ++ encAll l := by simp [encAll]
    rw [h2, List.length_append, List.length_cons]; omega
theorem encAll_snoc (l : List Int) (k : Nat) (h : k < l.length) : encAll (l.take (k + 1)) = encAll (l.take k) ++ encR (heldN (l.getD k 0)) := by
  rw [take_snoc l k h]; simp [encAll]

set_option maxHeartbeats 1000000 in
theorem numbers_any (b off cap n : Nat) (l : List Int) (w : World) (hn : n = l.length) (hl : n ≤ 1000) (hc : ∀ i, i < n → w.cell? ⟨b, off + i, none⟩ = some (.int .i64 (l.getD i 0))) :
    Calls Tryd.prog 39 #[.slice (some ⟨b, off, none⟩) n cap] w fun e w' => ∃ v, e = .returned v ∧ Own w' w.heap.size v (encAll l) ∧ Below w.heap.size w w' := by
  have HC := Lib.hid hc
  have HN := Lib.hid hn
  clear hc hn
  go_enter Tryd.func39, Tryd.ntmps39
  go_wp2
  go_loopw [3, 8] (fun v i wr => ∃ k : Nat, i = .int .i64 k ∧ k ≤ n ∧ Hid (Own wr w.heap.size v (encAll (l.take k))) ∧ Below w.heap.size w wr) (fun _ i _ => n - (intOf i).toNat)
  case atStart => exact ⟨0, rfl, by omega, (by show Own _ _ _ _; simpa [encAll] using Own.nil _ _), Below.refl _ _⟩
  case round =>
    obtain ⟨k, rfl, hk, HV, hbel⟩ := hrel
    by_cases hlt : k < n
    · have hlt2 : (k : Int) < (n : Int) := by omega
      have x0 := cell_later hbel (HC.out k hlt)
      have hkl : k < l.length := by rw [← HN.out]; exact hlt
      have hle := encAll_le (l.take k)
      rw [List.length_take] at hle
      have hp := nput_any _ _ (l.getD k 0) wr (HV.out.sl (encAll_oct _)) (by omega)
      rw [← encAll_snoc l k hkl] at hp
      have HP := Lib.hid hp
      have HBL := Lib.hid hbel
      generalize l.getD k 0 = xk at x0 HP
      clear hp hbel HC hle
      go_wp2_with (go_at_call 69; refine HP.out.mono ?_; rintro e w2 ⟨v2, rfl, hv2, hb2⟩)
      go_roundw
      case rel => exact ⟨k + 1, by go_num, by omega, hv2.lower HBL.out.size, HBL.out.trans (hb2.mono HBL.out.size)⟩
      case measure => simp [intOf]; omega
    · have hkk : ¬ (k : Int) < (n : Int) := by omega
      have hkn : l.take k = l := List.take_of_length_le (by have := HN.out; omega)
      rw [hkn] at HV
      have HBL := Lib.hid hbel
      clear hbel hkn
      go_wp2
      go_ret
      exact ⟨_, rfl, HV.out, HBL.out⟩

/-- a rolling sum's four bytes, the lowest one first -/
def w4 (x : Int) : List Int := [x % 256, x / 256 % 256, x / 65536 % 256, x / 16777216 % 256]
theorem w4_oct (x : Int) : Oct (w4 x) := by intro c hc; simp [w4] at hc; omega

/-- of the four bytes the first k are laid -/
def wk (x : Int) (k : Nat) : Array Value := (((w4 x).take k ++ List.replicate (4 - k) 0).map (Value.int .u8)).toArray

set_option maxHeartbeats 4000000 in
theorem weakBytes_any (x : Int) (w : World) (h0 : 0 ≤ x) (h1 : x ≤ 4294967295) :
    Calls Tryd.prog 40 #[.int .u32 x] w fun e w' => e = .returned (.slice (some ⟨w.heap.size, 0, none⟩) 4 4) ∧ w'.heap[w.heap.size]? = some (.cells (wk x 4) 5) ∧ Below w.heap.size w w' := by
  obtain ⟨i0, hi, hz0, hz1, hz2⟩ := info_parts Tryd.infoB
  have hmk := run_make (P := Tryd.prog) w 22 5 i0 (.int .u8 0) Tryd.underlying22 hi hz0 .i64 .i64 4 4 (by omega) (by omega) (by rw [hz2]; omega) (by omega)
  rw [hz1] at hmk
  have e4 : (4 : Int).toNat = 4 := rfl
  simp only [e4] at hmk
  have hh : (w.alloc (.cells (madeCells (Value.int .u8 0).cells (4 * 1)) 5)).heap[w.heap.size]? = some (.cells (wk x 0) 5) := by
    rw [heap_new]
    have e : madeCells (Value.int .u8 0).cells (4 * 1) = wk x 0 := by kernel_rfl
    rw [e]
  have hb : Below w.heap.size w (w.alloc (.cells (madeCells (Value.int .u8 0).cells (4 * 1)) 5)) := (Below.refl _ _).alloc (Nat.le_refl _) _
  have HH := Lib.hid hh
  have HB := Lib.hid hb
  generalize w.alloc (.cells (madeCells (Value.int .u8 0).cells (4 * 1)) 5) = w1 at hmk HH HB
  clear hh hb e4
  go_enter Tryd.func40, Tryd.ntmps40
  go_wp2
  go_loopw [8] (fun i wr => ∃ k : Nat, i = .int .i64 k ∧ k ≤ 4 ∧ Hid (wr.heap[w.heap.size]? = some (.cells (wk x k) 5)) ∧ Below w.heap.size w wr) (fun i _ => 4 - (intOf i).toNat)
  case atStart => exact ⟨0, rfl, by omega, HH, HB.out⟩
  case round =>
    clear HH HB hmk
    obtain ⟨k, rfl, hk, HR, hbel⟩ := hrel
    have HBL := Lib.hid hbel
    clear hbel
    by_cases hk4 : k < 4
    · have hf : ∀ j, wr.frozen? ⟨w.heap.size, j, none⟩ = false := fun j => unfrozen HR.out
      have hk : k = 0 ∨ k = 1 ∨ k = 2 ∨ k = 3 := by omega
      rcases hk with rfl | rfl | rfl | rfl
      · have f0 := hf 0
        have c0 : wr.cell? ⟨w.heap.size, 0, none⟩ = some (.int .u8 0) := by rw [cell_of_row wr _ 0 _ _ (0, 0) HR.out]; rfl
        clear hf
        go_wp2
        refine ⟨⟨1, rfl, by omega, ?_, HBL.out.setCell (p := ⟨w.heap.size, 0, none⟩) (Nat.le_refl _) _⟩, by simp [intOf]⟩
        show _ = _
        rw [Joins.block_setCell HR.out]
        rfl
      · have f0 := hf 1
        have c0 : wr.cell? ⟨w.heap.size, 1, none⟩ = some (.int .u8 0) := by rw [cell_of_row wr _ 1 _ _ (0, 0) HR.out]; rfl
        clear hf
        go_wp2
        refine ⟨⟨2, rfl, by omega, ?_, HBL.out.setCell (p := ⟨w.heap.size, 1, none⟩) (Nat.le_refl _) _⟩, by simp [intOf]⟩
        show _ = _
        rw [Joins.block_setCell HR.out]
        rfl
      · have f0 := hf 2
        have c0 : wr.cell? ⟨w.heap.size, 2, none⟩ = some (.int .u8 0) := by rw [cell_of_row wr _ 2 _ _ (0, 0) HR.out]; rfl
        clear hf
        go_wp2
        refine ⟨⟨3, rfl, by omega, ?_, HBL.out.setCell (p := ⟨w.heap.size, 2, none⟩) (Nat.le_refl _) _⟩, by simp [intOf]⟩
        show _ = _
        rw [Joins.block_setCell HR.out]
        rfl
      · have f0 := hf 3
        have c0 : wr.cell? ⟨w.heap.size, 3, none⟩ = some (.int .u8 0) := by rw [cell_of_row wr _ 3 _ _ (0, 0) HR.out]; rfl
        clear hf
        go_wp2
        refine ⟨⟨4, rfl, by omega, ?_, HBL.out.setCell (p := ⟨w.heap.size, 3, none⟩) (Nat.le_refl _) _⟩, by simp [intOf]⟩
        show _ = _
        rw [Joins.block_setCell HR.out]
        rw [show Value.int IntKind.u8 (x / 16777216) = Value.int IntKind.u8 (x / 16777216 % 256) from by congr 1; omega]
        rfl
    · have hk44 : k = 4 := by omega
      subst hk44
      go_wp2
      go_ret
      exact ⟨rfl, HR.out, HBL.out⟩
theorem wk_own {w : World} {base g : Nat} {x : Int} (h : w.heap[g]? = some (.cells (wk x 4) 5)) (hb : base ≤ g) : Own w base (.slice (some ⟨g, 0, none⟩) 4 4) (w4 x) :=
  ⟨rfl, .inr ⟨g, 4, wk x 4, rfl, hb, h, by simp [w4], by unfold maxLen; omega, rfl, rfl⟩⟩

set_option maxHeartbeats 2000000 in
theorem grow_any (n : Nat) (w : World) (hn : n ≤ 140737488355328) :
    Calls Tryd.prog 84 #[.slice none 0 0, .int .i64 n] w fun e w' => ∃ v, e = .returned v ∧ Own w' w.heap.size v [] ∧ Below w.heap.size w w' := by
  obtain ⟨i0, hi, hz0, hz1, hz2⟩ := info_parts Tryd.infoB
  by_cases h0 : n = 0
  · subst h0
    go_enter Tryd.func84, Tryd.ntmps84
    go_wp2
    go_ret
    exact ⟨_, rfl, Own.nil _ _, Below.refl _ _⟩
  · have hz := Lib.run_append_nil_zeros (P := Tryd.prog) w 22 3 22 5 i0 (.int .u8 0) .i64 .i64 Tryd.underlying22 Tryd.underlying3 hi hz0 n (by omega) (by omega) (by omega) (by rw [hz2]; omega)
    have hge := grownCap_ge w n 0 5
    have hle := grownCap_le_maxLen w n 0 5 (by unfold maxLen; omega)
    have hO : Own (w.drew.alloc (.cells (Builtin.zeroCells (Value.int .u8 0).cells n ++ Builtin.zeroCells (Value.int .u8 0).cells (grownCap w n 0 5 - n)) 5)) w.heap.size (.slice (some ⟨w.heap.size, 0, none⟩) 0 (grownCap w n 0 5)) [] :=
      ⟨rfl, .inr ⟨w.heap.size, _, _, rfl, Nat.le_refl _, heap_new w.drew _, by simp, hle, by simp only [Array.size_append, size_zeroCells]; simp [Value.cells]; omega, by simp⟩⟩
    have hB : Below w.heap.size w (w.drew.alloc (.cells (Builtin.zeroCells (Value.int .u8 0).cells n ++ Builtin.zeroCells (Value.int .u8 0).cells (grownCap w n 0 5 - n)) 5)) :=
      ⟨rfl, rfl, rfl, by simp, fun k hk => Below.heap_alloc w.drew _ _ (by exact hk)⟩
    have HO := Lib.hid hO
    have HB := Lib.hid hB
    have HZ := Lib.hid hz
    generalize w.drew.alloc (.cells (Builtin.zeroCells (Value.int .u8 0).cells n ++ Builtin.zeroCells (Value.int .u8 0).cells (grownCap w n 0 5 - n)) 5) = w1 at HO HB HZ
    generalize grownCap w n 0 5 = c at HO HZ hge hle
    have hpos : (0 : Int) < (n : Int) := by omega
    clear hz hO hB h0
    go_enter Tryd.func84, Tryd.ntmps84
    go_wp2_with (at_builtin; go_must (refine Lib.wpList_append_run _ rfl (.tmp 20) (.tmp 21) 22 3 rfl _ _ rfl rfl _ _ HZ.out ?_))
    go_ret
    exact ⟨_, rfl, HO.out, HB.out⟩

/-- slices of bytes that lie one behind the other -/
def PartsAt (w : World) (b off : Nat) (ps : List (List Int)) : Prop := ∀ k, k < ps.length → ∃ v, w.cell? ⟨b, off + k, none⟩ = some v ∧ Sl w v (ps.getD k [])
theorem PartsAt.later {w w' : World} {b off : Nat} {ps : List (List Int)} (h : PartsAt w b off ps) (hb : Below w.heap.size w w') : PartsAt w' b off ps := fun k hk => by
  obtain ⟨v, h1, h2⟩ := h k hk
  exact ⟨v, cell_later hb h1, h2.later hb⟩
theorem flat_snoc (ps : List (List Int)) (k : Nat) (hk : k < ps.length) : (ps.take (k + 1)).flatten = (ps.take k).flatten ++ ps.getD k [] := by
  rw [List.take_succ_eq_append_getElem hk, List.flatten_append, List.getD_eq_getElem?_getD, List.getElem?_eq_getElem hk]
  simp only [List.flatten_cons, List.flatten_nil, List.append_nil, Option.getD_some]
theorem flat_mono (ps : List (List Int)) (k : Nat) : (ps.take k).flatten.length ≤ ps.flatten.length := by
  have h : ps.flatten = (ps.take k).flatten ++ (ps.drop k).flatten := by rw [← List.flatten_append, List.take_append_drop]
  rw [h, List.length_append]; omega

set_option maxHeartbeats 4000000 in
theorem concat_any (b off cap n : Nat) (ps : List (List Int)) (w : World) (hn : n = ps.length) (hn1 : n ≤ 9223372036854775807) (hP : PartsAt w b off ps) (hl : ps.flatten.length ≤ 1000000) :
    Calls Tryd.prog 70 #[.slice (some ⟨b, off, none⟩) n cap] w fun e w' => ∃ v, e = .returned v ∧ Own w' w.heap.size v ps.flatten ∧ Below w.heap.size w w' := by
  have HP := Lib.hid hP
  have HN := Lib.hid hn
  have HL := Lib.hid hl
  clear hP hn hl
  go_enter Tryd.func70, Tryd.ntmps70
  go_wp2
  go_loopw [3, 11] (fun v i wr => ∃ k : Nat, i = .int .i64 k ∧ k ≤ n ∧ v = .int .i64 ((ps.take k).flatten.length : Nat) ∧ w = wr) (fun _ i _ => n - (intOf i).toNat)
  case atStart => exact ⟨0, rfl, by omega, rfl, rfl⟩
  case round =>
    obtain ⟨k, rfl, hk, rfl, rfl⟩ := hrel
    by_cases hlt : k < n
    · have hlt2 : (k : Int) < (n : Int) := by omega
      obtain ⟨v, c1, ⟨av, cv, ev, -, -, -⟩⟩ := HP.out k (by rw [← HN.out]; exact hlt)
      subst ev
      have hs := flat_snoc ps k (by rw [← HN.out]; exact hlt)
      have hm1 := flat_mono ps (k + 1)
      have hl := HL.out
      have hs2 : (ps.take (k + 1)).flatten.length = (ps.take k).flatten.length + (ps.getD k []).length := by rw [hs, List.length_append]
      generalize (ps.getD k []).length = m at *
      obtain ⟨q, hq⟩ : ∃ q, q = (ps.take k).flatten.length := ⟨_, rfl⟩
      rw [← hq] at hs2 ⊢
      have hb1 : q + m ≤ 1000000 := by omega
      have hneg : ¬ ((q : Int) + (m : Int) < 0) := by omega
      have HS2 := Lib.hid hs2
      clear hs hm1 hl hs2 hq
      go_wp2
      go_roundw
      case rel => exact ⟨k + 1, by go_num, by omega, by rw [HS2.out]; go_num, trivial⟩
      case measure => simp [intOf]; omega
    · have hkk : ¬ (k : Int) < (n : Int) := by omega
      have hkn : ps.take k = ps := List.take_of_length_le (by have := HN.out; omega)
      rw [hkn]
      have HG := Lib.hid (grow_any ps.flatten.length w (by have := HL.out; omega))
      obtain ⟨q, hq⟩ : ∃ q, q = ps.flatten.length := ⟨_, rfl⟩
      rw [← hq] at HG ⊢
      clear hkn hkk hk hq
      go_wp2_with (go_at_call 84; refine HG.out.mono ?_; rintro e w1 ⟨v1, rfl, hv1, hb1⟩)
      have HV1 := Lib.hid hv1
      have HB1 := Lib.hid hb1
      clear hv1 hb1 HG
      go_loopw [6, 27] (fun v i wr => ∃ k : Nat, i = .int .i64 k ∧ k ≤ n ∧ Hid (Own wr w.heap.size v (ps.take k).flatten) ∧ Below w.heap.size w wr) (fun _ i _ => n - (intOf i).toNat)
      case atStart => exact ⟨0, rfl, by omega, HV1, HB1.out⟩
      case round =>
        clear HV1 HB1
        obtain ⟨k, rfl, hk, HV, hbel⟩ := hrel
        have HBL := Lib.hid hbel
        by_cases hlt : k < n
        · have hlt2 : (k : Int) < (n : Int) := by omega
          obtain ⟨v, c1, hsl⟩ := (HP.out.later hbel) k (by rw [← HN.out]; exact hlt)
          have hm1 := flat_mono ps (k + 1)
          have hl := HL.out
          have hs := flat_snoc ps k (by rw [← HN.out]; exact hlt)
          have hs2 : (ps.take (k + 1)).flatten.length = (ps.take k).flatten.length + (ps.getD k []).length := by rw [hs, List.length_append]
          have hlen : (ps.take k).flatten.length + (ps.getD k []).length ≤ 140737488355328 := by omega
          have HSL := Lib.hid hsl
          have HS := Lib.hid hs
          have hz := hbel.size
          clear hsl hm1 hl hs hs2 hbel
          go_wp2_with (at_builtin; go_must (refine append_sl rfl (.tmp 31) (.tmp 32) rfl w.heap.size _ _ _ _ rfl HV.out rfl HSL.out hlen hz ?_))
          intro v2 w2 HV2 hb2
          go_wp2
          go_roundw
          case rel => exact ⟨k + 1, by go_num, by omega, (by rw [HS.out]; exact HV2), HBL.out.trans hb2⟩
          case measure => simp [intOf]; omega
        · have hkk : ¬ (k : Int) < (n : Int) := by omega
          have hkn : ps.take k = ps := List.take_of_length_le (by have := HN.out; omega)
          rw [hkn] at HV
          clear hbel hkn
          go_wp2
          go_ret
          exact ⟨_, rfl, HV.out, HBL.out⟩

set_option maxHeartbeats 1000000 in
theorem sealed_any (b off cap n : Nat) (ps : List (List Int)) (w : World) (hn : n = ps.length) (hn1 : n ≤ 9223372036854775807) (hP : PartsAt w b off ps) (hl : ps.flatten.length ≤ 1000000) (ho : Oct ps.flatten) (hT : Crc.Tab w) :
    Calls Tryd.prog 41 #[.slice (some ⟨b, off, none⟩) n cap] w fun e w' => ∃ v, e = .returned v ∧ Own w' w.heap.size v (ps.flatten ++ leB (Go.Proofs.CrcMath.crcN ps.flatten) 4) ∧ Below w.heap.size w w' := by
  have HC := Lib.hid (concat_any b off cap n ps w hn hn1 hP hl)
  have HS : Hid (∀ v w1, Own w1 w.heap.size v ps.flatten → Below w.heap.size w w1 → Calls Tryd.prog 22 #[v] w1 fun e w' => ∃ v', e = .returned v' ∧ Own w' w1.heap.size v' (ps.flatten ++ leB (Go.Proofs.CrcMath.crcN ps.flatten) 4) ∧ Below w1.heap.size w1 w') := by
    intro v w1 hv hb
    obtain ⟨a1, c1, rfl, hB, _, _⟩ := hv.sl ho
    exact Crc.seal_any a1 c1 _ ps.flatten w1 rfl (hT.later hb) hB hl
  clear hP hT hn hl ho
  go_enter Tryd.func41, Tryd.ntmps41
  go_wp2_with fail
  refine HC.out.mono ?_
  rintro e w1 ⟨v1, rfl, hv1, hb1⟩
  have HQ := Lib.hid (HS.out v1 w1 hv1 hb1)
  have HB1 := Lib.hid hb1
  clear hv1 hb1
  go_wp2_with fail
  refine HQ.out.mono ?_
  rintro e w2 ⟨v2, rfl, hv2, hb2⟩
  go_wp2
  go_ret
  exact ⟨_, rfl, hv2.lower HB1.out.size, HB1.out.trans (hb2.mono HB1.out.size)⟩
end Go.Proofs.YtkppnbehkmpogaaDoor
