/- Open: what was sealed. -/
import Derived.Test.YtkojldjgjmaodabDoorSeal
namespace Go.Proofs.YtkojldjgjmaodabDoor
open Go.RowKit Go.Proofs.CrcMath
set_option linter.unusedVariables false

def openE (l : List Int) : Int := if l.length < 4 then 4 else if leV (l.drop (l.length - 4)) 4 = crcN (l.take (l.length - 4)) then 0 else 6
def openL (l : List Int) : List Int := if openE l = 0 then l.take (l.length - 4) else []
theorem openL_oct (l : List Int) (h : Oct l) : Oct (openL l) := by
  unfold openL
  split
  · exact h.take _
  · intro c hc; simp at hc

theorem or_byte (y c k : Nat) (hk : k < 4) (hy : y < 2 ^ (8 * k)) (hc : c ≤ 255) : bits .or .u32 (y : Int) ((c : Int) * 2 ^ (8 * k) % 4294967296) = ((y + c * 2 ^ (8 * k) : Nat) : Int) := by
  have hp : 2 ^ (8 * k) ≤ 2 ^ 24 := Nat.pow_le_pow_right (by omega) (by omega)
  have hm : c * 2 ^ (8 * k) ≤ 255 * 2 ^ 24 := Nat.mul_le_mul hc hp
  have e : ((c : Int) * 2 ^ (8 * k) % 4294967296) = ((c * 2 ^ (8 * k) : Nat) : Int) := by
    rw [show ((c : Int) * 2 ^ (8 * k)) = ((c * 2 ^ (8 * k) : Nat) : Int) from by rw [Int.natCast_mul, Int.natCast_pow]; rfl]
    generalize c * 2 ^ (8 * k) = x at hm
    omega
  rw [e, u32_or_nat y (c * 2 ^ (8 * k)) (by omega) (by omega), Nat.or_comm, nat_join (8 * k) (c * 2 ^ (8 * k)) y (Nat.mul_mod_left _ _) hy, Nat.add_comm]

theorem cp1 (w : World) (m : Nat) : (w.alloc (.cells (madeCells #[.int .u8 0] m) 5)).heap[w.heap.size]? = some (.cells (madeCells #[.int .u8 0] m).toList.toArray 5 (0, 0)) := by
  rw [Array.toArray_toList]; exact heap_new _ _
theorem cp2 (l : List Int) (m : Nat) (h : m = (l.take m).length) : ((l.take m).map (Value.int .u8)).length = Nat.min (m + 4) m := by
  rw [List.length_map, ← h]; exact (Nat.min_eq_right (by omega)).symm
theorem cp3 (w w1 : World) (l : List Int) (b off m : Nat) (hl : m + 4 = l.length) (hall : ∀ i, i < l.length → w.cell? ⟨b, off + i, none⟩ = some (.int .u8 (l.getD i 0))) (hbel : Below w.heap.size w w1) :
    0 < ((l.take m).map (Value.int .u8)).length → (some (⟨w1.heap.size, 0, none⟩ : Addr)) = some ⟨w1.heap.size, 0, none⟩ ∧ ∃ ad, (some (⟨b, off, none⟩ : Addr)) = some ad ∧ ∀ j v, ((l.take m).map (Value.int .u8))[j]? = some v → (w1.alloc (.cells (madeCells #[.int .u8 0] m) 5)).cell? (ad.add j) = some v := by
  intro _
  refine ⟨rfl, _, rfl, Bytes.at fun i hi => ?_⟩
  rw [List.length_take] at hi
  rw [List.getD_eq_getElem?_getD, List.getElem?_take, if_pos (by omega), ← List.getD_eq_getElem?_getD]
  exact cell_later ((Below.refl _ _).alloc (Nat.le_refl _) _) (cell_later hbel (hall i (by omega)))
theorem cp4 (l : List Int) (m : Nat) (h : m = (l.take m).length) : 0 + ((l.take m).map (Value.int .u8)).length ≤ (madeCells #[.int .u8 0] m).toList.length := by
  rw [List.length_map, ← h, Array.length_toList, size_madeCells]; omega
theorem cp_own (w2 : World) (base g m : Nat) (l : List Int) (h : m = (l.take m).length) (hb : base ≤ g) (hm : m ≤ 1000000)
    (hg2 : w2.heap[g]? = some (.cells (splice (madeCells #[.int .u8 0] m).toList 0 ((l.take m).map (Value.int .u8))).toArray 5 (0, 0))) : Own w2 base (.slice (some ⟨g, 0, none⟩) m m) (l.take m) := by
  refine ⟨by simp, .inr ⟨g, m, _, by rw [← h], hb, hg2, by rw [← h]; omega, by unfold maxLen; omega, ?_, ?_⟩⟩
  · have h4 := cp4 l m h
    simp only [List.size_toArray, Nat.mul_one]
    rw [length_splice _ _ _ h4, Array.length_toList, size_madeCells]
  · simp only [splice, List.take_zero, List.nil_append, Nat.mul_one]
    rw [List.take_append_of_le_length (by simp)]
    exact List.take_of_length_le (by simp)

set_option maxHeartbeats 1000000 in
theorem open_any (a : Option Addr) (cap n : Nat) (l : List Int) (w : World) (hn : n = l.length) (hT : Tab w) (hB : Bytes w a l) (hcap : n ≤ cap) (hnil : a = none → cap = 0) (hl : n ≤ 1000000) :
    Calls Tryd.prog 7 #[.slice a n cap] w fun e w' => ∃ v, e = .returned (.tuple #[v, .int .i64 (openE l)]) ∧ Own w' w.heap.size v (openL l) ∧ Below w.heap.size w w' := by
  by_cases h4 : n < 4
  · have HE : Hid (openE l = 4) := by show _ = _; unfold openE; rw [if_pos (by omega)]
    have HL : Hid (openL l = []) := by show _ = _; unfold openL; rw [HE.out]; rfl
    clear hB hT hn hnil
    go_enter Tryd.func7, Tryd.ntmps7
    go_wp2
    go_ret2
    exact ⟨.slice none 0 0, by rw [HE.out]; rfl, by rw [HL.out]; exact Own.nil _ _, Below.refl _ _⟩
  · obtain ⟨m, rfl⟩ : ∃ m, n = m + 4 := ⟨n - 4, by omega⟩
    obtain ⟨i0, hi, hz0, hz1, hz2⟩ := info_parts Tryd.info5
    have hs1 : (Tryd.prog.info? 5).map (·.size) = some 1 := by rw [hi]; simp [hz1]
    have hne : l ≠ [] := by intro e; subst e; simp at hn
    obtain ⟨b, off, rfl, hc⟩ := hB.2 hne
    have hfirst := run_first hB cap (by omega) hnil m (by omega)
    rw [← hn] at hfirst
    obtain ⟨a2, hrun, hS2⟩ := hfirst
    obtain ⟨a3, c3, e3, hB3, hn3, hc3⟩ := hS2
    simp only [Value.slice.injEq] at e3
    obtain ⟨rfl, hm3, rfl⟩ := e3
    have hcell : ∀ k, k < 4 → w.cell? ⟨b, off + (m + k), none⟩ = some (.int .u8 (l.getD (m + k) 0)) := fun k hk => hc (m + k) (by omega)
    have hdrop : ∀ k, (l.drop m).getD k 0 = l.getD (m + k) 0 := fun k => by simp [List.getD_eq_getElem?_getD]
    have ho := hB.1
    have HC := Lib.hid hcell
    have HD := Lib.hid hdrop
    have HO := Lib.hid ho
    have HB3 := Lib.hid hB3
    have HM3 := Lib.hid hm3
    have HT := Lib.hid hT
    have HN := Lib.hid hn
    have HALL := Lib.hid hc
    have HOF := Lib.hid (of_one w a2 m cap (l.take m) 22 hm3 hT hB3 (by rw [← hm3]; omega))
    have hEv : openE l = if leV (l.drop m) 4 = crcN (l.take m) then 0 else 6 := by
      unfold openE; rw [if_neg (by omega), show l.length - 4 = m from by omega]
    have HEV := Lib.hid hEv
    clear hcell hdrop ho hB3 hm3 hT hn hc hB hnil hn3 hc3 hne hEv h4
    go_enter Tryd.func7, Tryd.ntmps7
    go_wp2
    go_loop [5, 14] (fun r i => ∃ k y : Nat, k ≤ 4 ∧ i = .int .i64 k ∧ r = .int .u32 y ∧ Hid (y = leV (l.drop m) k)) (fun _ i => 4 - (intOf i).toNat)
    case atStart => exact ⟨0, 0, by omega, rfl, rfl, rfl⟩
    case round =>
      obtain ⟨k, y, hk, rfl, rfl, HY⟩ := hrel
      by_cases hlt : k < 4
      · have hck := HC.out k hlt
        have hbd := HO.out.getD (m + k)
        obtain ⟨c, hcv⟩ : ∃ c : Nat, l.getD (m + k) 0 = (c : Int) := ⟨(l.getD (m + k) 0).toNat, by omega⟩
        rw [hcv] at hck hbd
        have HQ := Lib.hid (or_byte y c k hlt (by rw [HY.out]; exact leV_lt _ (HO.out.drop m) k) (by omega))
        have HY1 : Hid (y + c * 2 ^ (8 * k) = leV (l.drop m) (k + 1)) := by show _ = _; simp only [leV]; rw [← HY.out, HD.out, hcv, Int.toNat_natCast]
        clear hcv
        go_wp2
        go_round
        case rel => exact ⟨k + 1, y + c * 2 ^ (8 * k), by omega, by go_num, by rw [← HQ.out], HY1⟩
        case measure => simp [intOf]; omega
      · have hk4 : k = 4 := by omega
        subst hk4
        go_wp2_with fail
        refine HOF.out.mono ?_
        rintro e w' ⟨rfl, rfl⟩
        by_cases heq : y = crcN (l.take m)
        · have HE : Hid (openE l = 0) := by show _ = _; rw [HEV.out, ← HY.out, if_pos heq]
          have HL : Hid (openL l = l.take m) := by show _ = _; unfold openL; rw [HE.out, if_pos rfl, show l.length - 4 = m from by have := HN.out; omega]
          rw [← heq]
          clear heq
          have hbel : Below w.heap.size w (w.alloc (.cells #[.slice a2 m cap] 22)) := (Below.refl _ _).alloc (Nat.le_refl _) _
          generalize w.alloc (.cells #[.slice a2 m cap] 22) = w1 at hbel
          have hmk := run_make (P := Tryd.prog) w1 22 5 i0 (.int .u8 0) Tryd.underlying22 hi hz0 .i64 .i64 (m : Int) (m : Int) (by omega) (by omega) (by rw [hz2]; omega) (by omega)
          rw [hz1] at hmk
          have hsz1 := hbel.size
          go_wp2_with (with_reducible refine wpList_copy_splice rfl (.tmp 39) (.tmp 40) 22 22 rfl 5 Tryd.underlying22 hs1 (some ⟨w1.heap.size, 0, none⟩) (some ⟨b, off, none⟩) m m (m + 4) cap rfl rfl w1.heap.size 0 (madeCells #[.int .u8 0] m).toList 5 (cp1 w1 m) ((l.take m).map (Value.int .u8)) (cp2 l m HM3.out) (cp3 w w1 l b off m HN.out HALL.out hbel) (cp4 l m HM3.out) (oneCells (l.take m)) w.heap.size w (hbel.alloc hbel.size _) hsz1 ?_)
          intro w2 hg2 hb2
          have hown2 := cp_own w2 w.heap.size w1.heap.size m l HM3.out hsz1 (by omega) (by rw [List.map_take]; exact hg2.out)
          have HO2 := Lib.hid hown2
          clear hown2 hg2
          go_wp2
          go_ret2
          exact ⟨.slice (some ⟨w1.heap.size, 0, none⟩) m m, by rw [HE.out]; rfl, by rw [HL.out]; exact HO2.out, hb2⟩
        · have HE : Hid (openE l = 6) := by show _ = _; rw [HEV.out, ← HY.out, if_neg heq]
          have HL : Hid (openL l = []) := by show _ = _; unfold openL; rw [HE.out]; rfl
          obtain ⟨s, hs⟩ : ∃ s, s = crcN (l.take m) := ⟨_, rfl⟩
          rw [← hs] at heq ⊢
          have hb1 : ((y : Int) != (s : Int)) = true := by rw [bne_iff_ne]; omega
          have hb2 : (y != s) = true := by rw [bne_iff_ne]; exact heq
          clear heq hs
          go_wp2
          go_ret2
          exact ⟨.slice none 0 0, by rw [HE.out]; rfl, by rw [HL.out]; exact Own.nil _ _, (Below.refl _ _).alloc (Nat.le_refl _) _⟩
end Go.Proofs.YtkojldjgjmaodabDoor
