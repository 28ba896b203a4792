/- squash: the chapter's small case; same; the bounds. (A template: seatgen.py fills it.) -/
import Derived.Test.YtboienpdnfcooaaSqPack
namespace Go.Proofs.Ytboienpdnfcooaa.Sq
open Go.RowKit Go.Proofs.NumMath Go.Maps
open Num (encR heldN encR_length encR_oct)
set_option linter.unusedVariables false
set_option maxRecDepth 1000000

theorem sizeN_small (x : Nat) (h : x < 128) : sizeN x = 1 := by rw [sizeN]; simp [h]
theorem encR_small (m : Nat) (h : m < 128) : encR m = [(m : Int)] := by
  unfold encR
  rw [sizeN_small m h]
  first
    | (simp [Num.heads, Num.rowN]; done)
    | (simp [Num.heads, Num.rowN]; omega)
    | (simp [heads, rowN]; done)
    | (simp [heads, rowN]; omega)
def abc : List Int := [97, 98, 99, 97, 98, 99, 97, 98, 99, 97, 98]
theorem abc_oct : Oct abc := by decide
theorem pack_abc : packL abc = [6, 97, 98, 99, 9, 3] := by
  have h : packL abc = ([] ++ encR (2 * 3) ++ [97, 98, 99]) ++ (encR (2 * (8 - 4) + 1) ++ encR 3) := by
    first
      | kernel_rfl
      | rfl
      | decide
  rw [h, encR_small 3 (by omega), encR_small (2 * 3) (by omega), encR_small (2 * (8 - 4) + 1) (by omega)]
  rfl
theorem pack_lit (w : World) (l : List Int) (C : Array Value) (n cap : Nat) (fr : Nat × Nat) (hC : C = (l.map (Value.int .u8)).toArray) (hn : n = l.length) (hcap : n ≤ cap) (ho : Oct l) (hl : l.length ≤ 65536) :
    Calls Try.prog 11 #[.slice (some ⟨w.heap.size, 0, none⟩) n cap] (w.alloc (.cells C 5 fr)) fun e w' => ∃ v', e = .returned v' ∧ Sl w' v' (packL l) ∧ Below w.heap.size w w' := by
  subst hC hn
  have hb : Below w.heap.size w (w.alloc (.cells (l.map (Value.int .u8)).toArray 5 fr)) := (Below.refl _ _).alloc (Nat.le_refl _) _
  refine (pack_any _ l _ ⟨_, cap, rfl, lit_bytes w l fr ho, (fun h => by cases h), hcap⟩ hl).mono ?_
  rintro e w' ⟨v', rfl, hs, hb'⟩
  exact ⟨v', rfl, hs, hb.trans (hb'.mono hb.size)⟩
theorem str6 : strOfNums [6, 97, 98, 99, 9, 3] = { data := #[6, 97, 98, 99, 9, 3] } := by first | rfl | decide | kernel_rfl
set_option maxHeartbeats 2000000 in
theorem awake_sq (w : World) :
    Calls Try.prog 12 #[] w fun e w' => e = .returned (.bool true) ∧ Below w.heap.size w w' := by
  have kc := fun (w : World) (C : Array Value) (n c : Nat) => Lib.run_convert_bytes_const (P := Try.prog) w 22 5 C n c Try.underlying22 Try.underlying5
  go_enter Try.func12, Try.ntmps12
  go_wp2_with fail
  refine (pack_lit w abc _ 11 _ _ rfl rfl (by omega) abc_oct (by decide)).mono ?_
  rintro e w1 ⟨v1, rfl, hs, hb⟩
  rw [pack_abc] at hs
  obtain ⟨a, cap, rfl, hB, h1, h2⟩ := hs
  have hr := run_str hB 6 cap rfl
  rw [str6] at hr
  have HBB := Lib.hid hb
  clear hB h1 h2 hb
  simp only [List.length_cons, List.length_nil] at hr ⊢
  go_wp2
  go_ret
  exact ⟨rfl, HBB.out⟩
theorem same10 (v1 v2 : Value) (l : List Int) (w : World) (h1 : Sl w v1 l) (h2 : Sl w v2 l) :
    Calls Try.prog 13 #[v1, v2] w fun e w' => e = .returned (.bool true) ∧ w = w' := by
  obtain ⟨a1, c1, rfl, hB1, hn1, hc1⟩ := h1
  obtain ⟨a2, c2, rfl, hB2, hn2, hc2⟩ := h2
  have r1 := run_str hB1 l.length c1 rfl
  have r2 := run_str hB2 l.length c2 rfl
  generalize strOfNums l = S at *
  clear hB1 hB2 hn1 hn2 hc1 hc2
  generalize l.length = n at *
  go_enter Try.func13, Try.ntmps13
  go_wp2
  go_ret
  exact ⟨rfl, rfl⟩
def bnd (n : Int) : Int := if n < 0 ∨ 65536 < n then 0 else n + n / 64 + 3
theorem bound_any (n : Int) (w : World) :
    Calls Try.prog 9 #[.int .i64 n] w fun e w' => e = .returned (.int .i64 (bnd n)) ∧ w = w' := by
  by_cases h0 : n < 0
  · have hb : bnd n = 0 := by unfold bnd; rw [if_pos (.inl h0)]
    rw [hb]
    go_enter Try.func9, Try.ntmps9
    go_wp2
    go_ret
    exact ⟨rfl, rfl⟩
  · by_cases h1 : 65536 < n
    · have hb : bnd n = 0 := by unfold bnd; rw [if_pos (.inr h1)]
      rw [hb]
      go_enter Try.func9, Try.ntmps9
      go_wp2
      go_ret
      exact ⟨rfl, rfl⟩
    · have hb : bnd n = n + n / 64 + 3 := by unfold bnd; rw [if_neg (by omega)]
      have hq : n.tdiv 64 = n / 64 := Int.tdiv_eq_ediv_of_nonneg (by omega)
      have hq1 : 0 ≤ n / 64 ∧ n / 64 ≤ 1024 := by omega
      obtain ⟨hq2, hq3⟩ := hq1
      rw [hb]
      go_enter Try.func9, Try.ntmps9
      go_wp2
      go_ret
      exact ⟨rfl, rfl⟩
theorem rbound_any (n : Int) (w : World) :
    Calls Try.prog 10 #[.int .i64 n] w fun e w' => e = .returned (.int .i64 (bnd n)) ∧ w = w' := by
  by_cases h0 : n < 0
  · have hb : bnd n = 0 := by unfold bnd; rw [if_pos (.inl h0)]
    rw [hb]
    go_enter Try.func10, Try.ntmps10
    go_wp2
    go_ret
    exact ⟨rfl, rfl⟩
  · by_cases h1 : 65536 < n
    · have hb : bnd n = 0 := by unfold bnd; rw [if_pos (.inr h1)]
      rw [hb]
      go_enter Try.func10, Try.ntmps10
      go_wp2
      go_ret
      exact ⟨rfl, rfl⟩
    · have hb : bnd n = n + n / 64 + 3 := by unfold bnd; rw [if_neg (by omega)]
      have hq : n.tdiv 64 = n / 64 := Int.tdiv_eq_ediv_of_nonneg (by omega)
      have hq1 : 0 ≤ n / 64 ∧ n / 64 ≤ 1024 := by omega
      obtain ⟨hq2, hq3⟩ := hq1
      rw [hb]
      go_enter Try.func10, Try.ntmps10
      go_wp2
      go_ret
      exact ⟨rfl, rfl⟩
end Go.Proofs.Ytboienpdnfcooaa.Sq
