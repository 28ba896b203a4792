/- num.groups: the row of groups, and how many count. -/
import Derived.Test.YtkojldjgjmaodaaInt
import Derived.Test.YtkojldjgjmaodaaRowMath
import Derived.Deep.DeepCutAuto
namespace Go.Proofs.Ytkojldjgjmaodaa
open Go.RowKit Go.Proofs.NumMath
set_option linter.unusedVariables false

/-- the row as a value -/
abbrev rowV (g : Nat → Int) : Value := .agg #[.int .u8 (g 0), .int .u8 (g 1), .int .u8 (g 2), .int .u8 (g 3), .int .u8 (g 4), .int .u8 (g 5), .int .u8 (g 6), .int .u8 (g 7), .int .u8 (g 8)]

/-- what the loop keeps of the row's block -/
def RowAt (wr : World) (B : Nat) (g : Nat → Int) : Prop :=
  ∀ j, j < 9 → wr.cell? ⟨B, j, none⟩ = some (.int .u8 (g j)) ∧ wr.frozen? ⟨B, j, none⟩ = false

abbrev Z9 : Obj := .cells #[.int .u8 0, .int .u8 0, .int .u8 0, .int .u8 0, .int .u8 0, .int .u8 0, .int .u8 0, .int .u8 0, .int .u8 0] 42

theorem rowAt_start (w : World) (m : Nat) : RowAt ((w.alloc Z9).alloc Z9) (w.heap.size + 1) (fun j => ((rowF m 0 j : Nat) : Int)) := by
  intro j hj
  simp only [rowF_zero]
  match j, hj with
  | 0, _ | 1, _ | 2, _ | 3, _ | 4, _ | 5, _ | 6, _ | 7, _ | 8, _ => constructor <;> go_simp
theorem rowAt_start0 (w : World) : RowAt ((w.alloc Z9).alloc Z9) w.heap.size (fun j => 0) := by
  intro j hj
  match j, hj with
  | 0, _ | 1, _ | 2, _ | 3, _ | 4, _ | 5, _ | 6, _ | 7, _ | 8, _ => constructor <;> go_simp

theorem rowAt_set {wr : World} {B : Nat} {g g' : Nat → Int} (h : RowAt wr B g) (i : Nat) (hi : i < 9) (x : Int) (hx : g' i = x) (ho : ∀ j, j ≠ i → g' j = g j) :
    RowAt (wr.setCell ⟨B, i, none⟩ (.int .u8 x)) B g' := by
  intro j hj
  refine ⟨?_, by rw [World.frozen?_setCell]; exact (h j hj).2⟩
  by_cases e : j = i
  · subst e; rw [World.cell?_setCell_same _ _ _ (h j hj).1, hx]
  · rw [World.cell?_setCell_other _ _ _ _ (by simp <;> omega), (h j hj).1, ho j e]
theorem rowAt_other {wr : World} {B B' : Nat} {g : Nat → Int} (h : RowAt wr B g) (hb : B' ≠ B) (i : Nat) (v : Value) : RowAt (wr.setCell ⟨B', i, none⟩ v) B g := by
  intro j hj
  refine ⟨?_, by rw [World.frozen?_setCell]; exact (h j hj).2⟩
  rw [World.cell?_setCell_other _ _ _ _ (by simp <;> omega), (h j hj).1]
theorem rowAt_set' {wr : World} {B : Nat} {g : Nat → Int} (h : RowAt wr B g) (i : Nat) (hi : i < 9) (x : Int) : RowAt (wr.setCell ⟨B, i, none⟩ (.int .u8 x)) B (fun j => if j = i then x else g j) :=
  rowAt_set h i hi x (by simp) (fun j hj => by simp [hj])

def set9 (wr : World) (B : Nat) (g : Nat → Int) : World :=
  ((((((((wr.setCell ⟨B, 0, none⟩ (.int .u8 (g 0))).setCell ⟨B, 1, none⟩ (.int .u8 (g 1))).setCell ⟨B, 2, none⟩ (.int .u8 (g 2))).setCell ⟨B, 3, none⟩ (.int .u8 (g 3))).setCell ⟨B, 4, none⟩ (.int .u8 (g 4))).setCell ⟨B, 5, none⟩ (.int .u8 (g 5))).setCell ⟨B, 6, none⟩ (.int .u8 (g 6))).setCell ⟨B, 7, none⟩ (.int .u8 (g 7))).setCell ⟨B, 8, none⟩ (.int .u8 (g 8))

theorem rowAt_congr {wr : World} {B : Nat} {g g' : Nat → Int} (h : RowAt wr B g) (e : ∀ j, j < 9 → g j = g' j) : RowAt wr B g' := by
  intro j hj; rw [← e j hj]; exact h j hj

theorem rowAt_set9 {wr : World} {B : Nat} {g0 : Nat → Int} (h : RowAt wr B g0) (g : Nat → Int) : RowAt (set9 wr B g) B g := by
  unfold set9
  refine rowAt_congr (rowAt_set' (rowAt_set' (rowAt_set' (rowAt_set' (rowAt_set' (rowAt_set' (rowAt_set' (rowAt_set' (rowAt_set' h 0 (by omega) (g 0)) 1 (by omega) (g 1)) 2 (by omega) (g 2)) 3 (by omega) (g 3)) 4 (by omega) (g 4)) 5 (by omega) (g 5)) 6 (by omega) (g 6)) 7 (by omega) (g 7)) 8 (by omega) (g 8)) ?_
  intro j hj
  match j, hj with
  | 0, _ | 1, _ | 2, _ | 3, _ | 4, _ | 5, _ | 6, _ | 7, _ | 8, _ => simp

theorem below_set9 {B : Nat} {w wr : World} (h : Below B w wr) (g : Nat → Int) : Below B w (set9 wr B g) := by
  unfold set9
  iterate 9 refine Below.setCell ?_ (by exact Nat.le_refl _) _
  exact h

theorem rowAt_drew {wr : World} {B : Nat} {g : Nat → Int} (h : RowAt wr B g) : RowAt wr.drew B g := fun j hj => h j hj

theorem pow_mod (k : Nat) : ((2 : Int) ^ (k % 7) % 256) = 2 ^ (k % 7) := by
  have h6 : 2 ^ (k % 7) ≤ 2 ^ 6 := Nat.pow_le_pow_right (by omega) (by omega)
  have e : ((2 : Int) ^ (k % 7)) = ((2 ^ (k % 7) : Nat) : Int) := by push_cast; rfl
  rw [e]
  generalize 2 ^ (k % 7) = y at h6
  omega
def rowN (m j : Nat) : Int := ((m / 2 ^ (7 * j) % 128 : Nat) : Int)
theorem rowF_62 (m j : Nat) (h : m ≤ 4611686018427387903) : ((rowF m 62 j : Nat) : Int) = rowN m j := by
  unfold rowF rowN; rw [Nat.mod_eq_of_lt (a := m) (b := 2 ^ 62) (by omega)]
def heldN (n : Int) : Nat := (min (max n 0) 4611686018427387903).toNat

set_option maxHeartbeats 2000000 in
theorem groups_any (n : Int) (w : World) :
    Calls Try.prog 31 #[.int .i64 n] w fun e w' => e = .returned (.tuple #[rowV (rowN (heldN n)), .int .i64 (sizeN (heldN n) : Nat)]) ∧ Below w.heap.size w w' := by
  obtain ⟨m, hm⟩ : ∃ m, m = heldN n := ⟨_, rfl⟩
  rw [← hm]
  have hm1 : m ≤ 4611686018427387903 := by rw [hm]; unfold heldN; omega
  have HM : Hid ((m : Int) = min (max n 0) 4611686018427387903) := by show _ = _; rw [hm]; unfold heldN; omega
  clear hm
  go_enter Try.func31, Try.ntmps31
  go_upto_region 1 with (fail)
  go_cut [0] (fun v wc => v = .int .i64 (m : Int) ∧ wc = w.alloc Z9)
  case first =>
    go_wp2
    all_goals
      go_meet
      case rel => exact ⟨by have := HM.out; first | (congr 1; omega) | (rw [HM.out]; congr 1; omega), rfl⟩
  case rest =>
    obtain ⟨rfl, rfl⟩ := hcut
    go_wp2
    go_loopw [5, 10] (fun s c wr => ∃ k : Nat, k ≤ 62 ∧ c = .int .i64 k ∧ s = .int .i64 (sizeN (m % 2 ^ k) : Nat) ∧ Below w.heap.size w wr ∧ w.heap.size + 2 ≤ wr.heap.size ∧
      RowAt wr (w.heap.size + 1) (fun j => ((rowF m k j : Nat) : Int)) ∧ RowAt wr w.heap.size (fun j => 0)) (fun _ c _ => 62 - (intOf c).toNat)
    case atStart => exact ⟨0, by omega, rfl, by rw [size_zero]; rfl, ((Below.refl _ _).alloc (Nat.le_refl _) _).alloc (by simp) _, by simp, rowAt_start w m, rowAt_start0 w⟩
    case round =>
      obtain ⟨k, hk, rfl, rfl, hb, hz, hrow, hres⟩ := hrel
      have HROW := Lib.hid hrow; clear hrow
      have HRES := Lib.hid hres; clear hres
      by_cases hlt : k < 62
      · have HT := Lib.hid (bit_test m k hm1)
        by_cases hbit : m / 2 ^ k % 2 = 1
        · have hbt : (bits .and .i64 ((m : Int) / 2 ^ k) 1 == 1) = true := by rw [HT.out, hbit]; rfl
          have HB := Lib.hid hbit; clear hbit
          obtain ⟨hcell, hfz⟩ := HROW.out (k / 7) (by omega)
          have hi7 : ((k / 7 : Nat) : Int) < 9 := by omega
          go_wp2
          go_region
          all_goals go_wp2
          go_roundw
          case rel => exact ⟨k + 1, by omega, by go_num, by rw [size_bit m k HB.out]; go_num, (hb.setCell (by simp) _).drew, by simpa using hz, rowAt_drew (rowAt_set HROW.out (k / 7) (by omega) _ (by
              show ((rowF m (k + 1) (k / 7) : Nat) : Int) = _
              rw [rowF_bit m k _ HB.out, if_pos rfl, ← u8_put _ k (rowF_lt m k), pow_mod])  (fun j hj => by
                show ((rowF m (k + 1) j : Nat) : Int) = ((rowF m k j : Nat) : Int)
                rw [rowF_bit m k _ HB.out, if_neg hj])), rowAt_drew (rowAt_other HRES.out (by omega) _ _)⟩
          case measure => simp [intOf]; omega
        · have hbit0 : m / 2 ^ k % 2 = 0 := by omega
          have hbt : (bits .and .i64 ((m : Int) / 2 ^ k) 1 == 1) = false := by rw [HT.out, hbit0]; rfl
          have HB := Lib.hid hbit0; clear hbit0 hbit
          go_wp2
          go_roundw
          case rel => exact ⟨k + 1, by omega, by go_num, by rw [size_same m k HB.out], hb, hz, by
            have e : (fun j => ((rowF m (k + 1) j : Nat) : Int)) = (fun j => ((rowF m k j : Nat) : Int)) := by funext j; rw [rowF_same m k j HB.out]
            rw [e]; exact HROW.out, HRES.out⟩
          case measure => simp [intOf]; omega
      · have hk62 : k = 62 := by omega
        subst hk62
        obtain ⟨c0, f0⟩ := HROW.out 0 (by omega)
        obtain ⟨c1, f1⟩ := HROW.out 1 (by omega)
        obtain ⟨c2, f2⟩ := HROW.out 2 (by omega)
        obtain ⟨c3, f3⟩ := HROW.out 3 (by omega)
        obtain ⟨c4, f4⟩ := HROW.out 4 (by omega)
        obtain ⟨c5, f5⟩ := HROW.out 5 (by omega)
        obtain ⟨c6, f6⟩ := HROW.out 6 (by omega)
        obtain ⟨c7, f7⟩ := HROW.out 7 (by omega)
        obtain ⟨c8, f8⟩ := HROW.out 8 (by omega)
        clear f0 f1 f2 f3 f4 f5 f6 f7 f8
        obtain ⟨d0, g0⟩ := HRES.out 0 (by omega)
        obtain ⟨d1, g1⟩ := HRES.out 1 (by omega)
        obtain ⟨d2, g2⟩ := HRES.out 2 (by omega)
        obtain ⟨d3, g3⟩ := HRES.out 3 (by omega)
        obtain ⟨d4, g4⟩ := HRES.out 4 (by omega)
        obtain ⟨d5, g5⟩ := HRES.out 5 (by omega)
        obtain ⟨d6, g6⟩ := HRES.out 6 (by omega)
        obtain ⟨d7, g7⟩ := HRES.out 7 (by omega)
        obtain ⟨d8, g8⟩ := HRES.out 8 (by omega)
        have HS : Hid (sizeN (m % 2 ^ 62) = sizeN m) := by show _ = _; rw [Nat.mod_eq_of_lt (by omega)]
        rw [HS.out]
        simp only [rowF_62 m _ hm1] at c0 c1 c2 c3 c4 c5 c6 c7 c8
        go_wp2
        change bodyPost _ _ _ _ _ (set9 wr w.heap.size (rowN m))
        have hR := rowAt_set9 HRES.out (rowN m)
        have hB := below_set9 hb (rowN m)
        clear d0 d1 d2 d3 d4 d5 d6 d7 d8 g0 g1 g2 g3 g4 g5 g6 g7 g8 c0 c1 c2 c3 c4 c5 c6 c7 c8 HROW HRES hz hb
        generalize set9 wr w.heap.size (rowN m) = W' at hR hB
        have e0 := (hR 0 (by omega)).1
        have e1 := (hR 1 (by omega)).1
        have e2 := (hR 2 (by omega)).1
        have e3 := (hR 3 (by omega)).1
        have e4 := (hR 4 (by omega)).1
        have e5 := (hR 5 (by omega)).1
        have e6 := (hR 6 (by omega)).1
        have e7 := (hR 7 (by omega)).1
        have e8 := (hR 8 (by omega)).1
        exact bodyPost_ret (v := .tuple #[rowV (rowN m), .int .i64 (sizeN m : Nat)]) (by simp [results, Try.results31, go_sem, e0, e1, e2, e3, e4, e5, e6, e7, e8]) rfl ⟨rfl, hB⟩
end Go.Proofs.Ytkojldjgjmaodaa
