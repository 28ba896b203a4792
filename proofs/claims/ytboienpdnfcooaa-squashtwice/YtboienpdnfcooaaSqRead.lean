/- squash: readRun, readMatch. (A template: seatgen.py fills it.) -/
import Derived.Test.YtboienpdnfcooaaSqPack
namespace Go.Proofs.Ytboienpdnfcooaa.Sq
open Go.RowKit Go.Proofs.NumMath Go.Maps
open Num (trip)
set_option linter.unusedVariables false
set_option linter.unusedSimpArgs false
set_option maxRecDepth 1000000

/-- what a part's reading tells: what is wrong, or length, distance, the bytes told, the place behind -/
def Out (w : World) (e : Ending) : Except Int (Nat × Nat × List Int × Nat) → Prop
  | .error er => e = .returned (.tuple #[.agg #[.int .i64 0, .int .i64 0, .slice none 0 0], .int .i64 0, .int .i64 er])
  | .ok (k, d, t, beh) => ∃ u, e = .returned (.tuple #[.agg #[.int .i64 (k : Nat), .int .i64 (d : Nat), u], .int .i64 (beh : Nat), .int .i64 0]) ∧ Sl w u t
def rr (l : List Int) (p s k : Nat) : Except Int (Nat × Nat × List Int × Nat) :=
  if 65536 - s < k then .error 7 else if l.length - p < k then .error 4 else .ok (k, 0, (l.drop p).take k, p + k)
def rm (l : List Int) (p s k : Nat) : Except Int (Nat × Nat × List Int × Nat) :=
  if 130 < k then .error 5 else if (G l p).2.2 ≠ 0 then .error (G l p).2.2
  else if (G l p).1 = 0 ∨ 4096 < (G l p).1 ∨ (s : Int) < (G l p).1 then .error 5 else if 65536 - s < k then .error 7 else .ok (k, (G l p).1.toNat, [], (G l p).2.1.toNat)
theorem sl_nil (w : World) : Sl w (.slice none 0 0) [] := ⟨none, 0, rfl, ⟨(by intro x hx; cases hx), fun h => absurd rfl h⟩, fun _ => rfl, by simp⟩

set_option maxHeartbeats 2000000 in
theorem readRun_any (v : Value) (l : List Int) (p s k : Nat) (w0 w : World) (h : Sl w0 v l) (hb0 : Below w0.heap.size w0 w) (hl : l.length ≤ 140737488355328) (hp : p ≤ l.length) (hs : s ≤ 65536) (hk : k ≤ 4611686018427387903) :
    Calls Try.prog 43 #[v, .int .i64 p, .int .i64 s, .int .i64 k] w fun e w' => Out w0 e (rr l p s k) ∧ Below w.heap.size w w' := by
  obtain ⟨a, cap, rfl, hB, hn, hc⟩ := h
  by_cases h1 : 65536 - s < k
  · have hr : rr l p s k = .error 7 := by unfold rr; rw [if_pos h1]
    have hI : (65536 : Int) - (s : Int) < (k : Int) := by omega
    have HR := Lib.hid hr
    clear hr hB hn hc
    generalize l.length = N at *
    go_enter Try.func43, Try.ntmps43
    go_wp2
    refine bodyPost_ret (v := .tuple #[.agg #[.int .i64 0, .int .i64 0, .slice none 0 0], .int .i64 0, .int .i64 7]) (by simp [results, go_sem]) rfl ⟨?_, ?_⟩
    · rw [HR.out]; exact rfl
    · (repeat (first | exact Below.refl _ _ | refine Below.setCell ?_ (by first | exact Nat.le_refl _ | (simp; done)) _ | refine Below.alloc ?_ (by first | exact Nat.le_refl _ | (simp; done)) _))
  · have hI : ¬ (65536 : Int) - (s : Int) < (k : Int) := by omega
    by_cases h2 : l.length - p < k
    · have hr : rr l p s k = .error 4 := by unfold rr; rw [if_neg h1, if_pos h2]
      have hI2 : (l.length : Int) - (p : Int) < (k : Int) := by omega
      have HR := Lib.hid hr
      clear hr hB hn hc
      generalize l.length = N at *
      go_enter Try.func43, Try.ntmps43
      go_wp2
      refine bodyPost_ret (v := .tuple #[.agg #[.int .i64 0, .int .i64 0, .slice none 0 0], .int .i64 0, .int .i64 4]) (by simp [results, go_sem]) rfl ⟨?_, ?_⟩
      · rw [HR.out]; exact rfl
      · (repeat (first | exact Below.refl _ _ | refine Below.setCell ?_ (by first | exact Nat.le_refl _ | (simp; done)) _ | refine Below.alloc ?_ (by first | exact Nat.le_refl _ | (simp; done)) _))
    · have hr : rr l p s k = .ok (k, 0, (l.drop p).take k, p + k) := by unfold rr; rw [if_neg h1, if_neg h2]
      have hI2 : ¬ (l.length : Int) - (p : Int) < (k : Int) := by omega
      obtain ⟨a', hc1, hs1⟩ := run_cut hB cap l.length rfl hc hn p k (by omega)
      have HR := Lib.hid hr
      have HS := Lib.hid hs1
      clear hr hB hn hs1
      generalize l.length = N at *
      go_enter Try.func43, Try.ntmps43
      go_wp2
      refine bodyPost_ret (v := .tuple #[.agg #[.int .i64 (k : Nat), .int .i64 0, .slice a' k (cap - p)], .int .i64 ((p : Int) + (k : Int)), .int .i64 0]) (by simp [results, go_sem]) rfl ?_
      refine (fun hb => ⟨by rw [HR.out]; exact ⟨_, by simp, HS.out⟩, hb⟩) ?_
      (repeat (first | exact Below.refl _ _ | refine Below.setCell ?_ (by first | exact Nat.le_refl _ | (simp; done)) _ | refine Below.alloc ?_ (by first | exact Nat.le_refl _ | (simp; done)) _))

set_option maxHeartbeats 4000000 in
theorem readMatch_any (v : Value) (l : List Int) (p s k : Nat) (w0 w : World) (h : Sl w0 v l) (hb0 : Below w0.heap.size w0 w) (hl : l.length ≤ 140737488355328) (hs : s ≤ 65536) (hk : k ≤ 4611686018427387903) :
    Calls Try.prog 42 #[v, .int .i64 p, .int .i64 s, .int .i64 k] w fun e w' => Out w0 e (rm l p s k) ∧ Below w.heap.size w w' := by
  obtain ⟨a, cap, rfl, hB, hn, hc⟩ := h
  have hG : ∀ o, Calls Try.prog 20 #[.slice a l.length cap, .int .i64 (p : Int)] (w.alloc o) fun e w' => e = .returned (trip (G l p)) ∧ w.alloc o = w' := fun o => by
    have hB' := hB.later (w' := w.alloc o) (hb0.alloc hb0.size _)
    exact Num.get_any a cap l p _ (by omega) ⟨fun i => hB'.1.getD i, hB'.2⟩
  obtain ⟨b1, b2, b3, b4, b5, b6⟩ := G_bd l p (by omega)
  have hrm : rm l p s k = rm l p s k := rfl
  conv at hrm => rhs; unfold rm
  generalize G l p = g at *
  obtain ⟨D, I, E⟩ := g
  simp only [trip] at hG b1 b2 b3 b4 b5 b6 hrm
  have HG := Lib.hid hG
  clear hG hB hn hc
  generalize l.length = N at *
  unfold maxNum at b2
  by_cases h1 : 130 < k
  · rw [if_pos h1] at hrm
    have HR := Lib.hid hrm
    have hI : (130 : Int) < (k : Int) := by omega
    clear hrm
    go_enter Try.func42, Try.ntmps42
    go_wp2
    refine bodyPost_ret (v := .tuple #[.agg #[.int .i64 0, .int .i64 0, .slice none 0 0], .int .i64 0, .int .i64 5]) (by simp [results, go_sem]) rfl ⟨?_, ?_⟩
    · rw [HR.out]; exact rfl
    · (repeat (first | exact Below.refl _ _ | refine Below.setCell ?_ (by first | exact Nat.le_refl _ | (simp; done)) _ | refine Below.alloc ?_ (by first | exact Nat.le_refl _ | (simp; done)) _))
  · rw [if_neg h1] at hrm
    have hI : ¬ (130 : Int) < (k : Int) := by omega
    by_cases h2 : E = 0
    · subst h2
      rw [if_neg (by simp)] at hrm
      by_cases h3 : D = 0 ∨ 4096 < D ∨ (s : Int) < D
      · rw [if_pos h3] at hrm
        have HR := Lib.hid hrm
        clear hrm
        by_cases h4 : D = 0
        · subst h4
          clear h3
          go_enter Try.func42, Try.ntmps42
          go_wp2_with (go_at_call 20; refine (HG.out _).mono ?_; rintro e w' ⟨rfl, rfl⟩)
          refine bodyPost_ret (v := .tuple #[.agg #[.int .i64 0, .int .i64 0, .slice none 0 0], .int .i64 0, .int .i64 5]) (by simp [results, go_sem]) rfl ⟨?_, ?_⟩
          · rw [HR.out]; exact rfl
          · (repeat (first | exact Below.refl _ _ | refine Below.setCell ?_ (by first | exact Nat.le_refl _ | (simp; done)) _ | refine Below.alloc ?_ (by first | exact Nat.le_refl _ | (simp; done)) _))
        · by_cases h5 : 4096 < D
          · clear h3
            go_enter Try.func42, Try.ntmps42
            go_wp2_with (go_at_call 20; refine (HG.out _).mono ?_; rintro e w' ⟨rfl, rfl⟩)
            refine bodyPost_ret (v := .tuple #[.agg #[.int .i64 0, .int .i64 0, .slice none 0 0], .int .i64 0, .int .i64 5]) (by simp [results, go_sem]) rfl ⟨?_, ?_⟩
            · rw [HR.out]; exact rfl
            · (repeat (first | exact Below.refl _ _ | refine Below.setCell ?_ (by first | exact Nat.le_refl _ | (simp; done)) _ | refine Below.alloc ?_ (by first | exact Nat.le_refl _ | (simp; done)) _))
          · have h6 : (s : Int) < D := by omega
            clear h3
            go_enter Try.func42, Try.ntmps42
            go_wp2_with (go_at_call 20; refine (HG.out _).mono ?_; rintro e w' ⟨rfl, rfl⟩)
            refine bodyPost_ret (v := .tuple #[.agg #[.int .i64 0, .int .i64 0, .slice none 0 0], .int .i64 0, .int .i64 5]) (by simp [results, go_sem]) rfl ⟨?_, ?_⟩
            · rw [HR.out]; exact rfl
            · (repeat (first | exact Below.refl _ _ | refine Below.setCell ?_ (by first | exact Nat.le_refl _ | (simp; done)) _ | refine Below.alloc ?_ (by first | exact Nat.le_refl _ | (simp; done)) _))
      · rw [if_neg h3] at hrm
        have h4 : ¬ D = 0 := by omega
        have h5 : ¬ 4096 < D := by omega
        have h6 : ¬ (s : Int) < D := by omega
        have g4 : (D == 0) = false := by simpa using h4
        have g5 : decide (4096 < D) = false := by simp; omega
        have g6 : decide ((s : Int) < D) = false := by simp; omega
        clear h3
        by_cases h7 : 65536 - s < k
        · rw [if_pos h7] at hrm
          have HR := Lib.hid hrm
          have hI7 : (65536 : Int) - (s : Int) < (k : Int) := by omega
          clear hrm
          go_enter Try.func42, Try.ntmps42
          go_wp2_with (go_at_call 20; refine (HG.out _).mono ?_; rintro e w' ⟨rfl, rfl⟩)
          refine bodyPost_ret (v := .tuple #[.agg #[.int .i64 0, .int .i64 0, .slice none 0 0], .int .i64 0, .int .i64 7]) (by simp [results, go_sem]) rfl ⟨?_, ?_⟩
          · rw [HR.out]; exact rfl
          · (repeat (first | exact Below.refl _ _ | refine Below.setCell ?_ (by first | exact Nat.le_refl _ | (simp; done)) _ | refine Below.alloc ?_ (by first | exact Nat.le_refl _ | (simp; done)) _))
        · rw [if_neg h7] at hrm
          have HR := Lib.hid hrm
          have hI7 : ¬ (65536 : Int) - (s : Int) < (k : Int) := by omega
          obtain ⟨dn, hdn⟩ : ∃ dn : Nat, D = (dn : Int) := ⟨D.toNat, by omega⟩
          obtain ⟨ni, hni⟩ : ∃ ni : Nat, I = (ni : Int) := ⟨I.toNat, by omega⟩
          subst hdn hni
          clear hrm
          go_enter Try.func42, Try.ntmps42
          go_wp2_with (go_at_call 20; refine (HG.out _).mono ?_; rintro e w' ⟨rfl, rfl⟩)
          refine bodyPost_ret (v := .tuple #[.agg #[.int .i64 (k : Nat), .int .i64 (dn : Nat), .slice none 0 0], .int .i64 (ni : Int), .int .i64 0]) (by simp [results, go_sem]) rfl ⟨?_, ?_⟩
          · rw [HR.out]
            exact ⟨_, by simp, sl_nil _⟩
          · (repeat (first | exact Below.refl _ _ | refine Below.setCell ?_ (by first | exact Nat.le_refl _ | (simp; done)) _ | refine Below.alloc ?_ (by first | exact Nat.le_refl _ | (simp; done)) _))
    · have heb : (E != 0) = true := by simpa using h2
      rw [if_pos h2] at hrm
      have HR := Lib.hid hrm
      clear hrm
      go_enter Try.func42, Try.ntmps42
      go_wp2_with (go_at_call 20; refine (HG.out _).mono ?_; rintro e w' ⟨rfl, rfl⟩)
      refine bodyPost_ret (v := .tuple #[.agg #[.int .i64 0, .int .i64 0, .slice none 0 0], .int .i64 0, .int .i64 E]) (by simp [results, go_sem]) rfl ⟨?_, ?_⟩
      · rw [HR.out]; exact rfl
      · (repeat (first | exact Below.refl _ _ | refine Below.setCell ?_ (by first | exact Nat.le_refl _ | (simp; done)) _ | refine Below.alloc ?_ (by first | exact Nat.le_refl _ | (simp; done)) _))

abbrev Z3 : Obj := .cells #[.int .i64 0, .int .i64 0, .slice none 0 0] 49
theorem z3_block {w w2 : World} (hb : Below (w.alloc Z3).heap.size (w.alloc Z3) w2) : w2.heap[w.heap.size]? = some Z3 := by
  rw [hb.block w.heap.size (by simp)]
  exact Num.heap_new _ _
def rp (l : List Int) (p s : Nat) (after : Bool) : Except Int (Nat × Nat × List Int × Nat) :=
  if (G l p).2.2 ≠ 0 then .error (G l p).2.2 else if (G l p).1.toNat % 2 = 1 then rm l (G l p).2.1.toNat s ((G l p).1.toNat / 2 + 4)
  else if (G l p).1 = 0 ∨ after = true then .error 5 else rr l (G l p).2.1.toNat s ((G l p).1.toNat / 2)
set_option maxHeartbeats 8000000 in
theorem readPart_any (v : Value) (l : List Int) (p s : Nat) (after : Bool) (w : World) (h : Sl w v l) (hl : l.length ≤ 140737488355328) (hs : s ≤ 65536) :
    Calls Try.prog 39 #[v, .int .i64 p, .int .i64 s, .bool after] w fun e w' => Out w e (rp l p s after) ∧ Below w.heap.size w w' := by
  have hM := fun o (k ni : Nat) (hk : k ≤ 4611686018427387903) => readMatch_any v l ni s k w (w.alloc o) h ((Below.refl _ _).alloc (Nat.le_refl _) _) hl hs hk
  have hRn := fun o (k ni : Nat) (hn : ni ≤ l.length) (hk : k ≤ 4611686018427387903) => readRun_any v l ni s k w (w.alloc o) h ((Below.refl _ _).alloc (Nat.le_refl _) _) hl hn hs hk
  have hbw : ∀ {w2 : World} (o : Obj), Below (w.alloc o).heap.size (w.alloc o) w2 → Below w.heap.size w w2 := fun o hb => ((Below.refl _ _).alloc (Nat.le_refl _) o).trans (hb.mono (by simp))
  obtain ⟨a, cap, rfl, hB, hn, hc⟩ := h
  have hG : ∀ o, Calls Try.prog 20 #[.slice a l.length cap, .int .i64 (p : Int)] (w.alloc o) fun e w' => e = .returned (trip (G l p)) ∧ w.alloc o = w' := fun o => by
    have hB' := hB.later (w' := w.alloc o) ((Below.refl _ _).alloc (Nat.le_refl _) _)
    exact Num.get_any a cap l p _ (by omega) ⟨fun i => hB'.1.getD i, hB'.2⟩
  obtain ⟨b1, b2, b3, b4, b5, b6⟩ := G_bd l p (by omega)
  have hrp : rp l p s after = rp l p s after := rfl
  conv at hrp => rhs; unfold rp
  generalize G l p = g at *
  obtain ⟨D, I, E⟩ := g
  simp only [trip] at hG b1 b2 b3 b4 b5 b6 hrp
  unfold maxNum at b2
  obtain ⟨dn, hdn⟩ : ∃ dn : Nat, D = (dn : Int) := ⟨D.toNat, by omega⟩
  obtain ⟨ni, hni⟩ : ∃ ni : Nat, I = (ni : Int) := ⟨I.toNat, by omega⟩
  subst hdn hni
  simp only [Int.toNat_natCast] at hrp
  have hM := fun o => hM o (dn / 2 + 4) ni (by omega)
  have hRn := fun o => hRn o (dn / 2) ni (by omega) (by omega)
  have HG := Lib.hid hG
  clear hG hB hn hc
  by_cases h2 : E = 0
  · subst h2
    rw [if_neg (by simp)] at hrp
    obtain ⟨dq, hdq⟩ : ∃ dq, dq = dn / 2 := ⟨_, rfl⟩
    have hq : (dn : Int).tdiv 2 = (dq : Int) := by rw [Int.tdiv_eq_ediv_of_nonneg (by omega)]; omega
    have hq2 : (dn : Int) / 2 = (dq : Int) := by omega
    have hqb : dq ≤ 4611686018427387903 := by omega
    rw [← hdq] at hrp hM hRn
    rw [show (((dq + 4 : Nat) : Int)) = (dq : Int) + 4 from by omega] at hM
    by_cases h3 : dn % 2 = 1
    · rw [if_pos h3] at hrp
      have HR := Lib.hid hrp
      have hm : (dn : Int).tmod 2 = 1 := by rw [Int.tmod_eq_emod_of_nonneg (by omega)]; omega
      have hm2 : (dn : Int) % 2 = 1 := by omega
      clear hrp hRn hdq
      generalize l.length = N at *
      generalize rm l ni s (dq + 4) = X at hM HR
      rcases X with er | ⟨k2, d2, t2, beh⟩
      · have HMM : Hid (∀ o, Calls Try.prog 42 #[.slice a N cap, .int .i64 (ni : Int), .int .i64 (s : Int), .int .i64 ((dq : Int) + 4)] (w.alloc o) fun e w' => e = .returned (.tuple #[.agg #[.int .i64 0, .int .i64 0, .slice none 0 0], .int .i64 0, .int .i64 er]) ∧ Below (w.alloc o).heap.size (w.alloc o) w') := fun o => (hM o).mono fun e w' ⟨h1, h2⟩ => ⟨h1, h2⟩
        clear hM
        go_enter Try.func39, Try.ntmps39
        go_wp2_with fail
        refine (HG.out _).mono ?_
        rintro e w' ⟨rfl, rfl⟩
        go_wp2_with fail
        refine (HMM.out _).mono ?_
        rintro e w2 ⟨rfl, hb2⟩
        have hh := z3_block hb2
        have d0 : w2.cell? ⟨w.heap.size, 0, none⟩ = some (.int .i64 0) := by rw [cell_of_row w2 _ 0 _ _ (0, 0) hh]; rfl
        have d1 : w2.cell? ⟨w.heap.size, 1, none⟩ = some (.int .i64 0) := by rw [cell_of_row w2 _ 1 _ _ (0, 0) hh]; rfl
        have d2c : w2.cell? ⟨w.heap.size, 2, none⟩ = some (.slice none 0 0) := by rw [cell_of_row w2 _ 2 _ _ (0, 0) hh]; rfl
        have f0 : w2.frozen? ⟨w.heap.size, 0, none⟩ = false := unfrozen hh
        have f1 : w2.frozen? ⟨w.heap.size, 1, none⟩ = false := unfrozen hh
        have f2 : w2.frozen? ⟨w.heap.size, 2, none⟩ = false := unfrozen hh
        have HB2 := Lib.hid hb2
        have HF := Lib.hid (Joins.block_setCell (i := 2) (Joins.block_setCell (i := 1) (Joins.block_setCell (i := 0) hh (.int .i64 0)) (.int .i64 0)) (.slice none 0 0))
        clear hh hb2 HMM HG
        go_wp2
        have x0 := cell_of_row _ w.heap.size 0 _ _ (0, 0) HF.out
        have x1 := cell_of_row _ w.heap.size 1 _ _ (0, 0) HF.out
        have x2 := cell_of_row _ w.heap.size 2 _ _ (0, 0) HF.out
        refine bodyPost_ret (v := .tuple #[.agg #[.int .i64 0, .int .i64 0, .slice none 0 0], .int .i64 0, .int .i64 er]) (by simp [results, go_sem, x0, x1, x2]) rfl ⟨by rw [HR.out]; exact rfl, ?_⟩
        exact (((hbw _ HB2.out).setCell (p := ⟨w.heap.size, 0, none⟩) (Nat.le_refl _) _).setCell (p := ⟨w.heap.size, 1, none⟩) (Nat.le_refl _) _).setCell (p := ⟨w.heap.size, 2, none⟩) (Nat.le_refl _) _
      · have HMM : Hid (∀ o, Calls Try.prog 42 #[.slice a N cap, .int .i64 (ni : Int), .int .i64 (s : Int), .int .i64 ((dq : Int) + 4)] (w.alloc o) fun e w' => (∃ u, e = .returned (.tuple #[.agg #[.int .i64 (k2 : Nat), .int .i64 (d2 : Nat), u], .int .i64 (beh : Nat), .int .i64 0]) ∧ Sl w u t2) ∧ Below (w.alloc o).heap.size (w.alloc o) w') := fun o => (hM o).mono fun e w' ⟨h1, h2⟩ => ⟨h1, h2⟩
        clear hM
        go_enter Try.func39, Try.ntmps39
        go_wp2_with fail
        refine (HG.out _).mono ?_
        rintro e w' ⟨rfl, rfl⟩
        go_wp2_with fail
        refine (HMM.out _).mono ?_
        rintro e w2 ⟨⟨u, rfl, hu⟩, hb2⟩
        have HU := Lib.hid hu
        obtain ⟨ua, uc, rfl, -, -, -⟩ := hu
        generalize t2.length = tn at *
        have hh := z3_block hb2
        have d0 : w2.cell? ⟨w.heap.size, 0, none⟩ = some (.int .i64 0) := by rw [cell_of_row w2 _ 0 _ _ (0, 0) hh]; rfl
        have d1 : w2.cell? ⟨w.heap.size, 1, none⟩ = some (.int .i64 0) := by rw [cell_of_row w2 _ 1 _ _ (0, 0) hh]; rfl
        have d2c : w2.cell? ⟨w.heap.size, 2, none⟩ = some (.slice none 0 0) := by rw [cell_of_row w2 _ 2 _ _ (0, 0) hh]; rfl
        have f0 : w2.frozen? ⟨w.heap.size, 0, none⟩ = false := unfrozen hh
        have f1 : w2.frozen? ⟨w.heap.size, 1, none⟩ = false := unfrozen hh
        have f2 : w2.frozen? ⟨w.heap.size, 2, none⟩ = false := unfrozen hh
        have HB2 := Lib.hid hb2
        have HF := Lib.hid (Joins.block_setCell (i := 2) (Joins.block_setCell (i := 1) (Joins.block_setCell (i := 0) hh (.int .i64 (k2 : Int))) (.int .i64 (d2 : Int))) (.slice ua tn uc))
        clear hh hb2 HMM HG
        go_wp2
        have x0 := cell_of_row _ w.heap.size 0 _ _ (0, 0) HF.out
        have x1 := cell_of_row _ w.heap.size 1 _ _ (0, 0) HF.out
        have x2 := cell_of_row _ w.heap.size 2 _ _ (0, 0) HF.out
        refine bodyPost_ret (v := .tuple #[.agg #[.int .i64 (k2 : Nat), .int .i64 (d2 : Nat), .slice ua tn uc], .int .i64 (beh : Nat), .int .i64 0]) (by simp [results, go_sem, x0, x1, x2]) rfl ⟨by rw [HR.out]; exact ⟨_, rfl, HU.out⟩, ?_⟩
        exact (((hbw _ HB2.out).setCell (p := ⟨w.heap.size, 0, none⟩) (Nat.le_refl _) _).setCell (p := ⟨w.heap.size, 1, none⟩) (Nat.le_refl _) _).setCell (p := ⟨w.heap.size, 2, none⟩) (Nat.le_refl _) _
    · rw [if_neg h3] at hrp
      have hm : (dn : Int).tmod 2 = 0 := by rw [Int.tmod_eq_emod_of_nonneg (by omega)]; omega
      have hm2 : (dn : Int) % 2 = 0 := by omega
      by_cases h4 : ((dn : Int) = 0 ∨ after = true)
      · rw [if_pos h4] at hrp
        have HR := Lib.hid hrp
        clear hrp hRn hM hdq
        generalize l.length = N at *
        rcases Bool.eq_false_or_eq_true after with ha | ha
        · subst ha
          clear h4
          by_cases h5 : (dn : Int) = 0
          · have g5 : ((dn : Int) == 0) = true := by simpa using h5
            go_enter Try.func39, Try.ntmps39
            go_wp2_with (go_at_call 20; refine (HG.out _).mono ?_; rintro e w' ⟨rfl, rfl⟩)
            refine bodyPost_ret (v := .tuple #[.agg #[.int .i64 0, .int .i64 0, .slice none 0 0], .int .i64 0, .int .i64 5]) (by simp [results, go_sem]) rfl ⟨?_, ?_⟩
            · rw [HR.out]; exact rfl
            · (repeat (first | exact Below.refl _ _ | refine Below.setCell ?_ (by first | exact Nat.le_refl _ | (simp; done)) _ | refine Below.alloc ?_ (by first | exact Nat.le_refl _ | (simp; done)) _))
          · have g5 : ((dn : Int) == 0) = false := by simpa using h5
            go_enter Try.func39, Try.ntmps39
            go_wp2_with (go_at_call 20; refine (HG.out _).mono ?_; rintro e w' ⟨rfl, rfl⟩)
            refine bodyPost_ret (v := .tuple #[.agg #[.int .i64 0, .int .i64 0, .slice none 0 0], .int .i64 0, .int .i64 5]) (by simp [results, go_sem]) rfl ⟨?_, ?_⟩
            · rw [HR.out]; exact rfl
            · (repeat (first | exact Below.refl _ _ | refine Below.setCell ?_ (by first | exact Nat.le_refl _ | (simp; done)) _ | refine Below.alloc ?_ (by first | exact Nat.le_refl _ | (simp; done)) _))
        · subst ha
          have h5 : (dn : Int) = 0 := by simpa using h4
          have g5 : ((dn : Int) == 0) = true := by simpa using h5
          clear h4
          go_enter Try.func39, Try.ntmps39
          go_wp2_with (go_at_call 20; refine (HG.out _).mono ?_; rintro e w' ⟨rfl, rfl⟩)
          refine bodyPost_ret (v := .tuple #[.agg #[.int .i64 0, .int .i64 0, .slice none 0 0], .int .i64 0, .int .i64 5]) (by simp [results, go_sem]) rfl ⟨?_, ?_⟩
          · rw [HR.out]; exact rfl
          · (repeat (first | exact Below.refl _ _ | refine Below.setCell ?_ (by first | exact Nat.le_refl _ | (simp; done)) _ | refine Below.alloc ?_ (by first | exact Nat.le_refl _ | (simp; done)) _))
      · rw [if_neg h4] at hrp
        have HR := Lib.hid hrp
        have h5 : ¬ (dn : Int) = 0 := fun e => h4 (.inl e)
        have g5 : ((dn : Int) == 0) = false := by simpa using h5
        have ha : after = false := by cases after; rfl; exact absurd (.inr rfl) h4
        subst ha
        clear hrp hM hdq h4
        generalize l.length = N at *
        generalize rr l ni s dq = X at hRn HR
        rcases X with er | ⟨k2, d2, t2, beh⟩
        · have HMM : Hid (∀ o, Calls Try.prog 43 #[.slice a N cap, .int .i64 (ni : Int), .int .i64 (s : Int), .int .i64 (dq : Int)] (w.alloc o) fun e w' => e = .returned (.tuple #[.agg #[.int .i64 0, .int .i64 0, .slice none 0 0], .int .i64 0, .int .i64 er]) ∧ Below (w.alloc o).heap.size (w.alloc o) w') := fun o => (hRn o).mono fun e w' ⟨h1, h2⟩ => ⟨h1, h2⟩
          clear hRn
          go_enter Try.func39, Try.ntmps39
          go_wp2_with fail
          refine (HG.out _).mono ?_
          rintro e w' ⟨rfl, rfl⟩
          go_wp2_with fail
          refine (HMM.out _).mono ?_
          rintro e w2 ⟨rfl, hb2⟩
          have hh := z3_block hb2
          have d0 : w2.cell? ⟨w.heap.size, 0, none⟩ = some (.int .i64 0) := by rw [cell_of_row w2 _ 0 _ _ (0, 0) hh]; rfl
          have d1 : w2.cell? ⟨w.heap.size, 1, none⟩ = some (.int .i64 0) := by rw [cell_of_row w2 _ 1 _ _ (0, 0) hh]; rfl
          have d2c : w2.cell? ⟨w.heap.size, 2, none⟩ = some (.slice none 0 0) := by rw [cell_of_row w2 _ 2 _ _ (0, 0) hh]; rfl
          have f0 : w2.frozen? ⟨w.heap.size, 0, none⟩ = false := unfrozen hh
          have f1 : w2.frozen? ⟨w.heap.size, 1, none⟩ = false := unfrozen hh
          have f2 : w2.frozen? ⟨w.heap.size, 2, none⟩ = false := unfrozen hh
          have HB2 := Lib.hid hb2
          have HF := Lib.hid (Joins.block_setCell (i := 2) (Joins.block_setCell (i := 1) (Joins.block_setCell (i := 0) hh (.int .i64 0)) (.int .i64 0)) (.slice none 0 0))
          clear hh hb2 HMM HG
          go_wp2
          have x0 := cell_of_row _ w.heap.size 0 _ _ (0, 0) HF.out
          have x1 := cell_of_row _ w.heap.size 1 _ _ (0, 0) HF.out
          have x2 := cell_of_row _ w.heap.size 2 _ _ (0, 0) HF.out
          refine bodyPost_ret (v := .tuple #[.agg #[.int .i64 0, .int .i64 0, .slice none 0 0], .int .i64 0, .int .i64 er]) (by simp [results, go_sem, x0, x1, x2]) rfl ⟨by rw [HR.out]; exact rfl, ?_⟩
          exact (((hbw _ HB2.out).setCell (p := ⟨w.heap.size, 0, none⟩) (Nat.le_refl _) _).setCell (p := ⟨w.heap.size, 1, none⟩) (Nat.le_refl _) _).setCell (p := ⟨w.heap.size, 2, none⟩) (Nat.le_refl _) _
        · have HMM : Hid (∀ o, Calls Try.prog 43 #[.slice a N cap, .int .i64 (ni : Int), .int .i64 (s : Int), .int .i64 (dq : Int)] (w.alloc o) fun e w' => (∃ u, e = .returned (.tuple #[.agg #[.int .i64 (k2 : Nat), .int .i64 (d2 : Nat), u], .int .i64 (beh : Nat), .int .i64 0]) ∧ Sl w u t2) ∧ Below (w.alloc o).heap.size (w.alloc o) w') := fun o => (hRn o).mono fun e w' ⟨h1, h2⟩ => ⟨h1, h2⟩
          clear hRn
          go_enter Try.func39, Try.ntmps39
          go_wp2_with fail
          refine (HG.out _).mono ?_
          rintro e w' ⟨rfl, rfl⟩
          go_wp2_with fail
          refine (HMM.out _).mono ?_
          rintro e w2 ⟨⟨u, rfl, hu⟩, hb2⟩
          have HU := Lib.hid hu
          obtain ⟨ua, uc, rfl, -, -, -⟩ := hu
          generalize t2.length = tn at *
          have hh := z3_block hb2
          have d0 : w2.cell? ⟨w.heap.size, 0, none⟩ = some (.int .i64 0) := by rw [cell_of_row w2 _ 0 _ _ (0, 0) hh]; rfl
          have d1 : w2.cell? ⟨w.heap.size, 1, none⟩ = some (.int .i64 0) := by rw [cell_of_row w2 _ 1 _ _ (0, 0) hh]; rfl
          have d2c : w2.cell? ⟨w.heap.size, 2, none⟩ = some (.slice none 0 0) := by rw [cell_of_row w2 _ 2 _ _ (0, 0) hh]; rfl
          have f0 : w2.frozen? ⟨w.heap.size, 0, none⟩ = false := unfrozen hh
          have f1 : w2.frozen? ⟨w.heap.size, 1, none⟩ = false := unfrozen hh
          have f2 : w2.frozen? ⟨w.heap.size, 2, none⟩ = false := unfrozen hh
          have HB2 := Lib.hid hb2
          have HF := Lib.hid (Joins.block_setCell (i := 2) (Joins.block_setCell (i := 1) (Joins.block_setCell (i := 0) hh (.int .i64 (k2 : Int))) (.int .i64 (d2 : Int))) (.slice ua tn uc))
          clear hh hb2 HMM HG
          go_wp2
          have x0 := cell_of_row _ w.heap.size 0 _ _ (0, 0) HF.out
          have x1 := cell_of_row _ w.heap.size 1 _ _ (0, 0) HF.out
          have x2 := cell_of_row _ w.heap.size 2 _ _ (0, 0) HF.out
          refine bodyPost_ret (v := .tuple #[.agg #[.int .i64 (k2 : Nat), .int .i64 (d2 : Nat), .slice ua tn uc], .int .i64 (beh : Nat), .int .i64 0]) (by simp [results, go_sem, x0, x1, x2]) rfl ⟨by rw [HR.out]; exact ⟨_, rfl, HU.out⟩, ?_⟩
          exact (((hbw _ HB2.out).setCell (p := ⟨w.heap.size, 0, none⟩) (Nat.le_refl _) _).setCell (p := ⟨w.heap.size, 1, none⟩) (Nat.le_refl _) _).setCell (p := ⟨w.heap.size, 2, none⟩) (Nat.le_refl _) _
  · have heb : (E != 0) = true := by simpa using h2
    rw [if_pos h2] at hrp
    have HR := Lib.hid hrp
    clear hrp hM hRn
    generalize l.length = N at *
    go_enter Try.func39, Try.ntmps39
    go_wp2_with (go_at_call 20; refine (HG.out _).mono ?_; rintro e w' ⟨rfl, rfl⟩)
    refine bodyPost_ret (v := .tuple #[.agg #[.int .i64 0, .int .i64 0, .slice none 0 0], .int .i64 0, .int .i64 E]) (by simp [results, go_sem]) rfl ⟨?_, ?_⟩
    · rw [HR.out]; exact rfl
    · (repeat (first | exact Below.refl _ _ | refine Below.setCell ?_ (by first | exact Nat.le_refl _ | (simp; done)) _ | refine Below.alloc ?_ (by first | exact Nat.le_refl _ | (simp; done)) _))
end Go.Proofs.Ytboienpdnfcooaa.Sq
