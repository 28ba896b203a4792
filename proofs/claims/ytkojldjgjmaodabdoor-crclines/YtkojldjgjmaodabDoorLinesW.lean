/- The law CrcLines's own walk. -/
import Derived.Test.YtkojldjgjmaodabDoorBMath
import Derived.Test.YtkojldjgjmaodabDoorCut
import Derived.Test.YtkojldjgjmaodabDoorRegion9
import Derived.Deep.DeepCutAuto
import Derived.Deep.RegionWith
import Derived.Deep.RegionHeld3
namespace Go.Proofs.YtkojldjgjmaodabDoor
open Go.RowKit Go.Proofs.CrcMath
set_option linter.unusedVariables false

/-- the new row, cell by cell, the first k as they are to be -/
def XC (w : World) (g n k : Nat) (X : List Int) : Prop := ∀ j, j < n → w.frozen? ⟨g, j, none⟩ = false ∧ ∃ v, w.cell? ⟨g, j, none⟩ = some (.int .u8 v) ∧ (j < k → v = X.getD j 0)
theorem XC.start (w : World) (n : Nat) (X : List Int) : XC (w.alloc (.cells (madeCells #[.int .u8 0] n) 5)) w.heap.size n 0 X := by
  intro j hj
  have hh : (w.alloc (.cells (madeCells #[.int .u8 0] n) 5)).heap[w.heap.size]? = some (.cells (madeCells #[.int .u8 0] n) 5 (0, 0)) := heap_new _ _
  refine ⟨by simp only [World.frozen?, hh]; simp, 0, ?_, fun h => by omega⟩
  simp only [World.cell?, hh]
  rw [← Array.getElem?_toList, toList_madeCells_one]
  simp [hj]
theorem XC.set {w : World} {g n k : Nat} {X : List Int} {v : Int} (h : XC w g n k X) (hk : k < n) (hv : v = X.getD k 0) : XC (w.setCell ⟨g, k, none⟩ (.int .u8 v)) g n (k + 1) X := by
  intro j hj
  obtain ⟨hf, v', hc, hx⟩ := h j hj
  refine ⟨by rw [World.frozen?_setCell]; exact hf, ?_⟩
  by_cases e : j = k
  · subst e; exact ⟨v, World.cell?_setCell_same _ _ _ hc, fun _ => hv⟩
  · exact ⟨v', by rw [World.cell?_setCell_other _ _ _ _ (by simp <;> omega)]; exact hc, fun h => hx (by omega)⟩
theorem XC.drew {w : World} {g n k : Nat} {X : List Int} (h : XC w g n k X) : XC w.drew g n k X := fun j hj => h j hj
theorem XC.sl {w : World} {g n : Nat} {X : List Int} (h : XC w g n n X) (hn : X.length = n) (ho : Oct X) : Sl w (.slice (some ⟨g, 0, none⟩) n n) X :=
  ⟨some ⟨g, 0, none⟩, n, by rw [hn], ⟨ho, fun _ => ⟨g, 0, rfl, fun i hi => by
    obtain ⟨_, v, hc, hx⟩ := h i (by omega)
    rw [Nat.zero_add, hc, hx (by omega)]⟩⟩, (fun h => by cases h), by omega⟩

theorem xor_u8 (x y : Nat) (hx : x ≤ 255) (hy : y ≤ 255) : bits .xor .u8 (x : Int) (y : Int) = ((x ^^^ y : Nat) : Int) := u8_xor_nat x y (by omega) (by omega)

set_option maxRecDepth 1000000 in
set_option maxHeartbeats 8000000 in
theorem lines_walk (a0 a1 a2 : Option Addr) (n0 n1 n2 c0 c1 c2 n : Nat) (A B C : List Int) (w : World) (hn0 : n0 = A.length) (hn1 : n1 = B.length) (hn2 : n2 = C.length) (hT : Tab w)
    (hA : Bytes w a0 A) (hB : Bytes w a1 B) (hC : Bytes w a2 C) (k0 : n0 ≤ c0) (k1 : n1 ≤ c1) (k2 : n2 ≤ c2) (z0 : a0 = none → c0 = 0) (z1 : a1 = none → c1 = 0) (z2 : a2 = none → c2 = 0)
    (m0 : c0 ≤ 9223372036854775807) (m1 : c1 ≤ 9223372036854775807) (m2 : c2 ≤ 9223372036854775807)
    (hn : n = min (min n0 n1) n2) (hbig : n ≤ 600) :
    Calls Tryd.prog 4 #[.slice a0 n0 c0, .slice a1 n1 c1, .slice a2 n2 c2] w fun e w' => e = .returned (.bool true) ∧ Below w.heap.size w w' := by
  obtain ⟨i0, hi, hz0, hz1, hz2⟩ := info_parts Tryd.info5
  have f0 := run_first hA c0 (by omega) z0 n (by omega)
  have f1 := run_first hB c1 (by omega) z1 n (by omega)
  have f2 := run_first hC c2 (by omega) z2 n (by omega)
  rw [← hn0] at f0
  rw [← hn1] at f1
  rw [← hn2] at f2
  obtain ⟨x0, r0, s0⟩ := f0
  obtain ⟨x1, r1, s1⟩ := f1
  obtain ⟨x2, r2, s2⟩ := f2
  have hcrc := crc_xor3 A B C n (by omega) (by omega) (by omega)
  have hXo := xor3_oct A B C n hA.1 hB.1 hC.1
  have hXl := xor3_length A B C n
  have hXg : ∀ j, j < n → (xor3 A B C n).getD j 0 = (((A.getD j 0).toNat ^^^ (B.getD j 0).toNat ^^^ (C.getD j 0).toNat : Nat) : Int) := fun j hj => by
    rw [List.getD_eq_getElem?_getD]; simp [xor3, hj]
  have l0 : (A.take n).length = n := by rw [List.length_take]; omega
  have l1 : (B.take n).length = n := by rw [List.length_take]; omega
  have l2 : (C.take n).length = n := by rw [List.length_take]; omega
  have o0 := crcN_lt _ (hA.1.take n)
  have o1 := crcN_lt _ (hB.1.take n)
  have o2 := crcN_lt _ (hC.1.take n)
  obtain ⟨X, hX⟩ : ∃ X, X = xor3 A B C n := ⟨_, rfl⟩
  rw [← hX] at hcrc hXo hXl hXg
  obtain ⟨P, hP⟩ : ∃ P, P = A.take n := ⟨_, rfl⟩
  obtain ⟨Q, hQ⟩ : ∃ Q, Q = B.take n := ⟨_, rfl⟩
  obtain ⟨R, hR⟩ : ∃ R, R = C.take n := ⟨_, rfl⟩
  rw [← hP] at hcrc s0 l0 o0
  rw [← hQ] at hcrc s1 l1 o1
  rw [← hR] at hcrc s2 l2 o2
  clear hX hP hQ hR
  have h0n := hn0
  have HCRC := Lib.hid hcrc
  have HXO := Lib.hid hXo
  have HXL := Lib.hid hXl
  have HXG := Lib.hid hXg
  have HA := Lib.hid hA
  have HB := Lib.hid hB
  have HC := Lib.hid hC
  have HT := Lib.hid hT
  have HS0 := Lib.hid s0
  have HS1 := Lib.hid s1
  have HS2 := Lib.hid s2
  have HL0 := Lib.hid l0
  have HL1 := Lib.hid l1
  have HL2 := Lib.hid l2
  have HO0 := Lib.hid o0
  have HO1 := Lib.hid o1
  have HO2 := Lib.hid o2
  have HN := Lib.hid hn
  have HN0 := Lib.hid hn0
  have HN1 := Lib.hid hn1
  have HN2 := Lib.hid hn2
  have hle0 : n ≤ n0 := by omega
  have hle1 : n ≤ n1 := by omega
  have hle2 : n ≤ n2 := by omega
  have hmk := run_make (P := Tryd.prog) w 22 5 i0 (.int .u8 0) Tryd.underlying22 hi hz0 .i64 .i64 (n : Int) (n : Int) (by omega) (by omega) (by rw [hz2]; omega) (by omega)
  rw [hz1] at hmk
  clear hcrc hXo hXl hXg hA hB hC hT s0 s1 s2 l0 l1 l2 o0 o1 o2 hn hn0 hn1 hn2 h0n z0 z1 z2
  go_enter Tryd.func4, Tryd.ntmps4
  go_upto_region 1 with (fail)
  go_cut [7] (fun v wc => v = .int .i64 (n : Int) ∧ w = wc)
  case first =>
    go_wp2
    all_goals go_meet
    all_goals (refine ⟨?_, rfl⟩; have := HN.out; congr 1; (try split at *) <;> omega)
  case rest =>
  obtain ⟨rfl, rfl⟩ := hcut
  go_wp2
  go_loopw [9] (fun i wr => ∃ k : Nat, k ≤ n ∧ i = .int .i64 k ∧ Hid (XC wr w.heap.size n k X) ∧ Below w.heap.size w wr) (fun i _ => n - (intOf i).toNat)
  case atStart => exact ⟨0, by omega, rfl, XC.start w n X, (Below.refl _ _).alloc (Nat.le_refl _) _⟩
  case round =>
    obtain ⟨k, hk, rfl, HXC, hbel⟩ := hrel
    by_cases hlt : k < n
    · obtain ⟨b0, f0, rfl, q0⟩ := (HA.out.later hbel).2 (by intro e; have := HN0.out; rw [e] at this; simp at this; omega)
      obtain ⟨b1, f1, rfl, q1⟩ := (HB.out.later hbel).2 (by intro e; have := HN1.out; rw [e] at this; simp at this; omega)
      obtain ⟨b2, f2, rfl, q2⟩ := (HC.out.later hbel).2 (by intro e; have := HN2.out; rw [e] at this; simp at this; omega)
      have t0 := q0 k (by have := HN0.out; omega)
      have t1 := q1 k (by have := HN1.out; omega)
      have t2 := q2 k (by have := HN2.out; omega)
      have d0 := HA.out.1.getD k
      have d1 := HB.out.1.getD k
      have d2 := HC.out.1.getD k
      obtain ⟨x, hx⟩ : ∃ x : Nat, A.getD k 0 = (x : Int) := ⟨(A.getD k 0).toNat, by omega⟩
      obtain ⟨y, hy⟩ : ∃ y : Nat, B.getD k 0 = (y : Int) := ⟨(B.getD k 0).toNat, by omega⟩
      obtain ⟨z, hz⟩ : ∃ z : Nat, C.getD k 0 = (z : Int) := ⟨(C.getD k 0).toNat, by omega⟩
      rw [hx] at t0 d0
      rw [hy] at t1 d1
      rw [hz] at t2 d2
      have hxy : x ^^^ y ≤ 255 := by
        have : x ^^^ y < 2 ^ 8 := Nat.xor_lt_two_pow (by omega) (by omega)
        omega
      have e1 := xor_u8 x y (by omega) (by omega)
      obtain ⟨p, hp⟩ : ∃ p, p = x ^^^ y := ⟨_, rfl⟩
      rw [← hp] at e1 hxy
      have e2 := xor_u8 p z hxy (by omega)
      obtain ⟨u, hu⟩ : ∃ u, u = p ^^^ z := ⟨_, rfl⟩
      rw [← hu] at e2
      have HV : Hid ((u : Int) = X.getD k 0) := by show _ = _; rw [HXG.out k hlt, hx, hy, hz, hu, hp]; rfl
      obtain ⟨hfz, v, hcell, _⟩ := HXC.out k hlt
      clear q0 q1 q2 hx hy hz hp hu d0 d1 d2 hxy
      go_wp2
      go_region
      all_goals go_wp2
      go_roundw
      case rel => exact ⟨k + 1, by omega, by go_num, (XC.set HXC.out hlt HV.out).drew, (hbel.setCell (by exact Nat.le_refl _) _).drew⟩
      case measure => simp [intOf]; omega
    · have hkn : n = k := by omega
      subst hkn
      go_wp2
      have HBX := Lib.hid hbel
      have hTX := HT.out.later hbel
      have hSX := XC.sl HXC.out HXL.out HXO.out
      have p0 := HS0.out.later hbel
      have p1 := HS1.out.later hbel
      have p2 := HS2.out.later hbel
      have HOX := fun (W : World) (B : Nat) (hc : W.cell? ⟨B, 0, none⟩ = some (.slice (some ⟨w.heap.size, 0, none⟩) n n)) (hb : Below wr.heap.size wr W) => of_cell W B n n _ X hc (hSX.later hb) (by rw [HXL.out]; omega) (hTX.later hb)
      have HOP := fun (W : World) (B : Nat) (hc : W.cell? ⟨B, 0, none⟩ = some (.slice x0 n c0)) (hb : Below wr.heap.size wr W) => of_cell W B n c0 x0 P hc (p0.later hb) (by rw [HL0.out]; omega) (hTX.later hb)
      have HOQ := fun (W : World) (B : Nat) (hc : W.cell? ⟨B, 0, none⟩ = some (.slice x1 n c1)) (hb : Below wr.heap.size wr W) => of_cell W B n c1 x1 Q hc (p1.later hb) (by rw [HL1.out]; omega) (hTX.later hb)
      have HOR := fun (W : World) (B : Nat) (hc : W.cell? ⟨B, 0, none⟩ = some (.slice x2 n c2)) (hb : Below wr.heap.size wr W) => of_cell W B n c2 x2 R hc (p2.later hb) (by rw [HL2.out]; omega) (hTX.later hb)
      have HAW := fun (W : World) (hb : Below wr.heap.size wr W) => awake_any W (hTX.later hb)
      have e1 := u32_xorN (crcN P) (crcN Q) HO0.out HO1.out
      have e2 := u32_xorN (crcN P ^^^ crcN Q) (crcN R) (Nat.xor_lt_two_pow HO0.out HO1.out) HO2.out
      rw [← HCRC.out] at e2
      have FB := Lib.hid hbel
      refine wp_region_noPanic ?_
      refine region9 _ ?hp wr x0 x1 x2 a0 a1 a2 w.heap.size n n0 n1 n2 c0 c1 c2 _ _ _ _ _ r0 r1 r2 HOX HOP HOQ HOR HAW e1 e2 ?fin
      case hp => exact fun _ _ _ _ _ h => h
      clear HOX HOP HOQ HOR HAW hTX hSX p0 p1 p2 HXC hbel hlt hk HCRC HXO HXL HXG HA HB HC HT HS0 HS1 HS2 HL0 HL1 HL2 HO0 HO1 HO2 hmk e1 e2 r0 r1 r2
      intro t44 t45 t46 t47 t48 t49 t50 t51 t52 t53 t54 t55 t56 t57 t58 t59 t60 t61 t62 t63 t64 t65 t66 t67 W hW
      have hb10 : Below w.heap.size w W := FB.out.trans (hW.mono FB.out.size)
      clear hW
      refine NoPanic.normal ?_
      go_wp2
      go_ret
      exact ⟨rfl, hb10⟩
end Go.Proofs.YtkojldjgjmaodabDoor
