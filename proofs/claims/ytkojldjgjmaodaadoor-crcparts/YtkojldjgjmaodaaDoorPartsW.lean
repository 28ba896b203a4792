/- The law CrcParts's own walk. -/
import Derived.Test.YtkojldjgjmaodaaDoorJoin
import Derived.Test.YtkojldjgjmaodaaDoorCut
import Derived.Deep.DeepCutAuto
import Derived.Deep.RegionWith
import Derived.Deep.RegionHeld3
namespace Go.Proofs.YtkojldjgjmaodaaDoor
open Go.RowKit Go.Proofs.CrcMath
set_option linter.unusedVariables false

theorem joinN_eq (l m : List Int) (n : Int) (h : n = (m.length : Int)) : joinN (crcN l) (crcN m) n = crcN (l ++ m) := by
  rw [crcN_join]; unfold joinN; rw [h, Int.toNat_natCast]

theorem join_eq (l m r : List Int) (n : Int) (w : World) (hr : l ++ m = r) (h : n = (m.length : Int)) (hl : crcN l < 2 ^ 32) (hm : crcN m < 2 ^ 32) (hn : n ≤ 9223372036854775807) :
    Calls Tryd.prog 11 #[.int .u32 ((crcN l : Nat) : Int), .int .u32 ((crcN m : Nat) : Int), .int .i64 n] w fun e w' => e = .returned (.int .u32 ((crcN r : Nat) : Int)) ∧ w = w' := by
  have h1 := join_any (crcN l) (crcN m) n w hl hm hn
  rw [joinN_eq l m n h, hr] at h1
  exact h1

set_option maxRecDepth 1000000 in
set_option maxHeartbeats 8000000 in
theorem parts_walk (a0 : Option Addr) (n cap0 : Nat) (L : List Int) (a1 a2 : Int) (i d : Nat) (w : World) (hn : n = L.length) (hT : Tab w) (hB : Bytes w a0 L) (hc : n ≤ cap0) (hnil : a0 = none → cap0 = 0) (hbig : n ≤ 600)
    (hi : a1 % ((n : Int) + 1) = (i : Int)) (hd : a2 % ((n : Int) - (i : Int) + 1) = (d : Int)) (hil : i ≤ n) (hdl : i + d ≤ n) (p1 : 0 ≤ a1) (p2 : a1 ≤ 65535) (p3 : 0 ≤ a2) (p4 : a2 ≤ 65535) :
    Calls Tryd.prog 7 #[.slice a0 n cap0, .int .u16 a1, .int .u16 a2] w fun e w' => e = .returned (.bool true) ∧ Below w.heap.size w w' := by
  have hS0 : Sl w (.slice a0 n cap0) L := ⟨a0, cap0, by rw [hn], hB, hnil, by omega⟩
  obtain ⟨m3, hm3⟩ : ∃ m3, i + d + m3 = n := ⟨n - (i + d), by omega⟩
  have f1 := run_first hB cap0 (by omega) hnil i (by omega)
  rw [← hn] at f1
  obtain ⟨x1, r1, s1⟩ := f1
  obtain ⟨x2, r2, s2⟩ := run_cut hB cap0 n hn hc hnil i d (by omega)
  obtain ⟨x3, r3, s3⟩ := run_from hB cap0 n hn hc hnil (i + d) m3 ((i : Int) + (d : Int)) (by omega) (by omega)
  have hsplit : L = L.take i ++ ((L.drop i).take d ++ L.drop (i + d)) := by
    rw [show L.drop (i + d) = (L.drop i).drop d from by rw [List.drop_drop], List.take_append_drop, List.take_append_drop]
  have k1 : (L.take i).length = i := by rw [List.length_take]; omega
  have k2 : ((L.drop i).take d).length = d := by rw [List.length_take, List.length_drop]; omega
  have k3 : (L.drop (i + d)).length = m3 := by rw [List.length_drop]; omega
  have o1 := hB.1.take i
  have o2 := (hB.1.drop i).take d
  have o3 := hB.1.drop (i + d)
  obtain ⟨l1, e1⟩ : ∃ l1, l1 = L.take i := ⟨_, rfl⟩
  obtain ⟨l2, e2⟩ : ∃ l2, l2 = (L.drop i).take d := ⟨_, rfl⟩
  obtain ⟨l3, e3⟩ : ∃ l3, l3 = L.drop (i + d) := ⟨_, rfl⟩
  rw [← e1] at hsplit k1 s1 o1
  rw [← e2] at hsplit k2 s2 o2
  rw [← e3] at hsplit k3 s3 o3
  clear e1 e2 e3
  have HS0 := Lib.hid hS0
  have HS1 := Lib.hid s1
  have HS2 := Lib.hid s2
  have HS3 := Lib.hid s3
  have HSP := Lib.hid hsplit
  have HK1 := Lib.hid k1
  have HK2 := Lib.hid k2
  have HK3 := Lib.hid k3
  have HT := Lib.hid hT
  have HN := Lib.hid hn
  have HM3 := Lib.hid hm3
  generalize cap0 - i = y2 at r2 HS2
  generalize cap0 - (i + d) = y3 at r3 HS3
  have g1 := crcN_lt l1 o1
  have g2 := crcN_lt l2 o2
  have g3 := crcN_lt l3 o3
  have HG1 := Lib.hid g1
  have HG2 := Lib.hid g2
  have HG3 := Lib.hid g3
  have HO := Lib.hid hB.1
  clear hS0 s1 s2 s3 hsplit k1 k2 k3 hT hn hm3 hB hnil o1 o2 o3 g1 g2 g3
  go_enter Tryd.func7, Tryd.ntmps7
  go_upto_region 5 with (fail)
  rw [hi, hd]
  go_cut [9, 10, 11] (fun x y z wx => x = .int .u32 ((crcN l1 : Nat) : Int) ∧ y = .int .u32 ((crcN l2 : Nat) : Int) ∧ z = .int .u32 ((crcN l3 : Nat) : Int) ∧ Below w.heap.size w wx)
  case first =>
    go_region_with (first
      | (go_at_call 9; refine (of_cell _ _ i cap0 x1 l1 ?_ ?_ ?_ ?_).mono ?_; (focus (go_simp; done)); (focus (refine HS1.out.later ?_; (repeat (first | exact Below.refl _ _ | apply Below.drew | refine Below.alloc ?_ (by simp <;> omega) _)); done)); (focus (rw [HK1.out]; omega)); (focus (refine HT.out.later ?_; (repeat (first | exact Below.refl _ _ | apply Below.drew | refine Below.alloc ?_ (by simp <;> omega) _)); done)); rintro e w' ⟨rfl, rfl⟩)
      | (go_at_call 9; refine (of_cell _ _ d y2 x2 l2 ?_ ?_ ?_ ?_).mono ?_; (focus (go_simp; done)); (focus (refine HS2.out.later ?_; (repeat (first | exact Below.refl _ _ | apply Below.drew | refine Below.alloc ?_ (by simp <;> omega) _)); done)); (focus (rw [HK2.out]; omega)); (focus (refine HT.out.later ?_; (repeat (first | exact Below.refl _ _ | apply Below.drew | refine Below.alloc ?_ (by simp <;> omega) _)); done)); rintro e w' ⟨rfl, rfl⟩)
      | (go_at_call 9; refine (of_cell _ _ m3 y3 x3 l3 ?_ ?_ ?_ ?_).mono ?_; (focus (go_simp; done)); (focus (refine HS3.out.later ?_; (repeat (first | exact Below.refl _ _ | apply Below.drew | refine Below.alloc ?_ (by simp <;> omega) _)); done)); (focus (rw [HK3.out]; have := HM3.out; omega)); (focus (refine HT.out.later ?_; (repeat (first | exact Below.refl _ _ | apply Below.drew | refine Below.alloc ?_ (by simp <;> omega) _)); done)); rintro e w' ⟨rfl, rfl⟩))
    all_goals go_wp2
    all_goals go_meet
    all_goals (refine ⟨rfl, rfl, rfl, ?_⟩; (repeat (first | exact Below.refl _ _ | apply Below.drew | refine Below.alloc ?_ (by simp <;> omega) _)))
  case rest =>
  obtain ⟨rfl, rfl, rfl, hbx⟩ := hcut
  have HBX := Lib.hid hbx
  have HTX := Lib.hid (HT.out.later hbx)
  have HX0 := Lib.hid (HS0.out.later hbx)
  have HX1 := Lib.hid (HS1.out.later hbx)
  have HX2 := Lib.hid (HS2.out.later hbx)
  have HX3 := Lib.hid (HS3.out.later hbx)
  have e12 : Hid (l1 ++ l2 ++ l3 = L) := by show _ = _; rw [HSP.out, List.append_assoc]
  have HGA := Lib.hid (crcN_lt (l1 ++ l2) (by
    have h := HO.out; rw [HSP.out] at h
    intro c hc; exact h c (by rcases List.mem_append.1 hc with h' | h' <;> simp [h'])))
  have HGB := Lib.hid (crcN_lt (l2 ++ l3) (by
    have h := HO.out; rw [HSP.out] at h
    intro c hc; exact h c (by simp at hc ⊢; right; exact hc)))
  clear hbx
  go_wp2_with fail
  refine (join_eq l1 l2 (l1 ++ l2) _ wc rfl (by rw [HK2.out]; omega) HG1.out HG2.out (by omega)).mono ?_
  rintro e w' ⟨rfl, rfl⟩
  go_wp2_with fail
  refine (join_eq (l1 ++ l2) l3 L _ wc e12.out (by rw [HK3.out]; have := HM3.out; omega) HGA.out HG3.out (by omega)).mono ?_
  rintro e w' ⟨rfl, rfl⟩
  go_wp2_with fail
  refine (join_eq l2 l3 (l2 ++ l3) _ wc rfl (by rw [HK3.out]; have := HM3.out; omega) HG2.out HG3.out (by omega)).mono ?_
  rintro e w' ⟨rfl, rfl⟩
  go_wp2_with fail
  refine (join_eq l1 (l2 ++ l3) L _ wc HSP.out.symm (by rw [List.length_append, HK2.out, HK3.out]; have := HM3.out; omega) HG1.out HGB.out (by omega)).mono ?_
  rintro e w' ⟨rfl, rfl⟩
  have HOF := fun (W : World) (B : Nat) (hc : W.cell? ⟨B, 0, none⟩ = some (.slice a0 n cap0)) (hb : Below wc.heap.size wc W) => of_cell W B n cap0 a0 L hc (HX0.out.later hb) (by rw [← HN.out]; omega) (HTX.out.later hb)
  have HOF3 := fun (W : World) (B : Nat) (h1 : W.cell? ⟨B, 0, none⟩ = some (.slice x1 i cap0)) (h2 : W.cell? ⟨B, 1, none⟩ = some (.slice x2 d y2)) (h3 : W.cell? ⟨B, 2, none⟩ = some (.slice x3 m3 y3)) (hb : Below wc.heap.size wc W) => of_cell3 W B i cap0 d y2 m3 y3 x1 x2 x3 l1 l2 l3 h1 h2 h3 (HX1.out.later hb) (HX2.out.later hb) (HX3.out.later hb) (by rw [HK1.out]; omega) (by rw [HK2.out]; omega) (by rw [HK3.out]; have := HM3.out; omega) (HTX.out.later hb)
  rw [← HSP.out] at HOF3
  have HAW := fun (W : World) (hb : Below wc.heap.size wc W) => awake_any W (HTX.out.later hb)
  have HA := Lib.hid HOF
  have HA3 := Lib.hid HOF3
  have HAK := Lib.hid HAW
  generalize ((crcN L : Nat) : Int) = X at HA HA3 ⊢
  clear HOF HOF3 HAW
  go_wp2
  go_region_held3 (fun W => Below wc.heap.size wc W) (first | assumption | ((repeat (first | exact Below.refl _ _ | apply Below.drew | refine Below.alloc ?_ (by simp <;> omega) _)); done)) (first
    | (go_at_call 9; (with_reducible refine (HA.out _ _ ?_ ?_).mono ?_); (focus (go_simp; done)); (focus (first | assumption | ((repeat (first | exact Below.refl _ _ | apply Below.drew | refine Below.alloc ?_ (by simp <;> omega) _)); done))); rintro e w' ⟨rfl, rfl⟩)
    | (go_at_call 9; (with_reducible refine (HA3.out _ _ ?_ ?_ ?_ ?_).mono ?_); (focus (go_simp; done)); (focus (go_simp; done)); (focus (go_simp; done)); (focus (first | assumption | ((repeat (first | exact Below.refl _ _ | apply Below.drew | refine Below.alloc ?_ (by simp <;> omega) _)); done))); rintro e w' ⟨rfl, rfl⟩)
    | (go_at_call 8; (with_reducible refine (HAK.out _ ?_).mono ?_); (focus (first | assumption | ((repeat (first | exact Below.refl _ _ | apply Below.drew | refine Below.alloc ?_ (by simp <;> omega) _)); done))); rintro e w9 ⟨rfl, hb9⟩; have hb10 : Below w.heap.size w w9 := (HBX.out.trans (Below.mono (by assumption) HBX.out.size)).trans (hb9.mono (Nat.le_trans HBX.out.size (Below.size (by assumption)))); have hb11 : Below wc.heap.size wc w9 := Below.trans (by assumption) (hb9.mono (Below.size (by assumption)))))
  all_goals go_wp2
  all_goals go_ret
  all_goals exact ⟨rfl, by assumption⟩
end Go.Proofs.YtkojldjgjmaodaaDoor
