/- P3.4 of copies. -/
import Derived.Test.YtbkdimdnpekgpaaDoorSEdges
namespace Go.Proofs.YtbkdimdnpekgpaaDoor
open Go.RowKit Go.Proofs.ShaMath Go.Proofs.CopyW
set_option linter.unusedVariables false

/-- an append to what is owned, of bytes that lie somewhere, or of none, under a guard that is met -/
theorem append_slg {w : World} {ops : Array Oper} {rest : List Oper} {o : Oper} {a : Act} {Q : Exit → Act → World → Prop} (hw : Region.wanted o (yielded ops a.tmps) = true)
    (s x : Operand) (ho : o.op = Op.call { callee := Callee.builtin Builtin.append, args := #[s, x], argTypes := #[22, 22] }) (base : Nat) (v u : Value) (l m : List Int) (hs : a.eval s = v) (hown : Own w base v l)
    (hx : a.eval x = u) (hS : Sl w u m) (hlen : l.length + m.length ≤ 140737488355328) (hbase : base ≤ w.heap.size)
    (h : ∀ (v' : Value) (w' : World), Hid (Own w' base v' (l ++ m)) → Below base w w' → wpList Tryd.prog ops Q rest (a.put o.dst v') w') : wpList Tryd.prog ops Q (o :: rest) a w := by
  obtain ⟨i0, hi, hz0, hz1, hz2⟩ := info_parts Tryd.info5
  obtain ⟨ad, cap, rfl, hB, hnil, hcap⟩ := hS
  refine wpList_step fun K hK => ?_
  rw [if_pos hw]
  rcases ad with _ | ad
  · have hc := hnil rfl
    subst hc
    have e2 : m = [] := List.eq_nil_of_length_eq_zero (by omega)
    subst e2
    have hrun := run_append_owned_none (P := Tryd.prog) (w := w) base 22 o.type 5 i0 1 Tryd.underlying22 hi v _ _ hown
    unfold Oper.wp
    simp [execOp, ho, resolve, invoke, builtin, hs, hx, hrun, Result.andThen]
    refine hK _ _ (h v w ?_ (Below.refl _ _))
    rw [List.append_nil]; exact hown
  · refine wp_append_own w s x 22 ho base 5 i0 (.int .u8 0) 1 1 Tryd.underlying22 hi hz0 hz1 hz2 rfl (by decide) v _ _ hs hown ad m.length cap (m.map (Value.int .u8)) hx (by simp) (Bytes.src hB) (oneCells m) (by unfold maxLen; omega) (by omega) hbase fun v' w' hown' hg _ => ?_
    have r := own_more (m := m) hown hbase hown' hg
    exact hK _ _ (h v' w' r.1 r.2)

theorem bytes_src {w W : World} {a : Option Addr} {m : List Int} (h : Bytes w a m) (hb : Below w.heap.size w W) (g : Nat) (hg : w.heap.size ≤ g) : Src W g a m := by
  refine ⟨h.1, fun hne => ?_⟩
  obtain ⟨b, off, e, hc⟩ := h.2 hne
  have h0 := hc 0 (by cases m with | nil => exact absurd rfl hne | cons => simp)
  have hlt := World.block_lt_of_cell? w _ h0
  simp at hlt
  exact ⟨b, off, e, by omega, fun i hi => cell_later hb (hc i hi)⟩

theorem copy_wrote (g : Nat) (K l : List Int) (w : World) (hW : Wrote w g K l) :
    Calls Tryd.prog 22 #[.pointer (some ⟨g, 0, none⟩)] w fun e w' => e = .returned (.pointer (some ⟨w.heap.size, 0, none⟩)) ∧ Wrote w' w.heap.size K l ∧ Below w.heap.size w w' := by
  obtain ⟨R, hR, hRo, hR3, hC⟩ := hW
  refine (copy_walk g _ R _ w hC hR).mono ?_
  rintro e w' ⟨rfl, hC', hb⟩
  exact ⟨rfl, ⟨R, hR, hRo, hR3, hC'⟩, hb⟩

theorem empty_own (w : World) : Own (w.alloc (.cells #[] 5)) w.heap.size (.slice (some ⟨w.heap.size, 0, none⟩) 0 0) [] :=
  World.ownsRow_lit (base := w.heap.size) (e := 5) (size := 1) w #[] 0 (Nat.le_refl _) (by decide) rfl

theorem tab_but {w w' : World} {g b : Nat} {K : List Int} (h : Tab w b K) (hb : But w w' g) (hg : b ≠ g) : Tab w' b K := by
  obtain ⟨t1, t2, t3, t4⟩ := h
  exact ⟨Nat.lt_of_lt_of_le t1 hb.2.2.2.1, t2, t3, fun j hj => hb.cell hg (t4 j hj)⟩

/-- a piece written, of bytes that came in -/
theorem write_in (a : Option Addr) (n cap g : Nat) (l m : List Int) (w W : World) (hn : n = m.length) (hB : Bytes w a m) (hnil : a = none → cap = 0) (hcap : n ≤ cap) (hcb : cap ≤ 9223372036854775807) (hb : Below w.heap.size w W) (hg : w.heap.size ≤ g) (hT : Tab w 1 Ks) (hl : l.length + m.length ≤ 1000000000000) (hW : Wrote W g Ks l) :
    Calls Tryd.prog 19 #[.pointer (some ⟨g, 0, none⟩), .slice a n cap] W fun e w' => e = .returned (.tuple #[]) ∧ Wrote w' g Ks (l ++ m) ∧ But W w' g ∧ Below w.heap.size w w' := by
  subst hn
  refine (write_walk a cap g Ks l m W hW (hT.later hb) (by have := hT.1; omega) (bytes_src hB hb g hg) hnil hcap hcb hl).mono ?_
  rintro e w' ⟨rfl, h1, h2⟩
  exact ⟨rfl, h1, h2, hb.trans (h2.below hg hb.size)⟩

set_option maxHeartbeats 8000000 in
set_option maxRecDepth 1000000 in
theorem copies_walk (a0 a1 a2 : Option Addr) (n0 n1 n2 c0 c1 c2 : Nat) (A B C : List Int) (w : World) (hT0 : Tab w 0 Ks) (hT1 : Tab w 1 Ks)
    (hn0 : n0 = A.length) (hB0 : Bytes w a0 A) (hnil0 : a0 = none → c0 = 0) (hcap0 : n0 ≤ c0) (hcb0 : c0 ≤ 9223372036854775807)
    (hn1 : n1 = B.length) (hB1 : Bytes w a1 B) (hnil1 : a1 = none → c1 = 0) (hcap1 : n1 ≤ c1) (hcb1 : c1 ≤ 9223372036854775807)
    (hn2 : n2 = C.length) (hB2 : Bytes w a2 C) (hnil2 : a2 = none → c2 = 0) (hcap2 : n2 ≤ c2) (hcb2 : c2 ≤ 9223372036854775807) :
    Calls Tryd.prog 7 #[.slice a0 n0 c0, .slice a1 n1 c1, .slice a2 n2 c2] w fun e w' => e = .returned (.bool true) ∧ Below w.heap.size w w' := by
  by_cases hbig : 1000 < n0 ∨ 1000 < n1 ∨ 1000 < n2
  · have HAW := Lib.hid (awake_any w hT1)
    clear hT0 hT1 hB0 hB1 hB2 hn0 hn1 hn2 hnil0 hnil1 hnil2
    by_cases q0 : (1000 : Int) < (n0 : Int)
    · clear hbig
      go_enter Tryd.func7, Tryd.ntmps7
      go_wp2_with (go_at_call 9; refine HAW.out.mono ?_; rintro e w' ⟨rfl, hb⟩)
      go_ret
      exact ⟨rfl, hb⟩
    · by_cases q1 : (1000 : Int) < (n1 : Int)
      · clear hbig
        go_enter Tryd.func7, Tryd.ntmps7
        go_wp2_with (go_at_call 9; refine HAW.out.mono ?_; rintro e w' ⟨rfl, hb⟩)
        go_ret
        exact ⟨rfl, hb⟩
      · have q2 : (1000 : Int) < (n2 : Int) := by omega
        clear hbig
        go_enter Tryd.func7, Tryd.ntmps7
        go_wp2_with (go_at_call 9; refine HAW.out.mono ?_; rintro e w' ⟨rfl, hb⟩)
        go_ret
        exact ⟨rfl, hb⟩
  · have s0 : ¬ (1000 : Int) < (n0 : Int) := by omega
    have s1 : ¬ (1000 : Int) < (n1 : Int) := by omega
    have s2 : ¬ (1000 : Int) < (n2 : Int) := by omega
    obtain ⟨g, hg⟩ : ∃ g, g = w.heap.size := ⟨_, rfl⟩
    have hbN : Below w.heap.size w (w.alloc (.cells (stc init (List.replicate 64 0) 0).toArray 55)) := (Below.refl _ _).alloc (Nat.le_refl _) _
    have HNW : Hid (Calls Tryd.prog 18 #[] w fun e w' => e = .returned (.pointer (some ⟨g, 0, none⟩)) ∧ w.alloc (.cells (stc init (List.replicate 64 0) 0).toArray 55) = w') := by
      have h := new_walk w; rw [← hg] at h; exact h
    have hW0 : Wrote (w.alloc (.cells (stc init (List.replicate 64 0) 0).toArray 55)) g Ks [] := by rw [hg]; exact new_wrote w Ks
    generalize w.alloc (.cells (stc init (List.replicate 64 0) 0).toArray 55) = w1 at HNW hW0 hbN
    have HW1 : Hid (Calls Tryd.prog 19 #[.pointer (some ⟨g, 0, none⟩), .slice a0 n0 c0] w1 fun e w' => e = .returned (.tuple #[]) ∧ Wrote w' g Ks A ∧ But w1 w' g ∧ Below w.heap.size w w') := by
      have h := write_in a0 n0 c0 g [] A w w1 hn0 hB0 hnil0 hcap0 hcb0 hbN (by omega) hT1 (by simp; omega) hW0
      rw [List.nil_append] at h
      exact h
    have HW2 : Hid (∀ W, Below w.heap.size w W → Wrote W g Ks A → Calls Tryd.prog 19 #[.pointer (some ⟨g, 0, none⟩), .slice a1 n1 c1] W fun e w' => e = .returned (.tuple #[]) ∧ Wrote w' g Ks (A ++ B) ∧ But W w' g ∧ Below w.heap.size w w') :=
      fun W hb hW => write_in a1 n1 c1 g A B w W hn1 hB1 hnil1 hcap1 hcb1 hb (by omega) hT1 (by omega) hW
    have HW3 : Hid (∀ g2 W, w.heap.size ≤ g2 → Below w.heap.size w W → Wrote W g2 Ks A → Calls Tryd.prog 19 #[.pointer (some ⟨g2, 0, none⟩), .slice a2 n2 c2] W fun e w' => e = .returned (.tuple #[]) ∧ Wrote w' g2 Ks (A ++ C) ∧ But W w' g2 ∧ Below w.heap.size w w') :=
      fun g2 W hg2 hb hW => write_in a2 n2 c2 g2 A C w W hn2 hB2 hnil2 hcap2 hcb2 hb hg2 hT1 (by omega) hW
    have HSM : Hid (∀ g2 W l, l.length ≤ 5000 → Below w.heap.size w W → Wrote W g2 Ks l → Calls Tryd.prog 20 #[.pointer (some ⟨g2, 0, none⟩)] W fun e w' => e = .returned (.string (strOfNums (sumB Ks l))) ∧ Below W.heap.size W w') :=
      fun g2 W l hl hb hW => sum_walk g2 Ks l W hW (hT1.later hb) (by omega)
    have HRS : Hid (∀ v W l, l.length ≤ 5000 → Below w.heap.size w W → Sl W v l → Oct l → Calls Tryd.prog 13 #[v] W fun e w' => e = .returned (.string (strOfNums (sumB Ks l))) ∧ Below W.heap.size W w') :=
      fun v W l hl hb hS ho => rsum_walk v l Ks W hS ho hl (hT0.later hb)
    have HS0 : Hid (∀ W, Below w.heap.size w W → Sl W (.slice a0 n0 c0) A) := fun W hb => ⟨a0, c0, by rw [hn0], hB0.later hb, hnil0, by omega⟩
    have HS1 : Hid (∀ W, Below w.heap.size w W → Sl W (.slice a1 n1 c1) B) := fun W hb => ⟨a1, c1, by rw [hn1], hB1.later hb, hnil1, by omega⟩
    have HS2 : Hid (∀ W, Below w.heap.size w W → Sl W (.slice a2 n2 c2) C) := fun W hb => ⟨a2, c2, by rw [hn2], hB2.later hb, hnil2, by omega⟩
    have HO := Lib.hid (And.intro hB0.1 (And.intro hB1.1 hB2.1))
    have HL := Lib.hid (And.intro hn0 (And.intro hn1 hn2))
    have HT := Lib.hid hT1
    have HG := Lib.hid hg
    have b0 : n0 ≤ 1000 := by omega
    have b1 : n1 ≤ 1000 := by omega
    have b2 : n2 ≤ 1000 := by omega
    have hAl : A.length ≤ 1000 := by omega
    have hBl : B.length ≤ 1000 := by omega
    have hCl : C.length ≤ 1000 := by omega
    clear hbig hT0 hT1 hB0 hB1 hB2 hn0 hn1 hn2 hnil0 hnil1 hnil2 hW0 hbN hg
    go_enter Tryd.func7, Tryd.ntmps7
    go_wp2_with fail
    refine HNW.out.mono ?_
    rintro e w' ⟨rfl, rfl⟩
    clear HNW
    go_wp2_with fail
    refine HW1.out.mono ?_
    rintro e w2 ⟨rfl, hw2, -, hb2⟩
    have HCP := Lib.hid (copy_wrote g Ks A w2 hw2)
    have HB2 := Lib.hid hb2
    have HWR2 := Lib.hid hw2
    clear hw2 hb2 HW1
    go_wp2_with fail
    refine HCP.out.mono ?_
    rintro e w3 ⟨rfl, hw3, hb3⟩
    obtain ⟨g2, hg2⟩ : ∃ g2, g2 = w2.heap.size := ⟨_, rfl⟩
    rw [← hg2] at hw3 ⊢
    have hgg : g ≠ g2 := by
      obtain ⟨R, _, _, _, hC⟩ := HWR2.out
      have := hC.lt
      omega
    have hg2w : w.heap.size ≤ g2 := by have := HB2.out.size; omega
    have HB3 := Lib.hid (HB2.out.trans (hb3.mono HB2.out.size))
    have HC2 := Lib.hid (HW2.out w3 HB3.out (HWR2.out.later hb3))
    have HWR3 := Lib.hid hw3
    have HGG := Lib.hid hgg
    clear hw3 hb3 hg2 HCP HW2 HWR2 HB2 hgg
    go_wp2_with fail
    refine HC2.out.mono ?_
    rintro e w4 ⟨rfl, hw4, hq4, hb4⟩
    have HC3 := Lib.hid (HW3.out g2 w4 hg2w hb4 (HWR3.out.apart hq4 (Ne.symm HGG.out)))
    have HWR4 := Lib.hid hw4
    have HB4 := Lib.hid hb4
    clear hw4 hq4 hb4 HC2 HW3 HWR3 HB3
    go_wp2_with fail
    refine HC3.out.mono ?_
    rintro e w5 ⟨rfl, hw5, hq5, hb5⟩
    have hws := HWR4.out.apart hq5 HGG.out
    have HSA := Lib.hid (HSM.out g w5 (A ++ B) (by rw [List.length_append]; omega) hb5 hws)
    have HSB := Lib.hid (fun W (hb : Below w5.heap.size w5 W) => HSM.out g2 W (A ++ C) (by rw [List.length_append]; omega) (hb5.trans (hb.mono hb5.size)) (hw5.later hb))
    have HLA := Lib.hid (fun W (hb : Below w5.heap.size w5 W) => len_walk g Ks (A ++ B) W (hws.later hb))
    have HLB := Lib.hid (fun W (hb : Below w5.heap.size w5 W) => len_walk g2 Ks (A ++ C) W (hw5.later hb))
    have hlA : ((A ++ B).length : Int) = (n0 : Int) + (n1 : Int) := by have := HL.out; rw [List.length_append]; omega
    have hlB : ((A ++ C).length : Int) = (n0 : Int) + (n2 : Int) := by have := HL.out; rw [List.length_append]; omega
    rw [hlA] at HLA
    rw [hlB] at HLB
    have HB5 := Lib.hid hb5
    clear hw5 hq5 hb5 HC3 HWR4 HB4 hws HSM hlA hlB
    go_wp2_with (first | (go_at_call 19; refine (none_write _ _ _ _).mono ?_; rintro e w' ⟨rfl, rfl⟩) | (go_at_call 20; with_reducible refine (none_sum _).mono ?_; rintro e w' ⟨rfl, rfl⟩) | (go_at_call 21; with_reducible refine (none_len _).mono ?_; rintro e w' ⟨rfl, rfl⟩) | (go_at_call 22; with_reducible refine (none_copy _).mono ?_; rintro e w' ⟨rfl, rfl⟩))
    refine HSA.out.mono ?_
    rintro e w6 ⟨rfl, hb6⟩
    have B6 := Lib.hid hb6
    have HE6 := Lib.hid (empty_own w6)
    have hw6 : Below w.heap.size w w6 := HB5.out.trans (hb6.mono HB5.out.size)
    have hw6a : Below w.heap.size w (w6.alloc (.cells #[] 5)) := hw6.alloc hw6.size _
    have HS6 := Lib.hid (HS0.out _ hw6a)
    have HW6 := Lib.hid hw6
    clear hb6 hw6 hw6a HSA
    go_wp2_with (at_builtin; go_must (refine append_slg rfl (.tmp 54) (.tmp 55) rfl w6.heap.size _ _ [] A rfl HE6.out rfl HS6.out (by simp; omega) (by simp) ?_))
    intro v7 w7 HV7 hb7
    have hw7 : Below w.heap.size w w7 := (HW6.out.alloc HW6.out.size _).trans (hb7.mono HW6.out.size)
    have hz7 := hb7.size
    have HS7 := Lib.hid (HS1.out _ hw7)
    have HB7 : Hid (Below w6.heap.size w6 w7) := ((Below.refl _ _).alloc (Nat.le_refl _) _).trans hb7
    have hs7 : w6.heap.size ≤ w7.heap.size := HB7.out.size
    try rw [List.nil_append] at HV7
    clear hw7 hb7 hz7 HE6 HS6
    go_wp2_with (at_builtin; go_must (refine append_slg rfl (.tmp 56) (.tmp 57) rfl w6.heap.size _ _ A B rfl HV7.out rfl HS7.out (by omega) hs7 ?_))
    intro v8 w8 HV8 hb8
    have HB8 : Hid (Below w6.heap.size w6 w8) := HB7.out.trans hb8
    have hw8 : Below w.heap.size w w8 := HW6.out.trans (HB8.out.mono HW6.out.size)
    have HO8 : Oct (A ++ B) := HO.out.1.append HO.out.2.1
    have HR8 := Lib.hid (HRS.out v8 w8 (A ++ B) (by rw [List.length_append]; omega) hw8 (HV8.out.sl HO8) HO8)
    clear hb8 hw8 HO8 HV7 HS7 HV8 hs7
    go_wp2_with fail
    refine HR8.out.mono ?_
    rintro e w9 ⟨rfl, hb9⟩
    have B9 : Hid (Below w5.heap.size w5 w9) := B6.out.trans ((HB8.out.trans (hb9.mono HB8.out.size)).mono B6.out.size)
    have HSB9 := Lib.hid (HSB.out w9 B9.out)
    clear hb9 HR8 HB8 HB7 B6 HW6
    go_wp2_with fail
    refine HSB9.out.mono ?_
    rintro e wa ⟨rfl, hba⟩
    have BA : Hid (Below w5.heap.size w5 wa) := B9.out.trans (hba.mono B9.out.size)
    have HEA := Lib.hid (empty_own wa)
    have hwa : Below w.heap.size w wa := HB5.out.trans (BA.out.mono HB5.out.size)
    have hwaa : Below w.heap.size w (wa.alloc (.cells #[] 5)) := hwa.alloc hwa.size _
    have HSA := Lib.hid (HS0.out _ hwaa)
    have HWA := Lib.hid hwa
    clear hba hwa hwaa HSB9 B9 HSB
    go_wp2_with (at_builtin; go_must (refine append_slg rfl (.tmp 64) (.tmp 65) rfl wa.heap.size _ _ [] A rfl HEA.out rfl HSA.out (by simp; omega) (by simp) ?_))
    intro vb wb' HVb hbb
    have hwb : Below w.heap.size w wb' := (HWA.out.alloc HWA.out.size _).trans (hbb.mono HWA.out.size)
    have HSb := Lib.hid (HS2.out _ hwb)
    have HBb : Hid (Below wa.heap.size wa wb') := ((Below.refl _ _).alloc (Nat.le_refl _) _).trans hbb
    have hsb : wa.heap.size ≤ wb'.heap.size := HBb.out.size
    try rw [List.nil_append] at HVb
    clear hwb hbb HEA HSA
    go_wp2_with (at_builtin; go_must (refine append_slg rfl (.tmp 66) (.tmp 67) rfl wa.heap.size _ _ A C rfl HVb.out rfl HSb.out (by omega) hsb ?_))
    intro vc wc HVc hbc
    have HBc : Hid (Below wa.heap.size wa wc) := HBb.out.trans hbc
    have hwc : Below w.heap.size w wc := HWA.out.trans (HBc.out.mono HWA.out.size)
    have HOc : Oct (A ++ C) := HO.out.1.append HO.out.2.2
    have HRc := Lib.hid (HRS.out vc wc (A ++ C) (by rw [List.length_append]; omega) hwc (HVc.out.sl HOc) HOc)
    clear hbc hwc HOc HVb HSb HVc hsb
    go_wp2_with fail
    refine HRc.out.mono ?_
    rintro e wd ⟨rfl, hbd⟩
    have BD : Hid (Below w5.heap.size w5 wd) := BA.out.trans ((HBc.out.trans (hbd.mono HBc.out.size)).mono BA.out.size)
    have HWD : Hid (Below w.heap.size w wd) := HB5.out.trans (BD.out.mono HB5.out.size)
    have HAW := Lib.hid (awake_any wd (HT.out.later HWD.out))
    have HLA2 := Lib.hid (HLA.out wd BD.out)
    have HLB2 := Lib.hid (HLB.out wd BD.out)
    clear hbd HRc HBc HBb BA HWA HLA HLB
    go_wp2_with (first | (go_at_call 21; with_reducible refine HLA2.out.mono ?_; rintro e w' ⟨rfl, rfl⟩) | (go_at_call 21; with_reducible refine HLB2.out.mono ?_; rintro e w' ⟨rfl, rfl⟩) | (go_at_call 9; refine HAW.out.mono ?_; rintro e wz ⟨rfl, hbz⟩))
    go_ret
    exact ⟨rfl, HWD.out.trans (hbz.mono HWD.out.size)⟩
end Go.Proofs.YtbkdimdnpekgpaaDoor
