/- RuRParse, RuRCut, RuIdleM, RuSame, RuRLines, RuLawP, joined. -/
import Derived.Test.YtokocfoeohddfaaDoorMaAll
import Derived.Test.YtokocfoeohddfaaDoorRuParse2
import Derived.Test.YtokocfoeohddfaaDoorGlStar
import Derived.Test.YtokocfoeohddfaaDoorRuRow
import Derived.Test.YtokocfoeohddfaaDoorMeCut
import Derived.Test.YtokocfoeohddfaaDoorPaRow
import Derived.RegionTactic
import Derived.Maps.AppendAt
import Derived.Laws.AppendOwnNone
import Derived.Test.YtokocfoeohddfaaDoorRuHid
import Derived.Laws.StructEq
import Derived.BigQuiet
import Derived.Test.YtokocfoeohddfaaDoorRuLines
import Derived.Test.YtokocfoeohddfaaDoorRuAwake
namespace Go.Proofs.YtokocfoeohddfaaDoor.Pa
open Go.RowKit
set_option linter.unusedVariables false
set_option linter.unusedSimpArgs false
set_option maxRecDepth 1000000

/-- the world while a line is read: the answer's block, the rule's -/
structure QI (w wx : World) (a : Int) (q : L8) (d an : Bool) : Prop where
  res : wx.heap[w.heap.size]? = some (.cells #[.int .i64 0, .string { data := #[] }, .bool false, .bool false] 42)
  top : wx.heap[w.heap.size + 1]? = some (.cells #[.int .i64 a, .string (mk q), .bool d, .bool an] 42)
  bel : Below w.heap.size w wx
theorem QI.start (w : World) (a : Int) (q : L8) : QI w ((w.alloc (.cells #[.int .i64 0, .string { data := #[] }, .bool false, .bool false] 42)).alloc (.cells #[.int .i64 a, .string (Pa.mk q), .bool false, .bool false] 42)) a q false false := by
  have h := heap_new (w.alloc (.cells #[.int .i64 0, .string { data := #[] }, .bool false, .bool false] 42)) (.cells #[.int .i64 a, .string (Pa.mk q), .bool false, .bool false] 42)
  rw [World.size_alloc] at h
  exact ⟨by rw [Below.heap_alloc _ _ _ (by simp)]; exact heap_new _ _, h, ((Below.refl _ _).alloc (Nat.le_refl _) _).alloc (by simp) _⟩
theorem QI.pat {w wx : World} {a : Int} {q : L8} {d an : Bool} (h : QI w wx a q d an) (r : L8) : QI w (wx.setCell ⟨w.heap.size + 1, 1, none⟩ (.string (Pa.mk r))) a r d an :=
  ⟨by rw [← h.res]; simp [World.setCell, Array.getElem?_modify], by have := row_set h.top 1 (.string (Pa.mk r)); simpa using this, h.bel.setCell (by show w.heap.size ≤ w.heap.size + 1; omega) _⟩
theorem QI.dir {w wx : World} {a : Int} {q : L8} {d an : Bool} (h : QI w wx a q d an) (b : Bool) : QI w (wx.setCell ⟨w.heap.size + 1, 2, none⟩ (.bool b)) a q b an :=
  ⟨by rw [← h.res]; simp [World.setCell, Array.getElem?_modify], by have := row_set h.top 2 (.bool b); simpa using this, h.bel.setCell (by show w.heap.size ≤ w.heap.size + 1; omega) _⟩
theorem QI.anch {w wx : World} {a : Int} {q : L8} {d an : Bool} (h : QI w wx a q d an) (b : Bool) : QI w (wx.setCell ⟨w.heap.size + 1, 3, none⟩ (.bool b)) a q d b :=
  ⟨by rw [← h.res]; simp [World.setCell, Array.getElem?_modify], by have := row_set h.top 3 (.bool b); simpa using this, h.bel.setCell (by show w.heap.size ≤ w.heap.size + 1; omega) _⟩
theorem QI.later {w wx wy : World} {a : Int} {q : L8} {d an : Bool} (h : QI w wx a q d an) (hb : Below wx.heap.size wx wy) : QI w wy a q d an :=
  ⟨(hb.block _ (Array.getElem?_eq_some_iff.1 h.res).1).trans h.res, (hb.block _ (Array.getElem?_eq_some_iff.1 h.top).1).trans h.top, h.bel.trans (hb.mono h.bel.size)⟩
theorem pre_slash (l : L8) : [47].isPrefixOf l = true ↔ 0 < l.length ∧ nb l 0 = 47 := by
  cases l with
  | nil => simp [List.isPrefixOf]
  | cons c r =>
    have e : nb (c :: r) 0 = c.toNat := nb_get rfl
    rw [e]
    simp [List.isPrefixOf]
    constructor
    · intro h; rw [← h]; rfl
    · intro h; exact (UInt8.toNat_inj.1 h).symm
theorem sign_of {l : L8} : (nb l 0 = 43 → 0 < l.length → signI (l.getD 0 0) = 0) ∧ (nb l 0 = 45 → 0 < l.length → signI (l.getD 0 0) = 1) ∧ (nb l 0 = 80 → 0 < l.length → signI (l.getD 0 0) = 2) ∧ (nb l 0 = 82 → 0 < l.length → signI (l.getD 0 0) = 3) ∧ (nb l 0 ≠ 43 → nb l 0 ≠ 45 → nb l 0 ≠ 80 → nb l 0 ≠ 82 → signI (l.getD 0 0) = -1) := by
  have key : ∀ n : UInt8, nb l 0 = n.toNat → l.getD 0 0 = n := fun n h => UInt8.toNat_inj.1 h
  refine ⟨fun h _ => ?_, fun h _ => ?_, fun h _ => ?_, fun h _ => ?_, fun h1 h2 h3 h4 => ?_⟩
  · rw [key 43 h]; rfl
  · rw [key 45 h]; rfl
  · rw [key 80 h]; rfl
  · rw [key 82 h]; rfl
  · unfold signI
    have e : ∀ n : UInt8, nb l 0 ≠ n.toNat → l.getD 0 0 ≠ n := fun n h q => h (by unfold nb; rw [q])
    have e1 := e 43 h1; have e2 := e 45 h2; have e3 := e 80 h3; have e4 := e 82 h4
    clear e key
    generalize l.getD 0 0 = c at *
    have f1 : ¬ (43 : UInt8) = c := fun h => e1 h.symm
    have f2 : ¬ (45 : UInt8) = c := fun h => e2 h.symm
    have f3 : ¬ (80 : UInt8) = c := fun h => e3 h.symm
    have f4 : ¬ (82 : UInt8) = c := fun h => e4 h.symm
    simp [Lib.indexByte, f1, f2, f3, f4]
set_option maxHeartbeats 32000000 in
theorem rparse_any (l : L8) (w : World) (hl : l.length ≤ 4611686018427380000) :
    Calls Tryd.prog 31 #[.string (mk l)] w fun e w' => e = .returned (.tuple #[(parseR l).1.val, .int .i64 (parseR l).2]) ∧ Below w.heap.size w w' := by
  have hs : (mk l).size = l.length := mk_size l
  have HR0 : Hid ((w.alloc (.cells #[.int .i64 0, .string { data := #[] }, .bool false, .bool false] 42)).heap[w.heap.size]? = some (.cells #[.int .i64 0, .string { data := #[] }, .bool false, .bool false] 42)) := heap_new _ _
  have HB0 : Hid (Below w.heap.size w (w.alloc (.cells #[.int .i64 0, .string { data := #[] }, .bool false, .bool false] 42))) := (Below.refl _ _).alloc (Nat.le_refl _) _
  have HLN : Hid (l.length ≤ 4611686018427380000) := hl
  by_cases h2 : l.length < 2
  · have hI : ((mk l).size : Int) < 2 := by omega
    have hD : decide (((mk l).size : Int) < 2) = true := decide_eq_true hI
    have e : parseR l = (zeroRu, 5) := by unfold parseR; rw [if_pos (.inl h2)]
    rw [e]
    clear h2 hs hl e
    generalize mk l = p at *
    go_enter Tryd.func31, Tryd.ntmps31
    go_wp2
    try simp only [Exit.inBlock, Exit.then]
    refine bodyPost_ret (v := .tuple #[.agg #[.int .i64 0, .string { data := #[] }, .bool false, .bool false], .int .i64 5]) (results_cell2_row (p := 2) (u := 3) rfl _ _ w.heap.size 42 #[.int .i64 0, .string { data := #[] }, .bool false, .bool false] (0, 0) _ rfl HR0.out Tryd.underlying42 rfl (by kernel_rfl)) rfl ?_
    exact ⟨rfl, HB0.out⟩
  · have hI : ¬ ((mk l).size : Int) < 2 := by omega
    have hD : decide (((mk l).size : Int) < 2) = false := decide_eq_false hI
    have hI1 : (1 : Int) < ((mk l).size : Int) := by omega
    have hI0 : (0 : Int) < ((mk l).size : Int) := by omega
    have hI2 : ¬ ((mk l).size : Int) < 2 := hI
    have hI3 : (2 : Int) ≤ ((mk l).size : Int) := by omega
    have hx1 := run_at l 1 (by omega)
    have hx0 := run_at l 0 (by omega)
    simp only [Int.cast_ofNat_Int] at hx1 hx0
    rw [bt_nb] at hx1 hx0
    by_cases h32 : nb l 1 = 32
    · rw [h32] at hx1
      have hsl := run_tl l 2 (by omega)
      simp only [Int.cast_ofNat_Int] at hsl
      obtain ⟨sg1, sg2, sg3, sg4, sg5⟩ := sign_of (l := l)
      obtain ⟨q0, hq0⟩ : ∃ q, q = l.drop 2 := ⟨_, rfl⟩
      have HQ0 : Hid (q0.length ≤ 4611686018427380000) := by show _ ≤ _; rw [hq0, List.length_drop]; omega
      rw [← hq0] at hsl
      have HPE : Hid (∀ a : Int, signI (l.getD 0 0) = a - 1 → 1 ≤ a → parseR l = if refE a (cuts (cutp q0).1).1 ≠ 0 then (zeroRu, refE a (cuts (cutp q0).1).1) else (⟨a, (cuts (cutp q0).1).1, (cuts (cutp q0).1).2, (cutp q0).2⟩, 0)) := by
        intro a ha h1
        unfold parseR
        rw [if_neg (by rintro (h | h | h); exact h2 h; exact h h32; omega)]
        unfold lineRu
        rw [ha, ← hq0]
        simp only [show 1 + (a - 1) = a from by omega]
      by_cases h43 : nb l 0 = 43
      · have HP := Lib.hid (HPE.out 1 (sg1 h43 (by omega)) (by omega))
        rw [h43] at hx0
        have HQS := Lib.hid (QI.start w 1 q0)
        have HZQ : Hid ((mk q0).size = q0.length) := mk_size q0
        clear h2 hs hl sg1 sg2 sg3 sg4 sg5 h32 hq0 HPE HR0 HB0
        go_enter Tryd.func31, Tryd.ntmps31
        go_upto_region 14 with (fail)
        generalize ((w.alloc (.cells #[.int .i64 0, .string { data := #[] }, .bool false, .bool false] 42)).alloc (.cells #[.int .i64 1, .string (mk q0), .bool false, .bool false] 42)) = wx at HQS ⊢
        go_cut [42] (fun v wy => v = .bool ([47].isPrefixOf q0) ∧ wx = wy)
        case first =>
          obtain ⟨⟨c0, c1, c2, c3⟩, -⟩ := cells4 HQS.out.top
          by_cases hn : q0 = []
          · have he := emptyT hn
            have HE : Hid ([47].isPrefixOf q0 = false) := by show _ = _; rw [hn]; rfl
            clear hn
            go_wp2
            go_meet
            exact ⟨by rw [HE.out], rfl⟩
          · have he := emptyF hn
            have hl0 : 0 < q0.length := List.length_pos_iff.2 hn
            have hz0 : (0 : Int) < ((mk q0).size : Int) := by rw [HZQ.out]; omega
            have hy0 := run_at q0 0 hl0
            simp only [Int.cast_ofNat_Int] at hy0
            rw [bt_nb] at hy0
            by_cases h47 : nb q0 0 = 47
            · have HE : Hid ([47].isPrefixOf q0 = true) := (pre_slash q0).2 ⟨hl0, h47⟩
              rw [h47] at hy0
              clear hn hl0 h47
              go_wp2
              go_meet
              exact ⟨by rw [HE.out], rfl⟩
            · have q47 : ((nb q0 0 : Int) == 47) = false := by simpa using fun e => h47 (by omega)
              have HE : Hid ([47].isPrefixOf q0 = false) := by
                show _ = _; rw [Bool.eq_false_iff]; exact fun h => h47 ((pre_slash q0).1 h).2
              generalize nb q0 0 = bq at *
              clear hn hl0 h47
              go_wp2
              go_meet
              exact ⟨by rw [HE.out], rfl⟩
        case rest =>
        obtain ⟨rfl, rfl⟩ := hcut
        go_upto_if 42 with (fail)
        go_cut [] (fun wy => QI w wy 1 (cutp q0).1 false (cutp q0).2)
        case first =>
          obtain ⟨⟨c0, c1, c2, c3⟩, f0, f1, f2, f3⟩ := cells4 HQS.out.top
          cases hb : [47].isPrefixOf q0 with
          | false =>
            have e : cutp q0 = (q0, false) := by unfold cutp; rw [hb]; rfl
            have HQE : Hid (QI w wx 1 (cutp q0).1 false (cutp q0).2) := by show QI _ _ _ _ _ _; rw [e]; exact HQS.out
            clear e
            go_wp2
            go_meet
            exact HQE.out
          | true =>
            have hlen := ((pre_slash q0).1 hb).1
            have e : cutp q0 = (q0.drop 1, true) := by unfold cutp; rw [if_pos hb]
            have hsl1 := run_tl q0 1 hlen
            simp only [Int.cast_ofNat_Int] at hsl1
            have hz1 : (1 : Int) ≤ ((mk q0).size : Int) := by rw [HZQ.out]; omega
            have HQE : Hid (QI w ((wx.setCell ⟨w.heap.size + 1, 3, none⟩ (.bool true)).setCell ⟨w.heap.size + 1, 1, none⟩ (.string (mk (q0.drop 1)))) 1 (cutp q0).1 false (cutp q0).2) := by show QI _ _ _ _ _ _; rw [e]; exact (HQS.out.anch true).pat _
            obtain ⟨t1, ht1⟩ : ∃ t, t = q0.drop 1 := ⟨_, rfl⟩
            rw [← ht1] at hsl1 HQE
            clear e hlen ht1
            go_wp2
            go_meet
            exact HQE.out
        case rest =>
        have HQ1 := Lib.hid hcut
        obtain ⟨q1, hq1⟩ : ∃ q, q = (cutp q0).1 := ⟨_, rfl⟩
        obtain ⟨an, han⟩ : ∃ b, b = (cutp q0).2 := ⟨_, rfl⟩
        have HQL : Hid (q1.length ≤ 4611686018427380000) := by show _ ≤ _; rw [hq1]; have := cutp_len q0; have := HQ0.out; omega
        rw [← hq1, ← han] at HQ1 HP
        clear hcut HQS hq1 han HZQ
        have HZ1 : Hid ((mk q1).size = q1.length) := mk_size q1
        obtain ⟨⟨c0, c1, c2, c3⟩, f0, f1, f2, f3⟩ := cells4 HQ1.out.top
        go_upto_region 18 with (fail)
        go_cut [60] (fun v wy => v = .bool (sufB q1) ∧ wc = wy)
        case first =>
          by_cases hn : q1.length = 0
          · have hI : ¬ (0 : Int) < ((mk q1).size : Int) := by rw [HZ1.out]; omega
            have HE : Hid (sufB q1 = false) := by show _ = _; unfold sufB; exact decide_eq_false (fun h => h.1 (List.eq_nil_of_length_eq_zero hn))
            clear hn
            go_wp2
            go_meet
            exact ⟨by rw [HE.out], rfl⟩
          · have hI : (0 : Int) < ((mk q1).size : Int) := by rw [HZ1.out]; omega
            have hqn : q1 ≠ [] := fun e => hn (by rw [e]; rfl)
            have hy := run_at q1 (q1.length - 1) (by omega)
            have hsub : IntKind.i64.wrap (((mk q1).size : Int) - 1) = ((q1.length - 1 : Nat) : Int) := by rw [HZ1.out, IntWalk.i64_in _ (by have := HQL.out; omega)]; omega
            obtain ⟨k, hk⟩ : ∃ k, k = q1.length - 1 := ⟨_, rfl⟩
            obtain ⟨b1, hb1⟩ : ∃ b, b = nb q1 (q1.length - 1) := ⟨_, rfl⟩
            rw [bt_nb, ← hb1] at hy
            rw [← hk] at hy hsub
            have hks : (k : Int) < ((mk q1).size : Int) := by rw [HZ1.out]; omega
            by_cases h47 : b1 = 47
            · have HE : Hid (sufB q1 = true) := by show _ = _; unfold sufB; exact decide_eq_true ⟨hqn, hb1.symm.trans h47⟩
              have q47 : ((b1 : Int) == 47) = true := by rw [h47]; rfl
              clear hn hqn hk hb1 h47
              go_wp2
              go_meet
              exact ⟨by rw [HE.out], rfl⟩
            · have q47 : ((b1 : Int) == 47) = false := by simpa using fun e => h47 (by omega)
              have HE : Hid (sufB q1 = false) := by show _ = _; unfold sufB; exact decide_eq_false (fun h => h47 (hb1.trans h.2))
              clear hn hqn hk hb1 h47
              go_wp2
              go_meet
              exact ⟨by rw [HE.out], rfl⟩
        case rest =>
        obtain ⟨rfl, rfl⟩ := hcut
        go_upto_if 60 with (fail)
        go_cut [] (fun wy => QI w wy 1 (cuts q1).1 (cuts q1).2 an)
        case first =>
          cases hb : sufB q1 with
          | false =>
            have e : cuts q1 = (q1, false) := by unfold cuts; rw [hb]; rfl
            have HQE : Hid (QI w wc 1 (cuts q1).1 (cuts q1).2 an) := by show QI _ _ _ _ _ _; rw [e]; exact HQ1.out
            clear e
            go_wp2
            go_meet
            exact HQE.out
          | true =>
            have hq := of_decide_eq_true hb
            have hlen : 0 < q1.length := List.length_pos_iff.2 hq.1
            have e : cuts q1 = (q1.take (q1.length - 1), true) := by unfold cuts; rw [if_pos hb]
            have hsub : IntKind.i64.wrap (((mk q1).size : Int) - 1) = ((q1.length - 1 : Nat) : Int) := by rw [HZ1.out, IntWalk.i64_in _ (by have := HQL.out; omega)]; omega
            have hsl1 := run_hd q1 (q1.length - 1) (by omega)
            have HQE : Hid (QI w ((wc.setCell ⟨w.heap.size + 1, 2, none⟩ (.bool true)).setCell ⟨w.heap.size + 1, 1, none⟩ (.string (mk (q1.take (q1.length - 1))))) 1 (cuts q1).1 (cuts q1).2 an) := by show QI _ _ _ _ _ _; rw [e]; exact (HQ1.out.dir true).pat _
            obtain ⟨k, hk⟩ : ∃ k, k = q1.length - 1 := ⟨_, rfl⟩
            rw [← hk] at hsub hsl1 HQE
            have hks : (k : Int) ≤ ((mk q1).size : Int) := by rw [HZ1.out]; omega
            clear e hlen hq hk
            go_wp2
            go_meet
            exact HQE.out
        case rest =>
        have HQ2 := Lib.hid hcut
        obtain ⟨q2, hq2⟩ : ∃ q, q = (cuts q1).1 := ⟨_, rfl⟩
        obtain ⟨d2, hd2⟩ : ∃ b, b = (cuts q1).2 := ⟨_, rfl⟩
        have hql : q2.length ≤ 4611686018427380000 := by rw [hq2]; have := cuts_len q1; have := HQL.out; omega
        rw [← hq2, ← hd2] at HQ2 HP
        clear hcut HQ1 hq2 hd2 HZ1 c0 c1 c2 c3 f0 f1 f2 f3
        obtain ⟨⟨c0, c1, c2, c3⟩, f0, f1, f2, f3⟩ := cells4 HQ2.out.top
        have HON : Hid (Calls Tryd.prog 49 #[.agg #[.int .i64 1, .string (mk q2), .bool d2, .bool an]] _ fun e w' => e = .returned (.int .i64 (refE 1 q2)) ∧ QI w w' 1 q2 d2 an) := (rone_any 1 q2 d2 an _ (by omega)).mono fun e w' ⟨h1, h2⟩ => ⟨h1, HQ2.out.later h2⟩
        have HFIN : Hid (∀ wy, QI w wy 1 q2 d2 an → ∀ x0 x1 x2 x3 : Value, ((((wy.setCell ⟨w.heap.size, 0, none⟩ x0).setCell ⟨w.heap.size, 1, none⟩ x1).setCell ⟨w.heap.size, 2, none⟩ x2).setCell ⟨w.heap.size, 3, none⟩ x3).heap[w.heap.size]? = some (.cells #[x0, x1, x2, x3] 42) ∧ Below w.heap.size w ((((wy.setCell ⟨w.heap.size, 0, none⟩ x0).setCell ⟨w.heap.size, 1, none⟩ x1).setCell ⟨w.heap.size, 2, none⟩ x2).setCell ⟨w.heap.size, 3, none⟩ x3)) := fun wy h x0 x1 x2 x3 => ⟨row4 h.res x0 x1 x2 x3, ((((h.bel.setCell (Nat.le_refl _) _).setCell (Nat.le_refl _) _).setCell (Nat.le_refl _) _).setCell (Nat.le_refl _) _)⟩
        clear hql
        by_cases hz : refE 1 q2 = 0
        · have HPR : Hid (parseR l = (⟨1, q2, d2, an⟩, 0)) := by show _ = _; rw [HP.out, if_neg (by simpa using hz)]
          rw [hz] at HON
          clear hz
          go_wp2_with (go_at_call 49; refine HON.out.mono ?_; rintro e wy ⟨rfl, hq⟩; obtain ⟨⟨a0, a1, a2, a3⟩, b0, b1, b2, b3⟩ := cells4 hq.res; obtain ⟨⟨d0, d1, d2', d3⟩, -⟩ := cells4 hq.top; have HQF := Lib.hid (HFIN.out wy hq (.int .i64 1) (.string (mk q2)) (.bool d2) (.bool an)); clear hq)
          try simp only [Exit.inBlock, Exit.then]
          refine bodyPost_ret (v := .tuple #[.agg #[.int .i64 1, .string (mk q2), .bool d2, .bool an], .int .i64 0]) (results_cell2_row (p := 2) (u := 3) rfl _ _ w.heap.size 42 #[.int .i64 1, .string (mk q2), .bool d2, .bool an] (0, 0) _ rfl HQF.out.1 Tryd.underlying42 rfl (by kernel_rfl)) rfl ?_
          exact ⟨by rw [HPR.out]; rfl, HQF.out.2⟩
        · have HPR : Hid (parseR l = (zeroRu, refE 1 q2)) := by show _ = _; rw [HP.out, if_pos hz]
          have hne : (refE 1 q2 == 0) = false := by simpa using hz
          generalize refE 1 q2 = er at *
          clear hz
          go_wp2_with (go_at_call 49; refine HON.out.mono ?_; rintro e wy ⟨rfl, hq⟩; obtain ⟨⟨a0, a1, a2, a3⟩, b0, b1, b2, b3⟩ := cells4 hq.res; have HQF := Lib.hid (HFIN.out wy hq (.int .i64 0) (.string { data := #[] }) (.bool false) (.bool false)); clear hq)
          try simp only [Exit.inBlock, Exit.then]
          refine bodyPost_ret (v := .tuple #[.agg #[.int .i64 0, .string { data := #[] }, .bool false, .bool false], .int .i64 er]) (results_cell2_row (p := 2) (u := 3) rfl _ _ w.heap.size 42 #[.int .i64 0, .string { data := #[] }, .bool false, .bool false] (0, 0) _ rfl HQF.out.1 Tryd.underlying42 rfl (by kernel_rfl)) rfl ?_
          exact ⟨by rw [HPR.out]; rfl, HQF.out.2⟩
      · have q43 : ((nb l 0 : Int) == 43) = false := by simpa using fun e => h43 (by omega)
        by_cases h45 : nb l 0 = 45
        · have HP := Lib.hid (HPE.out 2 (sg2 h45 (by omega)) (by omega))
          rw [h45] at hx0
          have HQS := Lib.hid (QI.start w 2 q0)
          have HZQ : Hid ((mk q0).size = q0.length) := mk_size q0
          clear h2 hs hl sg1 sg2 sg3 sg4 sg5 h32 hq0 HPE HR0 HB0
          go_enter Tryd.func31, Tryd.ntmps31
          go_upto_region 14 with (fail)
          generalize ((w.alloc (.cells #[.int .i64 0, .string { data := #[] }, .bool false, .bool false] 42)).alloc (.cells #[.int .i64 2, .string (mk q0), .bool false, .bool false] 42)) = wx at HQS ⊢
          go_cut [42] (fun v wy => v = .bool ([47].isPrefixOf q0) ∧ wx = wy)
          case first =>
            obtain ⟨⟨c0, c1, c2, c3⟩, -⟩ := cells4 HQS.out.top
            by_cases hn : q0 = []
            · have he := emptyT hn
              have HE : Hid ([47].isPrefixOf q0 = false) := by show _ = _; rw [hn]; rfl
              clear hn
              go_wp2
              go_meet
              exact ⟨by rw [HE.out], rfl⟩
            · have he := emptyF hn
              have hl0 : 0 < q0.length := List.length_pos_iff.2 hn
              have hz0 : (0 : Int) < ((mk q0).size : Int) := by rw [HZQ.out]; omega
              have hy0 := run_at q0 0 hl0
              simp only [Int.cast_ofNat_Int] at hy0
              rw [bt_nb] at hy0
              by_cases h47 : nb q0 0 = 47
              · have HE : Hid ([47].isPrefixOf q0 = true) := (pre_slash q0).2 ⟨hl0, h47⟩
                rw [h47] at hy0
                clear hn hl0 h47
                go_wp2
                go_meet
                exact ⟨by rw [HE.out], rfl⟩
              · have q47 : ((nb q0 0 : Int) == 47) = false := by simpa using fun e => h47 (by omega)
                have HE : Hid ([47].isPrefixOf q0 = false) := by
                  show _ = _; rw [Bool.eq_false_iff]; exact fun h => h47 ((pre_slash q0).1 h).2
                generalize nb q0 0 = bq at *
                clear hn hl0 h47
                go_wp2
                go_meet
                exact ⟨by rw [HE.out], rfl⟩
          case rest =>
          obtain ⟨rfl, rfl⟩ := hcut
          go_upto_if 42 with (fail)
          go_cut [] (fun wy => QI w wy 2 (cutp q0).1 false (cutp q0).2)
          case first =>
            obtain ⟨⟨c0, c1, c2, c3⟩, f0, f1, f2, f3⟩ := cells4 HQS.out.top
            cases hb : [47].isPrefixOf q0 with
            | false =>
              have e : cutp q0 = (q0, false) := by unfold cutp; rw [hb]; rfl
              have HQE : Hid (QI w wx 2 (cutp q0).1 false (cutp q0).2) := by show QI _ _ _ _ _ _; rw [e]; exact HQS.out
              clear e
              go_wp2
              go_meet
              exact HQE.out
            | true =>
              have hlen := ((pre_slash q0).1 hb).1
              have e : cutp q0 = (q0.drop 1, true) := by unfold cutp; rw [if_pos hb]
              have hsl1 := run_tl q0 1 hlen
              simp only [Int.cast_ofNat_Int] at hsl1
              have hz1 : (1 : Int) ≤ ((mk q0).size : Int) := by rw [HZQ.out]; omega
              have HQE : Hid (QI w ((wx.setCell ⟨w.heap.size + 1, 3, none⟩ (.bool true)).setCell ⟨w.heap.size + 1, 1, none⟩ (.string (mk (q0.drop 1)))) 2 (cutp q0).1 false (cutp q0).2) := by show QI _ _ _ _ _ _; rw [e]; exact (HQS.out.anch true).pat _
              obtain ⟨t1, ht1⟩ : ∃ t, t = q0.drop 1 := ⟨_, rfl⟩
              rw [← ht1] at hsl1 HQE
              clear e hlen ht1
              go_wp2
              go_meet
              exact HQE.out
          case rest =>
          have HQ1 := Lib.hid hcut
          obtain ⟨q1, hq1⟩ : ∃ q, q = (cutp q0).1 := ⟨_, rfl⟩
          obtain ⟨an, han⟩ : ∃ b, b = (cutp q0).2 := ⟨_, rfl⟩
          have HQL : Hid (q1.length ≤ 4611686018427380000) := by show _ ≤ _; rw [hq1]; have := cutp_len q0; have := HQ0.out; omega
          rw [← hq1, ← han] at HQ1 HP
          clear hcut HQS hq1 han HZQ
          have HZ1 : Hid ((mk q1).size = q1.length) := mk_size q1
          obtain ⟨⟨c0, c1, c2, c3⟩, f0, f1, f2, f3⟩ := cells4 HQ1.out.top
          go_upto_region 18 with (fail)
          go_cut [60] (fun v wy => v = .bool (sufB q1) ∧ wc = wy)
          case first =>
            by_cases hn : q1.length = 0
            · have hI : ¬ (0 : Int) < ((mk q1).size : Int) := by rw [HZ1.out]; omega
              have HE : Hid (sufB q1 = false) := by show _ = _; unfold sufB; exact decide_eq_false (fun h => h.1 (List.eq_nil_of_length_eq_zero hn))
              clear hn
              go_wp2
              go_meet
              exact ⟨by rw [HE.out], rfl⟩
            · have hI : (0 : Int) < ((mk q1).size : Int) := by rw [HZ1.out]; omega
              have hqn : q1 ≠ [] := fun e => hn (by rw [e]; rfl)
              have hy := run_at q1 (q1.length - 1) (by omega)
              have hsub : IntKind.i64.wrap (((mk q1).size : Int) - 1) = ((q1.length - 1 : Nat) : Int) := by rw [HZ1.out, IntWalk.i64_in _ (by have := HQL.out; omega)]; omega
              obtain ⟨k, hk⟩ : ∃ k, k = q1.length - 1 := ⟨_, rfl⟩
              obtain ⟨b1, hb1⟩ : ∃ b, b = nb q1 (q1.length - 1) := ⟨_, rfl⟩
              rw [bt_nb, ← hb1] at hy
              rw [← hk] at hy hsub
              have hks : (k : Int) < ((mk q1).size : Int) := by rw [HZ1.out]; omega
              by_cases h47 : b1 = 47
              · have HE : Hid (sufB q1 = true) := by show _ = _; unfold sufB; exact decide_eq_true ⟨hqn, hb1.symm.trans h47⟩
                have q47 : ((b1 : Int) == 47) = true := by rw [h47]; rfl
                clear hn hqn hk hb1 h47
                go_wp2
                go_meet
                exact ⟨by rw [HE.out], rfl⟩
              · have q47 : ((b1 : Int) == 47) = false := by simpa using fun e => h47 (by omega)
                have HE : Hid (sufB q1 = false) := by show _ = _; unfold sufB; exact decide_eq_false (fun h => h47 (hb1.trans h.2))
                clear hn hqn hk hb1 h47
                go_wp2
                go_meet
                exact ⟨by rw [HE.out], rfl⟩
          case rest =>
          obtain ⟨rfl, rfl⟩ := hcut
          go_upto_if 60 with (fail)
          go_cut [] (fun wy => QI w wy 2 (cuts q1).1 (cuts q1).2 an)
          case first =>
            cases hb : sufB q1 with
            | false =>
              have e : cuts q1 = (q1, false) := by unfold cuts; rw [hb]; rfl
              have HQE : Hid (QI w wc 2 (cuts q1).1 (cuts q1).2 an) := by show QI _ _ _ _ _ _; rw [e]; exact HQ1.out
              clear e
              go_wp2
              go_meet
              exact HQE.out
            | true =>
              have hq := of_decide_eq_true hb
              have hlen : 0 < q1.length := List.length_pos_iff.2 hq.1
              have e : cuts q1 = (q1.take (q1.length - 1), true) := by unfold cuts; rw [if_pos hb]
              have hsub : IntKind.i64.wrap (((mk q1).size : Int) - 1) = ((q1.length - 1 : Nat) : Int) := by rw [HZ1.out, IntWalk.i64_in _ (by have := HQL.out; omega)]; omega
              have hsl1 := run_hd q1 (q1.length - 1) (by omega)
              have HQE : Hid (QI w ((wc.setCell ⟨w.heap.size + 1, 2, none⟩ (.bool true)).setCell ⟨w.heap.size + 1, 1, none⟩ (.string (mk (q1.take (q1.length - 1))))) 2 (cuts q1).1 (cuts q1).2 an) := by show QI _ _ _ _ _ _; rw [e]; exact (HQ1.out.dir true).pat _
              obtain ⟨k, hk⟩ : ∃ k, k = q1.length - 1 := ⟨_, rfl⟩
              rw [← hk] at hsub hsl1 HQE
              have hks : (k : Int) ≤ ((mk q1).size : Int) := by rw [HZ1.out]; omega
              clear e hlen hq hk
              go_wp2
              go_meet
              exact HQE.out
          case rest =>
          have HQ2 := Lib.hid hcut
          obtain ⟨q2, hq2⟩ : ∃ q, q = (cuts q1).1 := ⟨_, rfl⟩
          obtain ⟨d2, hd2⟩ : ∃ b, b = (cuts q1).2 := ⟨_, rfl⟩
          have hql : q2.length ≤ 4611686018427380000 := by rw [hq2]; have := cuts_len q1; have := HQL.out; omega
          rw [← hq2, ← hd2] at HQ2 HP
          clear hcut HQ1 hq2 hd2 HZ1 c0 c1 c2 c3 f0 f1 f2 f3
          obtain ⟨⟨c0, c1, c2, c3⟩, f0, f1, f2, f3⟩ := cells4 HQ2.out.top
          have HON : Hid (Calls Tryd.prog 49 #[.agg #[.int .i64 2, .string (mk q2), .bool d2, .bool an]] _ fun e w' => e = .returned (.int .i64 (refE 2 q2)) ∧ QI w w' 2 q2 d2 an) := (rone_any 2 q2 d2 an _ (by omega)).mono fun e w' ⟨h1, h2⟩ => ⟨h1, HQ2.out.later h2⟩
          have HFIN : Hid (∀ wy, QI w wy 2 q2 d2 an → ∀ x0 x1 x2 x3 : Value, ((((wy.setCell ⟨w.heap.size, 0, none⟩ x0).setCell ⟨w.heap.size, 1, none⟩ x1).setCell ⟨w.heap.size, 2, none⟩ x2).setCell ⟨w.heap.size, 3, none⟩ x3).heap[w.heap.size]? = some (.cells #[x0, x1, x2, x3] 42) ∧ Below w.heap.size w ((((wy.setCell ⟨w.heap.size, 0, none⟩ x0).setCell ⟨w.heap.size, 1, none⟩ x1).setCell ⟨w.heap.size, 2, none⟩ x2).setCell ⟨w.heap.size, 3, none⟩ x3)) := fun wy h x0 x1 x2 x3 => ⟨row4 h.res x0 x1 x2 x3, ((((h.bel.setCell (Nat.le_refl _) _).setCell (Nat.le_refl _) _).setCell (Nat.le_refl _) _).setCell (Nat.le_refl _) _)⟩
          clear hql
          by_cases hz : refE 2 q2 = 0
          · have HPR : Hid (parseR l = (⟨2, q2, d2, an⟩, 0)) := by show _ = _; rw [HP.out, if_neg (by simpa using hz)]
            rw [hz] at HON
            clear hz
            go_wp2_with (go_at_call 49; refine HON.out.mono ?_; rintro e wy ⟨rfl, hq⟩; obtain ⟨⟨a0, a1, a2, a3⟩, b0, b1, b2, b3⟩ := cells4 hq.res; obtain ⟨⟨d0, d1, d2', d3⟩, -⟩ := cells4 hq.top; have HQF := Lib.hid (HFIN.out wy hq (.int .i64 2) (.string (mk q2)) (.bool d2) (.bool an)); clear hq)
            try simp only [Exit.inBlock, Exit.then]
            refine bodyPost_ret (v := .tuple #[.agg #[.int .i64 2, .string (mk q2), .bool d2, .bool an], .int .i64 0]) (results_cell2_row (p := 2) (u := 3) rfl _ _ w.heap.size 42 #[.int .i64 2, .string (mk q2), .bool d2, .bool an] (0, 0) _ rfl HQF.out.1 Tryd.underlying42 rfl (by kernel_rfl)) rfl ?_
            exact ⟨by rw [HPR.out]; rfl, HQF.out.2⟩
          · have HPR : Hid (parseR l = (zeroRu, refE 2 q2)) := by show _ = _; rw [HP.out, if_pos hz]
            have hne : (refE 2 q2 == 0) = false := by simpa using hz
            generalize refE 2 q2 = er at *
            clear hz
            go_wp2_with (go_at_call 49; refine HON.out.mono ?_; rintro e wy ⟨rfl, hq⟩; obtain ⟨⟨a0, a1, a2, a3⟩, b0, b1, b2, b3⟩ := cells4 hq.res; have HQF := Lib.hid (HFIN.out wy hq (.int .i64 0) (.string { data := #[] }) (.bool false) (.bool false)); clear hq)
            try simp only [Exit.inBlock, Exit.then]
            refine bodyPost_ret (v := .tuple #[.agg #[.int .i64 0, .string { data := #[] }, .bool false, .bool false], .int .i64 er]) (results_cell2_row (p := 2) (u := 3) rfl _ _ w.heap.size 42 #[.int .i64 0, .string { data := #[] }, .bool false, .bool false] (0, 0) _ rfl HQF.out.1 Tryd.underlying42 rfl (by kernel_rfl)) rfl ?_
            exact ⟨by rw [HPR.out]; rfl, HQF.out.2⟩
        · have q45 : ((nb l 0 : Int) == 45) = false := by simpa using fun e => h45 (by omega)
          by_cases h80 : nb l 0 = 80
          · have HP := Lib.hid (HPE.out 3 (sg3 h80 (by omega)) (by omega))
            rw [h80] at hx0
            have HQS := Lib.hid (QI.start w 3 q0)
            have HZQ : Hid ((mk q0).size = q0.length) := mk_size q0
            clear h2 hs hl sg1 sg2 sg3 sg4 sg5 h32 hq0 HPE HR0 HB0
            go_enter Tryd.func31, Tryd.ntmps31
            go_upto_region 14 with (fail)
            generalize ((w.alloc (.cells #[.int .i64 0, .string { data := #[] }, .bool false, .bool false] 42)).alloc (.cells #[.int .i64 3, .string (mk q0), .bool false, .bool false] 42)) = wx at HQS ⊢
            go_cut [42] (fun v wy => v = .bool ([47].isPrefixOf q0) ∧ wx = wy)
            case first =>
              obtain ⟨⟨c0, c1, c2, c3⟩, -⟩ := cells4 HQS.out.top
              by_cases hn : q0 = []
              · have he := emptyT hn
                have HE : Hid ([47].isPrefixOf q0 = false) := by show _ = _; rw [hn]; rfl
                clear hn
                go_wp2
                go_meet
                exact ⟨by rw [HE.out], rfl⟩
              · have he := emptyF hn
                have hl0 : 0 < q0.length := List.length_pos_iff.2 hn
                have hz0 : (0 : Int) < ((mk q0).size : Int) := by rw [HZQ.out]; omega
                have hy0 := run_at q0 0 hl0
                simp only [Int.cast_ofNat_Int] at hy0
                rw [bt_nb] at hy0
                by_cases h47 : nb q0 0 = 47
                · have HE : Hid ([47].isPrefixOf q0 = true) := (pre_slash q0).2 ⟨hl0, h47⟩
                  rw [h47] at hy0
                  clear hn hl0 h47
                  go_wp2
                  go_meet
                  exact ⟨by rw [HE.out], rfl⟩
                · have q47 : ((nb q0 0 : Int) == 47) = false := by simpa using fun e => h47 (by omega)
                  have HE : Hid ([47].isPrefixOf q0 = false) := by
                    show _ = _; rw [Bool.eq_false_iff]; exact fun h => h47 ((pre_slash q0).1 h).2
                  generalize nb q0 0 = bq at *
                  clear hn hl0 h47
                  go_wp2
                  go_meet
                  exact ⟨by rw [HE.out], rfl⟩
            case rest =>
            obtain ⟨rfl, rfl⟩ := hcut
            go_upto_if 42 with (fail)
            go_cut [] (fun wy => QI w wy 3 (cutp q0).1 false (cutp q0).2)
            case first =>
              obtain ⟨⟨c0, c1, c2, c3⟩, f0, f1, f2, f3⟩ := cells4 HQS.out.top
              cases hb : [47].isPrefixOf q0 with
              | false =>
                have e : cutp q0 = (q0, false) := by unfold cutp; rw [hb]; rfl
                have HQE : Hid (QI w wx 3 (cutp q0).1 false (cutp q0).2) := by show QI _ _ _ _ _ _; rw [e]; exact HQS.out
                clear e
                go_wp2
                go_meet
                exact HQE.out
              | true =>
                have hlen := ((pre_slash q0).1 hb).1
                have e : cutp q0 = (q0.drop 1, true) := by unfold cutp; rw [if_pos hb]
                have hsl1 := run_tl q0 1 hlen
                simp only [Int.cast_ofNat_Int] at hsl1
                have hz1 : (1 : Int) ≤ ((mk q0).size : Int) := by rw [HZQ.out]; omega
                have HQE : Hid (QI w ((wx.setCell ⟨w.heap.size + 1, 3, none⟩ (.bool true)).setCell ⟨w.heap.size + 1, 1, none⟩ (.string (mk (q0.drop 1)))) 3 (cutp q0).1 false (cutp q0).2) := by show QI _ _ _ _ _ _; rw [e]; exact (HQS.out.anch true).pat _
                obtain ⟨t1, ht1⟩ : ∃ t, t = q0.drop 1 := ⟨_, rfl⟩
                rw [← ht1] at hsl1 HQE
                clear e hlen ht1
                go_wp2
                go_meet
                exact HQE.out
            case rest =>
            have HQ1 := Lib.hid hcut
            obtain ⟨q1, hq1⟩ : ∃ q, q = (cutp q0).1 := ⟨_, rfl⟩
            obtain ⟨an, han⟩ : ∃ b, b = (cutp q0).2 := ⟨_, rfl⟩
            have HQL : Hid (q1.length ≤ 4611686018427380000) := by show _ ≤ _; rw [hq1]; have := cutp_len q0; have := HQ0.out; omega
            rw [← hq1, ← han] at HQ1 HP
            clear hcut HQS hq1 han HZQ
            have HZ1 : Hid ((mk q1).size = q1.length) := mk_size q1
            obtain ⟨⟨c0, c1, c2, c3⟩, f0, f1, f2, f3⟩ := cells4 HQ1.out.top
            go_upto_region 18 with (fail)
            go_cut [60] (fun v wy => v = .bool (sufB q1) ∧ wc = wy)
            case first =>
              by_cases hn : q1.length = 0
              · have hI : ¬ (0 : Int) < ((mk q1).size : Int) := by rw [HZ1.out]; omega
                have HE : Hid (sufB q1 = false) := by show _ = _; unfold sufB; exact decide_eq_false (fun h => h.1 (List.eq_nil_of_length_eq_zero hn))
                clear hn
                go_wp2
                go_meet
                exact ⟨by rw [HE.out], rfl⟩
              · have hI : (0 : Int) < ((mk q1).size : Int) := by rw [HZ1.out]; omega
                have hqn : q1 ≠ [] := fun e => hn (by rw [e]; rfl)
                have hy := run_at q1 (q1.length - 1) (by omega)
                have hsub : IntKind.i64.wrap (((mk q1).size : Int) - 1) = ((q1.length - 1 : Nat) : Int) := by rw [HZ1.out, IntWalk.i64_in _ (by have := HQL.out; omega)]; omega
                obtain ⟨k, hk⟩ : ∃ k, k = q1.length - 1 := ⟨_, rfl⟩
                obtain ⟨b1, hb1⟩ : ∃ b, b = nb q1 (q1.length - 1) := ⟨_, rfl⟩
                rw [bt_nb, ← hb1] at hy
                rw [← hk] at hy hsub
                have hks : (k : Int) < ((mk q1).size : Int) := by rw [HZ1.out]; omega
                by_cases h47 : b1 = 47
                · have HE : Hid (sufB q1 = true) := by show _ = _; unfold sufB; exact decide_eq_true ⟨hqn, hb1.symm.trans h47⟩
                  have q47 : ((b1 : Int) == 47) = true := by rw [h47]; rfl
                  clear hn hqn hk hb1 h47
                  go_wp2
                  go_meet
                  exact ⟨by rw [HE.out], rfl⟩
                · have q47 : ((b1 : Int) == 47) = false := by simpa using fun e => h47 (by omega)
                  have HE : Hid (sufB q1 = false) := by show _ = _; unfold sufB; exact decide_eq_false (fun h => h47 (hb1.trans h.2))
                  clear hn hqn hk hb1 h47
                  go_wp2
                  go_meet
                  exact ⟨by rw [HE.out], rfl⟩
            case rest =>
            obtain ⟨rfl, rfl⟩ := hcut
            go_upto_if 60 with (fail)
            go_cut [] (fun wy => QI w wy 3 (cuts q1).1 (cuts q1).2 an)
            case first =>
              cases hb : sufB q1 with
              | false =>
                have e : cuts q1 = (q1, false) := by unfold cuts; rw [hb]; rfl
                have HQE : Hid (QI w wc 3 (cuts q1).1 (cuts q1).2 an) := by show QI _ _ _ _ _ _; rw [e]; exact HQ1.out
                clear e
                go_wp2
                go_meet
                exact HQE.out
              | true =>
                have hq := of_decide_eq_true hb
                have hlen : 0 < q1.length := List.length_pos_iff.2 hq.1
                have e : cuts q1 = (q1.take (q1.length - 1), true) := by unfold cuts; rw [if_pos hb]
                have hsub : IntKind.i64.wrap (((mk q1).size : Int) - 1) = ((q1.length - 1 : Nat) : Int) := by rw [HZ1.out, IntWalk.i64_in _ (by have := HQL.out; omega)]; omega
                have hsl1 := run_hd q1 (q1.length - 1) (by omega)
                have HQE : Hid (QI w ((wc.setCell ⟨w.heap.size + 1, 2, none⟩ (.bool true)).setCell ⟨w.heap.size + 1, 1, none⟩ (.string (mk (q1.take (q1.length - 1))))) 3 (cuts q1).1 (cuts q1).2 an) := by show QI _ _ _ _ _ _; rw [e]; exact (HQ1.out.dir true).pat _
                obtain ⟨k, hk⟩ : ∃ k, k = q1.length - 1 := ⟨_, rfl⟩
                rw [← hk] at hsub hsl1 HQE
                have hks : (k : Int) ≤ ((mk q1).size : Int) := by rw [HZ1.out]; omega
                clear e hlen hq hk
                go_wp2
                go_meet
                exact HQE.out
            case rest =>
            have HQ2 := Lib.hid hcut
            obtain ⟨q2, hq2⟩ : ∃ q, q = (cuts q1).1 := ⟨_, rfl⟩
            obtain ⟨d2, hd2⟩ : ∃ b, b = (cuts q1).2 := ⟨_, rfl⟩
            have hql : q2.length ≤ 4611686018427380000 := by rw [hq2]; have := cuts_len q1; have := HQL.out; omega
            rw [← hq2, ← hd2] at HQ2 HP
            clear hcut HQ1 hq2 hd2 HZ1 c0 c1 c2 c3 f0 f1 f2 f3
            obtain ⟨⟨c0, c1, c2, c3⟩, f0, f1, f2, f3⟩ := cells4 HQ2.out.top
            have HON : Hid (Calls Tryd.prog 49 #[.agg #[.int .i64 3, .string (mk q2), .bool d2, .bool an]] _ fun e w' => e = .returned (.int .i64 (refE 3 q2)) ∧ QI w w' 3 q2 d2 an) := (rone_any 3 q2 d2 an _ (by omega)).mono fun e w' ⟨h1, h2⟩ => ⟨h1, HQ2.out.later h2⟩
            have HFIN : Hid (∀ wy, QI w wy 3 q2 d2 an → ∀ x0 x1 x2 x3 : Value, ((((wy.setCell ⟨w.heap.size, 0, none⟩ x0).setCell ⟨w.heap.size, 1, none⟩ x1).setCell ⟨w.heap.size, 2, none⟩ x2).setCell ⟨w.heap.size, 3, none⟩ x3).heap[w.heap.size]? = some (.cells #[x0, x1, x2, x3] 42) ∧ Below w.heap.size w ((((wy.setCell ⟨w.heap.size, 0, none⟩ x0).setCell ⟨w.heap.size, 1, none⟩ x1).setCell ⟨w.heap.size, 2, none⟩ x2).setCell ⟨w.heap.size, 3, none⟩ x3)) := fun wy h x0 x1 x2 x3 => ⟨row4 h.res x0 x1 x2 x3, ((((h.bel.setCell (Nat.le_refl _) _).setCell (Nat.le_refl _) _).setCell (Nat.le_refl _) _).setCell (Nat.le_refl _) _)⟩
            clear hql
            by_cases hz : refE 3 q2 = 0
            · have HPR : Hid (parseR l = (⟨3, q2, d2, an⟩, 0)) := by show _ = _; rw [HP.out, if_neg (by simpa using hz)]
              rw [hz] at HON
              clear hz
              go_wp2_with (go_at_call 49; refine HON.out.mono ?_; rintro e wy ⟨rfl, hq⟩; obtain ⟨⟨a0, a1, a2, a3⟩, b0, b1, b2, b3⟩ := cells4 hq.res; obtain ⟨⟨d0, d1, d2', d3⟩, -⟩ := cells4 hq.top; have HQF := Lib.hid (HFIN.out wy hq (.int .i64 3) (.string (mk q2)) (.bool d2) (.bool an)); clear hq)
              try simp only [Exit.inBlock, Exit.then]
              refine bodyPost_ret (v := .tuple #[.agg #[.int .i64 3, .string (mk q2), .bool d2, .bool an], .int .i64 0]) (results_cell2_row (p := 2) (u := 3) rfl _ _ w.heap.size 42 #[.int .i64 3, .string (mk q2), .bool d2, .bool an] (0, 0) _ rfl HQF.out.1 Tryd.underlying42 rfl (by kernel_rfl)) rfl ?_
              exact ⟨by rw [HPR.out]; rfl, HQF.out.2⟩
            · have HPR : Hid (parseR l = (zeroRu, refE 3 q2)) := by show _ = _; rw [HP.out, if_pos hz]
              have hne : (refE 3 q2 == 0) = false := by simpa using hz
              generalize refE 3 q2 = er at *
              clear hz
              go_wp2_with (go_at_call 49; refine HON.out.mono ?_; rintro e wy ⟨rfl, hq⟩; obtain ⟨⟨a0, a1, a2, a3⟩, b0, b1, b2, b3⟩ := cells4 hq.res; have HQF := Lib.hid (HFIN.out wy hq (.int .i64 0) (.string { data := #[] }) (.bool false) (.bool false)); clear hq)
              try simp only [Exit.inBlock, Exit.then]
              refine bodyPost_ret (v := .tuple #[.agg #[.int .i64 0, .string { data := #[] }, .bool false, .bool false], .int .i64 er]) (results_cell2_row (p := 2) (u := 3) rfl _ _ w.heap.size 42 #[.int .i64 0, .string { data := #[] }, .bool false, .bool false] (0, 0) _ rfl HQF.out.1 Tryd.underlying42 rfl (by kernel_rfl)) rfl ?_
              exact ⟨by rw [HPR.out]; rfl, HQF.out.2⟩
          · have q80 : ((nb l 0 : Int) == 80) = false := by simpa using fun e => h80 (by omega)
            by_cases h82 : nb l 0 = 82
            · have HP := Lib.hid (HPE.out 4 (sg4 h82 (by omega)) (by omega))
              rw [h82] at hx0
              have HQS := Lib.hid (QI.start w 4 q0)
              have HZQ : Hid ((mk q0).size = q0.length) := mk_size q0
              clear h2 hs hl sg1 sg2 sg3 sg4 sg5 h32 hq0 HPE HR0 HB0
              go_enter Tryd.func31, Tryd.ntmps31
              go_upto_region 14 with (fail)
              generalize ((w.alloc (.cells #[.int .i64 0, .string { data := #[] }, .bool false, .bool false] 42)).alloc (.cells #[.int .i64 4, .string (mk q0), .bool false, .bool false] 42)) = wx at HQS ⊢
              go_cut [42] (fun v wy => v = .bool ([47].isPrefixOf q0) ∧ wx = wy)
              case first =>
                obtain ⟨⟨c0, c1, c2, c3⟩, -⟩ := cells4 HQS.out.top
                by_cases hn : q0 = []
                · have he := emptyT hn
                  have HE : Hid ([47].isPrefixOf q0 = false) := by show _ = _; rw [hn]; rfl
                  clear hn
                  go_wp2
                  go_meet
                  exact ⟨by rw [HE.out], rfl⟩
                · have he := emptyF hn
                  have hl0 : 0 < q0.length := List.length_pos_iff.2 hn
                  have hz0 : (0 : Int) < ((mk q0).size : Int) := by rw [HZQ.out]; omega
                  have hy0 := run_at q0 0 hl0
                  simp only [Int.cast_ofNat_Int] at hy0
                  rw [bt_nb] at hy0
                  by_cases h47 : nb q0 0 = 47
                  · have HE : Hid ([47].isPrefixOf q0 = true) := (pre_slash q0).2 ⟨hl0, h47⟩
                    rw [h47] at hy0
                    clear hn hl0 h47
                    go_wp2
                    go_meet
                    exact ⟨by rw [HE.out], rfl⟩
                  · have q47 : ((nb q0 0 : Int) == 47) = false := by simpa using fun e => h47 (by omega)
                    have HE : Hid ([47].isPrefixOf q0 = false) := by
                      show _ = _; rw [Bool.eq_false_iff]; exact fun h => h47 ((pre_slash q0).1 h).2
                    generalize nb q0 0 = bq at *
                    clear hn hl0 h47
                    go_wp2
                    go_meet
                    exact ⟨by rw [HE.out], rfl⟩
              case rest =>
              obtain ⟨rfl, rfl⟩ := hcut
              go_upto_if 42 with (fail)
              go_cut [] (fun wy => QI w wy 4 (cutp q0).1 false (cutp q0).2)
              case first =>
                obtain ⟨⟨c0, c1, c2, c3⟩, f0, f1, f2, f3⟩ := cells4 HQS.out.top
                cases hb : [47].isPrefixOf q0 with
                | false =>
                  have e : cutp q0 = (q0, false) := by unfold cutp; rw [hb]; rfl
                  have HQE : Hid (QI w wx 4 (cutp q0).1 false (cutp q0).2) := by show QI _ _ _ _ _ _; rw [e]; exact HQS.out
                  clear e
                  go_wp2
                  go_meet
                  exact HQE.out
                | true =>
                  have hlen := ((pre_slash q0).1 hb).1
                  have e : cutp q0 = (q0.drop 1, true) := by unfold cutp; rw [if_pos hb]
                  have hsl1 := run_tl q0 1 hlen
                  simp only [Int.cast_ofNat_Int] at hsl1
                  have hz1 : (1 : Int) ≤ ((mk q0).size : Int) := by rw [HZQ.out]; omega
                  have HQE : Hid (QI w ((wx.setCell ⟨w.heap.size + 1, 3, none⟩ (.bool true)).setCell ⟨w.heap.size + 1, 1, none⟩ (.string (mk (q0.drop 1)))) 4 (cutp q0).1 false (cutp q0).2) := by show QI _ _ _ _ _ _; rw [e]; exact (HQS.out.anch true).pat _
                  obtain ⟨t1, ht1⟩ : ∃ t, t = q0.drop 1 := ⟨_, rfl⟩
                  rw [← ht1] at hsl1 HQE
                  clear e hlen ht1
                  go_wp2
                  go_meet
                  exact HQE.out
              case rest =>
              have HQ1 := Lib.hid hcut
              obtain ⟨q1, hq1⟩ : ∃ q, q = (cutp q0).1 := ⟨_, rfl⟩
              obtain ⟨an, han⟩ : ∃ b, b = (cutp q0).2 := ⟨_, rfl⟩
              have HQL : Hid (q1.length ≤ 4611686018427380000) := by show _ ≤ _; rw [hq1]; have := cutp_len q0; have := HQ0.out; omega
              rw [← hq1, ← han] at HQ1 HP
              clear hcut HQS hq1 han HZQ
              have HZ1 : Hid ((mk q1).size = q1.length) := mk_size q1
              obtain ⟨⟨c0, c1, c2, c3⟩, f0, f1, f2, f3⟩ := cells4 HQ1.out.top
              go_upto_region 18 with (fail)
              go_cut [60] (fun v wy => v = .bool (sufB q1) ∧ wc = wy)
              case first =>
                by_cases hn : q1.length = 0
                · have hI : ¬ (0 : Int) < ((mk q1).size : Int) := by rw [HZ1.out]; omega
                  have HE : Hid (sufB q1 = false) := by show _ = _; unfold sufB; exact decide_eq_false (fun h => h.1 (List.eq_nil_of_length_eq_zero hn))
                  clear hn
                  go_wp2
                  go_meet
                  exact ⟨by rw [HE.out], rfl⟩
                · have hI : (0 : Int) < ((mk q1).size : Int) := by rw [HZ1.out]; omega
                  have hqn : q1 ≠ [] := fun e => hn (by rw [e]; rfl)
                  have hy := run_at q1 (q1.length - 1) (by omega)
                  have hsub : IntKind.i64.wrap (((mk q1).size : Int) - 1) = ((q1.length - 1 : Nat) : Int) := by rw [HZ1.out, IntWalk.i64_in _ (by have := HQL.out; omega)]; omega
                  obtain ⟨k, hk⟩ : ∃ k, k = q1.length - 1 := ⟨_, rfl⟩
                  obtain ⟨b1, hb1⟩ : ∃ b, b = nb q1 (q1.length - 1) := ⟨_, rfl⟩
                  rw [bt_nb, ← hb1] at hy
                  rw [← hk] at hy hsub
                  have hks : (k : Int) < ((mk q1).size : Int) := by rw [HZ1.out]; omega
                  by_cases h47 : b1 = 47
                  · have HE : Hid (sufB q1 = true) := by show _ = _; unfold sufB; exact decide_eq_true ⟨hqn, hb1.symm.trans h47⟩
                    have q47 : ((b1 : Int) == 47) = true := by rw [h47]; rfl
                    clear hn hqn hk hb1 h47
                    go_wp2
                    go_meet
                    exact ⟨by rw [HE.out], rfl⟩
                  · have q47 : ((b1 : Int) == 47) = false := by simpa using fun e => h47 (by omega)
                    have HE : Hid (sufB q1 = false) := by show _ = _; unfold sufB; exact decide_eq_false (fun h => h47 (hb1.trans h.2))
                    clear hn hqn hk hb1 h47
                    go_wp2
                    go_meet
                    exact ⟨by rw [HE.out], rfl⟩
              case rest =>
              obtain ⟨rfl, rfl⟩ := hcut
              go_upto_if 60 with (fail)
              go_cut [] (fun wy => QI w wy 4 (cuts q1).1 (cuts q1).2 an)
              case first =>
                cases hb : sufB q1 with
                | false =>
                  have e : cuts q1 = (q1, false) := by unfold cuts; rw [hb]; rfl
                  have HQE : Hid (QI w wc 4 (cuts q1).1 (cuts q1).2 an) := by show QI _ _ _ _ _ _; rw [e]; exact HQ1.out
                  clear e
                  go_wp2
                  go_meet
                  exact HQE.out
                | true =>
                  have hq := of_decide_eq_true hb
                  have hlen : 0 < q1.length := List.length_pos_iff.2 hq.1
                  have e : cuts q1 = (q1.take (q1.length - 1), true) := by unfold cuts; rw [if_pos hb]
                  have hsub : IntKind.i64.wrap (((mk q1).size : Int) - 1) = ((q1.length - 1 : Nat) : Int) := by rw [HZ1.out, IntWalk.i64_in _ (by have := HQL.out; omega)]; omega
                  have hsl1 := run_hd q1 (q1.length - 1) (by omega)
                  have HQE : Hid (QI w ((wc.setCell ⟨w.heap.size + 1, 2, none⟩ (.bool true)).setCell ⟨w.heap.size + 1, 1, none⟩ (.string (mk (q1.take (q1.length - 1))))) 4 (cuts q1).1 (cuts q1).2 an) := by show QI _ _ _ _ _ _; rw [e]; exact (HQ1.out.dir true).pat _
                  obtain ⟨k, hk⟩ : ∃ k, k = q1.length - 1 := ⟨_, rfl⟩
                  rw [← hk] at hsub hsl1 HQE
                  have hks : (k : Int) ≤ ((mk q1).size : Int) := by rw [HZ1.out]; omega
                  clear e hlen hq hk
                  go_wp2
                  go_meet
                  exact HQE.out
              case rest =>
              have HQ2 := Lib.hid hcut
              obtain ⟨q2, hq2⟩ : ∃ q, q = (cuts q1).1 := ⟨_, rfl⟩
              obtain ⟨d2, hd2⟩ : ∃ b, b = (cuts q1).2 := ⟨_, rfl⟩
              have hql : q2.length ≤ 4611686018427380000 := by rw [hq2]; have := cuts_len q1; have := HQL.out; omega
              rw [← hq2, ← hd2] at HQ2 HP
              clear hcut HQ1 hq2 hd2 HZ1 c0 c1 c2 c3 f0 f1 f2 f3
              obtain ⟨⟨c0, c1, c2, c3⟩, f0, f1, f2, f3⟩ := cells4 HQ2.out.top
              have HON : Hid (Calls Tryd.prog 49 #[.agg #[.int .i64 4, .string (mk q2), .bool d2, .bool an]] _ fun e w' => e = .returned (.int .i64 (refE 4 q2)) ∧ QI w w' 4 q2 d2 an) := (rone_any 4 q2 d2 an _ (by omega)).mono fun e w' ⟨h1, h2⟩ => ⟨h1, HQ2.out.later h2⟩
              have HFIN : Hid (∀ wy, QI w wy 4 q2 d2 an → ∀ x0 x1 x2 x3 : Value, ((((wy.setCell ⟨w.heap.size, 0, none⟩ x0).setCell ⟨w.heap.size, 1, none⟩ x1).setCell ⟨w.heap.size, 2, none⟩ x2).setCell ⟨w.heap.size, 3, none⟩ x3).heap[w.heap.size]? = some (.cells #[x0, x1, x2, x3] 42) ∧ Below w.heap.size w ((((wy.setCell ⟨w.heap.size, 0, none⟩ x0).setCell ⟨w.heap.size, 1, none⟩ x1).setCell ⟨w.heap.size, 2, none⟩ x2).setCell ⟨w.heap.size, 3, none⟩ x3)) := fun wy h x0 x1 x2 x3 => ⟨row4 h.res x0 x1 x2 x3, ((((h.bel.setCell (Nat.le_refl _) _).setCell (Nat.le_refl _) _).setCell (Nat.le_refl _) _).setCell (Nat.le_refl _) _)⟩
              clear hql
              by_cases hz : refE 4 q2 = 0
              · have HPR : Hid (parseR l = (⟨4, q2, d2, an⟩, 0)) := by show _ = _; rw [HP.out, if_neg (by simpa using hz)]
                rw [hz] at HON
                clear hz
                go_wp2_with (go_at_call 49; refine HON.out.mono ?_; rintro e wy ⟨rfl, hq⟩; obtain ⟨⟨a0, a1, a2, a3⟩, b0, b1, b2, b3⟩ := cells4 hq.res; obtain ⟨⟨d0, d1, d2', d3⟩, -⟩ := cells4 hq.top; have HQF := Lib.hid (HFIN.out wy hq (.int .i64 4) (.string (mk q2)) (.bool d2) (.bool an)); clear hq)
                try simp only [Exit.inBlock, Exit.then]
                refine bodyPost_ret (v := .tuple #[.agg #[.int .i64 4, .string (mk q2), .bool d2, .bool an], .int .i64 0]) (results_cell2_row (p := 2) (u := 3) rfl _ _ w.heap.size 42 #[.int .i64 4, .string (mk q2), .bool d2, .bool an] (0, 0) _ rfl HQF.out.1 Tryd.underlying42 rfl (by kernel_rfl)) rfl ?_
                exact ⟨by rw [HPR.out]; rfl, HQF.out.2⟩
              · have HPR : Hid (parseR l = (zeroRu, refE 4 q2)) := by show _ = _; rw [HP.out, if_pos hz]
                have hne : (refE 4 q2 == 0) = false := by simpa using hz
                generalize refE 4 q2 = er at *
                clear hz
                go_wp2_with (go_at_call 49; refine HON.out.mono ?_; rintro e wy ⟨rfl, hq⟩; obtain ⟨⟨a0, a1, a2, a3⟩, b0, b1, b2, b3⟩ := cells4 hq.res; have HQF := Lib.hid (HFIN.out wy hq (.int .i64 0) (.string { data := #[] }) (.bool false) (.bool false)); clear hq)
                try simp only [Exit.inBlock, Exit.then]
                refine bodyPost_ret (v := .tuple #[.agg #[.int .i64 0, .string { data := #[] }, .bool false, .bool false], .int .i64 er]) (results_cell2_row (p := 2) (u := 3) rfl _ _ w.heap.size 42 #[.int .i64 0, .string { data := #[] }, .bool false, .bool false] (0, 0) _ rfl HQF.out.1 Tryd.underlying42 rfl (by kernel_rfl)) rfl ?_
                exact ⟨by rw [HPR.out]; rfl, HQF.out.2⟩
            · have q82 : ((nb l 0 : Int) == 82) = false := by simpa using fun e => h82 (by omega)
              have e : parseR l = (zeroRu, 5) := by unfold parseR; rw [if_pos (.inr (.inr (by rw [sg5 h43 h45 h80 h82]; omega)))]
              rw [e]
              have HQS := Lib.hid (QI.start w 0 q0)
              clear h2 hs hl e sg1 sg2 sg3 sg4 sg5 h43 h45 h80 h82 h32 hq0 HPE
              generalize nb l 0 = b0 at *
              generalize mk q0 = y at *
              go_enter Tryd.func31, Tryd.ntmps31
              go_wp2
              try simp only [Exit.inBlock, Exit.then]
              refine bodyPost_ret (v := .tuple #[.agg #[.int .i64 0, .string { data := #[] }, .bool false, .bool false], .int .i64 5]) (results_cell2_row (p := 2) (u := 3) rfl _ _ w.heap.size 42 #[.int .i64 0, .string { data := #[] }, .bool false, .bool false] (0, 0) _ rfl HQS.out.res Tryd.underlying42 rfl (by kernel_rfl)) rfl ?_
              exact ⟨rfl, HQS.out.bel⟩
    · have hq : ((nb l 1 : Int) == 32) = false := by simpa using fun e => h32 (by omega)
      have e : parseR l = (zeroRu, 5) := by unfold parseR; rw [if_pos (.inr (.inl h32))]
      rw [e]
      clear h2 hs hl e h32
      generalize nb l 1 = b1 at *
      generalize mk l = p at *
      go_enter Tryd.func31, Tryd.ntmps31
      go_wp2
      try simp only [Exit.inBlock, Exit.then]
      refine bodyPost_ret (v := .tuple #[.agg #[.int .i64 0, .string { data := #[] }, .bool false, .bool false], .int .i64 5]) (results_cell2_row (p := 2) (u := 3) rfl _ _ w.heap.size 42 #[.int .i64 0, .string { data := #[] }, .bool false, .bool false] (0, 0) _ rfl HR0.out Tryd.underlying42 rfl (by kernel_rfl)) rfl ?_
      exact ⟨rfl, HB0.out⟩
end Go.Proofs.YtokocfoeohddfaaDoor.Pa
namespace Go.Proofs.YtokocfoeohddfaaDoor.Pa
open Go.RowKit Go.Proofs.YtokocfoeohddfaaDoor.Me
set_option linter.unusedVariables false
set_option linter.unusedSimpArgs false
set_option maxRecDepth 1000000

theorem SOwn.later2 {w w' : World} {base : Nat} {v : Value} {ps : List L8} (h : SOwn w base v ps) (hb : Below w.heap.size w w') : SOwn w' base v ps := by
  obtain ⟨h1, h2⟩ := h
  refine ⟨h1, ?_⟩
  rcases h2 with h2 | ⟨g, cap, cur, h3, h4, h5, h6⟩
  · exact .inl h2
  · exact .inr ⟨g, cap, cur, h3, h4, (hb.block _ (Array.getElem?_eq_some_iff.1 h5).1).trans h5, h6⟩
theorem SOwn.one (w : World) (base : Nat) (p : L8) (hb : base ≤ w.heap.size) : SOwn (w.alloc (.cells #[.string (mk p)] 9)) base (.slice (some ⟨w.heap.size, 0, none⟩) 1 1) [p] :=
  ⟨rfl, .inr ⟨w.heap.size, 1, _, rfl, hb, heap_new _ _, Nat.le_refl _, by unfold maxLen; omega, rfl, rfl⟩⟩
/-- the last text of such a row turned -/
theorem SOwn.last {w : World} {base g n c : Nat} {ds : List L8} {p q : L8} (h : SOwn w base (.slice (some ⟨g, 0, none⟩) n c) (ds ++ [p])) :
    n = ds.length + 1 ∧ base ≤ g ∧ g < w.heap.size ∧ w.cell? ⟨g, ds.length, none⟩ = some (.string (mk p)) ∧ w.frozen? ⟨g, ds.length, none⟩ = false ∧ SOwn (w.setCell ⟨g, ds.length, none⟩ (.string (mk q))) base (.slice (some ⟨g, 0, none⟩) n c) (ds ++ [q]) := by
  obtain ⟨h1, h2⟩ := h
  rcases h2 with ⟨h3, _⟩ | ⟨g', cap, cur, h3, h4, h5, h6, h7, h8, h9⟩
  · cases h3
  · simp only [Value.slice.injEq, Option.some.injEq, Addr.mk.injEq, and_true] at h3
    obtain ⟨rfl, rfl, rfl⟩ := h3
    rw [List.length_append, List.length_singleton] at *
    have hs : strs (ds ++ [p]) = strs ds ++ [.string (mk p)] := by simp [strs]
    have hsl : (strs ds).length = ds.length := by simp [strs]
    rw [hs, Nat.mul_one] at h9
    have hg := congrArg (fun l => l[ds.length]?) h9
    simp only [List.getElem?_take, if_pos (Nat.lt_succ_self _)] at hg
    rw [List.getElem?_append_right (by rw [hsl]; exact Nat.le_refl _), hsl, Nat.sub_self] at hg
    simp at hg
    refine ⟨rfl, h4, (Array.getElem?_eq_some_iff.1 h5).1, ?_, unfrozen h5, ?_⟩
    · rw [cell_of_row _ _ _ _ _ (0, 0) h5]; exact hg
    · refine ⟨by simp [strs], .inr ⟨g, c, cur.setIfInBounds ds.length (.string (mk q)), by rw [List.length_append]; rfl, h4, row_set h5 _ _, by simp; omega, h7, by rw [Array.size_setIfInBounds]; exact h8, ?_⟩⟩
      rw [List.length_append, List.length_singleton, Nat.mul_one, Array.toList_setIfInBounds, List.take_set, h9]
      have : strs (ds ++ [q]) = strs ds ++ [.string (mk q)] := by simp [strs]
      rw [this, List.set_append_right _ _ (by rw [hsl]; exact Nat.le_refl _), hsl, Nat.sub_self]
      rfl
/-- an append of one text to such a row -/
theorem append_str {w : World} {ops : Array Oper} {rest : List Oper} {o : Oper} {a : Act} {Q : Exit → Act → World → Prop}
    (hg : o.guard = none) (s x : Operand) (hop : o.op = Op.call { callee := Callee.builtin Builtin.append, args := #[s, x], argTypes := #[78, 78] })
    (base : Nat) (v : Value) (ps : List L8) (p : L8) (hs : a.eval s = v) (hown : SOwn w base v ps) (ad : Addr) (c : Nat) (hx : a.eval x = .slice (some ad) 1 c)
    (hc : w.cell? ad = some (.string (mk p))) (hl : ps.length ≤ 1000000) (b3 : base ≤ w.heap.size)
    (hK : ∀ v' w', SOwn w' base v' (ps ++ [p]) → Below base w w' → wpList Tryd.prog ops Q rest (a.put o.dst v') w') :
    wpList Tryd.prog ops Q (o :: rest) a w := by
  obtain ⟨i0, hi, hz0, hz1, hz2⟩ := info_parts Tryd.infoStr
  refine wpList_append_own_at (P := Tryd.prog) w hg s x 78 hop base 9 i0 _ 1 16 Tryd.underlying78 hi hz0 hz1 hz2 rfl (by decide) v ps.length (strs ps) hs hown ad 1 c [.string (mk p)] hx rfl
    (by intro j u hj; cases j with
      | zero => simp at hj; subst hj; simpa [Addr.add] using hc
      | succ j => simp at hj) (by intro u hu; simp at hu; subst hu; rfl) (by unfold maxLen; omega) (by omega) b3 ?_
  intro v' w' r1 r2 r3 r4
  refine hK v' w' ?_ ((Below.refl _ _).grown r2 b3 (fun k hk => (World.ownsRow.lt hown k hk).1))
  show w'.ownsRow base 9 1 v' (ps ++ [p]).length (strs (ps ++ [p]))
  rw [List.length_append]
  have : strs (ps ++ [p]) = strs ps ++ [.string (mk p)] := by simp [strs]
  rw [this]
  exact r1
set_option maxHeartbeats 16000000 in
theorem rcut_any (s : L8) (w : World) (hs : s.length ≤ 900000) :
    Calls Tryd.prog 54 #[.string (mk s)] w fun e w' => ∃ v, e = .returned v ∧ SOwn w' w.heap.size v (cutc 10 s) ∧ Below w.heap.size w w' := by
  have HZ : Hid ((mk s).size = s.length) := mk_size s
  have HSL : Hid (s.length ≤ 900000) := hs
  have HO0 : Hid (SOwn (w.alloc (.cells #[.string { data := #[] }] 9)) w.heap.size (.slice (some ⟨w.heap.size, 0, none⟩) 1 1) [[]]) := SOwn.one w w.heap.size [] (Nat.le_refl _)
  have HB0 : Hid (Below w.heap.size w (w.alloc (.cells #[.string { data := #[] }] 9))) := (Below.refl _ _).alloc (Nat.le_refl _) _
  clear hs
  go_enter Tryd.func54, Tryd.ntmps54
  go_wp2
  go_loopw [3, 4] (fun v iv wr => ∃ (i g n c : Nat) (ds : List L8) (p : L8), iv = .int .i64 i ∧ v = .slice (some ⟨g, 0, none⟩) n c ∧ Hid (i ≤ s.length) ∧ Hid (ds.length ≤ i ∧ p.length ≤ i) ∧ Hid (∀ x ∈ p, x ≠ 10) ∧ Hid (cutc 10 s = ds ++ cutc 10 (p ++ s.drop i)) ∧ Hid (SOwn wr w.heap.size v (ds ++ [p])) ∧ Hid (Below w.heap.size w wr)) (fun _ iv _ => s.length - (intOf iv).toNat)
  case atStart => exact ⟨0, w.heap.size, 1, 1, [], [], rfl, rfl, Nat.zero_le _, ⟨Nat.le_refl _, Nat.le_refl _⟩, (by intro x hx; simp at hx), (by show _ = _; simp), HO0, HB0⟩
  case round =>
    clear HO0 HB0
    obtain ⟨i, g, n, c, ds, p, rfl, rfl, HI, HD, HP, HC, HO, HB⟩ := hrel
    by_cases hi : i < s.length
    · have hIi : (i : Int) < ((mk s).size : Int) := by rw [HZ.out]; omega
      have hx := run_at s i hi
      have hsl := HSL.out
      have hd := HD.out
      have hw1 : IntKind.i64.wrap ((i : Int) + 1) = (i : Int) + 1 := IntWalk.i64_in _ (by omega)
      have HIL : Hid (i < s.length) := hi
      obtain ⟨x, r, hxr, hxn, hr⟩ := nb_cons hi
      by_cases h10 : nb s i = 10
      · have hb10 : bt s i = 10 := by rw [bt_nb, h10]; rfl
        rw [hb10] at hx
        have hx10 : x = 10 := UInt8.toNat_inj.1 (by rw [← hxn, h10]; rfl)
        have HCN : Hid (cutc 10 s = (ds ++ [p]) ++ cutc 10 ([] ++ s.drop (i + 1))) := by
          show _ = _
          rw [HC.out, hxr, hx10, hr, cutc_at HP.out]; simp
        have hbA : Below wr.heap.size wr (wr.alloc (.cells #[.string { data := #[] }] 9)) := (Below.refl _ _).alloc (Nat.le_refl _) _
        have HOA : Hid (SOwn (wr.alloc (.cells #[.string { data := #[] }] 9)) w.heap.size (.slice (some ⟨g, 0, none⟩) n c) (ds ++ [p])) := HO.out.later2 hbA
        have HBA : Hid (Below w.heap.size w (wr.alloc (.cells #[.string { data := #[] }] 9))) := HB.out.trans (hbA.mono HB.out.size)
        have HCE : Hid ((wr.alloc (.cells #[.string { data := #[] }] 9)).cell? ⟨wr.heap.size, 0, none⟩ = some (.string (mk []))) := by
          show _ = _; rw [cell_of_row _ _ 0 _ _ (0, 0) (heap_new _ _)]; rfl
        have HLE : Hid ((ds ++ [p]).length ≤ 1000000) := by show _ ≤ _; rw [List.length_append]; simp only [List.length_cons, List.length_nil]; omega
        have HDN : Hid ((ds ++ [p]).length ≤ i + 1 ∧ ([] : L8).length ≤ i + 1) := by show _ ∧ _; rw [List.length_append]; simp only [List.length_cons, List.length_nil]; omega
        clear hi hsl hd hxr hxn hr h10 hb10 hx10 hbA
        go_wp2_with (at_builtin; go_must (refine append_str rfl (.tmp 16) (.tmp 17) rfl w.heap.size (.slice (some ⟨g, 0, none⟩) n c) (ds ++ [p]) [] rfl HOA.out ⟨wr.heap.size, 0, none⟩ 1 rfl HCE.out HLE.out HBA.out.size ?_); intro v5 w5 hO5 hb5; have HO5 := Lib.hid hO5; have HB5 := Lib.hid (HBA.out.trans hb5); clear hb5 hO5)
        obtain ⟨g5, c5, n5, rfl⟩ : ∃ g c n, v5 = .slice (some ⟨g, 0, none⟩) n c := by
          rcases HO5.out.form with ⟨h, -⟩ | ⟨g, c, h, -⟩
          · simp at h
          · exact ⟨g, c, _, h⟩
        go_roundw
        case rel => exact ⟨i + 1, g5, n5, c5, ds ++ [p], [], by go_num, rfl, by show _ ≤ _; have := HIL.out; omega, HDN, (by intro x hx; simp at hx), HCN, HO5, HB5⟩
        case measure => have := HIL.out; simp [intOf]; omega
      · have hq : (bt s i == 10) = false := bt_ne (n := 10) h10
        have hx10 : x ≠ 10 := fun e => h10 (by rw [hxn, e]; rfl)
        have HCN : Hid (cutc 10 s = ds ++ cutc 10 ((p ++ [x]) ++ s.drop (i + 1))) := by
          show _ = _
          rw [HC.out, hxr, hr]; simp
        have HPN : Hid (∀ y ∈ p ++ [x], y ≠ 10) := by
          intro y hy
          rcases List.mem_append.1 hy with h | h
          · exact HP.out y h
          · simp at h; rw [h]; exact hx10
        obtain ⟨e1, e2, e3, e4, e5, e6⟩ := HO.out.last (q := p ++ [x])
        have hsub : ∀ W, (Instr.slice 9 (.string (mk s)) (some (.int .i64 (i : Int))) (some (.int .i64 ((i : Int) + 1))) none).run Tryd.prog W = .ok (.string (mk [x])) W := fun W => by
          have h := run_sub s i (i + 1) (by omega) hi W
          rw [Nat.add_sub_cancel_left, hxr, show ((i + 1 : Nat) : Int) = (i : Int) + 1 from by omega] at h
          exact h
        have hcat : ∀ W, (Op.stringOp .add (mk p) (mk [x])).run Tryd.prog W = .ok (.string (mk (p ++ [x]))) W := fun W => run_plus p [x] (by simp only [List.length_cons, List.length_nil]; omega) W
        obtain ⟨z, hz⟩ : ∃ z, z = ds.length := ⟨_, rfl⟩
        rw [← hz] at e1 e4 e5 e6
        have hwn : IntKind.i64.wrap ((n : Int) - 1) = (z : Int) := by rw [IntWalk.i64_in _ (by omega)]; omega
        have hzn : (z : Int) < (n : Int) := by omega
        have HON : Hid (SOwn ((wr.setCell ⟨g, z, none⟩ (.string (mk (p ++ [x]))))) w.heap.size (.slice (some ⟨g, 0, none⟩) n c) (ds ++ [p ++ [x]])) := e6
        have HBN : Hid (Below w.heap.size w (wr.setCell ⟨g, z, none⟩ (.string (mk (p ++ [x]))))) := HB.out.setCell e2 _
        have HDN : Hid (ds.length ≤ i + 1 ∧ (p ++ [x]).length ≤ i + 1) := by show _ ∧ _; rw [List.length_append]; simp only [List.length_cons, List.length_nil]; omega
        generalize bt s i = b at *
        generalize mk (p ++ [x]) = y1 at *
        generalize mk [x] = y2 at *
        generalize mk p = y3 at *
        clear hi hsl hd hxr hxn hr h10 hx10 e1 e2 e3 e6 hz
        go_wp2
        go_region
        all_goals go_wp2
        all_goals go_roundw
        case rel => exact ⟨i + 1, g, n, c, ds, p ++ [x], by go_num, rfl, by show _ ≤ _; have := HIL.out; omega, HDN, HPN, HCN, HON.out.later2 ((Below.refl _ _).drew), HBN.out.drew⟩
        case measure => have := HIL.out; simp [intOf]; omega
    · have hIi : ¬ (i : Int) < ((mk s).size : Int) := by rw [HZ.out]; omega
      have hie : i = s.length := by have := HI.out; omega
      have hc := HC.out
      rw [hie, List.drop_length, List.append_nil, cutc_plain HP.out] at hc
      have HF : Hid (SOwn wr w.heap.size (.slice (some ⟨g, 0, none⟩) n c) (cutc 10 s)) := by show SOwn _ _ _ _; rw [hc]; exact HO.out
      clear hi hie hc
      go_wp2
      go_ret
      exact ⟨_, rfl, HF.out, HB.out⟩
end Go.Proofs.YtokocfoeohddfaaDoor.Pa
namespace Go.Proofs.YtokocfoeohddfaaDoor.Pa
open Go.RowKit
set_option linter.unusedVariables false
set_option linter.unusedSimpArgs false
set_option maxRecDepth 100000

/-- a row of rules that may be cut -/
def RuCap (w : World) (v : Value) (L : List Ru) : Prop := RuAt w v L ∧ ∃ a c, v = .slice a L.length c ∧ L.length ≤ c ∧ c ≤ maxLen ∧ (a = none → c = 0)
theorem RuCap.later {w w' : World} {v : Value} {L : List Ru} (h : RuCap w v L) (hb : Below w.heap.size w w') : RuCap w' v L := ⟨h.1.later hb, h.2⟩
theorem open_cap {H : Type} {enc : TypeId × Value → H} {W : World} {base fuel : Nat} {sp : Nat → Bool} {held : Bool} {a : Option Addr} {n c : Nat} {x : DataW H × List MemPlace}
    (h : DataW.trod enc Tryd.prog W base sp held fuel 37 [.slice a n c] = some x) : n ≤ c ∧ c ≤ maxLen ∧ (a = none → c = 0) := by
  rcases Deep.open_slice Tryd.underlying37 h with ⟨hcs, _⟩ | ⟨a', len, cap, m, n', D, Pl, hcs, hb, hl, hm, hmm, hx, hr⟩
  · simp at hcs
    obtain ⟨rfl, rfl, rfl⟩ := hcs
    exact ⟨Nat.le_refl _, Nat.zero_le _, fun _ => rfl⟩
  · simp at hcs
    obtain ⟨rfl, rfl, rfl⟩ := hcs
    exact ⟨hl, hm, fun h => by cases h⟩
theorem elemRu : Tryd.prog.elem 37 = 42 := by kernel_rfl
theorem ru_size (W : World) : (sizeOf (Tryd.prog.elem 37)).run Tryd.prog W = .ok 4 W := by rw [elemRu]; rfl
/-- the rules ahead of a place -/
theorem cut_head {w : World} {a : Option Addr} {L : List Ru} {n c : Nat} (h : RuCap w (.slice a n c) L) (k : Nat) (hk : k ≤ n) :
    (∀ W, (Instr.slice 37 (.slice a n c) none (some (.int .i64 (k : Int))) none).run Tryd.prog W = .ok (.slice a k c) W) ∧ RuCap w (.slice a k c) (L.take k) := by
  obtain ⟨hat, a', c', e, h1, h2, h3⟩ := h
  simp only [Value.slice.injEq] at e
  obtain ⟨rfl, rfl, rfl⟩ := e
  have hl : (L.take k).length = k := by rw [List.length_take]; omega
  refine ⟨fun W => ?_, ?_, a, c, by rw [hl], by rw [hl]; omega, h2, h3⟩
  · have hr := run_slice_h (P := Tryd.prog) (w := W) 37 a L.length c (by rw [elemRu]; exact Tryd.underlying37) .i64 (k : Int) (by omega) (by omega)
    rw [ru_size] at hr
    simp only [Result.andThen, sliced, Int.toNat_natCast, Nat.sub_zero, Nat.zero_mul] at hr
    rw [hr]
    congr 2
    split
    · rfl
    · cases a <;> simp [Addr.add]
  · obtain ⟨a2, c2, e2, hrow⟩ := hat
    simp only [Value.slice.injEq, true_and] at e2
    obtain ⟨rfl, rfl⟩ := e2
    refine ⟨a, c, by rw [hl], fun hn => ?_⟩
    obtain ⟨g, off, ea, hg, hc⟩ := hrow (by intro e; rw [e] at hn; simp at hn)
    refine ⟨g, off, ea, hg, fun i r hr => hc i r ?_⟩
    rw [List.getElem?_take] at hr
    split at hr
    · exact hr
    · cases hr
/-- the rules from a place on -/
theorem cut_tail {w : World} {a : Option Addr} {L : List Ru} {n c : Nat} (h : RuCap w (.slice a n c) L) (k : Nat) (hk : k ≤ n) :
    ∃ a', (∀ W, (Instr.slice 37 (.slice a n c) (some (.int .i64 (k : Int))) none none).run Tryd.prog W = .ok (.slice a' (n - k) (c - k)) W) ∧ RuCap w (.slice a' (n - k) (c - k)) (L.drop k) := by
  obtain ⟨hat, a', c', e, h1, h2, h3⟩ := h
  simp only [Value.slice.injEq] at e
  obtain ⟨rfl, rfl, rfl⟩ := e
  have hl : (L.drop k).length = L.length - k := List.length_drop
  refine ⟨if c = k then a else a.map (·.add (k * 4)), fun W => ?_, ?_, _, c - k, by rw [hl], by rw [hl]; omega, by omega, ?_⟩
  · have hr := run_slice_l (P := Tryd.prog) (w := W) 37 a L.length c (by rw [elemRu]; exact Tryd.underlying37) .i64 (k : Int) (by omega) (by omega)
    rw [ru_size] at hr
    simp only [Result.andThen, sliced, Int.toNat_natCast] at hr
    exact hr
  · obtain ⟨a2, c2, e2, hrow⟩ := hat
    simp only [Value.slice.injEq, true_and] at e2
    obtain ⟨rfl, rfl⟩ := e2
    refine ⟨_, c - k, by rw [hl], fun hn => ?_⟩
    have hkl : k < L.length := by
      rcases Nat.lt_or_ge k L.length with h | h
      · exact h
      · rw [List.drop_eq_nil_of_le h] at hn; exact absurd rfl hn
    obtain ⟨g, off, rfl, hg, hc⟩ := hrow (by intro e; rw [e] at hkl; simp at hkl)
    refine ⟨g, off + k * 4, ?_, hg, fun i r hr => ?_⟩
    · rw [if_neg (by omega)]; simp [add_none]
    · rw [List.getElem?_drop] at hr
      have := hc (k + i) r hr
      rw [show off + (k + i) * 4 = off + k * 4 + i * 4 from by omega] at this
      exact this
  · intro e
    split at e
    · have := h3 e; omega
    · cases a with
      | none => have := h3 rfl; omega
      | some x => simp at e
theorem ruCells_src {w : World} {ad : Addr} {n c : Nat} {M : List Ru} (h : RuAt w (.slice (some ad) n c) M) : ∀ j u, (ruCells M)[j]? = some u → w.cell? (ad.add j) = some u := by
  intro j u hj
  obtain ⟨a', c', e, hrow⟩ := h
  simp only [Value.slice.injEq] at e
  obtain ⟨rfl, rfl, rfl⟩ := e
  have hlt : j < M.length * 4 := by rw [← ruCells_length]; exact (List.getElem?_eq_some_iff.1 hj).1
  obtain ⟨g, off, ea, hg, hc⟩ := hrow (by intro e; rw [e] at hlt; simp at hlt)
  injection ea with ea
  subst ea
  have hj4 := ruCells_get M (j / 4) (j % 4) (by omega)
  rw [show j / 4 * 4 + j % 4 = j from by omega, hj] at hj4
  cases hr : M[j / 4]? with
  | none => rw [hr] at hj4; simp at hj4
  | some r =>
    rw [hr] at hj4
    simp only [Option.bind_some] at hj4
    obtain ⟨c0, c1, c2, c3⟩ := hc (j / 4) r hr
    rw [add_none]
    have hm : j % 4 = 0 ∨ j % 4 = 1 ∨ j % 4 = 2 ∨ j % 4 = 3 := by omega
    have he : j = j / 4 * 4 + j % 4 := by omega
    rcases hm with h | h | h | h <;> rw [h] at hj4 he <;> simp [Ru.cs] at hj4 <;> subst hj4 <;> rw [he]
    · rw [Nat.add_zero]; exact c0
    · rw [← Nat.add_assoc]; exact c1
    · rw [← Nat.add_assoc]; exact c2
    · rw [← Nat.add_assoc]; exact c3
theorem ruCells_one (M : List Ru) : ∀ u ∈ ruCells M, u.oneCell' = true := by
  intro u hu
  obtain ⟨r, _, hr⟩ := List.mem_flatMap.1 hu
  simp [Ru.cs] at hr
  rcases hr with rfl | rfl | rfl | rfl <;> rfl
/-- an append of a row of rules to a row of one's own -/
theorem append_rus {w : World} {ops : Array Oper} {rest : List Oper} {o : Oper} {a : Act} {Q : Exit → Act → World → Prop}
    (hg : o.guard = none) (s x : Operand) (hop : o.op = Op.call { callee := Callee.builtin Builtin.append, args := #[s, x], argTypes := #[37, 37] })
    (base : Nat) (v u : Value) (L M : List Ru) (hs : a.eval s = v) (hown : RuOwn w base v L) (hx : a.eval x = u) (hu : RuCap w u M) (hl : L.length + M.length ≤ 1000000) (b3 : base ≤ w.heap.size)
    (hK : ∀ v' w', RuOwn w' base v' (L ++ M) → Below base w w' → wpList Tryd.prog ops Q rest (a.put o.dst v') w') :
    wpList Tryd.prog ops Q (o :: rest) a w := by
  obtain ⟨i0, hi, hz0, hz1, hz2⟩ := info_parts Tryd.infoRu
  obtain ⟨hat, ad, c, rfl, h1, h2, h3⟩ := hu
  rcases ad with _ | ad
  · have hc := h3 rfl
    subst hc
    have e2 : M = [] := List.eq_nil_of_length_eq_zero (by omega)
    subst e2
    refine wpList_append_own_none hg s x 37 hop base 42 i0 4 Tryd.underlying37 hi v _ _ hs hown hx (hK v w ?_ (Below.refl _ _))
    rw [List.append_nil]; exact hown
  · refine wpList_append_own_at (P := Tryd.prog) w hg s x 37 hop base 42 i0 _ 4 32 Tryd.underlying37 hi hz0 hz1 hz2 rfl (by decide) v L.length (ruCells L) hs hown ad M.length c (ruCells M) hx (by rw [ruCells_length])
      (ruCells_src hat) (ruCells_one M) (by unfold maxLen; omega) (by omega) b3 ?_
    intro v' w' r1 r2 r3 r4
    refine hK v' w' ?_ ((Below.refl _ _).grown r2 b3 (fun k hk => (World.ownsRow.lt hown k hk).1))
    show w'.ownsRow base 42 4 v' (L ++ M).length (ruCells (L ++ M))
    rw [List.length_append]
    have : ruCells (L ++ M) = ruCells L ++ ruCells M := by simp [ruCells]
    rw [this]
    exact r1
theorem RuOwn.cap {w : World} {base : Nat} {v : Value} {L : List Ru} (h : RuOwn w base v L) : RuCap w v L := by
  refine ⟨h.at, ?_⟩
  obtain ⟨h1, h2⟩ := id h
  rcases h2 with ⟨rfl, h0⟩ | ⟨g, cap, cur, rfl, h4, h5, h6, h7, h8, h9⟩
  · exact ⟨none, 0, by rw [h0], by omega, Nat.zero_le _, fun _ => rfl⟩
  · exact ⟨_, cap, rfl, h6, h7, fun h => by cases h⟩
theorem RuOwn.later {w w' : World} {base : Nat} {v : Value} {L : List Ru} (h : RuOwn w base v L) (hb : Below w.heap.size w w') : RuOwn w' base v L := by
  obtain ⟨h1, h2⟩ := h
  refine ⟨h1, ?_⟩
  rcases h2 with h2 | ⟨g, cap, cur, h3, h4, h5, h6⟩
  · exact .inl h2
  · exact .inr ⟨g, cap, cur, h3, h4, (hb.block _ (Array.getElem?_eq_some_iff.1 h5).1).trans h5, h6⟩
/-- a literal row of one rule -/
theorem own_one (w : World) (base : Nat) (r : Ru) (hb : base ≤ w.heap.size) : RuOwn (w.alloc (.cells #[.int .i64 r.act, .string (mk r.pat), .bool r.dir, .bool r.anch] 42)) base (.slice (some ⟨w.heap.size, 0, none⟩) 1 1) [r] := by
  refine ⟨by rw [ruCells_length], .inr ⟨w.heap.size, 1, _, rfl, hb, heap_new _ _, Nat.le_refl _, by unfold maxLen; omega, rfl, rfl⟩⟩
theorem own_zero (w : World) (base : Nat) (hb : base ≤ w.heap.size) : RuOwn (w.alloc (.cells #[] 42)) base (.slice (some ⟨w.heap.size, 0, none⟩) 0 0) [] := by
  refine ⟨rfl, .inr ⟨w.heap.size, 0, _, rfl, hb, heap_new _ _, Nat.le_refl _, by unfold maxLen; omega, rfl, rfl⟩⟩

/-! what is told of rows that are put together -/
theorem first_app (A B : List Ru) (p : L8) (dir drop : Bool) (h : ∀ r ∈ A, counts p dir drop r = false) : firstR (A ++ B) p dir drop = firstR B p dir drop := by
  unfold firstR
  rw [List.find?_append]
  have : A.find? (counts p dir drop) = none := by rw [List.find?_eq_none]; intro r hr; rw [h r hr]; simp
  rw [this]; rfl
theorem first_mid (A F B : List Ru) (p : L8) (dir drop : Bool) (h : ∀ r ∈ F, fitsB r p dir = false) : firstR (A ++ F ++ B) p dir drop = firstR (A ++ B) p dir drop := by
  unfold firstR
  have hf : F.find? (counts p dir drop) = none := by
    rw [List.find?_eq_none]; intro r hr; unfold counts; rw [h r hr]; simp
  rw [List.find?_append, List.find?_append, List.find?_append, hf]
  simp
theorem first_behind (A B : List Ru) (p : L8) (dir drop : Bool) (h : firstR A p dir drop ≠ 0) : firstR (A ++ B) p dir drop = firstR A p dir drop := by
  unfold firstR at h ⊢
  rw [List.find?_append]
  cases hf : A.find? (counts p dir drop) with
  | none => rw [hf] at h; exact absurd rfl h
  | some r => rfl
theorem hidN_same {L M : List Ru} (h : ∀ q d, firstR L q d false = firstR M q d false) : ∀ n p dir, hidN L n p dir = hidN M n p dir := by
  intro n
  induction n with
  | zero => intro p dir; rfl
  | succ n ih => intro p dir; rw [hidN_eq, hidN_eq, h, ih]
def guardR (r : Ru) : Ru := ⟨3, r.pat, r.dir, r.anch⟩
theorem hidden_guard (A L : List Ru) (p : L8) (dir : Bool) (h : ∀ r ∈ A, r.act = 3) : hiddenB (A ++ L) p dir = hiddenB L p dir := by
  unfold hiddenB
  rw [hidN_same (fun q d => first_app A L q d false (fun r hr => by unfold counts shows; rw [h r hr]; simp))]
/-- those of a row that do not match -/
def notM (M : List Ru) (p : L8) (dir : Bool) : List Ru := M.filter fun r => !matchR r p dir
theorem notM_snoc {M : List Ru} {k : Nat} {r : Ru} (h : M[k]? = some r) (p : L8) (dir : Bool) : notM (M.take (k + 1)) p dir = notM (M.take k) p dir ++ (if matchR r p dir then [] else [r]) := by
  rw [List.take_add_one, h]
  unfold notM
  simp only [Option.toList_some, List.filter_append]
  congr 1
  rw [List.filter_cons]
  cases matchR r p dir <;> rfl
theorem notM_fits {M : List Ru} {p : L8} {dir : Bool} (hr : ruledB p = true) : ∀ r ∈ notM M p dir, fitsB r p dir = false := by
  intro r h
  have := (List.mem_filter.1 h).2
  unfold matchR at this
  rw [hr] at this
  simpa using this
theorem idle_act (L M : List Ru) (k : Nat) (p : L8) (dir drop : Bool) (hr : ruledB p = true) : actR (L.take k ++ notM M p dir ++ L.drop k) p dir drop = actR L p dir drop := by
  unfold actR
  rw [first_mid _ _ _ _ _ _ (notM_fits hr), List.take_append_drop]
theorem behind_act (L M : List Ru) (p : L8) (dir drop : Bool) (h : actR L p dir drop ≠ 0) : actR (L ++ M) p dir drop = actR L p dir drop := by
  unfold actR at h ⊢
  by_cases hr : ruledB p = true
  · rw [if_pos hr] at h ⊢
    rw [if_pos hr, first_behind _ _ _ _ _ h]
  · rw [if_neg hr] at h; exact absurd rfl h
/-- guards, the last one ahead -/
def guards (M : List Ru) : List Ru := (M.map guardR).reverse
theorem guards_snoc {M : List Ru} {k : Nat} {r : Ru} (h : M[k]? = some r) : guards (M.take (k + 1)) = guardR r :: guards (M.take k) := by
  rw [List.take_add_one, h]; simp [guards]
theorem guards_act (M : List Ru) : ∀ r ∈ guards M, r.act = 3 := by
  intro r h
  unfold guards at h
  rw [List.mem_reverse, List.mem_map] at h
  obtain ⟨x, _, rfl⟩ := h
  rfl
theorem light_app {A B : List Ru} (hA : ∀ r ∈ A, r.pat.length ≤ 200) (hB : ∀ r ∈ B, r.pat.length ≤ 200) (hl : A.length + B.length ≤ 1000) : LightR (A ++ B) := by
  refine ⟨by rw [List.length_append]; omega, fun r hr => ?_⟩
  rcases List.mem_append.1 hr with h | h
  · have := hA r h; omega
  · have := hB r h; omega
end Go.Proofs.YtokocfoeohddfaaDoor.Pa
namespace Go.Proofs.YtokocfoeohddfaaDoor.Pa
open Go.RowKit
set_option linter.unusedVariables false
set_option linter.unusedSimpArgs false
set_option maxRecDepth 100000

theorem below_drewN {B : Nat} {w W : World} (h : Below B w W) (n : Nat) : Below B w (W.drewN n) := ⟨h.os, h.tape, h.output, h.size, h.block⟩
theorem ruStood : Tryd.prog.stoodInHeld 42 = false := by kernel_rfl
theorem ruGuard : Tryd.prog.eqGuardType Tryd.prog.depth 42 = false := by kernel_rfl
theorem eq_ru (r s : Ru) (W : World) : (Op.equalIn 10000 42 (.agg #[.int .i64 r.act, .string (mk r.pat), .bool r.dir, .bool r.anch]) (.agg #[.int .i64 s.act, .string (mk s.pat), .bool s.dir, .bool s.anch])).run Tryd.prog W = .ok (decide (r = s)) W := by
  have u := Tryd.underlying42
  have u1 := Tryd.underlying3
  have u2 := Tryd.underlying9
  have u3 := Tryd.underlying4
  have i1 := Tryd.isAgg3
  have i2 := Tryd.isAgg9
  have i3 := Tryd.isAgg4
  have he := eqs r.pat s.pat
  obtain ⟨a1, p1, d1, n1⟩ := r
  obtain ⟨a2, p2, d2, n2⟩ := s
  simp only at he ⊢
  rw [show (10000 : Nat) = 9999 + 1 from rfl, run_equalIn_struct W 9999 _ _ _ (by simp [Program.fieldsOf, u]) ruStood]
  simp only [Program.fieldsOf, u]
  rw [show (9999 : Nat) = 9998 + 1 from rfl]
  go_simp
  rw [mk_toList, mk_toList] at he
  by_cases h1 : a1 = a2 <;> by_cases h2 : p1 = p2 <;> by_cases h3 : d1 = d2 <;> by_cases h4 : n1 = n2 <;> simp_all [mk_toList]
set_option maxHeartbeats 8000000 in
theorem same_any (L M : List Ru) (v u : Value) (w : World) (hv : RuAt w v L) (hu : RuAt w u M) (hL : L.length ≤ 1000000) (hM : M.length ≤ 1000000) :
    Calls Tryd.prog 34 #[v, u] w fun e w' => e = .returned (.bool (decide (L = M))) ∧ Below w.heap.size w w' := by
  obtain ⟨a, c, rfl, hrow⟩ := hv
  obtain ⟨b, d, rfl, hrow2⟩ := hu
  obtain ⟨R, hR⟩ : ∃ R, R = decide (L = M) := ⟨_, rfl⟩
  rw [← hR]
  have HROW := Lib.hid hrow
  have HROW2 := Lib.hid hrow2
  clear hrow hrow2
  by_cases hlen : L.length = M.length
  · have H0 : Hid (R = decide (L.drop 0 = M.drop 0)) := hR
    have HLM := Lib.hid hlen
    have HLL := Lib.hid hL
    rw [← hlen]
    clear hR hlen hL hM
    go_enter Tryd.func34, Tryd.ntmps34
    go_wp2
    go_loopw [13] (fun i wr => ∃ k : Nat, i = .int .i64 k ∧ Hid (k ≤ L.length) ∧ Hid (R = decide (L.drop k = M.drop k)) ∧ Hid (Below w.heap.size w wr)) (fun i _ => L.length - (intOf i).toNat)
    case atStart => exact ⟨0, rfl, Nat.zero_le _, H0, Below.refl _ _⟩
    case round =>
      clear H0
      obtain ⟨k, rfl, HK, HRK, HB⟩ := hrel
      by_cases hk : k < L.length
      · have hIk : (k : Int) < (L.length : Int) := by omega
        have hk2 : k < M.length := by have := HLM.out; omega
        obtain ⟨r, hr⟩ : ∃ r, L[k]? = some r := ⟨_, List.getElem?_eq_getElem hk⟩
        obtain ⟨s, hs⟩ : ∃ s, M[k]? = some s := ⟨_, List.getElem?_eq_getElem hk2⟩
        have hw1 : IntKind.i64.wrap ((k : Int) + 1) = (k : Int) + 1 := IntWalk.i64_in _ (by have := HLL.out; omega)
        obtain ⟨g, off, ea, hg, hc⟩ := HROW.out (by intro e; rw [e] at hr; simp at hr)
        obtain ⟨g2, off2, eb, hg2, hc2⟩ := HROW2.out (by intro e; rw [e] at hs; simp at hs)
        obtain ⟨c0, c1, c2, c3⟩ := hc k r hr
        obtain ⟨e0, e1, e2, e3⟩ := hc2 k s hs
        have k0 := (HB.out.cell (p := ⟨g, off + k * 4, none⟩) hg).trans c0
        have k1 := (HB.out.cell (p := ⟨g, off + k * 4 + 1, none⟩) hg).trans c1
        have k2 := (HB.out.cell (p := ⟨g, off + k * 4 + 2, none⟩) hg).trans c2
        have k3 := (HB.out.cell (p := ⟨g, off + k * 4 + 3, none⟩) hg).trans c3
        have j0 := (HB.out.cell (p := ⟨g2, off2 + k * 4, none⟩) hg2).trans e0
        have j1 := (HB.out.cell (p := ⟨g2, off2 + k * 4 + 1, none⟩) hg2).trans e1
        have j2 := (HB.out.cell (p := ⟨g2, off2 + k * 4 + 2, none⟩) hg2).trans e2
        have j3 := (HB.out.cell (p := ⟨g2, off2 + k * 4 + 3, none⟩) hg2).trans e3
        have hd : L.drop k = r :: L.drop (k + 1) := by
          obtain ⟨h1, h2⟩ := List.getElem?_eq_some_iff.1 hr
          rw [List.drop_eq_getElem_cons h1, h2]
        have hd2 : M.drop k = s :: M.drop (k + 1) := by
          obtain ⟨h1, h2⟩ := List.getElem?_eq_some_iff.1 hs
          rw [List.drop_eq_getElem_cons h1, h2]
        have HRK2 : Hid (R = decide (r :: L.drop (k + 1) = s :: M.drop (k + 1))) := by show _ = _; rw [HRK.out, hd, hd2]
        have heq := fun W => eq_ru r s W
        have hgd := ruGuard
        have HKL := Lib.hid hk
        subst ea eb
        clear hk hk2 hr hs hc hc2 c0 c1 c2 c3 e0 e1 e2 e3 hd hd2 HRK
        by_cases hrs : r = s
        · have HRN : Hid (R = decide (L.drop (k + 1) = M.drop (k + 1))) := by show _ = _; rw [HRK2.out, hrs]; simp
          rw [decide_eq_true hrs] at heq
          clear HRK2 hrs
          obtain ⟨act, pat, rd, an⟩ := r
          obtain ⟨act2, pat2, rd2, an2⟩ := s
          simp only at k0 k1 k2 k3 j0 j1 j2 j3 heq
          generalize mk pat = q at *
          generalize mk pat2 = q2 at *
          go_wp2
          go_quiet (fail)
          go_wp2
          go_roundw
          case rel => exact ⟨k + 1, rfl, HKL.out, HRN, by first | exact HB | exact below_drewN HB.out _⟩
          case measure => have := HKL.out; simp [intOf]; omega
        · have HRN : Hid (R = false) := by
            show _ = _; rw [HRK2.out]; apply decide_eq_false; intro e; injection e with e _; exact hrs e
          rw [decide_eq_false hrs] at heq
          clear HRK2 hrs
          obtain ⟨act, pat, rd, an⟩ := r
          obtain ⟨act2, pat2, rd2, an2⟩ := s
          simp only at k0 k1 k2 k3 j0 j1 j2 j3 heq
          generalize mk pat = q at *
          generalize mk pat2 = q2 at *
          go_wp2
          go_quiet (fail)
          go_wp2
          go_ret
          exact ⟨by rw [HRN.out]; rfl, by first | exact HB.out | exact below_drewN HB.out _⟩
      · have hIk : ¬ (k : Int) < (L.length : Int) := by omega
        have HRN : Hid (R = true) := by show _ = _; rw [HRK.out, List.drop_of_length_le (by omega), List.drop_of_length_le (by have := HLM.out; omega)]; rfl
        clear hk HRK
        go_wp2
        go_ret
        exact ⟨by rw [HRN.out]; rfl, HB.out⟩
  · have hne : ((L.length : Int) == (M.length : Int)) = false := by
      have : ¬ ((L.length : Int) = (M.length : Int)) := by omega
      simpa using this
    have HRN : Hid (R = false) := by show _ = _; rw [hR]; apply decide_eq_false; intro e; exact hlen (by rw [e])
    clear hR hlen
    go_enter Tryd.func34, Tryd.ntmps34
    go_wp2
    go_ret
    exact ⟨by rw [HRN.out]; rfl, Below.refl _ _⟩
end Go.Proofs.YtokocfoeohddfaaDoor.Pa
namespace Go.Proofs.YtokocfoeohddfaaDoor.Pa
open Go.RowKit Go.Proofs.YtokocfoeohddfaaDoor.Me
set_option linter.unusedVariables false
set_option linter.unusedSimpArgs false
set_option maxRecDepth 1000000

theorem ruAt_nil (w : World) : RuAt w (.slice none 0 0) [] := ⟨none, 0, rfl, fun h => absurd rfl h⟩
theorem SOwn.rowAt {w : World} {base : Nat} {v : Value} {ps : List L8} (h : SOwn w base v ps) (hne : ps ≠ []) :
    ∃ g cn N, v = .slice (some ⟨g, 0, none⟩) N cn ∧ Hid (N = ps.length) ∧ Hid (∀ W, Below w.heap.size w W → ∀ (k : Nat) (p : L8), ps[k]? = some p → W.cell? ⟨g, k, none⟩ = some (.string (mk p))) := by
  rcases h.form with ⟨h, -⟩ | ⟨g, cap, h1, h2, h3, h4, h5, h6⟩
  · exact absurd h hne
  · exact ⟨g, cap, _, h1, rfl, fun W hW k p hp => (hW.cell (p := ⟨g, k, none⟩) h3).trans (by have := h6 k p hp; rwa [Nat.zero_add] at this)⟩
theorem two_rus (w2 : World) (act : Int) (pat : L8) (di an : Bool) (x : ByteArray) (hx : Pa.mk pat = x) :
    RuCap ((w2.alloc (.cells #[.int .i64 act, .string x, .bool di, .bool an] 42)).alloc (.cells #[.int .i64 act, .string x, .bool di, .bool an] 42)) (.slice (some ⟨w2.heap.size + 1, 0, none⟩) 1 1) [⟨act, pat, di, an⟩] := by
  have h := at_one (W := w2.alloc (.cells #[.int .i64 act, .string x, .bool di, .bool an] 42)) (act := act) (di := di) (an := an) hx
  rw [World.size_alloc] at h
  exact ⟨h, _, 1, rfl, Nat.le_refl _, by unfold maxLen; omega, fun h => by cases h⟩
set_option maxHeartbeats 32000000 in
theorem rlines_any (l : L8) (w : World) (hl : l.length ≤ 900000) :
    Calls Tryd.prog 33 #[.string (mk l)] w fun e w' => ∃ v, e = .returned (.tuple #[v, .int .i64 (linesR l).2.1, .int .i64 (linesR l).2.2]) ∧ RuAt w' v (linesR l).1 ∧ Below w.heap.size w w' := by
  obtain ⟨R0, hR0⟩ : ∃ x, x = (linesR l).1 := ⟨_, rfl⟩
  obtain ⟨R1, hR1⟩ : ∃ x, x = (linesR l).2.1 := ⟨_, rfl⟩
  obtain ⟨R2, hR2⟩ : ∃ x, x = (linesR l).2.2 := ⟨_, rfl⟩
  rw [← hR0, ← hR1, ← hR2]
  have HRR : Hid (linesR l = (R0, R1, R2)) := by show _ = _; rw [hR0, hR1, hR2]
  have HCU := Lib.hid (rcut_any l w hl)
  have HLL : Hid (l.length ≤ 900000) := hl
  clear hR0 hR1 hR2 hl
  generalize mk l = s at *
  go_enter Tryd.func33, Tryd.ntmps33
  go_wp2_with (go_at_call 54; refine HCU.out.mono ?_; rintro e w1 ⟨u, rfl, ho, hb⟩; obtain ⟨g, cn, N, rfl, HN, HAT⟩ := ho.rowAt (cutc_ne 10 l); have HB1 := Lib.hid hb; clear ho hb)
  go_loopw [5, 13] (fun o i wr => ∃ (k : Nat) (a : Option Addr) (n c : Nat) (acc : List Ru), i = .int .i64 k ∧ o = .slice a n c ∧ Hid (n = acc.length) ∧ Hid (k ≤ N) ∧ Hid (acc.length ≤ 64) ∧ Hid (LG l acc k) ∧ Hid (RuOwn wr w1.heap.size o acc) ∧ Hid (Below w1.heap.size w1 wr)) (fun _ i _ => N - (intOf i).toNat)
  case atStart => exact ⟨0, none, 0, 0, [], rfl, rfl, rfl, Nat.zero_le _, Nat.zero_le _, rfl, World.ownsRow_nil _ _ _ _, Below.refl _ _⟩
  case round =>
    obtain ⟨k, a, n, c, acc, rfl, rfl, HA, HK, H64, HG, HOW, HB⟩ := hrel
    by_cases hk : k < N
    · have hIk : (k : Int) < (N : Int) := by omega
      obtain ⟨p, hp⟩ : ∃ p, (cutc 10 l)[k]? = some p := ⟨_, List.getElem?_eq_getElem (by have := HN.out; omega)⟩
      have hc := HAT.out _ HB.out k p hp
      have hlen := cutc_len 10 l
      have hw1 : IntKind.i64.wrap ((k : Int) + 1) = (k : Int) + 1 := IntWalk.i64_in _ (by have := HLL.out; have := HN.out; omega)
      have HNX := Lib.hid (HG.out.next hp)
      have hpl := cutc_mem 10 l p (List.mem_of_getElem? hp)
      have HKL : Hid (k < N) := hk
      by_cases hps : passed p = true
      · have HEND : Hid (LG l acc (k + 1)) := by
          show _ = _
          rw [HNX.out, linesGo, if_pos hps]
        have hor : p = [] ∨ (p ≠ [] ∧ nb p 0 = 35) := by
          by_cases e : p = []
          · exact .inl e
          · exact .inr ⟨e, (of_decide_eq_true hps).resolve_left e⟩
        clear hps HNX hk hp hlen hpl
        rcases hor with h | ⟨h, h35⟩
        · have he := emptyT h
          clear h
          generalize mk p = y at *
          go_wp2
          go_roundw
          case rel => exact ⟨k + 1, a, n, c, acc, by go_num, rfl, HA, by show _ ≤ _; have := HKL.out; omega, H64, HEND, HOW, HB⟩
          case measure => have := HKL.out; simp [intOf]; omega
        · have he := emptyF h
          have hx0 := run_at p 0 (by cases p with | nil => exact absurd rfl h | cons a b => simp)
          simp only [Int.cast_ofNat_Int] at hx0
          rw [bt_nb, h35] at hx0
          clear h h35
          generalize mk p = y at *
          go_wp2
          go_roundw
          case rel => exact ⟨k + 1, a, n, c, acc, by go_num, rfl, HA, by show _ ≤ _; have := HKL.out; omega, H64, HEND, HOW, HB⟩
          case measure => have := HKL.out; simp [intOf]; omega
      · have hnp : ¬ (p = [] ∨ nb p 0 = 35) := fun h => hps (decide_eq_true h)
        have hp0 : p ≠ [] := fun h => hnp (.inl h)
        have he := emptyF hp0
        have hx0 := run_at p 0 (by cases p with | nil => exact absurd rfl hp0 | cons a b => simp)
        simp only [Int.cast_ofNat_Int] at hx0
        rw [bt_nb] at hx0
        have hq : (((nb p 0 : Nat) : Int) == 35) = false := by
          have : ¬ ((nb p 0 : Int) = 35) := fun h => hnp (.inr (by omega))
          simpa using this
        have HPA : Hid (Calls Tryd.prog 31 #[.string (mk p)] wr fun e w' => e = .returned (.tuple #[(parseR p).1.val, .int .i64 (parseR p).2]) ∧ Below wr.heap.size wr w') := rparse_any p wr (by have := HLL.out; omega)
        obtain ⟨er, her⟩ : ∃ er, er = (parseR p).2 := ⟨_, rfl⟩
        obtain ⟨ru, hru⟩ : ∃ ru, ru = (parseR p).1 := ⟨_, rfl⟩
        have HNX2 : Hid (linesR l = if er ≠ 0 then ([], (k : Int) + 1, er) else if acc.length = 64 then ([], (k : Int) + 1, 7) else linesGo (acc ++ [ru]) (k + 1) ((cutc 10 l).drop (k + 1))) := by
          show _ = _
          rw [HNX.out, linesGo, if_neg hps, ← her, ← hru]
        rw [← her, ← hru] at HPA
        obtain ⟨act, pat, di, an⟩ := ru
        unfold Ru.val at HPA
        simp only [ruV] at HPA
        clear hps hnp hp0 her hru HNX hpl hk hp hlen
        have HBW : Hid (∀ w2 : World, Below wr.heap.size wr w2 → Below w1.heap.size w1 (w2.alloc (.cells #[.int .i64 act, .string (mk pat), .bool di, .bool an] 42))) := fun w2 hb => (HB.out.trans (hb.mono HB.out.size)).alloc (by have := HB.out.size; have := hb.size; omega) _
        generalize mk p = y at *
        generalize hsp : mk pat = sp at *
        have HSP := Lib.hid hsp
        clear hsp
        generalize nb p 0 = c0 at *
        by_cases hz : er = 0
        · subst hz
          by_cases h64 : acc.length = 64
          · have hD : ((n : Int) == 64) = true := by have := HA.out; simp; omega
            have HFN : Hid (linesR l = ([], (k : Int) + 1, 7)) := by show _ = _; rw [HNX2.out, if_neg (by simp), if_pos h64]
            clear h64 HNX2
            go_wp2_with (go_at_call 31; refine HPA.out.mono ?_; rintro e w2 ⟨rfl, hb⟩; have HB2 := Lib.hid hb; clear hb)
            go_ret3
            have hRR := HRR.out
            rw [HFN.out] at hRR
            injection hRR with e0 hRR
            injection hRR with e1 e2
            subst e0 e1 e2
            exact ⟨_, rfl, ruAt_nil _, HB1.out.trans ((HBW.out _ HB2.out).mono HB1.out.size)⟩
          · have hD : ((n : Int) == 64) = false := by
              have h1 : ¬ (n : Int) = 64 := by have := HA.out; omega
              simpa using h1
            have HFN : Hid (LG l (acc ++ [⟨act, pat, di, an⟩]) (k + 1)) := by show linesR l = _; rw [HNX2.out, if_neg (by simp), if_neg h64]
            have HLT : Hid ((acc ++ [(⟨act, pat, di, an⟩ : Ru)]).length ≤ 64) := by show _ ≤ _; have := H64.out; rw [List.length_append]; simp only [List.length_cons, List.length_nil]; omega
            have HBX : Hid (∀ w2 : World, Below wr.heap.size wr w2 → Below w1.heap.size w1 ((w2.alloc (.cells #[.int .i64 act, .string sp, .bool di, .bool an] 42)).alloc (.cells #[.int .i64 act, .string sp, .bool di, .bool an] 42))) := fun w2 hb => (HBW.out w2 hb).alloc (HBW.out w2 hb).size _
            have HOX : Hid (∀ w2 : World, Below wr.heap.size wr w2 → RuOwn ((w2.alloc (.cells #[.int .i64 act, .string sp, .bool di, .bool an] 42)).alloc (.cells #[.int .i64 act, .string sp, .bool di, .bool an] 42)) w1.heap.size (.slice a n c) acc) := fun w2 hb => by
              have h3 : Below wr.heap.size wr ((w2.alloc (.cells #[.int .i64 act, .string sp, .bool di, .bool an] 42)).alloc (.cells #[.int .i64 act, .string sp, .bool di, .bool an] 42)) := (hb.alloc hb.size _).alloc (hb.alloc hb.size _).size _
              obtain ⟨z1, z2⟩ := HOW.out
              refine ⟨z1, ?_⟩
              rcases z2 with z2 | ⟨g, cp, cu, z3, z4, z5, z6⟩
              · exact .inl z2
              · exact .inr ⟨g, cp, cu, z3, z4, (h3.block _ (Array.getElem?_eq_some_iff.1 z5).1).trans z5, z6⟩
            clear h64 HNX2
            go_wp2_with (first
              | (go_at_call 31; refine HPA.out.mono ?_; rintro e w2 ⟨rfl, hb⟩; have HB2 := Lib.hid hb; clear hb)
              | (at_builtin; go_must (refine append_rus rfl (.tmp 42) (.tmp 44) rfl w1.heap.size (.slice a n c) (.slice (some ⟨w2.heap.size + 1, 0, none⟩) 1 1) acc [⟨act, pat, di, an⟩] rfl (HOX.out _ HB2.out) rfl (two_rus _ act pat di an _ HSP.out) (by have := H64.out; simp only [List.length_cons, List.length_nil]; omega) (HBX.out _ HB2.out).size ?_); intro v5 w5 hO5 hb5; have HO5 := Lib.hid hO5; have HB5 := Lib.hid ((HBX.out _ HB2.out).trans hb5); clear hO5 hb5))
            obtain ⟨a5, n5, c5, rfl, HN5⟩ : ∃ a n c, v5 = .slice a n c ∧ Hid (n = (acc ++ [(⟨act, pat, di, an⟩ : Ru)]).length) := by
              obtain ⟨a5, c5, e5⟩ := HO5.out.slice
              exact ⟨a5, _, c5, e5, rfl⟩
            go_roundw
            case rel => exact ⟨k + 1, a5, n5, c5, _, by go_num, rfl, HN5, by show _ ≤ _; have := HKL.out; omega, HLT, HFN, HO5, HB5⟩
            case measure => have := HKL.out; simp [intOf]; omega
        · have hD : (er == 0) = false := by simpa using hz
          have HFN : Hid (linesR l = ([], (k : Int) + 1, er)) := by show _ = _; rw [HNX2.out, if_pos hz]
          clear hz HNX2
          go_wp2_with (go_at_call 31; refine HPA.out.mono ?_; rintro e w2 ⟨rfl, hb⟩; have HB2 := Lib.hid hb; clear hb)
          go_ret3
          have hRR := HRR.out
          rw [HFN.out] at hRR
          injection hRR with e0 hRR
          injection hRR with e1 e2
          subst e0 e1 e2
          exact ⟨_, rfl, ruAt_nil _, HB1.out.trans ((HBW.out _ HB2.out).mono HB1.out.size)⟩
    · have hIk : ¬ (k : Int) < (N : Int) := by omega
      have HLR : Hid (linesR l = (acc, 0, 0)) := by
        have hkN : k = (cutc 10 l).length := by have := HK.out; have := HN.out; omega
        have hg := HG.out
        show _ = _
        unfold LG at hg
        rw [hg, hkN, List.drop_length]; rfl
      clear hk
      go_wp2
      go_ret3
      have hRR := HRR.out
      rw [HLR.out] at hRR
      injection hRR with e0 hRR
      injection hRR with e1 e2
      subst e0 e1 e2
      exact ⟨_, rfl, HOW.out.at, HB1.out.trans (HB.out.mono HB1.out.size)⟩
end Go.Proofs.YtokocfoeohddfaaDoor.Pa
namespace Go.Proofs.YtokocfoeohddfaaDoor.Pa
open Go.RowKit Go.Proofs.YtokocfoeohddfaaDoor.Me
set_option linter.unusedVariables false
set_option linter.unusedSimpArgs false
set_option maxRecDepth 1000000

theorem linesGo_len : ∀ (ps : List L8) (acc : List Ru) (n : Nat), acc.length ≤ 64 → (linesGo acc n ps).1.length ≤ 64 := by
  intro ps
  induction ps with
  | nil => intro acc n h; exact h
  | cons p ps ih =>
    intro acc n h
    rw [linesGo]
    split
    · exact ih _ _ h
    · split
      · simp
      · split
        · simp
        · exact ih _ _ (by rw [List.length_append]; simp only [List.length_cons, List.length_nil]; omega)
set_option maxHeartbeats 32000000 in
theorem rulesParses_walk (l : L8) (w : World) (hlp : l.length ≤ maxLen) :
    Calls Tryd.prog 8 #[.string (mk l)] w fun e w' => e = .returned (.bool true) ∧ Below w.heap.size w w' := by
  unfold maxLen at hlp
  have HB : Hid (Below w.heap.size w w) := Below.refl _ _
  have HAK : Hid (∀ W, Below w.heap.size w W → Calls Tryd.prog 23 #[] W fun e w' => e = .returned (.bool true) ∧ Below w.heap.size w w') := fun W hk => (awake_ru W).mono fun e w' ⟨h1, h2⟩ => ⟨h1, hk.trans (h2.mono hk.size)⟩
  have hsz : (mk l).size = l.length := mk_size l
  by_cases h3 : 3000 < l.length
  · have hD : (3000 : Int) < ((mk l).size : Int) := by rw [hsz]; omega
    clear hsz h3 hlp
    generalize mk l = s at *
    go_enter Tryd.func8, Tryd.ntmps8
    go_wp2_with (go_at_call 23; (with_reducible refine (HAK.out _ HB.out).mono ?_); rintro e w1 ⟨rfl, hb⟩; have HB := Lib.hid hb; clear hb)
    go_ret
    exact ⟨rfl, HB.out⟩
  · have hD : ¬ (3000 : Int) < ((mk l).size : Int) := by rw [hsz]; omega
    have HP1 : Hid (∀ W, Calls Tryd.prog 30 #[.string (mk l)] W fun e w' => e = .returned (.tuple #[(parseR l).1.val, .int .i64 (parseR l).2]) ∧ Below W.heap.size W w') := fun W => parse_ru l W (by omega)
    have HP2 : Hid (∀ W, Calls Tryd.prog 31 #[.string (mk l)] W fun e w' => e = .returned (.tuple #[(parseR l).1.val, .int .i64 (parseR l).2]) ∧ Below W.heap.size W w') := fun W => rparse_any l W (by omega)
    have HL1 : Hid (∀ W, Calls Tryd.prog 32 #[.string (mk l)] W fun e w' => ∃ v, e = .returned (.tuple #[v, .int .i64 (linesR l).2.1, .int .i64 (linesR l).2.2]) ∧ RuAt w' v (linesR l).1 ∧ Below W.heap.size W w') := fun W => (lines_any l W (by omega)).mono fun e w' ⟨v, h1, h2, h3⟩ => ⟨v, h1, h2.at, h3⟩
    have HL2 : Hid (∀ W, Calls Tryd.prog 33 #[.string (mk l)] W fun e w' => ∃ v, e = .returned (.tuple #[v, .int .i64 (linesR l).2.1, .int .i64 (linesR l).2.2]) ∧ RuAt w' v (linesR l).1 ∧ Below W.heap.size W w') := fun W => rlines_any l W (by omega)
    obtain ⟨⟨act, pat, di, an⟩, hru⟩ : ∃ ru, ru = (parseR l).1 := ⟨_, rfl⟩
    obtain ⟨er, her⟩ : ∃ x, x = (parseR l).2 := ⟨_, rfl⟩
    obtain ⟨R0, hR0⟩ : ∃ x, x = (linesR l).1 := ⟨_, rfl⟩
    obtain ⟨R1, hR1⟩ : ∃ x, x = (linesR l).2.1 := ⟨_, rfl⟩
    obtain ⟨R2, hR2⟩ : ∃ x, x = (linesR l).2.2 := ⟨_, rfl⟩
    have h64 : R0.length ≤ 64 := by rw [hR0]; exact linesGo_len _ _ _ (by simp)
    rw [← hru, ← her] at HP1 HP2
    rw [← hR0, ← hR1, ← hR2] at HL1 HL2
    unfold Ru.val at HP1 HP2
    simp only [ruV] at HP1 HP2
    have HSA : Hid (∀ W v u, RuAt W v R0 → RuAt W u R0 → Calls Tryd.prog 34 #[v, u] W fun e w' => e = .returned (.bool true) ∧ Below W.heap.size W w') := fun W v u hv hu => (same_any R0 R0 v u W hv hu (by omega) (by omega)).mono fun e w' ⟨h1, h2⟩ => ⟨by rw [h1]; simp, h2⟩
    have heq := fun W => eq_ru ⟨act, pat, di, an⟩ ⟨act, pat, di, an⟩ W
    rw [decide_eq_true rfl] at heq
    have hgd := ruGuard
    simp only at heq
    clear hsz h3 hlp hru her hR0 hR1 hR2 h64
    generalize mk l = s at *
    generalize mk pat = q at *
    go_enter Tryd.func8, Tryd.ntmps8
    go_wp2_with (first
      | (go_at_call 30; go_must (refine (HP1.out _).mono ?_); rintro e w1 ⟨rfl, hb1⟩; have HB1 := Lib.hid hb1; clear hb1)
      | (go_at_call 31; go_must (refine (HP2.out _).mono ?_); rintro e w2 ⟨rfl, hb2⟩; have HR2 := Lib.hid ((hb2.block w1.heap.size (by rw [World.size_alloc]; omega)).trans (heap_new w1 _)); have HB2 := Lib.hid ((HB1.out.alloc HB1.out.size (.cells #[.int .i64 act, .string q, .bool di, .bool an] 42)).trans (hb2.mono (by rw [World.size_alloc]; have := HB1.out.size; omega))); clear hb2)
      | (go_at_call 32; go_must (refine (HL1.out _).mono ?_); rintro e w3 ⟨v3, rfl, ho3, hb3⟩; have HO3 := Lib.hid ho3; have HS3 := Lib.hid hb3; have HB3 := Lib.hid ((HB2.out.alloc HB2.out.size (.cells #[.int .i64 act, .string q, .bool di, .bool an] 42)).trans (hb3.mono (by rw [World.size_alloc]; have := HB2.out.size; omega))); clear ho3 hb3)
      | (go_at_call 33; go_must (refine (HL2.out _).mono ?_); rintro e w4 ⟨v4, rfl, ho4, hb4⟩; have HO4 := Lib.hid ho4; have HO3' := Lib.hid (HO3.out.later hb4); have HB4 := Lib.hid (HB3.out.trans (hb4.mono HB3.out.size));
          obtain ⟨⟨k0, k1, k2, k3⟩, -⟩ := cells4 ((hb4.block w1.heap.size (by have := HS3.out.size; rw [World.size_alloc] at this; have := (Array.getElem?_eq_some_iff.1 HR2.out).1; omega)).trans ((HS3.out.block w1.heap.size (by rw [World.size_alloc]; have := (Array.getElem?_eq_some_iff.1 HR2.out).1; omega)).trans ((Below.heap_alloc _ _ _ (Array.getElem?_eq_some_iff.1 HR2.out).1).trans HR2.out)));
          obtain ⟨⟨j0, j1, j2, j3⟩, -⟩ := cells4 ((hb4.block w2.heap.size (by have := HS3.out.size; rw [World.size_alloc] at this; omega)).trans ((HS3.out.block w2.heap.size (by rw [World.size_alloc]; omega)).trans (heap_new w2 _))); clear ho4 hb4)
      | (go_at_call 34; go_must (refine (HSA.out _ _ _ HO3'.out HO4.out).mono ?_); rintro e w5 ⟨rfl, hb5⟩; have HB5 := Lib.hid (HB4.out.trans (hb5.mono HB4.out.size)); clear hb5)
      | (go_at_call 23; (with_reducible refine (HAK.out _ HB5.out).mono ?_); rintro e w6 ⟨rfl, hb6⟩; have HB6 := Lib.hid hb6; clear hb6))
    go_ret
    exact ⟨rfl, HB6.out⟩
end Go.Proofs.YtokocfoeohddfaaDoor.Pa
