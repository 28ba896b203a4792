/- glob: the document's class. (A template.) -/
import Derived.Test.YtokocfoeohddfaaDoorGlRSgn
import Derived.Deep.LoopGhost
import Derived.WalkMore
namespace Go.Proofs.YtokocfoeohddfaaDoor.Pa
open Go.RowKit
set_option linter.unusedVariables false
set_option linter.unusedSimpArgs false
set_option maxRecDepth 1000000

structure KI (w wx : World) (B : Bool) (S : Nat → Bool) : Prop where
  top : wx.heap[w.heap.size + 1]? = some (.cells (sgC 4 0 B S).toArray 35)
  res : wx.heap[w.heap.size]? = some (.cells (sgC 0 0 false noneS).toArray 35)
  bel : Below w.heap.size w wx
theorem ki_start (w : World) : KI w (((w.alloc (.cells (sgC 0 0 false noneS).toArray 35)).alloc (.cells (sgC 0 0 false noneS).toArray 35)).setCells (w.heap.size + 1) 0 (sgC 4 0 false noneS)) false noneS := by
  have h := heap_new (w.alloc (.cells (sgC 0 0 false noneS).toArray 35)) (.cells (sgC 0 0 false noneS).toArray 35)
  rw [World.size_alloc] at h
  refine ⟨stored_whole _ _ _ _ _ h (by simp [sgC_length]), ?_, ?_⟩
  · rw [heap_setCells _ _ (by omega), Below.heap_alloc _ _ _ (by simp)]; exact heap_new _ _
  · exact below_setCells _ _ _ _ _ _ (((Below.refl _ _).alloc (Nat.le_refl _) _).alloc (by simp) _) (by omega)
theorem KI.turn {w wx : World} (h : KI w wx false noneS) : KI w (wx.setCell ⟨w.heap.size + 1, 2, none⟩ (.bool true)) true noneS := by
  refine ⟨?_, ?_, h.bel.setCell (by show w.heap.size ≤ w.heap.size + 1; omega) _⟩
  · rw [row_set h.top 2, sgC_set2]
  · rw [← h.res]; simp [World.setCell, Array.getElem?_modify]
theorem KI.add {w wx : World} {B : Bool} {S : Nat → Bool} (h : KI w wx B S) (i : Nat) (hi : i < 256) : KI w (wx.setCell ⟨w.heap.size + 1, 3 + i, none⟩ (.bool true)) B (addS S i) := by
  refine ⟨?_, ?_, h.bel.setCell (by show w.heap.size ≤ w.heap.size + 1; omega) _⟩
  · rw [row_set h.top (3 + i), sgC_set _ _ _ _ _ hi]
  · rw [← h.res]; simp [World.setCell, Array.getElem?_modify]
theorem KI.same {w wx : World} {B : Bool} {S T : Nat → Bool} (h : KI w wx B S) (e : ∀ x, x < 256 → S x = T x) : KI w wx B T := by
  have : sgC 4 0 B S = sgC 4 0 B T := by
    unfold sgC; congr 1; apply List.map_congr_left; intro x hx; rw [e x (by simpa using hx)]
  exact ⟨by rw [h.top, this], h.res, h.bel⟩
theorem KI.ret {w wx : World} {B : Bool} {S : Nat → Bool} (h : KI w wx B S) : (wx.setCells w.heap.size 0 (sgC 4 0 B S)).heap[w.heap.size]? = some (.cells (sgC 4 0 B S).toArray 35) ∧ Below w.heap.size w (wx.setCells w.heap.size 0 (sgC 4 0 B S)) :=
  ⟨stored_whole _ _ _ _ _ h.res (by simp [sgC_length]), below_setCells _ _ _ _ _ _ h.bel (Nat.le_refl _)⟩
/-- what class answers -/
def RC (l : L8) (p : Nat) (v : Value) : Prop := match clsR l (l.length + 1) (if [33].isPrefixOf (l.drop p) then p + 1 else p) noneS 0 with
  | none => ∃ nt S z, v = .tuple #[.agg (sgC 4 0 nt S).toArray, .int .i64 z, .bool false]
  | some (S, b) => v = .tuple #[.agg (sgC 4 0 ([33].isPrefixOf (l.drop p)) S).toArray, .int .i64 (b : Int), .bool true]
theorem pre_bang (l : L8) (p : Nat) : [33].isPrefixOf (l.drop p) = true ↔ p < l.length ∧ nb l p = 33 := by
  by_cases h : p < l.length
  · obtain ⟨c, r, h1, h2, _⟩ := nb_cons h
    rw [h1, h2]
    simp [List.isPrefixOf, h]
    constructor
    · intro e; rw [← e]; rfl
    · intro e; exact (UInt8.toNat_inj.1 e).symm
  · rw [List.drop_eq_nil_of_le (by omega)]
    simp [List.isPrefixOf, h]
theorem clsR_eq (l : L8) (n a : Nat) (S : Nat → Bool) (k : Nat) : clsR l (n + 1) a S k = if a < l.length ∧ nb l a ≠ 93 then (match rmR l a with
      | none => none
      | some (f, g, b) => clsR l n b (spanS S f (g + 1)) (k + 1))
    else if a < l.length ∧ 0 < k then some (S, a + 1) else none := by rw [clsR]; rfl
/-- what the second member comes to -/
def okIf (ok : Bool) (f g d : Nat) : Option (Nat × Nat × Nat) := if ok = true ∧ f ≤ g then some (f, g, d) else none
theorem bt_ne {l : L8} {a n : Nat} (h : nb l a ≠ n) : (bt l a == (n : Int)) = false := by rw [bt_nb]; simpa using fun e => h (by omega)
set_option maxHeartbeats 16000000 in
theorem class_any (l : L8) (p : Nat) (w : World) (hp : p ≤ l.length) (hl : l.length ≤ 4611686018427387000) :
    Calls Tryd.prog 46 #[.string (mk l), .int .i64 (p : Int)] w fun e w' => ∃ v, e = .returned v ∧ RC l p v ∧ Below w.heap.size w w' := by
  have hs : (mk l).size = l.length := mk_size l
  have HS := Lib.hid hs
  obtain ⟨B, hB⟩ : ∃ B, B = [33].isPrefixOf (l.drop p) := ⟨_, rfl⟩
  obtain ⟨st, hst⟩ : ∃ st, st = (if B then p + 1 else p : Nat) := ⟨_, rfl⟩
  obtain ⟨R, hR⟩ : ∃ R, R = clsR l (l.length + 1) st noneS 0 := ⟨_, rfl⟩
  have HNO : Hid (R = none → ∀ S z, RC l p (.tuple #[.agg (sgC 4 0 B S).toArray, .int .i64 z, .bool false])) := by
    intro h S z
    unfold RC
    rw [← hB, ← hst, ← hR, h]
    exact ⟨_, _, _, rfl⟩
  have HYES : Hid (∀ S b, R = some (S, b) → RC l p (.tuple #[.agg (sgC 4 0 B S).toArray, .int .i64 (b : Int), .bool true])) := by
    intro S b h
    unfold RC
    rw [← hB, ← hst, ← hR, h]
  have HR0 : Hid (R = clsR l (l.length + 1) st noneS 0) := hR
  have HP : Hid (p ≤ l.length) := hp
  have HL : Hid (l.length ≤ 4611686018427387000) := hl
  have HST : Hid (st ≤ l.length) := by
    show _ ≤ _
    rw [hst]; split
    · next h => rw [hB] at h; have := (pre_bang l p).1 h; omega
    · omega
  have HBV : Hid (B = true ↔ p < l.length ∧ nb l p = 33) := by show _ ↔ _; rw [hB]; exact pre_bang l p
  have HSV : Hid (st = if B then p + 1 else p) := hst
  have hz := zero_rg
  have HK1 := Lib.hid (ki_start w)
  have HBF := Lib.hid built_four
  have hh := heap_new (w.alloc (.cells (sgC 0 0 false noneS).toArray 35)) (.cells (sgC 0 0 false noneS).toArray 35)
  rw [World.size_alloc] at hh
  have HTH0 : Hid (((w.alloc (.cells (sgC 0 0 false noneS).toArray 35)).alloc (.cells (sgC 0 0 false noneS).toArray 35)).there (w.heap.size + 1) 0 (sgC 4 0 false noneS).toArray.size) := there_block hh _ (by simp [sgC_length])
  have HSZ0 : Hid ((Tryd.prog.info? 35).map (·.size) = some (sgC 4 0 false noneS).toArray.size) := size_rga (sgC_length _ _ _ _)
  have HON0 : Hid ((sgC 4 0 false noneS).toArray.all (·.oneCell') = true) := all_oneCell_toArray (sgC_one _ _ _ _)
  obtain ⟨Z, hZ⟩ : ∃ Z, Z = sgC 0 0 false noneS := ⟨_, rfl⟩
  obtain ⟨F, hF⟩ : ∃ F, F = sgC 4 0 false noneS := ⟨_, rfl⟩
  rw [← hZ] at HK1 HTH0
  rw [← hZ] at hz
  rw [← hF] at HK1 HBF HTH0 HSZ0 HON0
  clear hp hl hB hst hR hs hh hZ hF
  go_enter Tryd.func46, Tryd.ntmps46
  go_upto_region 2 with (first
    | ((with_reducible show wpList _ _ _ (Oper.mk (some 14) _ _ _ _ _ :: _) _ _); go_must (refine wpList_buildTo rfl 35 #[(0, .const (.int .i64 4))] rfl (some 14) rfl F.toArray (by simpa [Act.eval] using HBF.out) ?_))
    | ((with_reducible show wpList _ _ _ (Oper.mk none (Op.store 35 _ _) _ _ _ _ :: _) _ _); go_must (refine wpList_store_mid rfl 35 (.tmp 7) (.tmp 14) rfl (w.heap.size + 1) 0 F.toArray rfl rfl HTH0.out HSZ0.out HON0.out ?_)))
  try simp only [Act.put, List.setIfInBounds_toArray, List.set_cons_zero, List.set_cons_succ]
  generalize (((w.alloc (.cells Z.toArray 35)).alloc (.cells Z.toArray 35)).setCells (w.heap.size + 1) 0 F) = w1 at HK1 ⊢
  clear hz HTH0 HSZ0 HON0 HBF
  go_cut [24] (fun v wx => v = .bool B ∧ w1 = wx)
  case first =>
    by_cases h1 : p < l.length
    · have hI1 : (p : Int) < ((mk l).size : Int) := by rw [HS.out]; omega
      have hI1' : ¬ ((mk l).size : Int) ≤ (p : Int) := by rw [HS.out]; omega
      have hx := run_at l p h1
      by_cases h2 : nb l p = 33
      · have hb : bt l p = 33 := by rw [bt_nb, h2]; rfl
        rw [hb] at hx
        have HE : Hid (B = true) := HBV.out.2 ⟨h1, h2⟩
        clear h1 h2 hb
        go_wp2
        go_meet
        exact ⟨by rw [HE.out], rfl⟩
      · have hq : (bt l p == 33) = false := bt_ne (n := 33) h2
        have HE : Hid (B = false) := by
          show B = false
          rw [Bool.eq_false_iff]; exact fun h => h2 (HBV.out.1 h).2
        generalize bt l p = c at *
        clear h1 h2
        go_wp2
        go_meet
        exact ⟨by rw [HE.out], rfl⟩
    · have hI1 : ¬ (p : Int) < ((mk l).size : Int) := by rw [HS.out]; omega
      have hI1' : ((mk l).size : Int) ≤ (p : Int) := by rw [HS.out]; omega
      have HE : Hid (B = false) := by
        show B = false
        rw [Bool.eq_false_iff]; exact fun h => h1 (HBV.out.1 h).1
      clear h1
      go_wp2
      go_meet
      exact ⟨by rw [HE.out], rfl⟩
  case rest =>
  obtain ⟨rfl, rfl⟩ := hcut
  go_upto_if 24 with (fail)
  go_cut [1] (fun a wx => a = .int .i64 (st : Int) ∧ Hid (KI w wx B noneS))
  case first =>
    have HPL := HP.out
    have HLL := HL.out
    have hw1 : IntKind.i64.wrap ((p : Int) + 1) = (p : Int) + 1 := IntWalk.i64_in _ (by omega)
    have hc2 : w1.cell? ⟨w.heap.size + 1, 2, none⟩ = some (.bool false) := by rw [cell_of_row _ _ 2 _ _ (0, 0) HK1.out.top]; rfl
    have hf2 : w1.frozen? ⟨w.heap.size + 1, 2, none⟩ = false := unfrozen HK1.out.top
    have HS2 := HSV.out
    cases hBB : B with
    | false =>
      have HE : Hid (st = p) := by show _ = _; rw [HS2, hBB]; rfl
      have HKE : Hid (KI w w1 false noneS) := HK1
      clear HPL HLL HS2
      go_wp2
      go_meet
      exact ⟨by rw [HE.out], by rw [hBB]; exact HKE⟩
    | true =>
      have HE : Hid (st = p + 1) := by show _ = _; rw [HS2, hBB]; rfl
      have HKE : Hid (KI w (w1.setCell ⟨w.heap.size + 1, 2, none⟩ (.bool true)) true noneS) := HK1.out.turn
      clear HPL HLL HS2
      go_wp2
      go_meet
      exact ⟨by rw [HE.out]; go_num, by rw [hBB]; exact HKE⟩
  case rest =>
  obtain ⟨rfl, HK0⟩ := hcut
  clear HK1
  go_wp2
  go_loopw [1, 8] (fun a c wr => ∃ (i k : Nat) (S : Nat → Bool), a = .int .i64 i ∧ c = .int .i64 k ∧ Hid (i ≤ l.length) ∧ Hid (k ≤ i) ∧ Hid (R = clsR l (l.length + 1) i S k) ∧ Hid (KI w wr B S)) (fun a _ _ => l.length - (intOf a).toNat)
  case atStart => exact ⟨st, 0, noneS, rfl, rfl, HST, Nat.zero_le _, HR0, HK0⟩
  case round =>
    clear HK0 HR0
    obtain ⟨i, k, S, rfl, rfl, HI, HKI, HRS, HK⟩ := hrel
    have hIL := HI.out
    have hLL := HL.out
    obtain ⟨X, hX⟩ : ∃ X, X = sgC 4 0 B S := ⟨_, rfl⟩
    have HRG : Hid (wr.rangeAt (w.heap.size + 1) 0 X) := by show World.rangeAt _ _ _ _; rw [hX]; exact range_block HK.out.top
    have HSZ : Hid ((Tryd.prog.info? 35).map (·.size) = some X.length) := by show _ = _; rw [hX]; exact size_rg (sgC_length _ _ _ _)
    have HSZ2 : Hid ((Tryd.prog.info? 35).map (·.size) = some X.toArray.size) := by show _ = _; rw [hX]; exact size_rga (sgC_length _ _ _ _)
    have HON : Hid (X.toArray.all (·.oneCell') = true) := by show _ = _; rw [hX]; exact all_oneCell_toArray (sgC_one _ _ _ _)
    have HTH : Hid (wr.there w.heap.size 0 X.toArray.size) := by show World.there _ _ _ _; rw [hX]; exact there_block HK.out.res _ (by simp [sgC_length])
    have HRT : Hid ((wr.setCells w.heap.size 0 X).heap[w.heap.size]? = some (.cells X.toArray 35) ∧ Below w.heap.size w (wr.setCells w.heap.size 0 X)) := by show _ ∧ _; rw [hX]; exact HK.out.ret
    have HNX : Hid (R = none → ∀ z, RC l p (.tuple #[.agg X.toArray, .int .i64 z, .bool false])) := by
      intro h z; rw [hX]; exact HNO.out h S z
    have HYX : Hid (∀ b, R = some (S, b) → RC l p (.tuple #[.agg X.toArray, .int .i64 (b : Int), .bool true])) := by
      intro b h; rw [hX]; exact HYES.out S b h
    clear hX
    by_cases hi : i < l.length
    · have hIi : (i : Int) < ((mk l).size : Int) := by rw [HS.out]; omega
      have hIi' : ¬ ((mk l).size : Int) ≤ (i : Int) := by rw [HS.out]; omega
      have hx := run_at l i hi
      have hw1 : IntKind.i64.wrap ((i : Int) + 1) = (i : Int) + 1 := IntWalk.i64_in _ (by omega)
      have HIT := Lib.hid hi
      by_cases h93 : nb l i = 93
      · have hb93 : bt l i = 93 := by rw [bt_nb, h93]; rfl
        rw [hb93] at hx
        by_cases hk : 0 < k
        · have hkI : (0 : Int) < (k : Int) := by omega
          have HRES : Hid (RC l p (.tuple #[.agg X.toArray, .int .i64 ((i : Int) + 1), .bool true])) := HYX.out (i + 1) (by rw [HRS.out, clsR_eq, if_neg (fun h => h.2 h93), if_pos ⟨hi, hk⟩])
          clear hIL hLL hi h93 hb93
          go_wp2_with (first
            | ((with_reducible show wpList _ _ _ (Oper.mk (some 97) _ _ _ _ _ :: _) _ _); go_must (refine wpList_load_mid rfl 35 (.tmp 7) rfl (w.heap.size + 1) 0 rfl X _ HRG.out Tryd.underlying35 rfl HSZ.out ?_))
            | ((with_reducible show wpList _ _ _ (Oper.mk none (Op.store 35 _ _) _ _ _ _ :: _) _ _); go_must (refine wpList_store_mid rfl 35 (.tmp 4) (.tmp 97) rfl w.heap.size 0 X.toArray rfl rfl HTH.out HSZ2.out HON.out ?_)))
          try simp only [Exit.inBlock, Exit.then]
          refine bodyPost_ret (v := .tuple #[.agg X.toArray, .int .i64 ((i : Int) + 1), .bool true]) (results_cell3_row (p := 4) (u := 5) (v := 6) rfl _ _ w.heap.size 35 X.toArray (0, 0) _ rfl HRT.out.1 Tryd.underlying35 rfl HSZ2.out) rfl ?_
          exact ⟨_, rfl, HRES.out, HRT.out.2⟩
        · have hk0 : k = 0 := by omega
          have HRES : Hid (RC l p (.tuple #[.agg X.toArray, .int .i64 ((i : Int) + 1), .bool false])) := HNX.out (by rw [HRS.out, clsR_eq, if_neg (fun h => h.2 h93), if_neg (fun h => hk h.2)]) _
          subst hk0
          clear hIL hLL hi h93 hb93 hk
          go_wp2_with (first
            | ((with_reducible show wpList _ _ _ (Oper.mk (some 97) _ _ _ _ _ :: _) _ _); go_must (refine wpList_load_mid rfl 35 (.tmp 7) rfl (w.heap.size + 1) 0 rfl X _ HRG.out Tryd.underlying35 rfl HSZ.out ?_))
            | ((with_reducible show wpList _ _ _ (Oper.mk none (Op.store 35 _ _) _ _ _ _ :: _) _ _); go_must (refine wpList_store_mid rfl 35 (.tmp 4) (.tmp 97) rfl w.heap.size 0 X.toArray rfl rfl HTH.out HSZ2.out HON.out ?_)))
          try simp only [Exit.inBlock, Exit.then]
          refine bodyPost_ret (v := .tuple #[.agg X.toArray, .int .i64 ((i : Int) + 1), .bool false]) (results_cell3_row (p := 4) (u := 5) (v := 6) rfl _ _ w.heap.size 35 X.toArray (0, 0) _ rfl HRT.out.1 Tryd.underlying35 rfl HSZ2.out) rfl ?_
          exact ⟨_, rfl, HRES.out, HRT.out.2⟩
      · have hq : (bt l i == 93) = false := bt_ne (n := 93) h93
        have HM := Lib.hid (rmember_any l i wr (by omega) (by omega))
        generalize bt l i = c at *
        have HRE : Hid (R = match rmR l i with | none => none | some (f, g, b) => clsR l l.length b (spanS S f (g + 1)) (k + 1)) := by show _ = _; rw [HRS.out, clsR_eq, if_pos ⟨hi, h93⟩]
        cases hrb : rbN l i with
        | none =>
          have HM0 := HM.out
          rw [rb_none hrb] at HM0
          have HM := Lib.hid HM0
          have HRES : Hid (∀ z, RC l p (.tuple #[.agg X.toArray, .int .i64 z, .bool false])) := HNX.out (by rw [HRE.out]; unfold rmR; rw [hrb])
          clear HM0 hIL hLL hi h93 hrb
          go_wp2_with (first
            | (go_at_call 70; refine HM.out.mono ?_; rintro e w' ⟨rfl, rfl⟩)
            | ((with_reducible show wpList _ _ _ (Oper.mk (some 47) _ _ _ _ _ :: _) _ _); go_must (refine wpList_load_mid rfl 35 (.tmp 7) rfl (w.heap.size + 1) 0 rfl X _ HRG.out Tryd.underlying35 rfl HSZ.out ?_))
            | ((with_reducible show wpList _ _ _ (Oper.mk none (Op.store 35 _ _) _ _ _ _ :: _) _ _); go_must (refine wpList_store_mid rfl 35 (.tmp 4) (.tmp 47) rfl w.heap.size 0 X.toArray rfl rfl HTH.out HSZ2.out HON.out ?_)))
          try simp only [Exit.inBlock, Exit.then]
          refine bodyPost_ret (v := .tuple #[.agg X.toArray, .int .i64 0, .bool false]) (results_cell3_row (p := 4) (u := 5) (v := 6) rfl _ _ w.heap.size 35 X.toArray (0, 0) _ rfl HRT.out.1 Tryd.underlying35 rfl HSZ2.out) rfl ?_
          exact ⟨_, rfl, HRES.out _, HRT.out.2⟩
        | some fb =>
          obtain ⟨f, b⟩ := fb
          obtain ⟨e1, hf, hib, hbl, -⟩ := rb_some hrb
          have HM0 := HM.out
          rw [e1] at HM0
          have HM := Lib.hid HM0
          have HRM : Hid (rmR l i = if b + 1 < l.length ∧ nb l b = 45 ∧ nb l (b + 1) ≠ 93 then (match rbN l (b + 1) with | none => none | some (g, d) => if f ≤ g then some (f, g, d) else none) else some (f, f, b)) := by show _ = _; unfold rmR; rw [hrb]; rfl
          have HFB : Hid (f < 256 ∧ i < b ∧ b ≤ l.length) := ⟨hf, hib, hbl⟩
          have hwb : IntKind.i64.wrap ((b : Int) + 1) = (b : Int) + 1 := IntWalk.i64_in _ (by omega)
          clear HM0 hIL hLL hi h93 hrb e1 hf hib hbl
          go_upto_region 11 with (go_at_call 70; refine HM.out.mono ?_; rintro e w' ⟨rfl, rfl⟩)
          obtain ⟨A, hA⟩ : ∃ A, A = decide (b + 1 < l.length ∧ nb l b = 45 ∧ nb l (b + 1) ≠ 93) := ⟨_, rfl⟩
          have HA := Lib.hid hA
          clear hA
          go_cut [66] (fun v wx => v = .bool A ∧ wr = wx)
          case first =>
            have hFB := HFB.out
            by_cases h1 : b + 1 < l.length
            · have hI1 : (b : Int) + 1 < ((mk l).size : Int) := by rw [HS.out]; omega
              have hI0 : (b : Int) < ((mk l).size : Int) := by rw [HS.out]; omega
              have hI2 : ¬ ((mk l).size : Int) ≤ (b : Int) + 1 := by rw [HS.out]; omega
              have hI3 : ¬ ((mk l).size : Int) ≤ (b : Int) := by rw [HS.out]; omega
              have hxb := run_at l b (by omega)
              have hxb1 := run_at l (b + 1) h1
              rw [show ((b + 1 : Nat) : Int) = (b : Int) + 1 from by omega] at hxb1
              by_cases h2 : nb l b = 45
              · have hb45 : bt l b = 45 := by rw [bt_nb, h2]; rfl
                rw [hb45] at hxb
                by_cases h3 : nb l (b + 1) = 93
                · have hb93 : bt l (b + 1) = 93 := by rw [bt_nb, h3]; rfl
                  rw [hb93] at hxb1
                  have HE : Hid (A = false) := by show _ = _; rw [HA.out]; exact decide_eq_false (fun h => h.2.2 h3)
                  clear h1 h2 h3 hb45 hb93 hFB
                  go_wp2
                  go_meet
                  exact ⟨by rw [HE.out], rfl⟩
                · have hq3 : (bt l (b + 1) == 93) = false := bt_ne (n := 93) h3
                  have HE : Hid (A = true) := by show _ = _; rw [HA.out]; exact decide_eq_true ⟨h1, h2, h3⟩
                  generalize bt l (b + 1) = c2 at *
                  clear h1 h2 h3 hb45 hFB
                  have HQ3 := Lib.hid hq3
                  go_wp2
                  go_meet
                  exact ⟨by rw [HE.out]; have := HQ3.out; simp [bne, this], rfl⟩
              · have hq2 : (bt l b == 45) = false := bt_ne (n := 45) h2
                have HE : Hid (A = false) := by show _ = _; rw [HA.out]; exact decide_eq_false (fun h => h2 h.2.1)
                generalize bt l b = c2 at *
                clear h1 h2 hFB hxb1
                go_wp2
                go_meet
                exact ⟨by rw [HE.out], rfl⟩
            · have hI1 : ¬ (b : Int) + 1 < ((mk l).size : Int) := by rw [HS.out]; omega
              have hI2 : ((mk l).size : Int) ≤ (b : Int) + 1 := by rw [HS.out]; omega
              have HE : Hid (A = false) := by show _ = _; rw [HA.out]; exact decide_eq_false (fun h => h1 h.1)
              clear h1 hFB
              go_wp2
              go_meet
              exact ⟨by rw [HE.out], rfl⟩
          case rest =>
          obtain ⟨rfl, rfl⟩ := hcut
          clear HM
          go_upto_if 66 with (fail)
          go_cut [10, 11, 12] (fun x y z wx => ∃ (g d : Nat) (ok : Bool), x = .int .i64 (d : Int) ∧ y = .bool ok ∧ z = .int .u8 (g : Int) ∧ wr = wx ∧ Hid (g < 256) ∧ Hid (rmR l i = okIf ok f g d))
          case first =>
            cases hAA : A with
            | false =>
              have HE : Hid (rmR l i = okIf true f f b) := by
                show _ = _
                unfold okIf
                rw [HRM.out, if_neg (of_decide_eq_false (by rw [← HA.out]; exact hAA)), if_pos ⟨rfl, Nat.le_refl _⟩]
              go_wp2
              go_meet
              exact ⟨f, b, true, rfl, rfl, rfl, rfl, HFB.out.1, HE⟩
            | true =>
              have hd := of_decide_eq_true (by rw [← HA.out]; exact hAA : decide (b + 1 < l.length ∧ nb l b = 45 ∧ nb l (b + 1) ≠ 93) = true)
              have hm := rmember_any l (b + 1) wr (by omega) (by have := HL.out; omega)
              rw [show ((b + 1 : Nat) : Int) = (b : Int) + 1 from by omega] at hm
              have HRM2 : Hid (rmR l i = match rbN l (b + 1) with | none => none | some (g, d) => if f ≤ g then some (f, g, d) else none) := by show _ = _; rw [HRM.out, if_pos hd]
              cases hy : rbN l (b + 1) with
              | none =>
                rw [rb_none hy] at hm
                have HM := Lib.hid hm
                have HE : Hid (rmR l i = okIf false f 0 0) := by
                  show _ = _
                  unfold okIf
                  rw [HRM2.out, hy, if_neg (by simp)]
                clear hd hm hy
                go_wp2_with (go_at_call 70; refine HM.out.mono ?_; rintro e w' ⟨rfl, rfl⟩)
                go_meet
                exact ⟨0, 0, false, rfl, rfl, rfl, rfl, by show 0 < 256; omega, HE⟩
              | some y =>
                obtain ⟨g, d⟩ := y
                obtain ⟨k1, k2, k3, k4, k5⟩ := rb_some hy
                rw [k1] at hm
                have HM := Lib.hid hm
                have HE : Hid (rmR l i = okIf true f g d) := by
                  show _ = _
                  unfold okIf
                  rw [HRM2.out, hy]
                  by_cases h : f ≤ g
                  · rw [if_pos ⟨rfl, h⟩]; exact if_pos h
                  · rw [if_neg (fun q => h q.2)]; exact if_neg h
                have HG : Hid (g < 256) := k2
                clear hd hm hy k1 k2 k3 k4 k5
                go_wp2_with (go_at_call 70; refine HM.out.mono ?_; rintro e w' ⟨rfl, rfl⟩)
                go_meet
                exact ⟨g, d, true, rfl, rfl, rfl, rfl, HG, HE⟩
          case rest =>
          obtain ⟨g, d, ok, rfl, rfl, rfl, rfl, HG, HRQ⟩ := hcut
          clear HRM
          by_cases hok : ok = true ∧ f ≤ g
          · obtain ⟨hok1, hfg⟩ := hok
            subst hok1
            have HRR : Hid (rmR l i = some (f, g, d)) := by show _ = _; rw [HRQ.out]; exact if_pos ⟨rfl, hfg⟩
            have HBD := Lib.hid (rmR_bd HRR.out)
            have hnlt : ¬ (g : Int) < (f : Int) := by omega
            have HFG := Lib.hid hfg
            have HSP : Hid (KI w wr B (spanS S f f)) := HK.out.same fun x hx => by
              unfold spanS
              have : (decide (f ≤ x) && decide (x < f)) = false := by rw [Bool.eq_false_iff]; simp
              rw [this, Bool.or_false]
            have hcf : IntKind.i64.wrap (f : Int) = (f : Int) := IntWalk.i64_in _ (by have := HFB.out; omega)
            have hcg : IntKind.i64.wrap (g : Int) = (g : Int) := IntWalk.i64_in _ (by have := HG.out; omega)
            have hwk : IntKind.i64.wrap ((k : Int) + 1) = (k : Int) + 1 := IntWalk.i64_in _ (by have := HKI.out; have := HI.out; have := HL.out; omega)
            clear HK HRG HSZ HSZ2 HON HTH HRT HNX HYX HRQ hfg
            go_wp2
            go_loopw [13] (fun v wx => ∃ j : Nat, v = .int .i64 j ∧ Hid (f ≤ j) ∧ Hid (j ≤ g + 1) ∧ Hid (KI w wx B (spanS S f j))) (fun v _ => 256 - (intOf v).toNat)
            case atStart => exact ⟨f, rfl, Nat.le_refl f, by show _ ≤ _; have := HFG.out; omega, HSP⟩
            case round =>
              clear HSP
              obtain ⟨j, rfl, HJ1, HJ2, HK⟩ := hrel
              have hg := HG.out
              have hj2 := HJ2.out
              by_cases hjg : j ≤ g
              · have hI : (j : Int) ≤ (g : Int) := by omega
                have hw : IntKind.i64.wrap ((j : Int) + 1) = (j : Int) + 1 := IntWalk.i64_in _ (by omega)
                have hj0 : (0 : Int) ≤ (j : Int) := by omega
                have hj256 : (j : Int) < 256 := by omega
                have hc := cell_of_row wr (w.heap.size + 1) (3 + j) _ _ (0, 0) HK.out.top
                rw [sgC_get _ _ _ _ _ (by omega)] at hc
                have hf : wr.frozen? ⟨w.heap.size + 1, 3 + j, none⟩ = false := unfrozen HK.out.top
                have HKN : Hid (KI w (wr.setCell ⟨w.heap.size + 1, 3 + j, none⟩ (.bool true)) B (spanS S f (j + 1))) := (HK.out.add j (by omega)).same fun x hx => by
                  have := HJ1.out
                  unfold addS spanS
                  rw [Bool.eq_iff_iff]
                  cases S x
                  · simp; omega
                  · simp
                have HJG := Lib.hid hjg
                clear hg hj2 hjg
                go_wp2
                go_roundw
                case rel => exact ⟨j + 1, by go_num, by show _ ≤ _; have := HJ1.out; omega, by show _ ≤ _; have := HJG.out; omega, HKN⟩
                case measure => have := HJG.out; have := HG.out; simp [intOf]; omega
              · have hI : ¬ (j : Int) ≤ (g : Int) := by omega
                have HKF : Hid (KI w wr B (spanS S f (g + 1))) := by
                  have : j = g + 1 := by omega
                  rw [this] at HK; exact HK
                clear hg hj2 hjg
                go_wp2
                go_roundw
                case rel => exact ⟨d, k + 1, spanS S f (g + 1), rfl, by go_num, by show _ ≤ _; have := HBD.out; omega, by show _ ≤ _; have := HBD.out; have := HKI.out; omega, by
                    show _ = _
                    rw [HRE.out, HRR.out]
                    have := HBD.out
                    exact clsR_fuel _ _ _ _ _ (by omega) (by omega), HKF⟩
                case measure => have := HBD.out; have := HIT.out; simp [intOf]; omega
          · have HRES : Hid (∀ z, RC l p (.tuple #[.agg X.toArray, .int .i64 z, .bool false])) := HNX.out (by rw [HRE.out, HRQ.out, show okIf ok f g d = none from if_neg hok])
            have HGF : Hid (ok = true → g < f) := fun h => by by_cases hq : f ≤ g; exact absurd ⟨h, hq⟩ hok; omega
            clear hok HRQ
            cases ok with
            | false =>
              go_wp2_with (first
                | ((with_reducible show wpList _ _ _ (Oper.mk (some 82) _ _ _ _ _ :: _) _ _); go_must (refine wpList_load_mid rfl 35 (.tmp 7) rfl (w.heap.size + 1) 0 rfl X _ HRG.out Tryd.underlying35 rfl HSZ.out ?_))
                | ((with_reducible show wpList _ _ _ (Oper.mk none (Op.store 35 _ _) _ _ _ _ :: _) _ _); go_must (refine wpList_store_mid rfl 35 (.tmp 4) (.tmp 82) rfl w.heap.size 0 X.toArray rfl rfl HTH.out HSZ2.out HON.out ?_)))
              try simp only [Exit.inBlock, Exit.then]
              refine bodyPost_ret (v := .tuple #[.agg X.toArray, .int .i64 0, .bool false]) (results_cell3_row (p := 4) (u := 5) (v := 6) rfl _ _ w.heap.size 35 X.toArray (0, 0) _ rfl HRT.out.1 Tryd.underlying35 rfl HSZ2.out) rfl ?_
              exact ⟨_, rfl, HRES.out _, HRT.out.2⟩
            | true =>
              have hlt : (g : Int) < (f : Int) := by have := HGF.out rfl; omega
              go_wp2_with (first
                | ((with_reducible show wpList _ _ _ (Oper.mk (some 82) _ _ _ _ _ :: _) _ _); go_must (refine wpList_load_mid rfl 35 (.tmp 7) rfl (w.heap.size + 1) 0 rfl X _ HRG.out Tryd.underlying35 rfl HSZ.out ?_))
                | ((with_reducible show wpList _ _ _ (Oper.mk none (Op.store 35 _ _) _ _ _ _ :: _) _ _); go_must (refine wpList_store_mid rfl 35 (.tmp 4) (.tmp 82) rfl w.heap.size 0 X.toArray rfl rfl HTH.out HSZ2.out HON.out ?_)))
              try simp only [Exit.inBlock, Exit.then]
              refine bodyPost_ret (v := .tuple #[.agg X.toArray, .int .i64 0, .bool false]) (results_cell3_row (p := 4) (u := 5) (v := 6) rfl _ _ w.heap.size 35 X.toArray (0, 0) _ rfl HRT.out.1 Tryd.underlying35 rfl HSZ2.out) rfl ?_
              exact ⟨_, rfl, HRES.out _, HRT.out.2⟩
    · have hIi : ¬ (i : Int) < ((mk l).size : Int) := by rw [HS.out]; omega
      have hIi' : ((mk l).size : Int) ≤ (i : Int) := by rw [HS.out]; omega
      have hw1 : IntKind.i64.wrap ((i : Int) + 1) = (i : Int) + 1 := IntWalk.i64_in _ (by omega)
      have HRES : Hid (RC l p (.tuple #[.agg X.toArray, .int .i64 ((i : Int) + 1), .bool false])) := HNX.out (by rw [HRS.out, clsR_eq, if_neg (fun h => hi h.1), if_neg (fun h => hi h.1)]) _
      clear hIL hLL hi
      go_wp2_with (first
        | ((with_reducible show wpList _ _ _ (Oper.mk (some 97) _ _ _ _ _ :: _) _ _); go_must (refine wpList_load_mid rfl 35 (.tmp 7) rfl (w.heap.size + 1) 0 rfl X _ HRG.out Tryd.underlying35 rfl HSZ.out ?_))
        | ((with_reducible show wpList _ _ _ (Oper.mk none (Op.store 35 _ _) _ _ _ _ :: _) _ _); go_must (refine wpList_store_mid rfl 35 (.tmp 4) (.tmp 97) rfl w.heap.size 0 X.toArray rfl rfl HTH.out HSZ2.out HON.out ?_)))
      try simp only [Exit.inBlock, Exit.then]
      refine bodyPost_ret (v := .tuple #[.agg X.toArray, .int .i64 ((i : Int) + 1), .bool false]) (results_cell3_row (p := 4) (u := 5) (v := 6) rfl _ _ w.heap.size 35 X.toArray (0, 0) _ rfl HRT.out.1 Tryd.underlying35 rfl HSZ2.out) rfl ?_
      exact ⟨_, rfl, HRES.out, HRT.out.2⟩
end Go.Proofs.YtokocfoeohddfaaDoor.Pa
