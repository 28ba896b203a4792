/- The document's Seal and Open. -/
import Derived.Test.YtkojldjgjmaodaaDoorOpen
import Derived.Test.YtkojldjgjmaodaaDoorRefOf
import Derived.Deep.RegionWith
namespace Go.Proofs.YtkojldjgjmaodaaDoor
open Go.RowKit Go.Proofs.CrcMath
set_option linter.unusedVariables false

theorem own_empty (w : World) (base : Nat) (hb : base ≤ w.heap.size) : Own (w.alloc (.cells #[] 5)) base (.slice (some ⟨w.heap.size, 0, none⟩) 0 0) [] :=
  ⟨by simp, .inr ⟨w.heap.size, 0, #[], rfl, hb, heap_new _ _, by simp, by simp, by simp, by simp⟩⟩

theorem rem_byte (s k : Nat) : ((s / 2 ^ (8 * k) : Nat) : Int) % 256 = ((s / 2 ^ (8 * k) % 256 : Nat) : Int) := by omega
theorem div_byte (s k : Nat) : s / 2 ^ (8 * k) / 256 = s / 2 ^ (8 * (k + 1)) := by
  rw [Nat.div_div_eq_div_mul, show 8 * (k + 1) = 8 * k + 8 from by omega, Nat.pow_add]

set_option maxHeartbeats 1000000 in
theorem rseal_any (v : Value) (l : List Int) (w : World) (hS : Sl w v l) (hl : l.length ≤ 1000000) :
    Calls Tryd.prog 14 #[v] w fun e w' => ∃ v', e = .returned v' ∧ Own w' w.heap.size v' (l ++ leB (crcN l) 4) ∧ Below w.heap.size w w' := by
  obtain ⟨i0, hi, hz0, hz1, hz2⟩ := info_parts Tryd.info5
  obtain ⟨a, cap, rfl, hB, hnil, hcap⟩ := hS
  have HOF := Lib.hid (rof_one w a l.length cap l 24 rfl hB (by omega))
  obtain ⟨s, hs⟩ : ∃ s, s = crcN l := ⟨_, rfl⟩
  have hs32 : s < 2 ^ 32 := by rw [hs]; exact crcN_lt l hB.1
  rw [← hs] at HOF
  have HSS := Lib.hid hs
  have HS32 := Lib.hid hs32
  obtain ⟨n, hn⟩ : ∃ n, n = l.length := ⟨_, rfl⟩
  rw [← hn] at HOF hl hcap ⊢
  have HN := Lib.hid hn
  have hb1 : Below w.heap.size w ((w.alloc (.cells #[.slice a n cap] 24)).alloc (.cells #[] 5)) := ((Below.refl _ _).alloc (Nat.le_refl _) _).alloc (by simp) _
  have ho1 : Own ((w.alloc (.cells #[.slice a n cap] 24)).alloc (.cells #[] 5)) w.heap.size (.slice (some ⟨(w.alloc (.cells #[.slice a n cap] 24)).heap.size, 0, none⟩) 0 0) [] := own_empty _ _ (by simp)
  have e1 : (w.alloc (.cells #[.slice a n cap] 24)).heap.size = w.heap.size + 1 := by simp
  rw [e1] at ho1
  have HB1 := Lib.hid hb1
  have HO1 := Lib.hid ho1
  have HBY := Lib.hid (hB.later hb1)
  clear hs hs32 hn hb1 ho1 e1
  have key : ∀ (u : Value) (w3 : World), Own w3 w.heap.size u l → Below w.heap.size w w3 → True := fun _ _ _ _ => trivial
  clear key
  rcases a with _ | ad
  · have hc := hnil rfl
    subst hc
    have hn0 : n = 0 := by omega
    subst hn0
    have hl0 : l = [] := List.eq_nil_of_length_eq_zero HN.out.symm
    have HL0 := Lib.hid hl0
    clear hl0 hB hnil
    go_enter Tryd.func14, Tryd.ntmps14
    go_wp2_with fail
    refine HOF.out.mono ?_
    rintro e w' ⟨rfl, rfl⟩
    go_wp2_with (at_builtin; refine wpList_append_own_none rfl (.tmp 9) (.tmp 10) 24 rfl w.heap.size 5 i0 1 Tryd.underlying24 hi _ _ _ rfl HO1.out rfl ?_)
    go_loopw [3, 4, 5] (fun t u c wr => ∃ k x : Nat, k ≤ 4 ∧ c = .int .i64 k ∧ t = .int .u32 x ∧ Hid (x = s / 2 ^ (8 * k)) ∧ x < 4294967296 ∧ Own wr w.heap.size u (l ++ leB s k) ∧ Below w.heap.size w wr ∧ w.heap.size ≤ wr.heap.size) (fun _ _ c _ => 4 - (intOf c).toNat)
    case atStart => exact ⟨0, s, by omega, rfl, rfl, (by show _ = _; simp), HS32.out, by rw [HL0.out]; simpa [leB] using HO1.out, HB1.out, HB1.out.size⟩
    case round =>
      obtain ⟨k, x, hk, rfl, rfl, HX, hx32, hown, hbel, hbw⟩ := hrel
      obtain ⟨L, hL⟩ : ∃ L, L = l ++ leB s k := ⟨_, rfl⟩
      rw [← hL] at hown
      have hlen : L.length = 0 + k := by rw [hL, List.length_append, leB_length, ← HN.out]
      have HO := Lib.hid hown
      have HL := Lib.hid hlen
      have HLL := Lib.hid hL
      clear hown hlen hL
      by_cases hlt : k < 4
      · have HQ : Hid ((x : Int) % 256 = ((s / 2 ^ (8 * k) % 256 : Nat) : Int)) := by show _ = _; rw [HX.out]; exact rem_byte s k
        go_wp2_with (at_builtin; refine wpList_append_own _ rfl (.tmp 16) (.tmp 20) 24 rfl w.heap.size 5 i0 (.int .u8 0) 1 1 Tryd.underlying24 hi hz0 hz1 hz2 rfl (by decide) _ _ _ rfl (World.ownsRow.alloc HO.out _) ⟨wr.heap.size, 0, none⟩ 1 1 [.int .u8 ((x : Int) % 256)] rfl rfl (cell_one_new _ _ _) (by simp [Value.oneCell']) (by rw [HL.out]; unfold maxLen; omega) (by rw [HL.out]; omega) (by simp; omega) ?_)
        intro v' w4 hown' hgrow _
        have R := Lib.hid (step1 HO.out hbel hbw HQ.out hown' hgrow)
        clear hown' hgrow
        go_wp2
        go_roundw
        case rel => exact ⟨k + 1, x / 256, by omega, by go_num, by go_num, (by show _ = _; rw [HX.out, div_byte]), by omega, by rw [leB_succ, ← List.append_assoc, ← HLL.out]; exact R.out.1, R.out.2.1, R.out.2.2⟩
        case measure => simp [intOf]; omega
      · have hk4 : k = 4 := by omega
        subst hk4
        go_wp2
        go_ret
        exact ⟨_, rfl, by rw [← HSS.out, ← HLL.out]; exact HO.out, hbel⟩
  · clear hB hnil
    go_enter Tryd.func14, Tryd.ntmps14
    go_wp2_with fail
    refine HOF.out.mono ?_
    rintro e w' ⟨rfl, rfl⟩
    go_wp2_with (at_builtin; refine wpList_append_own _ rfl (.tmp 9) (.tmp 10) 24 rfl w.heap.size 5 i0 (.int .u8 0) 1 1 Tryd.underlying24 hi hz0 hz1 hz2 rfl (by decide) _ _ _ rfl HO1.out ad n cap (l.map (Value.int .u8)) rfl (by rw [List.length_map, ← HN.out, Nat.mul_one]) (Bytes.src HBY.out) (oneCells l) (by unfold maxLen; simp; omega) (by simp; omega) (HB1.out.size) ?_)
    intro v2 w2 hown2 hgrow2 _
    have R2 := own_more (m := l) HO1.out HB1.out.size (by rw [← HN.out]; simpa using hown2) hgrow2
    rw [List.nil_append] at R2
    have HO2 := Lib.hid R2.1
    have HB2 := Lib.hid (HB1.out.trans R2.2)
    clear hown2 hgrow2 R2
    go_wp2
    go_loopw [3, 4, 5] (fun t u c wr => ∃ k x : Nat, k ≤ 4 ∧ c = .int .i64 k ∧ t = .int .u32 x ∧ Hid (x = s / 2 ^ (8 * k)) ∧ x < 4294967296 ∧ Own wr w.heap.size u (l ++ leB s k) ∧ Below w.heap.size w wr ∧ w.heap.size ≤ wr.heap.size) (fun _ _ c _ => 4 - (intOf c).toNat)
    case atStart => exact ⟨0, s, by omega, rfl, rfl, (by show _ = _; simp), HS32.out, by simpa [leB] using HO2.out, HB2.out, HB2.out.size⟩
    case round =>
      obtain ⟨k, x, hk, rfl, rfl, HX, hx32, hown, hbel, hbw⟩ := hrel
      obtain ⟨L, hL⟩ : ∃ L, L = l ++ leB s k := ⟨_, rfl⟩
      rw [← hL] at hown
      have hlen : L.length = n + k := by rw [hL, List.length_append, leB_length, ← HN.out]
      have HO := Lib.hid hown
      have HL := Lib.hid hlen
      have HLL := Lib.hid hL
      clear hown hlen hL
      by_cases hlt : k < 4
      · have HQ : Hid ((x : Int) % 256 = ((s / 2 ^ (8 * k) % 256 : Nat) : Int)) := by show _ = _; rw [HX.out]; exact rem_byte s k
        go_wp2_with (at_builtin; refine wpList_append_own _ rfl (.tmp 16) (.tmp 20) 24 rfl w.heap.size 5 i0 (.int .u8 0) 1 1 Tryd.underlying24 hi hz0 hz1 hz2 rfl (by decide) _ _ _ rfl (World.ownsRow.alloc HO.out _) ⟨wr.heap.size, 0, none⟩ 1 1 [.int .u8 ((x : Int) % 256)] rfl rfl (cell_one_new _ _ _) (by simp [Value.oneCell']) (by rw [HL.out]; unfold maxLen; omega) (by rw [HL.out]; omega) (by simp; omega) ?_)
        intro v' w4 hown' hgrow _
        have R := Lib.hid (step1 HO.out hbel hbw HQ.out hown' hgrow)
        clear hown' hgrow
        go_wp2
        go_roundw
        case rel => exact ⟨k + 1, x / 256, by omega, by go_num, by go_num, (by show _ = _; rw [HX.out, div_byte]), by omega, by rw [leB_succ, ← List.append_assoc, ← HLL.out]; exact R.out.1, R.out.2.1, R.out.2.2⟩
        case measure => simp [intOf]; omega
      · have hk4 : k = 4 := by omega
        subst hk4
        go_wp2
        go_ret
        exact ⟨_, rfl, by rw [← HSS.out, ← HLL.out]; exact HO.out, hbel⟩

theorem toList_inj {a b : ByteArray} (h : a.toList = b.toList) : a = b := by
  have h2 : a.data.toList = b.data.toList := by simpa [ByteArray.toList_eq] using h
  cases a; cases b; simp at h2; rw [h2]

/-- sealed again it is what it was, just where the sum is the one that is laid -/
theorem seal_eq (l : List Int) (m : Nat) (hl : m + 4 = l.length) (ho : Oct l) : (l.take m ++ leB (crcN (l.take m)) 4 = l) ↔ leV (l.drop m) 4 = crcN (l.take m) := by
  have hc32 := crcN_lt (l.take m) (ho.take m)
  have hv := leV_leB (crcN (l.take m)) 4 4 (Nat.le_refl _)
  rw [Nat.mod_eq_of_lt hc32] at hv
  constructor
  · intro h
    have hd : l.drop m = leB (crcN (l.take m)) 4 := by
      have hlm : (l.take m).length = m := by rw [List.length_take]; omega
      have h2 := congrArg (List.drop m) h
      rw [List.drop_append_of_le_length (by omega), List.drop_eq_nil_of_le (by omega), List.nil_append] at h2
      exact h2.symm
    rw [hd, hv]
  · intro h
    have hd : leB (crcN (l.take m)) 4 = l.drop m := by
      have hi := leV_inj (leB (crcN (l.take m)) 4) (l.drop m) (leB_oct _ _) (ho.drop m) 4 (by rw [hv, h])
      apply List.ext_getElem
      · rw [leB_length, List.length_drop]; omega
      · intro i h1 h2
        have := hi i (by rw [leB_length] at h1; exact h1)
        rwa [List.getD_eq_getElem?_getD, List.getD_eq_getElem?_getD, List.getElem?_eq_getElem h1, List.getElem?_eq_getElem h2] at this
    rw [hd, List.take_append_drop]

set_option maxHeartbeats 1000000 in
theorem ropen_any (v : Value) (l : List Int) (w : World) (hS : Sl w v l) (hl : l.length ≤ 1000000) :
    Calls Tryd.prog 16 #[v] w fun e w' => ∃ u, e = .returned (.tuple #[u, .int .i64 (openE l)]) ∧ Own w' w.heap.size u (openL l) ∧ Below w.heap.size w w' := by
  obtain ⟨a, cap, rfl, hB, hnil, hcap⟩ := hS
  by_cases h4 : l.length < 4
  · have HE : Hid (openE l = 4) := by show _ = _; unfold openE; rw [if_pos (by omega)]
    have HL : Hid (openL l = []) := by show _ = _; unfold openL; rw [HE.out]; rfl
    clear hB hnil
    go_enter Tryd.func16, Tryd.ntmps16
    go_wp2
    go_ret2
    exact ⟨.slice none 0 0, by rw [HE.out]; rfl, by rw [HL.out]; exact Own.nil _ _, Below.refl _ _⟩
  · obtain ⟨m, hm⟩ : ∃ m, m + 4 = l.length := ⟨l.length - 4, by omega⟩
    obtain ⟨i0, hi, hz0, hz1, hz2⟩ := info_parts Tryd.info5
    have hne : l ≠ [] := by intro e; subst e; simp at hm
    obtain ⟨b, off, rfl, hc⟩ := hB.2 hne
    have hfirst := run_first hB cap hcap hnil m (by omega)
    obtain ⟨a2, hrun, hS2⟩ := hfirst
    obtain ⟨a3, c3, e3, hB3, hn3, hc3⟩ := hS2
    simp only [Value.slice.injEq] at e3
    obtain ⟨rfl, hm3, rfl⟩ := e3
    have hEv : openE l = if leV (l.drop m) 4 = crcN (l.take m) then 0 else 6 := by
      unfold openE; rw [if_neg (by omega), show l.length - 4 = m from by omega]
    have hiff := seal_eq l m hm hB.1
    rw [← hm] at hrun hcap hl ⊢
    have HEV := Lib.hid hEv
    have HIFF := Lib.hid hiff
    have HB := Lib.hid hB
    have HM := Lib.hid hm
    have HM3 := Lib.hid hm3
    have ho1 := own_empty w w.heap.size (Nat.le_refl _)
    have hb1 : Below w.heap.size w (w.alloc (.cells #[] 5)) := (Below.refl _ _).alloc (Nat.le_refl _) _
    have HO1 := Lib.hid ho1
    have HB1 := Lib.hid hb1
    have HB3 := Lib.hid (hB3.later hb1)
    have HN3 := Lib.hid hn3
    clear hEv hiff hB hm hm3 ho1 hb1 hB3 hn3 hc hnil hne h4 hc3
    rcases a2 with _ | ad
    · exfalso; have := HN3.out rfl; omega
    · go_enter Tryd.func16, Tryd.ntmps16
      go_wp2_with (at_builtin; refine wpList_append_own _ rfl (.tmp 8) (.tmp 13) 24 rfl w.heap.size 5 i0 (.int .u8 0) 1 1 Tryd.underlying24 hi hz0 hz1 hz2 rfl (by decide) _ _ _ rfl HO1.out ad m cap ((l.take m).map (Value.int .u8)) rfl (by rw [List.length_map, ← HM3.out, Nat.mul_one]) (Bytes.src HB3.out) (oneCells (l.take m)) (by unfold maxLen; simp; omega) (by simp; omega) (HB1.out.size) ?_)
      intro v2 w2 hown2 hgrow2 _
      have R2 := own_more (m := l.take m) HO1.out HB1.out.size (by rw [← HM3.out]; simpa using hown2) hgrow2
      rw [List.nil_append] at R2
      have HO2 := Lib.hid R2.1
      have HB2 := Lib.hid (HB1.out.trans R2.2)
      have hsz2 := HB2.out.size
      have hS2 := R2.1.sl (HB.out.1.take m)
      have hBy2 := HB.out.later HB2.out
      clear hown2 hgrow2 R2
      have hst : (convert 24 9 (.slice (some ⟨b, off, none⟩) (m + 4) cap)).run Tryd.prog w2.drew = .ok (.string (strOfNums l)) w2.drew := run_str (w := w2.drew) hBy2 (m + 4) cap HM.out
      have hrs : Calls Tryd.prog 14 #[v2] w2.drew fun e w' => ∃ v', e = .returned v' ∧ Sl w' v' (l.take m ++ leB (crcN (l.take m)) 4) ∧ (convert 24 9 (.slice (some ⟨b, off, none⟩) (m + 4) cap)).run Tryd.prog w' = .ok (.string (strOfNums l)) w' ∧ Below w2.drew.heap.size w2.drew w' := by
        refine (rseal_any v2 (l.take m) w2.drew hS2 (by rw [← HM3.out]; omega)).mono ?_
        rintro e w' ⟨v', rfl, hown', hb'⟩
        exact ⟨v', rfl, hown'.sl ((HB.out.1.take m).append (leB_oct _ _)), run_str (Bytes.later (w := w2.drew) hBy2 hb') (m + 4) cap HM.out, hb'⟩
      obtain ⟨L3, hL3⟩ : ∃ L3, L3 = l.take m ++ leB (crcN (l.take m)) 4 := ⟨_, rfl⟩
      rw [← hL3] at hrs
      have HRS := Lib.hid hrs
      have HL3 := Lib.hid hL3
      clear hrs hL3 hS2
      by_cases heq : L3 = l
      · have HE : Hid (openE l = 0) := by show _ = _; rw [HEV.out, if_pos (HIFF.out.1 (by rw [← HL3.out]; exact heq))]
        have HL : Hid (openL l = l.take m) := by show _ = _; unfold openL; rw [HE.out, if_pos rfl, show l.length - 4 = m from by have := HM.out; omega]
        have hst' := hst
        obtain ⟨S0, hS0⟩ : ∃ S0, S0 = strOfNums l := ⟨_, rfl⟩
        rw [← hS0] at hst HRS
        have HS3 : Hid (S0 = strOfNums L3) := by show _ = _; rw [heq]; exact hS0
        have n1 : (S0.toList == S0.toList) = true := by simp
        have n2 : (!S0.toList == S0.toList) = false := by simp
        clear heq hS0 hst'
        go_wp2
        go_region_with (first
          | (go_at_call 14; refine HRS.out.mono ?_; rintro e w3 ⟨v3, rfl, ⟨a4, c4, e4, hB4, hn4, hc4⟩, hst3, hb3⟩; subst e4; have hst4 := run_str hB4 L3.length c4 rfl; rw [← HS3.out] at hst4))
        all_goals go_wp2
        all_goals go_ret2
        all_goals exact ⟨v2, by rw [HE.out]; rfl, by rw [HL.out]; exact HO2.out.below ((Below.refl _ _).drew.trans hb3), HB2.out.trans ((Below.refl _ _).drew.trans (hb3.mono hsz2))⟩
      · have HE : Hid (openE l = 6) := by show _ = _; rw [HEV.out, if_neg (fun h => heq (by rw [HL3.out]; exact HIFF.out.2 h))]
        have HL : Hid (openL l = []) := by show _ = _; unfold openL; rw [HE.out]; rfl
        have hO3 : Oct L3 := by rw [HL3.out]; exact (HB.out.1.take m).append (leB_oct _ _)
        have hne2 : strOfNums L3 ≠ strOfNums l := fun h => heq (strOfNums_inj _ _ hO3 HB.out.1 h)
        obtain ⟨S3, hS3⟩ : ∃ S3, S3 = strOfNums L3 := ⟨_, rfl⟩
        obtain ⟨S0, hS0⟩ : ∃ S0, S0 = strOfNums l := ⟨_, rfl⟩
        rw [← hS3, ← hS0] at hne2
        rw [← hS0] at hst HRS
        have HS3 := Lib.hid hS3
        have n1 : (S3.toList == S0.toList) = false := by
          rw [beq_eq_false_iff_ne]; exact fun h => hne2 (toList_inj h)
        have n2 : (!S3.toList == S0.toList) = true := by rw [n1]; rfl
        clear heq hS3 hS0 hO3 hne2
        go_wp2
        go_region_with (first
          | (go_at_call 14; refine HRS.out.mono ?_; rintro e w3 ⟨v3, rfl, ⟨a4, c4, e4, hB4, hn4, hc4⟩, hst3, hb3⟩; subst e4; have hst4 := run_str hB4 L3.length c4 rfl; rw [← HS3.out] at hst4))
        all_goals go_wp2
        all_goals go_ret2
        all_goals exact ⟨.slice none 0 0, by rw [HE.out]; rfl, by rw [HL.out]; exact Own.nil _ _, HB2.out.trans ((Below.refl _ _).drew.trans (hb3.mono hsz2))⟩
end Go.Proofs.YtkojldjgjmaodaaDoor
