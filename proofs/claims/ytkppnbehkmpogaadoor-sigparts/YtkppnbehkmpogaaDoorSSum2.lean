/- sha's Sum of a state, New, Len; the sum of bytes. -/
import Derived.Test.YtkppnbehkmpogaaDoorSSum
import Derived.Great.BuildSlice
namespace Go.Proofs.YtkppnbehkmpogaaDoor.Sha
open Go.RowKit Go.Proofs.ShaMath Go.Proofs.CopyW
set_option linter.unusedVariables false
set_option maxRecDepth 100000

theorem sum_math (K l : List Int) : ((run K (l ++ tail l.length) ((l ++ tail l.length).length / 64)).list.map wb).flatten = sumB K l := rfl
theorem sumB_oct (K l : List Int) : Oct (sumB K l) := by
  intro c hc
  simp only [sumB, List.mem_flatten, List.mem_map] at hc
  obtain ⟨_, ⟨y, _, rfl⟩, hc⟩ := hc
  exact wb_oct y c hc
theorem sumB_length (K l : List Int) : (sumB K l).length = 32 := rfl

theorem four_sl' (w : World) (x : Int) (hx : U32 x) : Sl (w.alloc (.cells #[.int .u8 (x / 16777216), .int .u8 (x / 65536 % 256), .int .u8 (x / 256 % 256), .int .u8 (x % 256)] 5)) (.slice (some ⟨w.heap.size, 0, none⟩) 4 4) (wb x) := by
  have e : x / 16777216 = x / 16777216 % 256 := by unfold U32 at hx; omega
  rw [e]
  exact ⟨_, 4, rfl, lit_bytes w (wb x) (0, 0) (wb_oct x), by simp, by simp [wb]⟩

set_option maxHeartbeats 4000000 in
set_option maxRecDepth 1000000 in
theorem sum_walk (g : Nat) (K l : List Int) (w : World) (hW : Wrote w g K l) (hT : Tab w 2 K) (hl : l.length ≤ 900000000000) :
    Calls Tryd.prog 80 #[.pointer (some ⟨g, 0, none⟩)] w fun e w' => e = .returned (.string (strOfNums (sumB K l))) ∧ Below w.heap.size w w' := by
  have HT := Lib.hid hT
  obtain ⟨R, hR, hRo, hR3, hC⟩ := hW
  have HCP := Lib.hid (copy_walk g _ R _ w hC hR)
  have HWR : Hid (∀ w1, StC w1 w.heap.size (run K l (l.length / 64)) R l.length → Wrote w1 w.heap.size K l) := fun w1 h => ⟨R, hR, hRo, hR3, h⟩
  have h1lt := hT.1
  generalize run K l (l.length / 64) = S0 at HCP HWR
  have HFI : Hid (∀ w1, Wrote w1 w.heap.size K l → Tab w1 2 K → Calls Tryd.prog 89 #[.pointer (some ⟨w.heap.size, 0, none⟩)] w1 fun e w' => e = .returned (.tuple #[]) ∧ Wrote w' w.heap.size K (l ++ tail l.length) ∧ But w1 w' w.heap.size) := fun w1 h1 h2 => fill_walk w.heap.size K l w1 h1 h2 (by omega) hl
  generalize l.length = n0 at HCP HWR
  clear hC hR hRo hR3 hT
  go_enter Tryd.func80, Tryd.ntmps80
  go_wp2_with fail
  refine HCP.out.mono ?_
  rintro e w1 ⟨rfl, hC1, hb1⟩
  have hW1 := HWR.out w1 hC1
  have HB1 := Lib.hid hb1
  have HF := Lib.hid (HFI.out w1 hW1 (HT.out.later hb1))
  clear HCP HWR HFI hC1 hW1 hb1
  go_wp2_with fail
  refine HF.out.mono ?_
  rintro e w2 ⟨rfl, hW2, hb2⟩
  obtain ⟨F, hF⟩ : ∃ F, F = l ++ tail l.length := ⟨_, rfl⟩
  rw [← hF] at hW2
  obtain ⟨R2, hR2, _, _, hC2⟩ := hW2
  obtain ⟨S, hS⟩ : ∃ S, S = run K F (F.length / 64) := ⟨_, rfl⟩
  have hSo : S.ok := by rw [hS]; exact run_ok _ _ _
  rw [← hS] at hC2
  have hsum : (S.list.map wb).flatten = sumB K l := by rw [hS, hF]; rfl
  have HSUM := Lib.hid hsum
  have HSO := Lib.hid hSo
  have HB2 : Hid (Below w.heap.size w w2) := HB1.out.trans (hb2.below (Nat.le_refl _) HB1.out.size)
  obtain ⟨c0, c1, c2, c3, c4, c5, c6, c7⟩ := hC2.words
  have hz2 := HB2.out.size
  clear hF hS hSo hsum hC2 hR2 hb2 HF HB1
  obtain ⟨i0, hi0, hz0, hz1, hzz⟩ := info_parts Tryd.info5
  have hmk := run_make (P := Tryd.prog) w2 22 5 i0 (.int .u8 0) Tryd.underlying22 hi0 hz0 .i64 .i64 0 32 (by omega) (by omega) (by rw [hzz]; omega) (by omega)
  rw [hz1] at hmk
  have hcp : (32 : Int).toNat = 32 := by omega
  simp only [hcp, Int.toNat_zero] at hmk
  have H0 : Hid (Own (w2.alloc (.cells (madeCells (Value.int .u8 0).cells (32 * 1)) 5)) w2.heap.size (.slice (some ⟨w2.heap.size, 0, none⟩) 0 32) []) := by
    have := World.ownsRow_made (base := w2.heap.size) (e := 5) (size := 1) w2 (madeCells (Value.int .u8 0).cells (32 * 1)) 32 (Nat.le_refl _) (by unfold maxLen; omega) (by rw [size_madeCells])
    exact this
  have hbb : Below w2.heap.size w2 (w2.alloc (.cells (madeCells (Value.int .u8 0).cells (32 * 1)) 5)) := (Below.refl _ _).alloc (Nat.le_refl _) _
  have HB0 := Lib.hid hbb
  have d0 := cell_later hbb c0
  have d1 := cell_later hbb c1
  have d2 := cell_later hbb c2
  have d3 := cell_later hbb c3
  have d4 := cell_later hbb c4
  have d5 := cell_later hbb c5
  have d6 := cell_later hbb c6
  have d7 := cell_later hbb c7
  generalize w2.alloc (.cells (madeCells (Value.int .u8 0).cells (32 * 1)) 5) = w3 at hmk H0 HB0 d0 d1 d2 d3 d4 d5 d6 d7
  clear hcp hbb c0 c1 c2 c3 c4 c5 c6 c7
  go_wp2
  rw [show #[Value.int .u32 S.a, .int .u32 S.b, .int .u32 S.c, .int .u32 S.d, .int .u32 S.e, .int .u32 S.f, .int .u32 S.g, .int .u32 S.h] = words S from rfl]
  clear d0 d1 d2 d3 d4 d5 d6 d7 hmk
  go_loopw [4, 18] (fun v c wr => ∃ (k : Nat) (a : Option Addr) (cp : Nat), v = .slice a (4 * k) cp ∧ c = .int .i64 (k : Int) ∧ k ≤ 8 ∧ Hid (Own wr w2.heap.size (.slice a (4 * k) cp) ((S.list.take k).map wb).flatten) ∧ Below w2.heap.size w2 wr) (fun _ c _ => 8 - (intOf c).toNat)
  case atStart => exact ⟨0, _, _, rfl, rfl, by omega, H0, HB0.out⟩
  case round =>
    clear H0 HB0
    obtain ⟨k, a3, cap3, rfl, rfl, hk, HV, hbel⟩ := hrel
    have HBX := Lib.hid hbel
    have hzx := hbel.size
    clear hbel
    by_cases hk8 : k < 8
    · have hidx := fun W => run_idx8 S k W hk8
      have hxu := list_u32 HSO.out k
      have hsn : ((S.list.take k).map wb).flatten ++ wb (S.list.getD k 0) = ((S.list.take (k + 1)).map wb).flatten := by
        rw [take_snoc _ _ (by simp [St.list]; omega)]; simp
      have hln : ((S.list.take k).map wb).flatten.length = 4 * k := by
        have h8 : k = 0 ∨ k = 1 ∨ k = 2 ∨ k = 3 ∨ k = 4 ∨ k = 5 ∨ k = 6 ∨ k = 7 := by omega
        rcases h8 with rfl | rfl | rfl | rfl | rfl | rfl | rfl | rfl <;> rfl
      obtain ⟨x, hx⟩ : ∃ x, x = S.list.getD k 0 := ⟨_, rfl⟩
      obtain ⟨Z, hZ⟩ : ∃ Z, Z = ((S.list.take k).map wb).flatten := ⟨_, rfl⟩
      rw [← hx] at hidx hxu hsn
      rw [← hZ] at hsn hln HV
      have HSN := Lib.hid hsn
      have HLN := Lib.hid hln
      clear hx hZ hsn hln
      have H4 := Lib.hid (four_sl' wr x hxu)
      unfold U32 at hxu
      have p0 : (0 : Int) ≤ (k : Int) := by omega
      have p1 : (k : Int) < 8 := by omega
      generalize hwr : words S = WR at *
      clear hwr
      have HVd : Hid (Own (wr.alloc (.cells #[.int .u8 (x / 16777216), .int .u8 (x / 65536 % 256), .int .u8 (x / 256 % 256), .int .u8 (x % 256)] 5)) w2.heap.size (.slice a3 (4 * k) cap3) Z) := World.ownsRow.alloc HV.out _
      go_wp2_with (at_builtin; refine append_sl rfl (.tmp 21) (.tmp 33) rfl w2.heap.size _ _ Z (wb x) rfl HVd.out rfl H4.out (by rw [HLN.out]; simp [wb]; omega) (by simp; omega) ?_)
      intro v6 w6 HV6 hb6
      obtain ⟨a6, cap6, ev6⟩ := own_form HV6.out
      have hl6 : (Z ++ wb x).length = 4 * (k + 1) := by rw [List.length_append, HLN.out]; simp [wb]; omega
      rw [hl6] at ev6
      subst ev6
      have HV7 : Hid (Own w6 w2.heap.size (.slice a6 (4 * (k + 1)) cap6) ((S.list.take (k + 1)).map wb).flatten) := by
        have h := HV6.out
        rw [HSN.out] at h
        exact h
      have HB6 : Hid (Below w2.heap.size w2 w6) := HBX.out.trans (((Below.refl _ _).alloc (by omega) _).trans hb6)
      clear HV6 hb6 hl6 HVd H4 hidx
      go_wp2
      go_roundw
      case rel => exact ⟨k + 1, a6, cap6, rfl, by go_num, by omega, HV7, HB6.out⟩
      case measure => simp [intOf]; omega
    · have hk88 : k = 8 := by omega
      have hkk : ¬ (k : Int) < 8 := by omega
      have hlen : 4 * k = (sumB K l).length := by rw [hk88, sumB_length]
      have HV' : Hid (Bytes wr a3 (sumB K l)) := by
        have h := HV.out
        rw [hk88, List.take_of_length_le (by simp [St.list]), HSUM.out] at h
        obtain ⟨a9, c9, e9, hby9, _, _⟩ := h.sl (sumB_oct K l)
        have e10 : a3 = a9 := by injection e9
        rw [e10]
        exact hby9
      have hstr := run_str HV'.out (4 * k) cap3 hlen
      clear hk88 hlen HV
      go_wp2
      go_ret
      exact ⟨rfl, HB2.out.trans (HBX.out.mono hz2)⟩

theorem none_copy (w : World) : Calls Tryd.prog 88 #[.pointer none] w fun e w' => e = .returned (.pointer none) ∧ w = w' := by
  go_enter Tryd.func88, Tryd.ntmps88
  go_wp2
  go_ret
  exact ⟨rfl, rfl⟩
theorem none_sum (w : World) : Calls Tryd.prog 80 #[.pointer none] w fun e w' => e = .returned (.string ByteArray.empty) ∧ w = w' := by
  go_enter Tryd.func80, Tryd.ntmps80
  go_wp2
  go_ret
  exact ⟨rfl, rfl⟩
theorem none_write (a : Option Addr) (n cap : Nat) (w : World) : Calls Tryd.prog 79 #[.pointer none, .slice a n cap] w fun e w' => e = .returned (.tuple #[]) ∧ w = w' := by
  go_enter Tryd.func79, Tryd.ntmps79
  go_wp2
  try simp only [Exit.inBlock, Exit.then]
  refine bodyPost_ret (results_none rfl _ _ _) rfl ?_
  exact ⟨rfl, rfl⟩

theorem built104 : Tryd.prog.built 104 [(0, .agg #[.int .u32 1779033703, .int .u32 3144134277, .int .u32 1013904242, .int .u32 2773480762, .int .u32 1359893119, .int .u32 2600822924, .int .u32 528734635, .int .u32 1541459225])] = some (stc init (List.replicate 64 0) 0).toArray := by kernel_rfl

set_option maxHeartbeats 4000000 in
set_option maxRecDepth 1000000 in
theorem new_walk (w : World) : Calls Tryd.prog 78 #[] w fun e w' => e = .returned (.pointer (some ⟨w.heap.size, 0, none⟩)) ∧ w.alloc (.cells (stc init (List.replicate 64 0) 0).toArray 104) = w' := by
  have hb := built104
  obtain ⟨X, hX⟩ : ∃ X, X = stc init (List.replicate 64 0) 0 := ⟨_, rfl⟩
  rw [← hX] at hb ⊢
  have HB := Lib.hid hb
  clear hX hb
  go_enter Tryd.func78, Tryd.ntmps78
  go_wp2_with ((with_reducible show wpList _ _ _ (Oper.mk (some 2) _ _ _ _ _ :: _) _ _); go_must (refine wpList_buildTo rfl 104 #[(0, .tmp 1)] rfl (some 2) rfl X.toArray (by simpa [Act.eval] using HB.out) ?_))
  go_ret
  exact ⟨rfl, rfl⟩

theorem new_wrote (w : World) (K : List Int) : Wrote (w.alloc (.cells (stc init (List.replicate 64 0) 0).toArray 104)) w.heap.size K [] :=
  ⟨List.replicate 64 0, by simp, by intro x hx; simp at hx; omega, by simp, heap_new _ _⟩

set_option maxHeartbeats 4000000 in
set_option maxRecDepth 1000000 in
/-- sha.Sum -/
theorem sumof_walk (a : Option Addr) (cap : Nat) (K m : List Int) (w : World) (hS : Bytes w a m) (hT : Tab w 2 K) (hnil : a = none → cap = 0) (hcap : m.length ≤ cap) (hcb : cap ≤ 9223372036854775807) (hl : m.length ≤ 900000000000) :
    Calls Tryd.prog 57 #[.slice a m.length cap] w fun e w' => e = .returned (.string (strOfNums (sumB K m))) ∧ Below w.heap.size w w' := by
  obtain ⟨g, hg⟩ : ∃ g, g = w.heap.size := ⟨_, rfl⟩
  have HB1 : Hid (Below w.heap.size w (w.alloc (.cells (stc init (List.replicate 64 0) 0).toArray 104))) := (Below.refl _ _).alloc (Nat.le_refl _) _
  have hsrc : Src w g a m := by
    refine ⟨hS.1, fun hne => ?_⟩
    obtain ⟨b, off, e, hc⟩ := hS.2 hne
    refine ⟨b, off, e, ?_, hc⟩
    have h0 := hc 0 (by cases m with | nil => exact absurd rfl hne | cons => simp)
    have := World.block_lt_of_cell? w _ h0
    simp at this
    omega
  have h1 := hT.1
  have HWR : Hid (Calls Tryd.prog 79 #[.pointer (some ⟨g, 0, none⟩), .slice a m.length cap] (w.alloc (.cells (stc init (List.replicate 64 0) 0).toArray 104)) fun e w' => e = .returned (.tuple #[]) ∧ Wrote w' g K m ∧ But (w.alloc (.cells (stc init (List.replicate 64 0) 0).toArray 104)) w' g) := by
    have h := write_walk a cap g K [] m (w.alloc (.cells (stc init (List.replicate 64 0) 0).toArray 104)) (by rw [hg]; exact new_wrote w K) (hT.later HB1.out) (by omega) (hsrc.but (But.of_below HB1.out)) hnil hcap hcb (by simp; omega)
    rw [List.nil_append] at h
    exact h
  have HNW := Lib.hid (new_walk w)
  have HT := Lib.hid hT
  have HSM : Hid (∀ w2, Wrote w2 g K m → Tab w2 2 K → Calls Tryd.prog 80 #[.pointer (some ⟨g, 0, none⟩)] w2 fun e w' => e = .returned (.string (strOfNums (sumB K m))) ∧ Below w2.heap.size w2 w') := fun w2 h2 h3 => sum_walk g K m w2 h2 h3 hl
  rw [← hg] at HNW
  generalize w.alloc (.cells (stc init (List.replicate 64 0) 0).toArray 104) = w1 at HB1 HWR HNW
  generalize strOfNums (sumB K m) = SB at HSM ⊢
  generalize m.length = M at HWR ⊢
  have HG := Lib.hid hg
  clear hT hS hsrc hnil hcap hcb hl hg
  go_enter Tryd.func57, Tryd.ntmps57
  go_wp2_with fail
  refine HNW.out.mono ?_
  rintro e w' ⟨rfl, rfl⟩
  go_wp2_with fail
  refine HWR.out.mono ?_
  rintro e w2 ⟨rfl, hw2, hb2⟩
  have HB2 : Hid (Below w.heap.size w w2) := HB1.out.trans (hb2.below (by rw [HG.out]; exact Nat.le_refl _) HB1.out.size)
  have HS2 := Lib.hid (HSM.out w2 hw2 (HT.out.later HB2.out))
  clear hw2 hb2 HSM HWR HNW
  go_wp2_with fail
  refine HS2.out.mono ?_
  rintro e w3 ⟨rfl, hb3⟩
  go_wp2
  go_ret
  exact ⟨rfl, HB2.out.trans (hb3.mono HB2.out.size)⟩
end Go.Proofs.YtkppnbehkmpogaaDoor.Sha
