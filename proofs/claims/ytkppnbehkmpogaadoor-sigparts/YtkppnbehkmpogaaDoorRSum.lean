/- The document's sum. -/
import Derived.Test.YtkppnbehkmpogaaDoorFilled
import Derived.Test.YtkppnbehkmpogaaDoorRBlock
import Derived.BigRegion
import Derived.Deep.RegionLaw
import Derived.Deep.AppendLies
namespace Go.Proofs.YtkppnbehkmpogaaDoor.Sha
open Go.RowKit Go.Proofs.ShaMath
set_option linter.unusedVariables false
set_option maxRecDepth 100000

theorem tail_oct (n : Nat) : Oct (tail n) := by
  intro x hx
  simp only [tail, lenB, List.mem_cons, List.mem_append, List.mem_replicate, List.mem_map] at hx
  rcases hx with rfl | ⟨_, rfl⟩ | ⟨i, _, rfl⟩
  · decide
  · decide
  · constructor <;> omega

/-- eight words in cells -/
def Eight (w : World) (b : Nat) (s : St) : Prop := w.cell? ⟨b, 0, none⟩ = some (.int .u32 s.a) ∧ w.cell? ⟨b, 1, none⟩ = some (.int .u32 s.b) ∧ w.cell? ⟨b, 2, none⟩ = some (.int .u32 s.c) ∧ w.cell? ⟨b, 3, none⟩ = some (.int .u32 s.d) ∧ w.cell? ⟨b, 4, none⟩ = some (.int .u32 s.e) ∧ w.cell? ⟨b, 5, none⟩ = some (.int .u32 s.f) ∧ w.cell? ⟨b, 6, none⟩ = some (.int .u32 s.g) ∧ w.cell? ⟨b, 7, none⟩ = some (.int .u32 s.h)
theorem Eight.later {w w' : World} {b : Nat} {s : St} (h : Eight w b s) (hb : Below w.heap.size w w') : Eight w' b s :=
  ⟨cell_later hb h.1, cell_later hb h.2.1, cell_later hb h.2.2.1, cell_later hb h.2.2.2.1, cell_later hb h.2.2.2.2.1, cell_later hb h.2.2.2.2.2.1, cell_later hb h.2.2.2.2.2.2.1, cell_later hb h.2.2.2.2.2.2.2⟩
theorem Eight.of {w : World} {b : Nat} {s : St} {fr : Nat × Nat} (h : w.heap[b]? = some (.cells (words s) 45 fr)) : Eight w b s := by
  refine ⟨?_, ?_, ?_, ?_, ?_, ?_, ?_, ?_⟩ <;> simp [World.cell?, h, words]

theorem wb_oct (x : Int) : Oct (wb x) := by
  intro c hc
  simp only [wb, List.mem_cons, List.not_mem_nil, or_false] at hc
  rcases hc with rfl | rfl | rfl | rfl <;> omega
theorem four_sl (w : World) (x : Int) : Sl (w.alloc (.cells #[.int .u8 (IntKind.u8.wrap (x / 16777216)), .int .u8 (IntKind.u8.wrap (x / 65536)), .int .u8 (IntKind.u8.wrap (x / 256)), .int .u8 (IntKind.u8.wrap x)] 5)) (.slice (some ⟨w.heap.size, 0, none⟩) 4 4) (wb x) := by
  rw [IntKind.wrap_u8, IntKind.wrap_u8, IntKind.wrap_u8, IntKind.wrap_u8]
  exact ⟨_, 4, rfl, lit_bytes w (wb x) (0, 0) (wb_oct x), by simp, by simp [wb]⟩
theorem step_sl {w : World} {ops : Array Oper} {o : Oper} {a : Act} {K : Act → World → Prop} {Q : Exit → Act → World → Prop} {E : Prop} (hgd : o.guard = none)
    (s x : Operand) (ho : o.op = Op.call { callee := Callee.builtin Builtin.append, args := #[s, x], argTypes := #[22, 22] }) (base : Nat) (v u : Value) (l m : List Int) (hs : a.eval s = v) (hown : Own w base v l)
    (hx : a.eval x = u) (hS : Sl w u m) (hm : 0 < m.length) (hlen : l.length + m.length ≤ 140737488355328) (hbase : base ≤ w.heap.size)
    (h : ∀ (v' : Value) (w' : World), Hid (Own w' base v' (l ++ m)) → Below base w w' → K (a.put o.dst v') w') :
    if Region.wanted o (yielded ops a.tmps) = true then Oper.wp Tryd.prog o a w K Q else E := by
  obtain ⟨i0, hi, hz0, hz1, hz2⟩ := info_parts Tryd.info5
  obtain ⟨ad, cap, rfl, hB, hnil, hcap⟩ := hS
  rcases ad with _ | ad
  · have hc := hnil rfl
    omega
  · refine step_append_lies w hgd s x 22 ho base 5 i0 (.int .u8 0) 1 1 Tryd.underlying22 hi hz0 hz1 hz2 rfl (by decide) v _ _ hs hown ad m.length cap (m.map (Value.int .u8)) hx (by simp) (Bytes.src hB) (oneCells m) hm (by unfold maxLen; omega) (by omega) hbase _ rfl ?_
    intro g cap' w' hown' hg _ _
    have r := own_more (m := m) hown hbase hown' hg
    exact h _ w' r.1 r.2
theorem eight_init (w : World) : Eight (w.alloc (.cells (words init) 45)) w.heap.size init := Eight.of (heap_new _ _)

set_option maxHeartbeats 2000000 in
set_option maxRecDepth 1000000 in
theorem rsum_walk (u : Value) (l : List Int) (K : List Int) (w : World) (hS : Sl w u l) (ho : Oct l) (hl : l.length ≤ 5000) (hT : Tab w 1 K) :
    Calls Tryd.prog 38 #[u] w fun e w' => e = .returned (.string (strOfNums (sumB K l))) ∧ Below w.heap.size w w' := by
  have HT := Lib.hid hT
  have HO := Lib.hid ho
  have HF := Lib.hid (filled_walk u l w hS hl)
  clear hS hT ho
  go_enter Tryd.func38, Tryd.ntmps38
  go_wp2_with (go_at_call 66; refine HF.out.mono ?_; rintro e w1 ⟨v1, rfl, HV1, hb1⟩)
  clear HF
  obtain ⟨F, hF⟩ : ∃ F, F = l ++ tail l.length := ⟨_, rfl⟩
  have hSl := HV1.sl (HO.out.append (tail_oct _))
  rw [← hF] at hSl
  have hFo : Oct F := by rw [hF]; exact HO.out.append (tail_oct _)
  have hFl : F.length % 64 = 0 := by rw [hF, List.length_append]; exact filled_mod _
  have hFs : F.length ≤ 6000 := by rw [hF, List.length_append, tail_length]; omega
  obtain ⟨N, hN⟩ : ∃ N, F.length = 64 * N := ⟨F.length / 64, by omega⟩
  have HFEQ := Lib.hid hF
  have HFO := Lib.hid hFo
  have HN := Lib.hid hN
  have HB1 := Lib.hid hb1
  obtain ⟨a1, cap1, rfl, hby, hnil, hcap⟩ := hSl
  rw [hN] at hcap ⊢
  have HCUT : Hid (∀ i, i < N → ∃ b off, (∀ W, (Instr.slice 22 (.slice a1 (64 * N) cap1) (some (.int .i64 ((64 * i : Nat) : Int))) (some (.int .i64 (((64 * i : Nat) : Int) + 64))) none).run Tryd.prog W = .ok (.slice (some ⟨b, off, none⟩) 64 (cap1 - 64 * i)) W) ∧ ∀ j, j < 64 → w1.cell? ⟨b, off + j, none⟩ = some (.int .u8 (((F.drop (64 * i)).take 64).getD j 0))) := by
    intro i hi
    obtain ⟨a', hr, hs⟩ := run_cut hby cap1 (64 * N) hN.symm hcap hnil (64 * i) 64 (by omega)
    obtain ⟨a2, c2, e2, hby2, _, _⟩ := hs
    have hlen : ((F.drop (64 * i)).take 64).length = 64 := by rw [List.length_take, List.length_drop]; omega
    obtain ⟨b, off, e3, hc⟩ := hby2.2 (by intro h0; rw [h0] at hlen; simp at hlen)
    have e4 : a' = a2 := by injection e2
    subst e4
    subst e3
    refine ⟨b, off, hr, fun j hj => hc j (by omega)⟩
  have hN6 : N ≤ 100 := by omega
  clear hF hFo hFl hFs hN hb1 hby hnil hcap HV1 HO hl
  go_wp2
  go_loopw [4, 5] (fun v c wr => ∃ (i b : Nat), v = .slice (some ⟨b, 0, none⟩) 8 8 ∧ c = .int .i64 (64 * (i : Int)) ∧ i ≤ N ∧ Hid (Eight wr b (run K F i)) ∧ Below w1.heap.size w1 wr) (fun _ c _ => 64 * N - (intOf c).toNat)
  case atStart => exact ⟨0, w1.heap.size, rfl, rfl, by omega, eight_init w1, (Below.refl _ _).alloc (Nat.le_refl _) _⟩
  case round =>
    obtain ⟨i, b, rfl, rfl, hi, HE, hbel⟩ := hrel
    have HBEL := Lib.hid hbel
    have hzb := hbel.size
    clear hbel
    by_cases hlt : i < N
    · obtain ⟨bb, off, hcut, hcells⟩ := HCUT.out i hlt
      have hcut' : ∀ W, (Instr.slice 22 (.slice a1 (64 * N) cap1) (some (.int .i64 (64 * (i : Int)))) (some (.int .i64 (64 * (i : Int) + 64))) none).run Tryd.prog W = .ok (.slice (some ⟨bb, off, none⟩) 64 (cap1 - 64 * i)) W := by
        intro W
        have h := hcut W
        rw [show ((64 * i : Nat) : Int) = 64 * (i : Int) from by omega] at h
        exact h
      obtain ⟨B, hB⟩ : ∃ B, B = (F.drop (64 * i)).take 64 := ⟨_, rfl⟩
      rw [← hB] at hcells
      have hBl : B.length = 64 := by have := HN.out; rw [hB, List.length_take, List.length_drop]; omega
      have hBo : Oct B := by rw [hB]; exact (HFO.out.drop _).take _
      have HW5 := Lib.hid (rwords_walk bb off (cap1 - 64 * i) B wr hBl hBo (fun j hj => cell_later HBEL.out (hcells j hj)))
      have HB := Lib.hid hB
      have hT1 := (HT.out.later HB1.out).later HBEL.out
      have HT1 := Lib.hid hT1
      have HBLK : Hid (∀ w5 : World, w5.heap[wr.heap.size]? = some (.cells (row (sched B 64)) 45) → Below wr.heap.size wr w5 →
          Calls Tryd.prog 67 #[.slice (some ⟨b, 0, none⟩) 8 8, .slice (some ⟨wr.heap.size, 0, none⟩) 64 64] w5 fun e w' => e = .returned (.slice (some ⟨w5.heap.size, 0, none⟩) 8 8) ∧ w'.heap[w5.heap.size]? = some (.cells (words (mix K (run K F i) B)) 45) ∧ Below w5.heap.size w5 w') := by
        intro w5 hq5 hb5
        exact rblock_walk b wr.heap.size 8 64 (run K F i) K (sched B 64) w5 (run_ok _ _ _) (HT1.out.later hb5) (sched_u32 _ _) (HE.out.later hb5) (fun j hj => row_cell hq5 j hj)
      clear hcut hcells hB hBl hBo hT1
      have p0 : (64 * (i : Int)) < 64 * (N : Int) := by omega
      go_wp2_with (first | (go_at_call 68; refine HW5.out.mono ?_; rintro e w5 ⟨rfl, hq5, hb5⟩) | (go_at_call 67; refine (HBLK.out _ (by assumption) (by assumption)).mono ?_; rintro e w6 ⟨rfl, hq6, hb6⟩))
      go_roundw
      case rel =>
        refine ⟨i + 1, w5.heap.size, rfl, by go_num, by omega, ?_, HBEL.out.trans ((hb5.trans (hb6.mono hb5.size)).mono hzb)⟩
        show Eight _ _ _
        rw [run, ← HB.out]
        exact Eight.of hq6
      case measure => simp [intOf]; omega
    · rename World => wq
      have hiN : i = N := by omega
      have HE' : Hid (Eight wq b (run K F N)) := by
        have h := HE.out
        rw [hiN] at h
        exact h
      obtain ⟨S, hS⟩ : ∃ S, S = run K F N := ⟨_, rfl⟩
      have hSo : S.ok := by rw [hS]; exact run_ok _ _ _
      rw [← hS] at HE'
      have HSS := Lib.hid hS
      have HSO := Lib.hid hSo
      have hii : ¬ (64 * (i : Int)) < 64 * (N : Int) := by omega
      obtain ⟨i0, hi0, hz0, hz1, hz2⟩ := info_parts Tryd.info5
      have hmk := run_make (P := Tryd.prog) wq 22 5 i0 (.int .u8 0) Tryd.underlying22 hi0 hz0 .i64 .i64 0 32 (by omega) (by omega) (by rw [hz2]; omega) (by omega)
      rw [hz1] at hmk
      have hcp : (32 : Int).toNat = 32 := by omega
      simp only [hcp, Int.toNat_zero] at hmk
      have H0 : Hid (Own (wq.alloc (.cells (madeCells (Value.int .u8 0).cells (32 * 1)) 5)) wq.heap.size (.slice (some ⟨wq.heap.size, 0, none⟩) 0 32) []) := by
        have := World.ownsRow_made (base := wq.heap.size) (e := 5) (size := 1) wq (madeCells (Value.int .u8 0).cells (32 * 1)) 32 (Nat.le_refl _) (by unfold maxLen; omega) (by rw [size_madeCells])
        exact this
      have HB0 : Hid (Below wq.heap.size wq (wq.alloc (.cells (madeCells (Value.int .u8 0).cells (32 * 1)) 5))) := (Below.refl _ _).alloc (Nat.le_refl _) _
      generalize wq.alloc (.cells (madeCells (Value.int .u8 0).cells (32 * 1)) 5) = w2 at hmk H0 HB0
      clear hS hSo HE hiN hi hcp
      go_wp2
      go_loopw [6, 7] (fun v c wr => ∃ (k : Nat) (a : Option Addr) (cp : Nat), v = .slice a (4 * k) cp ∧ c = .int .i64 (k : Int) ∧ k ≤ 8 ∧ Hid (Own wr wq.heap.size (.slice a (4 * k) cp) ((S.list.take k).map wb).flatten) ∧ Below wq.heap.size wq wr) (fun _ c _ => 8 - (intOf c).toNat)
      case atStart => exact ⟨0, _, _, rfl, rfl, by omega, H0, HB0.out⟩
      case round =>
        clear H0 HB0 hmk
        obtain ⟨k, a3, cap3, rfl, rfl, hk, HV, hbel⟩ := hrel
        have HBX := Lib.hid hbel
        have hzx := hbel.size
        clear hbel
        by_cases hk8 : k < 8
        · have hcell : wr.cell? ⟨b, k, none⟩ = some (.int .u32 (S.list.getD k 0)) := by
            obtain ⟨c0, c1, c2, c3, c4, c5, c6, c7⟩ := HE'.out.later HBX.out
            have h8 : k = 0 ∨ k = 1 ∨ k = 2 ∨ k = 3 ∨ k = 4 ∨ k = 5 ∨ k = 6 ∨ k = 7 := by omega
            rcases h8 with rfl | rfl | rfl | rfl | rfl | rfl | rfl | rfl <;> assumption
          have hxu : U32 (S.list.getD k 0) := getD_u32 (by intro x hx; obtain ⟨o1, o2, o3, o4, o5, o6, o7, o8⟩ := HSO.out; simp only [St.list, List.mem_cons, List.not_mem_nil, or_false] at hx; rcases hx with rfl | rfl | rfl | rfl | rfl | rfl | rfl | rfl <;> assumption) k
          have hsn : ((S.list.take k).map wb).flatten ++ wb (S.list.getD k 0) = ((S.list.take (k + 1)).map wb).flatten := by
            rw [take_snoc _ _ (by simp [St.list]; omega)]; simp
          have hln : ((S.list.take k).map wb).flatten.length = 4 * k := by
            have h8 : k = 0 ∨ k = 1 ∨ k = 2 ∨ k = 3 ∨ k = 4 ∨ k = 5 ∨ k = 6 ∨ k = 7 := by omega
            rcases h8 with rfl | rfl | rfl | rfl | rfl | rfl | rfl | rfl <;> rfl
          obtain ⟨x, hx⟩ : ∃ x, x = S.list.getD k 0 := ⟨_, rfl⟩
          obtain ⟨R, hR⟩ : ∃ R, R = ((S.list.take k).map wb).flatten := ⟨_, rfl⟩
          rw [← hx] at hcell hxu hsn
          rw [← hR] at hsn hln HV
          have HSN := Lib.hid hsn
          have HLN := Lib.hid hln
          clear hx hR hsn hln
          unfold U32 at hxu
          have p0 : (0 : Int) ≤ (k : Int) := by omega
          have p1 : (k : Int) < 8 := by omega
          go_wp2
          have HVd : Hid (∀ o, Own (wr.drew.alloc o) wq.heap.size (.slice a3 (4 * k) cap3) R) := fun o => World.ownsRow.alloc (show Own wr.drew _ _ _ from HV.out) _
          have H4 := Lib.hid (four_sl wr.drew x)
          have hcd : wr.drew.cell? ⟨b, k, none⟩ = some (.int .u32 x) := hcell
          go_region_law (((refine step_sl rfl (.tmp 30) (.tmp 54) rfl wq.heap.size _ _ R (wb x) rfl (HVd.out _) rfl H4.out (by simp [wb]) (by rw [HLN.out]; simp [wb]; omega) (by simp [World.drew]; omega) ?_); intro v6 w6 HV6 hb6))
          all_goals
            obtain ⟨a6, cap6, ev6⟩ := own_form HV6.out
            have hl6 : (R ++ wb x).length = 4 * (k + 1) := by rw [List.length_append, HLN.out]; simp [wb]; omega
            rw [hl6] at ev6
            subst ev6
            have HV7 : Hid (Own w6 wq.heap.size (.slice a6 (4 * (k + 1)) cap6) ((S.list.take (k + 1)).map wb).flatten) := by
              have h := HV6.out
              rw [HSN.out] at h
              exact h
            have HB6 : Hid (Below wq.heap.size wq w6) := HBX.out.trans ((Below.drew ((Below.refl _ _).alloc (by omega) _)).trans hb6)
            clear HV6 hb6 hl6 HVd H4 hcd hcell
            go_wp2
            go_roundw
            case rel => exact ⟨k + 1, a6, cap6, rfl, by go_num, by omega, HV7, HB6.out⟩
            case measure => simp [intOf]; omega
        · have hk88 : k = 8 := by omega
          have hkk : ¬ (k : Int) < 8 := by omega
          have hsum : (S.list.map wb).flatten = sumB K l := by
            have e : F.length / 64 = N := by have := HN.out; omega
            rw [sumB, ← HFEQ.out, e, ← HSS.out]
          have hso : Oct (sumB K l) := by
            rw [← hsum]
            intro c hc
            simp only [List.mem_flatten, List.mem_map] at hc
            obtain ⟨_, ⟨y, _, rfl⟩, hc⟩ := hc
            exact wb_oct y c hc
          have hlen : 4 * k = (sumB K l).length := by rw [hk88, ← hsum]; rfl
          have HV' : Hid (Bytes wr a3 (sumB K l)) := by
            have h := HV.out
            rw [hk88, List.take_of_length_le (by simp [St.list]), hsum] at h
            obtain ⟨a9, c9, e9, hby9, _, _⟩ := h.sl hso
            have e10 : a3 = a9 := by injection e9
            rw [e10]
            exact hby9
          have hstr := run_str HV'.out (4 * k) cap3 hlen
          clear hk88 hlen hsum hso HV
          go_wp2
          go_ret
          exact ⟨rfl, HB1.out.trans (((HBEL.out.trans (HBX.out.mono hzb))).mono HB1.out.size)⟩
end Go.Proofs.YtkppnbehkmpogaaDoor.Sha
