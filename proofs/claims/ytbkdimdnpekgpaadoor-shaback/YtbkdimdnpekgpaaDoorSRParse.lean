/- The document's Parse. -/
import Derived.Test.YtbkdimdnpekgpaaDoorSParse
namespace Go.Proofs.YtbkdimdnpekgpaaDoor
open Go.RowKit Go.Proofs.ShaMath Go.Proofs.CopyW
set_option linter.unusedVariables false

theorem rparse_len (s : ByteArray) (w : World) (h : s.size ≠ 64) (hb : s.size ≤ 9223372036854775807) :
    Calls Tryd.prog 15 #[.string s] w fun e w' => e = .returned (.tuple #[.string { data := #[] }, .int .i64 5]) ∧ Below w.heap.size w w' := by
  obtain ⟨n, hn⟩ : ∃ n, n = s.size := ⟨_, rfl⟩
  have hsz : s.size = n := hn.symm
  rw [hsz] at h hb
  have hne : ((n : Int) != 64) = true := by simp; omega
  clear hn
  go_enter Tryd.func15, Tryd.ntmps15
  go_wp2
  go_ret2
  exact ⟨rfl, Below.refl _ _⟩

theorem digB_bd (c : Int) : -1 ≤ digB c ∧ digB c ≤ 15 := by
  unfold digB
  repeat' split
  all_goals omega

set_option maxHeartbeats 8000000 in
set_option maxRecDepth 1000000 in
theorem rparse_walk (s : ByteArray) (w : World) (h : s.size = 64) :
    Calls Tryd.prog 15 #[.string s] w fun e w' => e = .returned (if digits (strL s) then .tuple #[.string (strOfNums (valL (strL s))), .int .i64 0] else .tuple #[.string { data := #[] }, .int .i64 5]) ∧ Below w.heap.size w w' := by
  obtain ⟨l, hl⟩ : ∃ l, l = strL s := ⟨_, rfl⟩
  have hlo : Oct l := by rw [hl]; exact strL_oct s
  have hll : l.length = 64 := by rw [hl, strL_length]; exact h
  have HBY : Hid (∀ k : Nat, k < 64 → ∀ W, (Instr.index 9 (.string s) (.int .i64 (k : Int))).run Tryd.prog W = .ok (.int .u8 (l.getD k 0)) W) := by
    intro k hk W; rw [hl]; exact run_byte s k W (by omega)
  rw [← hl]
  obtain ⟨res, hres⟩ : ∃ res, res = (if digits l then Value.tuple #[.string (strOfNums (valL l)), .int .i64 0] else .tuple #[.string { data := #[] }, .int .i64 5]) := ⟨_, rfl⟩
  rw [← hres]
  have HRES := Lib.hid hres
  have HLO := Lib.hid hlo
  have HLL := Lib.hid hll
  obtain ⟨V, hV⟩ : ∃ V, V = valL l := ⟨_, rfl⟩
  have hVl : V.length = 32 := by rw [hV, valL_length, hll]
  have HV := Lib.hid hV
  have HVL := Lib.hid hVl
  clear hres hl hlo hll hV hVl
  obtain ⟨i0, hi0, hz0, hz1, hzz⟩ := info_parts Tryd.info5
  have hmk := run_make (P := Tryd.prog) w 22 5 i0 (.int .u8 0) Tryd.underlying22 hi0 hz0 .i64 .i64 0 32 (by omega) (by omega) (by rw [hzz]; omega) (by omega)
  rw [hz1] at hmk
  have hcp : (32 : Int).toNat = 32 := by omega
  simp only [hcp, Int.toNat_zero] at hmk
  have H0 : Hid (Own (w.alloc (.cells (madeCells (Value.int .u8 0).cells (32 * 1)) 5)) w.heap.size (.slice (some ⟨w.heap.size, 0, none⟩) 0 32) []) := by
    have := World.ownsRow_made (base := w.heap.size) (e := 5) (size := 1) w (madeCells (Value.int .u8 0).cells (32 * 1)) 32 (Nat.le_refl _) (by unfold maxLen; omega) (by rw [size_madeCells])
    exact this
  have HB0 : Hid (Below w.heap.size w (w.alloc (.cells (madeCells (Value.int .u8 0).cells (32 * 1)) 5))) := (Below.refl _ _).alloc (Nat.le_refl _) _
  generalize w.alloc (.cells (madeCells (Value.int .u8 0).cells (32 * 1)) 5) = w1 at hmk H0 HB0
  clear hcp
  go_enter Tryd.func15, Tryd.ntmps15
  go_wp2
  go_loopw [4, 5] (fun v c wr => ∃ (k : Nat) (a : Option Addr) (cp : Nat), v = .slice a k cp ∧ c = .int .i64 (2 * (k : Int)) ∧ k ≤ 32 ∧ Hid (∀ i, i < 2 * k → 0 ≤ digB (l.getD i 0)) ∧ Hid (Own wr w.heap.size (.slice a k cp) (V.take k)) ∧ Hid (Below w.heap.size w wr)) (fun _ c _ => 64 - (intOf c).toNat)
  case atStart => exact ⟨0, _, _, rfl, rfl, by omega, (by intro i hi; omega), H0, HB0⟩
  case round =>
    clear H0 HB0 hmk
    obtain ⟨k, a3, cap3, rfl, rfl, hk, HD, HO, HB⟩ := hrel
    have hz := HB.out.size
    by_cases hk2 : k < 32
    · have hx0 := HLO.out.getD (2 * k)
      have hy0 := HLO.out.getD (2 * k + 1)
      have e1 := HBY.out (2 * k) (by omega)
      have e2 := HBY.out (2 * k + 1) (by omega)
      rw [show ((2 * k : Nat) : Int) = 2 * (k : Int) from by omega] at e1
      rw [show ((2 * k + 1 : Nat) : Int) = 2 * (k : Int) + 1 from by omega] at e2
      have hxy : V.getD k 0 = twoB (l.getD (2 * k) 0) (l.getD (2 * k + 1) 0) := by
        rw [HV.out, List.getD_eq_getElem?_getD, valL, List.getElem?_map, List.getElem?_range (by rw [HLL.out]; omega)]; rfl
      obtain ⟨x, hx⟩ : ∃ x, x = l.getD (2 * k) 0 := ⟨_, rfl⟩
      obtain ⟨y, hy⟩ : ∃ y, y = l.getD (2 * k + 1) 0 := ⟨_, rfl⟩
      rw [← hx] at hx0 e1 hxy
      rw [← hy] at hy0 e2 hxy
      have DX := Lib.hid (fun W => digit_any x W hx0.1 hx0.2)
      have DY := Lib.hid (fun W => digit_any y W hy0.1 hy0.2)
      have bx := digB_bd x
      have by' := digB_bd y
      have HXD := Lib.hid hx
      have HYD := Lib.hid hy
      have HXY := Lib.hid hxy
      have HPV : Hid (0 ≤ digB x → 0 ≤ digB y → 16 * digB x + digB y = twoB x y) := fun a b => pair_val x y a b
      have p1 : 2 * (k : Int) < 64 := by omega
      have wr2 : IntKind.i64.wrap (2 * (k : Int) + 1) = 2 * (k : Int) + 1 := by rw [IntKind.wrap_i64]; omega
      obtain ⟨dx, hdx⟩ : ∃ dx, dx = digB x := ⟨_, rfl⟩
      obtain ⟨dy, hdy⟩ : ∃ dy, dy = digB y := ⟨_, rfl⟩
      rw [← hdx] at DX bx HPV
      rw [← hdy] at DY by' HPV
      have HDX := Lib.hid hdx
      have HDY := Lib.hid hdy
      clear hx hy hxy hdx hdy
      go_wp2
      refine wp_region_still_lit (by kernel_rfl) (by kernel_rfl) ?_
      repeat still_step
      still_call (DX.out _)
      repeat still_step
      still_call (DY.out _)
      repeat still_step
      refine wpStill_nil ?_
      change Exit.then _ _ Exit.normal _ wr.drew
      have OD : Hid (Own wr.drew w.heap.size (.slice a3 k cap3) (V.take k)) := HO.out
      have BD : Hid (Below w.heap.size w wr.drew) := Below.drew HB.out
      have hzd : w.heap.size ≤ wr.drew.heap.size := hz
      generalize wr.drew = wd at OD BD hzd ⊢
      clear HO HB hz e1 e2
      by_cases hneg : dx < 0 ∨ dy < 0
      · have hnd : ¬ digits l := by
          intro hd
          have h1 := hd (2 * k) (by rw [HLL.out]; omega)
          have h2 := hd (2 * k + 1) (by rw [HLL.out]; omega)
          rw [← HXD.out, ← HDX.out] at h1
          rw [← HYD.out, ← HDY.out] at h2
          omega
        have HND := Lib.hid hnd
        clear hnd
        have hg : (decide (dx < 0) || decide (dy < 0)) = true := by simpa using hneg
        by_cases hdx : dx < 0
        · clear hneg hg
          go_wp2
          go_ret2
          refine ⟨?_, BD.out⟩
          rw [HRES.out, if_neg HND.out]
          rfl
        · have hdy : dy < 0 := by omega
          clear hneg hg
          go_wp2
          go_ret2
          refine ⟨?_, BD.out⟩
          rw [HRES.out, if_neg HND.out]
          rfl
      · have hdx : 0 ≤ dx := by omega
        have hdy : 0 ≤ dy := by omega
        have htw := HPV.out hdx hdy
        have htb := twoB_bd x y
        rw [← htw] at htb
        have HTW := Lib.hid htw
        have HD2 : Hid (∀ i, i < 2 * (k + 1) → 0 ≤ digB (l.getD i 0)) := by
          intro i hi
          rcases Nat.lt_or_ge i (2 * k) with h1 | h1
          · exact HD.out i h1
          · have h2 : i = 2 * k ∨ i = 2 * k + 1 := by omega
            rcases h2 with rfl | rfl
            · rw [← HXD.out, ← HDX.out]; exact hdx
            · rw [← HYD.out, ← HDY.out]; exact hdy
        have HSN : Hid (V.take k ++ [16 * dx + dy] = V.take (k + 1)) := by show _ = _; rw [take_snoc V k (by have := HVL.out; omega), HXY.out, HTW.out]
        have HLN : Hid ((V.take k).length = k) := by show _ = _; rw [List.length_take, HVL.out]; omega
        have H1 := Lib.hid (one_sl wd (16 * dx + dy) htb.1 htb.2)
        have OD' : Hid (Own (wd.alloc (.cells #[.int .u8 (16 * dx + dy)] 5)) w.heap.size (.slice a3 k cap3) (V.take k)) := World.ownsRow.alloc OD.out _
        clear hneg htw
        go_wp2_with (at_builtin; refine append_sl rfl (.tmp 31) (.tmp 37) rfl w.heap.size _ _ (V.take k) [16 * dx + dy] rfl OD'.out rfl H1.out (by rw [HLN.out]; simp; omega) (by simp; omega) ?_)
        intro v6 w6 HV6 hb6
        obtain ⟨a6, cap6, ev6⟩ := own_form HV6.out
        rw [List.length_append, HLN.out, List.length_singleton] at ev6
        subst ev6
        have HV7 : Hid (Own w6 w.heap.size (.slice a6 (k + 1) cap6) (V.take (k + 1))) := by
          have h := HV6.out
          rw [HSN.out] at h
          exact h
        have HB6 : Hid (Below w.heap.size w w6) := BD.out.trans (((Below.refl _ _).alloc hzd _).trans hb6)
        clear HV6 hb6 OD' H1 OD BD
        go_wp2
        go_roundw
        case rel => exact ⟨k + 1, a6, cap6, rfl, by go_num, by omega, HD2, HV7, HB6⟩
        case measure => simp [intOf]; omega
    · have hk32 : k = 32 := by omega
      have hkk : ¬ 2 * (k : Int) < 64 := by omega
      have hd : digits l := by
        intro i hi
        rw [HLL.out] at hi
        exact HD.out i (by omega)
      have HVO : Oct V := by rw [HV.out]; exact valL_oct l
      have HBY2 : Hid (Bytes wr a3 V) := by
        have h := HO.out
        rw [hk32, List.take_of_length_le (by rw [HVL.out]; omega)] at h
        obtain ⟨a9, c9, e9, hby9, _, _⟩ := h.sl HVO
        have e10 : a3 = a9 := by injection e9
        rw [e10]
        exact hby9
      have hstr := run_str HBY2.out k cap3 (by rw [hk32]; exact HVL.out.symm)
      have HR2 : Hid (res = .tuple #[.string (strOfNums V), .int .i64 0]) := by show _ = _; rw [HRES.out, if_pos hd, HV.out]
      clear hk32 hd HVO HO
      go_wp2
      go_ret2
      refine ⟨?_, HB.out⟩
      rw [HR2.out]
      rfl
end Go.Proofs.YtbkdimdnpekgpaaDoor
