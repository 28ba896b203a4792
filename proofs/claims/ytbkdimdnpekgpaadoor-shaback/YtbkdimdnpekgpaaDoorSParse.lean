/- sha's Parse. -/
import Derived.Test.YtbkdimdnpekgpaaDoorSPMath
import Derived.Lib.BufferWrite
namespace Go.Proofs.YtbkdimdnpekgpaaDoor
open Go.RowKit Go.Proofs.ShaMath Go.Proofs.CopyW
set_option linter.unusedVariables false

theorem value_any (c : Int) (w : World) (h0 : 0 ≤ c) (h1 : c ≤ 255) :
    Calls Tryd.prog 26 #[.int .u8 c] w fun e w' => e = .returned (.int .u8 (valB c)) ∧ w' = w := by
  by_cases h : 97 ≤ c
  all_goals
    go_enter Tryd.func26, Tryd.ntmps26
    go_wp2
    go_ret
    refine ⟨?_, rfl⟩
    show Ending.returned (.int .u8 _) = _
    congr 2
    unfold valB
    first | (rw [if_pos (by omega)]; done) | (rw [if_neg (by omega)]; done) | (rw [if_pos (by omega)]; omega) | (rw [if_neg (by omega)]; omega)
theorem digit_any (c : Int) (w : World) (h0 : 0 ≤ c) (h1 : c ≤ 255) :
    Calls Tryd.prog 27 #[.int .u8 c] w fun e w' => e = .returned (.int .i64 (digB c)) ∧ w' = w := by
  have hc : (48 ≤ c ∧ c ≤ 57) ∨ (97 ≤ c ∧ c ≤ 102) ∨ c < 48 ∨ (57 < c ∧ c < 97) ∨ 102 < c := by omega
  rcases hc with h | h | h | h | h
  all_goals
    go_enter Tryd.func27, Tryd.ntmps27
    go_wp2
    all_goals first
      | (exfalso; omega)
      | (go_ret
         refine ⟨?_, rfl⟩
         show Ending.returned (.int .i64 _) = _
         congr 2
         unfold digB
         repeat' split
         all_goals omega)

def zB (n : Nat) : List Int := List.replicate n 0
theorem zero_of (t : TypeId) (cs : Array Value) (h : (Tryd.prog.info? t).map (·.zero) = some (some (.agg cs))) (W : World) : (zeroValue t).run Tryd.prog W = .ok (.agg cs) W := by
  cases hq : Tryd.prog.info? t with
  | none => rw [hq] at h; cases h
  | some i =>
    rw [hq] at h
    have hz : i.zero = some (.agg cs) := by simpa using h
    simp [zeroValue, typeInfo, Sem.run_bind, hq, hz]
theorem zero49 (W : World) : (zeroValue 49).run Tryd.prog W = .ok (.agg ((zB 64).map (Value.int .u8)).toArray) W := zero_of 49 _ (by kernel_rfl) W
theorem zero50 (W : World) : (zeroValue 50).run Tryd.prog W = .ok (.agg ((zB 32).map (Value.int .u8)).toArray) W := zero_of 50 _ (by kernel_rfl) W

theorem byteCells_strL (s : ByteArray) : Lib.byteCells s.data.toList = (strL s).map (Value.int .u8) := by
  simp [Lib.byteCells, strL, List.map_map, Function.comp_def]

/-- a text copied over a whole row -/
theorem run_copy_str (w : World) (ty : TypeId) (g n : Nat) (st : ByteArray) (cur : List Int) (t : TypeId) (hg : w.heap[g]? = some (.cells (cur.map (Value.int .u8)).toArray t)) (hst : st.size = n) (hc : cur.length = n) :
    ∃ w', (Builtin.copy_ #[22, 9] ty #[.slice (some ⟨g, 0, none⟩) n n, .string st]).run Tryd.prog w = .ok (goInt st.size) w' ∧ w'.heap[g]? = some (.cells ((strL st).map (Value.int .u8)).toArray t) ∧ Only w w' g := by
  have hr := Lib.run_copy_row_string (P := Tryd.prog) w 22 9 ty 5 g 0 n n st _ t Tryd.underlying22 (by kernel_rfl) hg (by omega) (by simp; omega)
  refine ⟨_, hr, ?_, ⟨rfl, rfl, rfl, by simp, fun k hk => setRow_other w g k _ hk⟩⟩
  rw [setRow_heap w g _ _ t _ hg, byteCells_strL, hst, ← hc]
  simp
theorem wpList_copy_str {w : World} {ops : Array Oper} {rest : List Oper} {o : Oper} {a : Act} {Q : Exit → Act → World → Prop} (hgd : o.guard = none)
    (d s : Operand) (ho : o.op = Op.call { callee := Callee.builtin Builtin.copy, args := #[d, s], argTypes := #[22, 9] }) (g n : Nat) (st : ByteArray) (cur : List Int) (t : TypeId)
    (hd : a.eval d = .slice (some ⟨g, 0, none⟩) n n) (hs : a.eval s = .string st) (hg : w.heap[g]? = some (.cells (cur.map (Value.int .u8)).toArray t)) (hst : st.size = n) (hc : cur.length = n)
    (h : ∀ w', Hid (w'.heap[g]? = some (.cells ((strL st).map (Value.int .u8)).toArray t)) → Hid (Only w w' g) → wpList Tryd.prog ops Q rest (a.put o.dst (goInt st.size)) w') :
    wpList Tryd.prog ops Q (o :: rest) a w := by
  obtain ⟨w', hr, h1, h2⟩ := run_copy_str w o.type g n st cur t hg hst hc
  refine wpList_plain hgd fun K hK => ?_
  unfold Oper.wp
  simp only [execOp, ho, resolve, invoke, builtin, Sem.run_bind, Sem.run_pure, Result.andThen_ok, List.map_toArray, List.map_cons, List.map_nil, hd, hs, hr]
  exact hK _ _ (h w' h1 h2)

theorem step_copy_str {w : World} {ops : Array Oper} {o : Oper} {a : Act} {K : Act → World → Prop} {Q : Exit → Act → World → Prop} {E : Prop} (hgd : o.guard = none)
    (d s : Operand) (ho : o.op = Op.call { callee := Callee.builtin Builtin.copy, args := #[d, s], argTypes := #[22, 9] }) (g n : Nat) (st : ByteArray) (cur : List Int) (t : TypeId)
    (hd : a.eval d = .slice (some ⟨g, 0, none⟩) n n) (hs : a.eval s = .string st) (hg : w.heap[g]? = some (.cells (cur.map (Value.int .u8)).toArray t)) (hst : st.size = n) (hc : cur.length = n)
    (h : ∀ w', Hid (w'.heap[g]? = some (.cells ((strL st).map (Value.int .u8)).toArray t)) → Hid (Only w w' g) → K (a.put o.dst (goInt st.size)) w') :
    if Region.wanted o (yielded ops a.tmps) = true then Oper.wp Tryd.prog o a w K Q else E := by
  have hw : Region.wanted o (yielded ops a.tmps) = true := by simp [Region.wanted, hgd]
  rw [if_pos hw]
  obtain ⟨w', hr, h1, h2⟩ := run_copy_str w o.type g n st cur t hg hst hc
  unfold Oper.wp
  simp only [execOp, ho, resolve, invoke, builtin, Sem.run_bind, Sem.run_pure, Result.andThen_ok, List.map_toArray, List.map_cons, List.map_nil, hd, hs, hr]
  exact h w' h1 h2
/-- the bytes of a row, as a slice reads them -/
theorem row_bytes (w : World) (b : Nat) (l : List Int) (t : TypeId) (h : w.heap[b]? = some (.cells (l.map (Value.int .u8)).toArray t)) (ho : Oct l) : Bytes w (some ⟨b, 0, none⟩) l :=
  ⟨ho, fun _ => ⟨b, 0, rfl, fun i hi => by
    rw [cell_of_row w b _ _ t (0, 0) h, List.getElem?_toArray, Nat.zero_add, List.getElem?_map, List.getElem?_eq_getElem hi, List.getD_eq_getElem?_getD, List.getElem?_eq_getElem hi]; rfl⟩⟩
theorem row_range (w : World) (b : Nat) (l : List Int) (t : TypeId) (h : w.heap[b]? = some (.cells (l.map (Value.int .u8)).toArray t)) : w.rangeAt b 0 (l.map (Value.int .u8)) := by
  intro i v hi
  rw [Nat.zero_add, cell_of_row w b i _ t (0, 0) h, List.getElem?_toArray]; exact hi

theorem parse_len (s : ByteArray) (w : World) (h : s.size ≠ 64) (hb : s.size ≤ 9223372036854775807) :
    Calls Tryd.prog 14 #[.string s] w fun e w' => e = .returned (.tuple #[.string { data := #[] }, .int .i64 5]) ∧ Below w.heap.size w w' := by
  have z1 := zero49
  obtain ⟨n, hn⟩ : ∃ n, n = s.size := ⟨_, rfl⟩
  have hsz : s.size = n := hn.symm
  rw [hsz] at h hb
  have hne : ((n : Int) != 64) = true := by simp; omega
  generalize zB 64 = Z at z1
  clear hn
  go_enter Tryd.func14, Tryd.ntmps14
  go_wp2
  go_ret2
  exact ⟨rfl, ((Below.refl _ _).alloc (Nat.le_refl _) _).alloc (by simp) _⟩

theorem part_set (L : List Int) (k : Nat) (x : Int) (h : k < 32) (hL : L.length = 32) (hx : L.getD k 0 = x) : (L.take k ++ zB (32 - k)).set k x = L.take (k + 1) ++ zB (32 - (k + 1)) := by
  unfold zB
  rw [List.set_append, if_neg (by simp; omega), List.length_take, show k - min k L.length = 0 from by omega, show 32 - k = (32 - (k + 1)) + 1 from by omega, List.replicate_succ, List.set_cons_zero, take_snoc L k (by omega), hx]
  simp

set_option maxHeartbeats 8000000 in
set_option maxRecDepth 1000000 in
theorem parse_walk (s : ByteArray) (w : World) (h : s.size = 64) :
    Calls Tryd.prog 14 #[.string s] w fun e w' => e = .returned (if digits (strL s) then .tuple #[.string (strOfNums (valL (strL s))), .int .i64 0] else .tuple #[.string { data := #[] }, .int .i64 5]) ∧ Below w.heap.size w w' := by
  obtain ⟨l, hl⟩ : ∃ l, l = strL s := ⟨_, rfl⟩
  have hlo : Oct l := by rw [hl]; exact strL_oct s
  have hll : l.length = 64 := by rw [hl, strL_length]; exact h
  obtain ⟨G, hG⟩ : ∃ G, G = w.heap.size := ⟨_, rfl⟩
  have z1 := zero49
  have z2 := zero50
  obtain ⟨Z, hZ⟩ : ∃ Z, Z = zB 64 := ⟨_, rfl⟩
  obtain ⟨Y, hY⟩ : ∃ Y, Y = zB 32 := ⟨_, rfl⟩
  rw [← hZ] at z1
  rw [← hY] at z2
  have hZl : Z.length = 64 := by rw [hZ]; simp [zB]
  have A0 : ((w.alloc (.cells (Z.map (Value.int .u8)).toArray 49)).alloc (.cells (Z.map (Value.int .u8)).toArray 49)).heap[G]? = some (.cells (Z.map (Value.int .u8)).toArray 49) := by
    rw [hG, Below.heap_alloc _ _ _ (by simp)]; exact heap_new _ _
  have A1 : ((w.alloc (.cells (Z.map (Value.int .u8)).toArray 49)).alloc (.cells (Z.map (Value.int .u8)).toArray 49)).heap[G + 1]? = some (.cells (Z.map (Value.int .u8)).toArray 49) := by
    have h := heap_new (w.alloc (.cells (Z.map (Value.int .u8)).toArray 49)) (.cells (Z.map (Value.int .u8)).toArray 49)
    rw [show (w.alloc (.cells (Z.map (Value.int .u8)).toArray 49)).heap.size = G + 1 from by rw [hG]; simp] at h
    exact h
  have AB : Below G w ((w.alloc (.cells (Z.map (Value.int .u8)).toArray 49)).alloc (.cells (Z.map (Value.int .u8)).toArray 49)) := by
    rw [hG]; exact ((Below.refl _ _).alloc (Nat.le_refl _) _).alloc (by simp) _
  have AS : ((w.alloc (.cells (Z.map (Value.int .u8)).toArray 49)).alloc (.cells (Z.map (Value.int .u8)).toArray 49)).heap.size = G + 2 := by rw [hG]; simp
  rw [← hG]
  have HL := Lib.hid hl
  have HLO := Lib.hid hlo
  have HLL := Lib.hid hll
  have HZL := Lib.hid hZl
  have HA0 := Lib.hid A0
  have HA1 := Lib.hid A1
  have HAB := Lib.hid AB
  have HAS := Lib.hid AS
  rw [← hl]
  obtain ⟨res, hres⟩ : ∃ res, res = (if digits l then Value.tuple #[.string (strOfNums (valL l)), .int .i64 0] else .tuple #[.string { data := #[] }, .int .i64 5]) := ⟨_, rfl⟩
  rw [← hres]
  have HRES := Lib.hid hres
  clear hres
  have HY := Lib.hid hY
  clear hl hlo hll hZ hZl A0 A1 AB AS hY
  go_enter Tryd.func14, Tryd.ntmps14
  go_upto_region 4 with (fail)
  rw [← hG]
  generalize (w.alloc (.cells (Z.map (Value.int .u8)).toArray 49)).alloc (.cells (Z.map (Value.int .u8)).toArray 49) = w2 at HA0 HA1 HAB HAS ⊢
  have HG := Lib.hid hG
  clear hG
  go_wp2_with ((with_reducible show wpList _ _ _ (Oper.mk (some 13) _ _ _ _ _ :: _) _ _); go_must (refine wpList_copy_str rfl (.tmp 11) (.tmp 12) rfl G 64 s Z 49 rfl rfl HA0.out h HZL.out ?_))
  intro w3 HH3 HO3
  rw [← HL.out] at HH3
  have hs3 : w3.heap.size = G + 2 := by rw [HO3.out.2.2.2.1]; exact HAS.out
  have HK1 : Hid (w3.heap[G + 1]? = some (.cells (Z.map (Value.int .u8)).toArray 49)) := by show _ = _; rw [HO3.out.2.2.2.2 (G + 1) (by omega)]; exact HA1.out
  have HKB : Hid (Below G w w3) := HAB.out.trans (HO3.out.below (Nat.le_refl _))
  clear HA0 HA1 HAB HAS HO3
  obtain ⟨w4, hw4⟩ : ∃ w4, w4 = w3.alloc (.cells (Y.map (Value.int .u8)).toArray 50) := ⟨_, rfl⟩
  have B0 : Hid (w4.heap[G]? = some (.cells (l.map (Value.int .u8)).toArray 49)) := by show _ = _; rw [hw4, Below.heap_alloc _ _ _ (by omega)]; exact HH3.out
  have B1 : Hid (w4.heap[G + 1]? = some (.cells (Z.map (Value.int .u8)).toArray 49)) := by show _ = _; rw [hw4, Below.heap_alloc _ _ _ (by omega)]; exact HK1.out
  have B2 : Hid (w4.heap[G + 2]? = some (.cells (Y.map (Value.int .u8)).toArray 50)) := by show _ = _; rw [hw4, ← hs3]; exact heap_new _ _
  have BB : Hid (Below G w w4) := by rw [hw4]; exact HKB.out.alloc (by omega) _
  have BS : Hid (w4.heap.size = G + 3) := by show _ = _; rw [hw4]; simp; omega
  go_upto_region 6 with (fail)
  rw [← hw4]
  clear hw4 hs3 HH3 HK1 HKB z1 z2
  go_wp2
  have hVl : (valL l).length = 32 := by rw [valL_length, HLL.out]
  obtain ⟨V, hV⟩ : ∃ V, V = valL l := ⟨_, rfl⟩
  rw [← hV] at hVl
  have HV := Lib.hid hV
  have HVL := Lib.hid hVl
  have B2' : Hid (w4.heap[G + 2]? = some (.cells ((V.take 0 ++ zB (32 - 0)).map (Value.int .u8)).toArray 50)) := by
    show _ = _
    have e : V.take 0 ++ zB (32 - 0) = Y := by rw [HY.out]; simp
    rw [e]; exact B2.out
  clear hV hVl B2
  go_loopw [14] (fun i wr => ∃ k : Nat, i = .int .i64 k ∧ k ≤ 32 ∧ Hid (wr.heap[G]? = some (.cells (l.map (Value.int .u8)).toArray 49)) ∧ Hid (wr.heap[G + 1]? = some (.cells (Z.map (Value.int .u8)).toArray 49)) ∧ Hid (wr.heap[G + 2]? = some (.cells ((V.take k ++ zB (32 - k)).map (Value.int .u8)).toArray 50)) ∧ Hid (Below G w wr)) (fun i _ => 32 - (intOf i).toNat)
  case atStart => exact ⟨0, rfl, by omega, B0, B1, B2', BB⟩
  case round =>
    clear B0 B1 B2' BB BS
    obtain ⟨k, rfl, hk, C0, C1, C2, CB⟩ := hrel
    by_cases hk2 : k < 32
    · have hx0 := HLO.out.getD (2 * k)
      have hy0 := HLO.out.getD (2 * k + 1)
      have cell : ∀ j, j < 64 → wr.cell? ⟨G, j, none⟩ = some (.int .u8 (l.getD j 0)) := by
        intro j hj
        rw [cell_of_row wr G j _ 49 (0, 0) C0.out, List.getElem?_toArray, List.getElem?_map, List.getElem?_eq_getElem (by rw [HLL.out]; exact hj), List.getD_eq_getElem?_getD, List.getElem?_eq_getElem (by rw [HLL.out]; exact hj)]; rfl
      have c1 := cell (2 * k) (by omega)
      have c2 := cell (2 * k + 1) (by omega)
      have hxy : V.getD k 0 = twoB (l.getD (2 * k) 0) (l.getD (2 * k + 1) 0) := by
        rw [HV.out, List.getD_eq_getElem?_getD, valL, List.getElem?_map, List.getElem?_range (by rw [HLL.out]; omega)]; rfl
      obtain ⟨x, hx⟩ : ∃ x, x = l.getD (2 * k) 0 := ⟨_, rfl⟩
      obtain ⟨y, hy⟩ : ∃ y, y = l.getD (2 * k + 1) 0 := ⟨_, rfl⟩
      rw [← hx] at hx0 c1 hxy
      rw [← hy] at hy0 c2 hxy
      have HXY := Lib.hid hxy
      have cex : (wr.cell? ⟨G + 2, k, none⟩).isSome = true := by
        rw [cell_of_row wr (G + 2) k _ 50 (0, 0) C2.out, List.getElem?_toArray, List.getElem?_map, List.getElem?_eq_getElem (by simp [zB]; have := HVL.out; omega)]; rfl
      obtain ⟨v, hv⟩ := Option.isSome_iff_exists.1 cex
      have hfz : wr.frozen? ⟨G + 2, k, none⟩ = false := unfrozen C2.out
      have VX := Lib.hid (fun W => value_any x W hx0.1 hx0.2)
      have VY := Lib.hid (fun W => value_any y W hy0.1 hy0.2)
      have bx := valB_bd x
      have by' := valB_bd y
      have p0 : (0 : Int) ≤ (k : Int) := by omega
      have p1 : (k : Int) < 32 := by omega
      have p2 : (0 : Int) ≤ 2 * (k : Int) := by omega
      have p3 : 2 * (k : Int) < 64 := by omega
      have p4 : (0 : Int) ≤ 2 * (k : Int) + 1 := by omega
      have p5 : 2 * (k : Int) + 1 < 64 := by omega
      have t1 : (2 * (k : Int)).toNat = 2 * k := by omega
      have t2 : (2 * (k : Int) + 1).toNat = 2 * k + 1 := by omega
      have wr1 : IntKind.i64.wrap (2 * (k : Int)) = 2 * (k : Int) := by rw [IntKind.wrap_i64]; omega
      have wr2 : IntKind.i64.wrap (2 * (k : Int) + 1) = 2 * (k : Int) + 1 := by rw [IntKind.wrap_i64]; omega
      clear hx hy hxy cex cell
      go_wp2
      go_still_tail 15, (by kernel_rfl)
      still_call (VX.out _)
      repeat still_step
      still_call (VY.out _)
      repeat still_step
      refine wpStill_nil ?_
      change wpList _ _ _ _ _ wr.drew
      have D0 : Hid (wr.drew.heap[G]? = some (.cells (l.map (Value.int .u8)).toArray 49)) := C0.out
      have D1 : Hid (wr.drew.heap[G + 1]? = some (.cells (Z.map (Value.int .u8)).toArray 49)) := C1.out
      have D2 : Hid (wr.drew.heap[G + 2]? = some (.cells ((V.take k ++ zB (32 - k)).map (Value.int .u8)).toArray 50)) := C2.out
      have DB : Hid (Below G w wr.drew) := Below.drew CB.out
      have dv : wr.drew.cell? ⟨G + 2, k, none⟩ = some v := hv
      have dfz : wr.drew.frozen? ⟨G + 2, k, none⟩ = false := hfz
      clear hv hfz c1 c2 C0 C1 C2 CB
      generalize wr.drew = wd at D0 D1 D2 DB dv dfz ⊢
      go_wp2
      go_roundw
      case rel =>
        refine ⟨k + 1, by go_num, by omega, ?_, ?_, ?_, ?_⟩
        · show _ = _
          rw [Below.heap_setCell _ _ _ _ (by show G ≠ G + 2; omega)]; exact D0.out
        · show _ = _
          rw [Below.heap_setCell _ _ _ _ (by show G + 1 ≠ G + 2; omega)]; exact D1.out
        · show _ = _
          rw [Joins.block_setCell D2.out _, List.setIfInBounds_toArray, ← part_set V k _ hk2 HVL.out HXY.out, List.map_set]
          rfl
        · exact Below.setCell (p := ⟨G + 2, k, none⟩) DB.out (by show G ≤ G + 2; omega) _
      case measure => simp [intOf]; omega
    · have hk32 : k = 32 := by omega
      have hkk : ¬ (k : Int) < 32 := by omega
      have E2 : wr.heap[G + 2]? = some (.cells (V.map (Value.int .u8)).toArray 50) := by
        have h := C2.out
        rw [hk32, List.take_of_length_le (by rw [HVL.out]; omega)] at h
        simpa [zB] using h
      have hVo : Oct V := by rw [HV.out]; exact valL_oct l
      have hstr := run_str (row_bytes wr.drew (G + 2) V 50 E2 hVo) 32 32 HVL.out.symm
      have hTX := Lib.hid (text_walk (strOfNums V) wr.drew (by rw [strOfNums_size, HVL.out]; omega))
      rw [strL_strOfNums V hVo] at hTX
      obtain ⟨T, hTd⟩ : ∃ T, T = strOfNums (hexL V) := ⟨_, rfl⟩
      have hTs : T.size = 64 := by rw [hTd, strOfNums_size, hexL_length, HVL.out]
      have hTl : strL T = hexL V := by rw [hTd, strL_strOfNums _ (hexL_oct hVo)]
      rw [← hTd] at hTX
      have HTS := Lib.hid hTs
      have HTL := Lib.hid hTl
      have HE2 := Lib.hid E2
      have HVO := Lib.hid hVo
      have hz := heap_lt E2
      have h1lt : G + 1 < wr.heap.size := by omega
      have h0lt : G < wr.heap.size := by omega
      clear hk32 C2 E2 hVo hTd hTs hTl
      go_wp2
      go_region_law (first
        | (refine step_copy_str rfl (.tmp 33) (.tmp 36) rfl (G + 1) 64 T Z 49 rfl rfl (by show _ = _; rw [Below.block (B := wr.heap.size) (w := wr) (by assumption) (G + 1) h1lt]; exact C1.out) HTS.out HZL.out ?_; intro w6 HH6 HO6)
        | (go_simp; go_at_call 16; refine hTX.out.mono ?_; rintro e w5 ⟨rfl, hb5⟩; have hb6 : Below wr.heap.size wr w5 := (Below.drew (Below.refl _ _)).trans hb5; clear hb5))
      have F1 : w6.heap[G + 1]? = some (.cells ((hexL V).map (Value.int .u8)).toArray 49) := by have h := HH6.out; rw [HTL.out] at h; exact h
      have F0 : w6.heap[G]? = some (.cells (l.map (Value.int .u8)).toArray 49) := by rw [HO6.out.2.2.2.2 G (by omega), hb6.block G h0lt]; exact C0.out
      have F2 : w6.heap[G + 2]? = some (.cells (V.map (Value.int .u8)).toArray 50) := by rw [HO6.out.2.2.2.2 (G + 2) (by omega), hb6.block (G + 2) hz]; exact HE2.out
      have FB : Hid (Below G w w6) := CB.out.trans ((hb6.mono (by omega)).trans (HO6.out.below (by omega)))
      have hlen1 : (hexL V).length = 64 := by rw [hexL_length, HVL.out]
      have hr1 := Lib.hid (row_range w6 (G + 1) (hexL V) 49 F1)
      have hr0 := Lib.hid (row_range w6 G l 49 F0)
      have hi1 : Hid ((Tryd.prog.info? 49).map (·.size) = some ((hexL V).map (Value.int .u8)).length) := by show _ = _; rw [List.length_map, hlen1]; kernel_rfl
      have hi0 : Hid ((Tryd.prog.info? 49).map (·.size) = some (l.map (Value.int .u8)).length) := by show _ = _; rw [List.length_map, HLL.out]; kernel_rfl
      have heq := fun W => run_eq64 9998 (hexL V) l W hlen1 HLL.out
      have hstr6 := run_str (row_bytes w6 (G + 2) V 50 F2 HVO.out) 32 32 HVL.out.symm
      have hbk := back_iff l HLL.out
      rw [← HV.out] at hbk
      have HBK := Lib.hid hbk
      obtain ⟨XA, hXA⟩ : ∃ XA, XA = (hexL V).map (Value.int .u8) := ⟨_, rfl⟩
      obtain ⟨XB, hXB⟩ : ∃ XB, XB = l.map (Value.int .u8) := ⟨_, rfl⟩
      rw [← hXA] at hr1 hi1 heq
      rw [← hXB] at hr0 hi0 heq
      clear hXA hXB F0 F1 F2 hlen1 hbk hstr hTX C0 C1 CB HE2 hb6 HH6 HO6
      by_cases hd : digits l
      · have e := HBK.out.2 hd
        rw [decide_eq_true e] at heq
        have HD := Lib.hid hd
        have HE : Hid (valL l = V) := HV.out.symm
        clear e hd
        go_wp2_with (first | ((with_reducible show wpList _ _ _ (Oper.mk (some 38) _ _ _ _ _ :: _) _ _); go_must (refine wpList_load_mid rfl 49 (.tmp 5) rfl (G + 1) 0 rfl XA _ hr1.out Tryd.underlying49 rfl hi1.out ?_)) | ((with_reducible show wpList _ _ _ (Oper.mk (some 39) _ _ _ _ _ :: _) _ _); go_must (refine wpList_load_mid rfl 49 (.tmp 4) rfl G 0 rfl XB _ hr0.out Tryd.underlying49 rfl hi0.out ?_)))
        go_ret2
        refine ⟨?_, FB.out⟩
        rw [HRES.out, if_pos HD.out, HE.out]
        rfl
      · have e : ¬ hexL V = l := fun e => hd (HBK.out.1 e)
        rw [decide_eq_false e] at heq
        have HD := Lib.hid hd
        clear e hd
        go_wp2_with (first | ((with_reducible show wpList _ _ _ (Oper.mk (some 38) _ _ _ _ _ :: _) _ _); go_must (refine wpList_load_mid rfl 49 (.tmp 5) rfl (G + 1) 0 rfl XA _ hr1.out Tryd.underlying49 rfl hi1.out ?_)) | ((with_reducible show wpList _ _ _ (Oper.mk (some 39) _ _ _ _ _ :: _) _ _); go_must (refine wpList_load_mid rfl 49 (.tmp 4) rfl G 0 rfl XB _ hr0.out Tryd.underlying49 rfl hi0.out ?_)))
        go_ret2
        refine ⟨?_, FB.out⟩
        rw [HRES.out, if_neg HD.out]
        rfl
end Go.Proofs.YtbkdimdnpekgpaaDoor
