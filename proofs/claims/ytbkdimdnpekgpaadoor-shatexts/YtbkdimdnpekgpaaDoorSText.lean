/- Texts in digits: sha's Text, and the document's. -/
import Derived.Test.YtbkdimdnpekgpaaDoorSSum2
namespace Go.Proofs.YtbkdimdnpekgpaaDoor
open Go.RowKit Go.Proofs.ShaMath Go.Proofs.CopyW
set_option linter.unusedVariables false

/-- a digit of the base 16 -/
def hexd (n : Int) : Int := if n < 10 then 48 + n else 87 + n
theorem hexd_oct (n : Int) (h0 : 0 ≤ n) (h1 : n < 16) : 0 ≤ hexd n ∧ hexd n ≤ 255 := by unfold hexd; split <;> omega
def strL (s : ByteArray) : List Int := s.data.toList.map fun b => (b.toNat : Int)
theorem strL_length (s : ByteArray) : (strL s).length = s.size := by simp [strL]
theorem strL_oct (s : ByteArray) : Oct (strL s) := by
  intro c hc
  simp only [strL, List.mem_map] at hc
  obtain ⟨b, _, rfl⟩ := hc
  have := b.toNat_lt
  omega
theorem strOfNums_strL (s : ByteArray) : strOfNums (strL s) = s := by
  unfold strOfNums strL
  have e : ((s.data.toList.map fun b => (b.toNat : Int)).map fun n => UInt8.ofNat n.toNat) = s.data.toList := by
    rw [List.map_map]
    conv => rhs; rw [← List.map_id s.data.toList]
    apply List.map_congr_left
    intro b _
    simp
  rw [e]
theorem strL_strOfNums (l : List Int) (h : Oct l) : strL (strOfNums l) = l := by
  unfold strL strOfNums
  simp only [List.map_map]
  conv => rhs; rw [← List.map_id l]
  apply List.map_congr_left
  intro c hc
  have := h c hc
  simp only [Function.comp, UInt8.toNat_ofNat', id]
  omega
/-- a text in digits -/
def hexL : List Int → List Int
  | [] => []
  | c :: l => hexd (c / 16) :: hexd (c % 16) :: hexL l
theorem hexL_append (l m : List Int) : hexL (l ++ m) = hexL l ++ hexL m := by
  induction l with
  | nil => rfl
  | cons c l ih => simp [hexL, ih]
theorem hexL_length (l : List Int) : (hexL l).length = 2 * l.length := by
  induction l with
  | nil => rfl
  | cons c l ih => simp [hexL, ih]; omega
theorem hexL_oct {l : List Int} (h : Oct l) : Oct (hexL l) := by
  induction l with
  | nil => intro c hc; simp [hexL] at hc
  | cons c l ih =>
    have hc := h c (by simp)
    intro x hx
    simp only [hexL, List.mem_cons] at hx
    rcases hx with rfl | rfl | hx
    · exact hexd_oct _ (by omega) (by omega)
    · exact hexd_oct _ (by omega) (by omega)
    · exact ih (fun y hy => h y (by simp [hy])) x hx
theorem hexL_snoc (l : List Int) (k : Nat) (h : k < l.length) : hexL (l.take (k + 1)) = hexL (l.take k) ++ [hexd (l.getD k 0 / 16), hexd (l.getD k 0 % 16)] := by
  rw [take_snoc l k h, hexL_append]; rfl

def digs : ByteArray := { data := #[48, 49, 50, 51, 52, 53, 54, 55, 56, 57, 97, 98, 99, 100, 101, 102] }
theorem lt16 (x : Int) (h0 : 0 ≤ x) (h1 : x < 16) : x = 0 ∨ x = 1 ∨ x = 2 ∨ x = 3 ∨ x = 4 ∨ x = 5 ∨ x = 6 ∨ x = 7 ∨ x = 8 ∨ x = 9 ∨ x = 10 ∨ x = 11 ∨ x = 12 ∨ x = 13 ∨ x = 14 ∨ x = 15 := by omega
theorem run_dig (x : Int) (W : World) (h0 : 0 ≤ x) (h1 : x < 16) : (Instr.index 9 (.string { data := #[48, 49, 50, 51, 52, 53, 54, 55, 56, 57, 97, 98, 99, 100, 101, 102] }) (.int .u8 x)).run Tryd.prog W = .ok (.int .u8 (hexd x)) W := by
  rw [run_index_string W 9 _ .u8 x Tryd.underlying9]
  rcases lt16 x h0 h1 with rfl | rfl | rfl | rfl | rfl | rfl | rfl | rfl | rfl | rfl | rfl | rfl | rfl | rfl | rfl | rfl <;> rfl
theorem run_byte (s : ByteArray) (k : Nat) (W : World) (h : k < s.size) : (Instr.index 9 (.string s) (.int .i64 (k : Int))).run Tryd.prog W = .ok (.int .u8 ((strL s).getD k 0)) W := by
  rw [run_index_string W 9 _ .i64 k Tryd.underlying9, dif_pos (by omega)]
  congr 2
  rw [List.getD_eq_getElem?_getD, strL, List.getElem?_map, List.getElem?_eq_getElem (by simpa using h)]
  simp [ByteArray.getElem_eq_getElem_data]
theorem and15 (c : Int) (h0 : 0 ≤ c) (h1 : c ≤ 255) : bits .and .u8 c 15 = c % 16 := by
  have key : ∀ n : Fin 256, bits .and .u8 ((n.val : Nat) : Int) 15 = ((n.val : Nat) : Int) % 16 := by decide +kernel
  have h := key ⟨c.toNat, by omega⟩
  have e : ((c.toNat : Nat) : Int) = c := by omega
  simp only [e] at h
  exact h

/-- an append within the room that there is, as a step of a region that draws -/
theorem step_fits {w : World} {ops : Array Oper} {o : Oper} {a : Act} {K : Act → World → Prop} {Q : Exit → Act → World → Prop} {E : Prop} (hgd : o.guard = none)
    (s x : Operand) (ho : o.op = Op.call { callee := Callee.builtin Builtin.append, args := #[s, x], argTypes := #[22, 22] }) (base g n cap : Nat) (u : Value) (l m : List Int) (hs : a.eval s = .slice (some ⟨g, 0, none⟩) n cap) (hn : n = l.length) (hown : Own w base (.slice (some ⟨g, 0, none⟩) n cap) l)
    (hx : a.eval x = u) (hS : Sl w u m) (hm : m ≠ []) (hroom : n + m.length ≤ cap) (hbase : base ≤ w.heap.size) (n2 : Nat) (hn2 : n + m.length = n2)
    (h : ∀ (w' : World), Hid (Own w' base (.slice (some ⟨g, 0, none⟩) n2 cap) (l ++ m)) → Below base w w' → K (a.put o.dst (.slice (some ⟨g, 0, none⟩) n2 cap)) w') :
    if Region.wanted o (yielded ops a.tmps) = true then Oper.wp Tryd.prog o a w K Q else E := by
  have hw : Region.wanted o (yielded ops a.tmps) = true := by simp [Region.wanted, hgd]
  rw [if_pos hw]
  subst hn hn2
  obtain ⟨i0, hi, hz0, hz1, hz2⟩ := info_parts Tryd.info5
  obtain ⟨ad, c, rfl, hB, hnil, hcap⟩ := hS
  obtain ⟨b, off, rfl, _⟩ := hB.2 hm
  obtain ⟨w', hrun, r1, r2⟩ := run_append_fits (P := Tryd.prog) w base 22 o.type 5 i0 1 Tryd.underlying22 hi hz1 g l.length cap _ hown ⟨b, off, none⟩ m.length c (m.map (Value.int .u8)) (by simp) (Bytes.src hB) (oneCells m) hroom
  unfold Oper.wp
  simp [execOp, ho, resolve, invoke, builtin, hs, hx, hrun, Result.andThen]
  have r := own_more (m := m) hown hbase r1 r2
  exact h w' r.1 r.2

theorem two_sl (w : World) (x y : Int) (hx : 0 ≤ x ∧ x ≤ 255) (hy : 0 ≤ y ∧ y ≤ 255) : Sl (w.alloc (.cells #[.int .u8 x, .int .u8 y] 5)) (.slice (some ⟨w.heap.size, 0, none⟩) 2 2) [x, y] :=
  ⟨_, 2, rfl, lit_bytes w [x, y] (0, 0) (by intro c hc; simp at hc; omega), by simp, by simp⟩

set_option maxHeartbeats 4000000 in
set_option maxRecDepth 1000000 in
theorem text_walk (s : ByteArray) (w : World) (hs : s.size ≤ 140737488351232) :
    Calls Tryd.prog 16 #[.string s] w fun e w' => e = .returned (.string (strOfNums (hexL (strL s)))) ∧ Below w.heap.size w w' := by
  obtain ⟨l, hl⟩ : ∃ l, l = strL s := ⟨_, rfl⟩
  have hlo : Oct l := by rw [hl]; exact strL_oct s
  have hll : l.length = s.size := by rw [hl]; exact strL_length s
  have HB : Hid (∀ k, k < s.size → ∀ W, (Instr.index 9 (.string s) (.int .i64 (k : Int))).run Tryd.prog W = .ok (.int .u8 (l.getD k 0)) W) := by
    intro k hk W; rw [hl]; exact run_byte s k W hk
  rw [← hl]
  obtain ⟨n, hn⟩ : ∃ n, n = s.size := ⟨_, rfl⟩
  rw [← hn] at hs hll HB
  have hsz : s.size = n := hn.symm
  have HO := Lib.hid hlo
  have HL := Lib.hid hll
  clear hl hlo hll hn
  obtain ⟨i0, hi0, hz0, hz1, hzz⟩ := info_parts Tryd.info5
  have hmk := run_make (P := Tryd.prog) w 22 5 i0 (.int .u8 0) Tryd.underlying22 hi0 hz0 .i64 .i64 0 (2 * (n : Int)) (by omega) (by omega) (by rw [hzz]; omega) (by omega)
  rw [hz1] at hmk
  have hcp : (2 * (n : Int)).toNat = 2 * n := by omega
  simp only [hcp, Int.toNat_zero] at hmk
  have H0 : Hid (Own (w.alloc (.cells (madeCells (Value.int .u8 0).cells (2 * n * 1)) 5)) w.heap.size (.slice (some ⟨w.heap.size, 0, none⟩) 0 (2 * n)) []) := by
    have := World.ownsRow_made (base := w.heap.size) (e := 5) (size := 1) w (madeCells (Value.int .u8 0).cells (2 * n * 1)) (2 * n) (Nat.le_refl _) (by unfold maxLen; omega) (by rw [size_madeCells])
    exact this
  have HB0 : Hid (Below w.heap.size w (w.alloc (.cells (madeCells (Value.int .u8 0).cells (2 * n * 1)) 5))) := (Below.refl _ _).alloc (Nat.le_refl _) _
  generalize w.alloc (.cells (madeCells (Value.int .u8 0).cells (2 * n * 1)) 5) = w1 at hmk H0 HB0
  clear hcp
  go_enter Tryd.func16, Tryd.ntmps16
  go_wp2
  go_loopw [3, 11] (fun v c wr => ∃ k : Nat, v = .slice (some ⟨w.heap.size, 0, none⟩) (2 * k) (2 * n) ∧ c = .int .i64 (k : Int) ∧ k ≤ n ∧ Hid (Own wr w.heap.size (.slice (some ⟨w.heap.size, 0, none⟩) (2 * k) (2 * n)) (hexL (l.take k))) ∧ Below w.heap.size w wr) (fun _ c _ => n - (intOf c).toNat)
  case atStart => exact ⟨0, rfl, rfl, by omega, H0, HB0.out⟩
  case round =>
    clear H0 HB0 hmk
    obtain ⟨k, rfl, rfl, hk, HV, hbel⟩ := hrel
    have HBX := Lib.hid hbel
    have hzx := hbel.size
    clear hbel
    by_cases hkn : k < n
    · have hby := HB.out k hkn
      have hcb := HO.out.getD k
      have HSN := Lib.hid (hexL_snoc l k (by have := HL.out; omega))
      obtain ⟨c, hc⟩ : ∃ c, c = l.getD k 0 := ⟨_, rfl⟩
      rw [← hc] at hby hcb HSN
      have hand := and15 c hcb.1 hcb.2
      have hd1 := fun W => run_dig (c / 16) W (by omega) (by omega)
      have hd2 := fun W => run_dig (c % 16) W (by omega) (by omega)
      have hxb := hexd_oct (c / 16) (by omega) (by omega)
      have hyb := hexd_oct (c % 16) (by omega) (by omega)
      obtain ⟨x, hx⟩ : ∃ x, x = hexd (c / 16) := ⟨_, rfl⟩
      obtain ⟨y, hy⟩ : ∃ y, y = hexd (c % 16) := ⟨_, rfl⟩
      rw [← hx] at hd1 hxb HSN
      rw [← hy] at hd2 hyb HSN
      have hln : 2 * k = (hexL (l.take k)).length := by rw [hexL_length, List.length_take, HL.out]; omega
      obtain ⟨Z, hZ⟩ : ∃ Z, Z = hexL (l.take k) := ⟨_, rfl⟩
      rw [← hZ] at hln HV HSN
      have HLN := Lib.hid hln
      clear hx hy hc hZ hln
      have H2 := Lib.hid (two_sl wr.drew x y hxb hyb)
      have HVd : Hid (∀ o, Own (wr.drew.alloc o) w.heap.size (.slice (some ⟨w.heap.size, 0, none⟩) (2 * k) (2 * n)) Z) := fun o => World.ownsRow.alloc (show Own wr.drew _ _ _ from HV.out) _
      go_wp2
      go_region_law (((refine step_fits rfl (.tmp 14) (.tmp 25) rfl w.heap.size w.heap.size (2 * k) (2 * n) _ Z [x, y] rfl HLN.out (HVd.out _) rfl H2.out (by simp) (by simp; omega) (by simp [World.drew]; omega) (2 * (k + 1)) (by simp; omega) ?_); intro w6 HV6 hb6))
      all_goals
        have HV7 : Hid (Own w6 w.heap.size (.slice (some ⟨w.heap.size, 0, none⟩) (2 * (k + 1)) (2 * n)) (hexL (l.take (k + 1)))) := by
          show Own _ _ _ _
          rw [HSN.out]
          exact HV6.out
        have HB6 : Hid (Below w.heap.size w w6) := HBX.out.trans ((Below.drew ((Below.refl _ _).alloc (by omega) _)).trans hb6)
        clear HV6 hb6 HVd H2 hd1 hd2 hby
        go_wp2
        go_roundw
        case rel => exact ⟨k + 1, rfl, by go_num, by omega, HV7, HB6.out⟩
        case measure => simp [intOf]; omega
    · have hkk : k = n := by omega
      have hkk2 : ¬ (k : Int) < (n : Int) := by omega
      have HV' : Hid (Bytes wr (some ⟨w.heap.size, 0, none⟩) (hexL l)) := by
        have h := HV.out
        rw [hkk, List.take_of_length_le (by rw [HL.out]; omega)] at h
        obtain ⟨a9, c9, e9, hby9, _, _⟩ := h.sl (hexL_oct HO.out)
        have e10 : some ⟨w.heap.size, 0, none⟩ = a9 := by injection e9
        rw [e10]
        exact hby9
      have hstr := run_str HV'.out (2 * k) (2 * n) (by rw [hexL_length, HL.out, hkk])
      clear hkk HV
      go_wp2
      go_ret
      exact ⟨rfl, HBX.out⟩

set_option maxHeartbeats 4000000 in
set_option maxRecDepth 1000000 in
theorem rtext_walk (s : ByteArray) (w : World) (hs : s.size ≤ 140737488351232) :
    Calls Tryd.prog 17 #[.string s] w fun e w' => e = .returned (.string (strOfNums (hexL (strL s)))) ∧ Below w.heap.size w w' := by
  obtain ⟨l, hl⟩ : ∃ l, l = strL s := ⟨_, rfl⟩
  have hlo : Oct l := by rw [hl]; exact strL_oct s
  have hll : l.length = s.size := by rw [hl]; exact strL_length s
  have HB : Hid (∀ k, k < s.size → ∀ W, (Instr.index 9 (.string s) (.int .i64 (k : Int))).run Tryd.prog W = .ok (.int .u8 (l.getD k 0)) W) := by
    intro k hk W; rw [hl]; exact run_byte s k W hk
  rw [← hl]
  obtain ⟨n, hn⟩ : ∃ n, n = s.size := ⟨_, rfl⟩
  rw [← hn] at hs hll HB
  have hsz : s.size = n := hn.symm
  have HO := Lib.hid hlo
  have HL := Lib.hid hll
  clear hl hlo hll hn
  obtain ⟨i0, hi0, hz0, hz1, hzz⟩ := info_parts Tryd.info5
  have hmk := run_make (P := Tryd.prog) w 22 5 i0 (.int .u8 0) Tryd.underlying22 hi0 hz0 .i64 .i64 0 (2 * (n : Int)) (by omega) (by omega) (by rw [hzz]; omega) (by omega)
  rw [hz1] at hmk
  have hcp : (2 * (n : Int)).toNat = 2 * n := by omega
  simp only [hcp, Int.toNat_zero] at hmk
  have H0 : Hid (Own (w.alloc (.cells (madeCells (Value.int .u8 0).cells (2 * n * 1)) 5)) w.heap.size (.slice (some ⟨w.heap.size, 0, none⟩) 0 (2 * n)) []) := by
    have := World.ownsRow_made (base := w.heap.size) (e := 5) (size := 1) w (madeCells (Value.int .u8 0).cells (2 * n * 1)) (2 * n) (Nat.le_refl _) (by unfold maxLen; omega) (by rw [size_madeCells])
    exact this
  have HB0 : Hid (Below w.heap.size w (w.alloc (.cells (madeCells (Value.int .u8 0).cells (2 * n * 1)) 5))) := (Below.refl _ _).alloc (Nat.le_refl _) _
  generalize w.alloc (.cells (madeCells (Value.int .u8 0).cells (2 * n * 1)) 5) = w1 at hmk H0 HB0
  clear hcp
  go_enter Tryd.func17, Tryd.ntmps17
  go_wp2
  go_loopw [3, 4] (fun v c wr => ∃ k : Nat, v = .slice (some ⟨w.heap.size, 0, none⟩) (2 * k) (2 * n) ∧ c = .int .i64 (k : Int) ∧ k ≤ n ∧ Hid (Own wr w.heap.size (.slice (some ⟨w.heap.size, 0, none⟩) (2 * k) (2 * n)) (hexL (l.take k))) ∧ Below w.heap.size w wr) (fun _ c _ => n - (intOf c).toNat)
  case atStart => exact ⟨0, rfl, rfl, by omega, H0, HB0.out⟩
  case round =>
    clear H0 HB0 hmk
    obtain ⟨k, rfl, rfl, hk, HV, hbel⟩ := hrel
    have HBX := Lib.hid hbel
    have hzx := hbel.size
    clear hbel
    by_cases hkn : k < n
    · have hby := HB.out k hkn
      have hcb := HO.out.getD k
      have HSN := Lib.hid (hexL_snoc l k (by have := HL.out; omega))
      obtain ⟨c, hc⟩ : ∃ c, c = l.getD k 0 := ⟨_, rfl⟩
      rw [← hc] at hby hcb HSN
      have hq1 : Int.tdiv c 16 = c / 16 := Int.tdiv_eq_ediv_of_nonneg hcb.1
      have hq2 : Int.tmod c 16 = c % 16 := Int.tmod_eq_emod_of_nonneg hcb.1
      have hq3 : IntKind.u8.wrap (c / 16) = c / 16 := by rw [IntKind.wrap_u8]; omega
      have hq4 : IntKind.u8.wrap (c % 16) = c % 16 := by rw [IntKind.wrap_u8]; omega
      have hd1 := fun W => run_dig (c / 16) W (by omega) (by omega)
      have hd2 := fun W => run_dig (c % 16) W (by omega) (by omega)
      have hxb := hexd_oct (c / 16) (by omega) (by omega)
      have hyb := hexd_oct (c % 16) (by omega) (by omega)
      obtain ⟨x, hx⟩ : ∃ x, x = hexd (c / 16) := ⟨_, rfl⟩
      obtain ⟨y, hy⟩ : ∃ y, y = hexd (c % 16) := ⟨_, rfl⟩
      rw [← hx] at hd1 hxb HSN
      rw [← hy] at hd2 hyb HSN
      have hln : 2 * k = (hexL (l.take k)).length := by rw [hexL_length, List.length_take, HL.out]; omega
      obtain ⟨Z, hZ⟩ : ∃ Z, Z = hexL (l.take k) := ⟨_, rfl⟩
      rw [← hZ] at hln HV HSN
      have HLN := Lib.hid hln
      clear hx hy hc hZ hln
      have H2 := Lib.hid (two_sl wr.drew x y hxb hyb)
      have HVd : Hid (∀ o, Own (wr.drew.alloc o) w.heap.size (.slice (some ⟨w.heap.size, 0, none⟩) (2 * k) (2 * n)) Z) := fun o => World.ownsRow.alloc (show Own wr.drew _ _ _ from HV.out) _
      go_wp2
      go_region_law (((refine step_fits rfl (.tmp 15) (.tmp 26) rfl w.heap.size w.heap.size (2 * k) (2 * n) _ Z [x, y] rfl HLN.out (HVd.out _) rfl H2.out (by simp) (by simp; omega) (by simp [World.drew]; omega) (2 * (k + 1)) (by simp; omega) ?_); intro w6 HV6 hb6))
      all_goals
        have HV7 : Hid (Own w6 w.heap.size (.slice (some ⟨w.heap.size, 0, none⟩) (2 * (k + 1)) (2 * n)) (hexL (l.take (k + 1)))) := by
          show Own _ _ _ _
          rw [HSN.out]
          exact HV6.out
        have HB6 : Hid (Below w.heap.size w w6) := HBX.out.trans ((Below.drew ((Below.refl _ _).alloc (by omega) _)).trans hb6)
        clear HV6 hb6 HVd H2 hd1 hd2 hby
        go_wp2
        go_roundw
        case rel => exact ⟨k + 1, rfl, by go_num, by omega, HV7, HB6.out⟩
        case measure => simp [intOf]; omega
    · have hkk : k = n := by omega
      have hkk2 : ¬ (k : Int) < (n : Int) := by omega
      have HV' : Hid (Bytes wr (some ⟨w.heap.size, 0, none⟩) (hexL l)) := by
        have h := HV.out
        rw [hkk, List.take_of_length_le (by rw [HL.out]; omega)] at h
        obtain ⟨a9, c9, e9, hby9, _, _⟩ := h.sl (hexL_oct HO.out)
        have e10 : some ⟨w.heap.size, 0, none⟩ = a9 := by injection e9
        rw [e10]
        exact hby9
      have hstr := run_str HV'.out (2 * k) (2 * n) (by rw [hexL_length, HL.out, hkk])
      clear hkk HV
      go_wp2
      go_ret
      exact ⟨rfl, HBX.out⟩
end Go.Proofs.YtbkdimdnpekgpaaDoor
