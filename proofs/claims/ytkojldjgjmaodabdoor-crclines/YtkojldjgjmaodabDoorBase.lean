/- What the walks over crc know of memory: bytes, parts, the table. -/
import Derived.Test.YtkojldjgjmaodabDoorRows
import Derived.Test.YtkojldjgjmaodabDoorMath
import Derived.WalkKit
import Derived.WalkSpells
import Derived.WalkLawsBesides
import Derived.Lib.Hide
import Derived.Laws.BytesArg
import Derived.Lib.SlBytesConst
namespace Go.Proofs.YtkojldjgjmaodabDoor
open Go.RowKit Go.Proofs.CrcMath
set_option linter.unusedVariables false

def Oct (l : List Int) : Prop := ∀ c ∈ l, 0 ≤ c ∧ c ≤ 255
theorem Oct.getD {l : List Int} (h : Oct l) (i : Nat) : 0 ≤ l.getD i 0 ∧ l.getD i 0 ≤ 255 := by
  by_cases hi : i < l.length
  · rw [List.getD_eq_getElem?_getD, List.getElem?_eq_getElem hi]; exact h _ (List.getElem_mem hi)
  · rw [List.getD_eq_getElem?_getD, List.getElem?_eq_none (by omega)]; simp
theorem Oct.append {l m : List Int} (h : Oct l) (k : Oct m) : Oct (l ++ m) := by
  intro c hc; rcases List.mem_append.1 hc with h' | h'
  · exact h c h'
  · exact k c h'
theorem Oct.take {l : List Int} (h : Oct l) (n : Nat) : Oct (l.take n) := fun c hc => h c (List.mem_of_mem_take hc)
theorem Oct.drop {l : List Int} (h : Oct l) (n : Nat) : Oct (l.drop n) := fun c hc => h c (List.mem_of_mem_drop hc)

/-- a slice's address and elements, as the walk reads them -/
def Bytes (w : World) (a : Option Addr) (l : List Int) : Prop :=
  Oct l ∧ (l ≠ [] → ∃ b off, a = some ⟨b, off, none⟩ ∧ ∀ i, i < l.length → w.cell? ⟨b, off + i, none⟩ = some (.int .u8 (l.getD i 0)))
theorem Bytes.later {w w' : World} {a : Option Addr} {l : List Int} (h : Bytes w a l) (hb : Below w.heap.size w w') : Bytes w' a l :=
  ⟨h.1, fun hne => by
    obtain ⟨b, off, e, hc⟩ := h.2 hne
    exact ⟨b, off, e, fun i hi => cell_later hb (hc i hi)⟩⟩

/-- a slice of slices of bytes -/
def Parts (w : World) (a : Option Addr) (ps : List (List Int)) : Prop :=
  (∀ k, Oct (ps.getD k [])) ∧ (∀ k, (ps.getD k []).length ≤ 9223372036854775807) ∧
  (ps ≠ [] → ∃ b off, a = some ⟨b, off, none⟩ ∧ ∀ k, k < ps.length → ∃ a' cap', w.cell? ⟨b, off + k, none⟩ = some (.slice a' (ps.getD k []).length cap') ∧ Bytes w a' (ps.getD k []))

/-- the table lies at its place -/
def Tab (w : World) : Prop := 0 < w.heap.size ∧ ∀ j, j < 16 → w.cell? ⟨0, j, none⟩ = some (.int .u32 ((T j : Nat) : Int))
theorem Tab.later {w w' : World} (h : Tab w) (hb : Below w.heap.size w w') : Tab w' :=
  ⟨Nat.lt_of_lt_of_le h.1 hb.size, fun j hj => cell_later hb (h.2 j hj)⟩

theorem u32_and15 (v : Nat) (h : v < 2 ^ 32) : bits .and .u32 (v : Int) 15 = ((v % 16 : Nat) : Int) := by
  have := u32_and_nat v 15 (by omega) (by omega)
  rw [nat_mask4] at this
  exact this
theorem u32_xorN (v c : Nat) (h : v < 2 ^ 32) (hc : c < 2 ^ 32) : bits .xor .u32 (v : Int) (c : Int) = ((v ^^^ c : Nat) : Int) := u32_xor_nat v c (by omega) (by omega)

theorem not_u32 (x : Nat) (h : x < 2 ^ 32) : bits .xor .u32 IntKind.u32.max (x : Int) = ((4294967295 ^^^ x : Nat) : Int) := by
  have e : IntKind.u32.max = ((4294967295 : Nat) : Int) := by decide
  rw [e]; exact u32_xorN _ _ (by decide) h

/-- one byte's step, half a byte at a time -/
theorem two_nibs (v : Nat) : shN 4 v / 16 ^^^ T (shN 4 v % 16) = shN 8 v := by rw [nib, ← shN_add]
theorem reg_snoc (w : Nat) (l : List Int) (k : Nat) (hk : k < l.length) : reg w (l.take (k + 1)) = shN 8 (reg w (l.take k) ^^^ (l.getD k 0).toNat) := by
  rw [List.take_succ_eq_append_getElem hk, reg_append, List.getD_eq_getElem?_getD, List.getElem?_eq_getElem hk]; rfl
theorem flat_snoc (ps : List (List Int)) (k : Nat) (hk : k < ps.length) : (ps.take (k + 1)).flatten = (ps.take k).flatten ++ ps.getD k [] := by
  rw [List.take_succ_eq_append_getElem hk, List.flatten_append, List.getD_eq_getElem?_getD, List.getElem?_eq_getElem hk]; simp
theorem flat_oct (ps : List (List Int)) (h : ∀ k, Oct (ps.getD k [])) (n : Nat) : Oct (ps.take n).flatten := by
  intro c hc
  obtain ⟨l, hl, hcl⟩ := List.mem_flatten.1 hc
  obtain ⟨k, hk, rfl⟩ := List.mem_iff_getElem.1 (List.mem_of_mem_take hl)
  have := h k
  rw [List.getD_eq_getElem?_getD, List.getElem?_eq_getElem hk] at this
  exact this c hcl

set_option maxHeartbeats 1000000 in
theorem of_walk (b off n cap : Nat) (ps : List (List Int)) (w : World) (hn : n = ps.length) (hn63 : n ≤ 9223372036854775807) (hpos : 0 < n) (hT : Tab w) (ho : ∀ k, Oct (ps.getD k [])) (hlen : ∀ k, (ps.getD k []).length ≤ 9223372036854775807)
    (hc : ∀ k, k < ps.length → ∃ a' cap', w.cell? ⟨b, off + k, none⟩ = some (.slice a' (ps.getD k []).length cap') ∧ Bytes w a' (ps.getD k [])) :
    Calls Tryd.prog 8 #[.slice (some ⟨b, off, none⟩) n cap] w fun e w' => e = .returned (.int .u32 ((crcN ps.flatten : Nat) : Int)) ∧ w = w' := by
  have HT := Lib.hid hT
  have HC := Lib.hid hc
  have HN := Lib.hid hn
  have HO := Lib.hid ho
  have HLEN := Lib.hid hlen
  clear hT hc hn ho hlen
  go_enter Tryd.func8, Tryd.ntmps8
  go_wp2
  go_loop [3, 10] (fun r i => ∃ k x : Nat, k ≤ n ∧ i = .int .i64 k ∧ r = .int .u32 x ∧ Hid (x = reg 4294967295 (ps.take k).flatten)) (fun _ i => n - (intOf i).toNat)
  case atStart => exact ⟨0, 4294967295, by omega, rfl, rfl, rfl⟩
  case round =>
    obtain ⟨k, x, hk, rfl, rfl, HX⟩ := hrel
    have hx32 : x < 2 ^ 32 := by rw [HX.out]; exact reg_lt _ (flat_oct ps HO.out k) _ (by decide)
    by_cases hlt : k < n
    · obtain ⟨a', cap', hcell, hBy⟩ := HC.out k (by have := HN.out; omega)
      obtain ⟨l, hl⟩ : ∃ l, l = ps.getD k [] := ⟨_, rfl⟩
      have hl63 := HLEN.out k
      rw [← hl] at hcell hBy hl63
      obtain ⟨m, hm⟩ : ∃ m, m = l.length := ⟨_, rfl⟩
      rw [← hm] at hcell hl63
      have HL := Lib.hid hl
      have HM := Lib.hid hm
      have HBy := Lib.hid hBy
      have HX32 := Lib.hid hx32
      clear hl hm hBy hx32
      by_cases hm0 : m = 0
      · subst hm0
        go_wp2
        refine wp_loop_rounds 1 ?_
        rw [rounds_succ]
        go_wp2
        go_round
        case rel => exact ⟨k + 1, x, by omega, by go_num, rfl, (by
          show _ = _
          rw [flat_snoc _ _ (by have := HN.out; omega), ← HL.out, List.eq_nil_of_length_eq_zero HM.out.symm, List.append_nil]; exact HX.out)⟩
        case measure => simp [intOf]; omega
      · obtain ⟨b2, off2, ha, hcb⟩ := HBy.out.2 (by intro e; have := HM.out; rw [e] at this; simp at this; omega)
        rw [ha] at hcell
        have HCB := Lib.hid hcb
        clear ha hcb
        go_wp2
        go_loop [3, 16] (fun r i => ∃ j y : Nat, j ≤ m ∧ i = .int .i64 j ∧ r = .int .u32 y ∧ Hid (y = reg x (l.take j))) (fun _ i => m - (intOf i).toNat)
        case atStart => exact ⟨0, x, by omega, rfl, rfl, rfl⟩
        case round =>
          obtain ⟨j, y, hj, rfl, rfl, HY⟩ := hrel
          have hy32 : y < 2 ^ 32 := by rw [HY.out]; exact reg_lt _ (HBy.out.1.take j) _ HX32.out
          by_cases hlt2 : j < m
          · have hcj := HCB.out j (by have := HM.out; omega)
            have hc8 := HBy.out.1.getD j
            obtain ⟨c, hcv⟩ : ∃ c : Nat, l.getD j 0 = (c : Int) := ⟨(l.getD j 0).toNat, by omega⟩
            rw [hcv] at hcj
            have hc255 : c ≤ 255 := by omega
            obtain ⟨v, hv⟩ : ∃ v, v = y ^^^ c := ⟨_, rfl⟩
            have hv32 : v < 2 ^ 32 := by rw [hv]; exact Nat.xor_lt_two_pow hy32 (by omega)
            have q1 : bits .xor .u32 (y : Int) (c : Int) = (v : Int) := by rw [hv]; exact u32_xorN y c hy32 (by omega)
            obtain ⟨r1, hr1⟩ : ∃ r1, r1 = v % 16 := ⟨_, rfl⟩
            have hr1l : r1 < 16 := by omega
            have q2 : bits .and .u32 (v : Int) 15 = (r1 : Int) := by rw [hr1]; exact u32_and15 v hv32
            have t1 := HT.out.2 r1 hr1l
            obtain ⟨v2, hv2⟩ : ∃ v2, v2 = shN 4 v := ⟨_, rfl⟩
            have hv232 : v2 < 2 ^ 32 := by rw [hv2]; exact shN_lt 4 v hv32
            have q3 : bits .xor .u32 ((v : Int) / 16) ((T r1 : Nat) : Int) = (v2 : Int) := by
              rw [show ((v : Int) / 16) = ((v / 16 : Nat) : Int) from by omega, u32_xorN _ _ (by omega) (T_lt r1), hr1, nib, hv2]
            obtain ⟨r2, hr2⟩ : ∃ r2, r2 = v2 % 16 := ⟨_, rfl⟩
            have hr2l : r2 < 16 := by omega
            have q4 : bits .and .u32 (v2 : Int) 15 = (r2 : Int) := by rw [hr2]; exact u32_and15 v2 hv232
            have t2 := HT.out.2 r2 hr2l
            obtain ⟨v3, hv3⟩ : ∃ v3, v3 = shN 4 v2 := ⟨_, rfl⟩
            have q5 : bits .xor .u32 ((v2 : Int) / 16) ((T r2 : Nat) : Int) = (v3 : Int) := by
              rw [show ((v2 : Int) / 16) = ((v2 / 16 : Nat) : Int) from by omega, u32_xorN _ _ (by omega) (T_lt r2), hr2, nib, hv3]
            have HF : Hid (v3 = reg x (l.take (j + 1))) := by
              show _ = _
              rw [reg_snoc _ _ _ (by have := HM.out; omega), ← HY.out, hcv, hv3, hv2, hv, ← shN_add]; rfl
            generalize T r1 = T1 at t1 q3
            generalize T r2 = T2 at t2 q5
            clear hv hr1 hv2 hr2 hv3 hcv hc8 hy32 hv32 hv232
            go_wp2
            go_round
            case rel => exact ⟨j + 1, v3, by omega, by go_num, rfl, HF⟩
            case measure => simp [intOf]; omega
          · have hjm : j = m := by omega
            subst hjm
            go_wp2
            go_round
            case rel => exact ⟨k + 1, y, by omega, by go_num, rfl, (by
              show _ = _
              rw [flat_snoc _ _ (by have := HN.out; omega), reg_append, ← HX.out, ← HL.out, HY.out, List.take_of_length_le (by rw [HM.out]; exact Nat.le_refl _)])⟩
            case measure => simp [intOf]; omega
    · have hkn : k = n := by omega
      subst hkn
      go_wp2
      go_ret
      refine ⟨?_, rfl⟩
      show Ending.returned (.int .u32 (bits .xor .u32 IntKind.u32.max (x : Int))) = _
      rw [not_u32 x hx32, HX.out, List.take_of_length_le (by have := HN.out; omega)]; rfl
set_option maxHeartbeats 400000 in
theorem of_empty (a : Option Addr) (cap : Nat) (w : World) :
    Calls Tryd.prog 8 #[.slice a 0 cap] w fun e w' => e = .returned (.int .u32 0) ∧ w = w' := by
  go_enter Tryd.func8, Tryd.ntmps8
  go_wp2
  refine wp_loop_rounds 1 ?_
  rw [rounds_succ]
  go_wp2
  go_ret
  exact ⟨rfl, rfl⟩

theorem of_any (a : Option Addr) (cap : Nat) (ps : List (List Int)) (w : World) (hn63 : ps.length ≤ 9223372036854775807) (hT : Tab w) (hP : Parts w a ps) :
    Calls Tryd.prog 8 #[.slice a ps.length cap] w fun e w' => e = .returned (.int .u32 ((crcN ps.flatten : Nat) : Int)) ∧ w = w' := by
  by_cases h0 : ps = []
  · subst h0
    refine (of_empty a cap w).mono ?_
    rintro e w' ⟨rfl, rfl⟩
    exact ⟨rfl, rfl⟩
  · obtain ⟨b, off, rfl, hc⟩ := hP.2.2 h0
    exact of_walk b off ps.length cap ps w rfl hn63 (by cases ps with | nil => exact absurd rfl h0 | cons => simp) hT hP.1 hP.2.1 hc

/-- one part, in a block of its own -/
theorem parts_one (w : World) (a : Option Addr) (cap : Nat) (l : List Int) (t : TypeId) (hB : Bytes w a l) (hl : l.length ≤ 9223372036854775807) :
    Parts (w.alloc (.cells #[.slice a l.length cap] t)) (some ⟨w.heap.size, 0, none⟩) [l] := by
  refine ⟨fun k => ?_, fun k => ?_, fun _ => ⟨w.heap.size, 0, rfl, fun k hk => ?_⟩⟩
  · cases k with
    | zero => exact hB.1
    | succ k => intro c hc; simp at hc
  · cases k with
    | zero => exact hl
    | succ k => simp
  · have : k = 0 := by simpa using hk
    subst this
    refine ⟨a, cap, ?_, hB.later ((Below.refl _ _).alloc (Nat.le_refl _) _)⟩
    go_simp

theorem of_one (w : World) (a : Option Addr) (n cap : Nat) (l : List Int) (t : TypeId) (hn : n = l.length) (hT : Tab w) (hB : Bytes w a l) (hl : l.length ≤ 9223372036854775807) :
    Calls Tryd.prog 8 #[.slice (some ⟨w.heap.size, 0, none⟩) 1 1] (w.alloc (.cells #[.slice a n cap] t)) fun e w' => e = .returned (.int .u32 ((crcN l : Nat) : Int)) ∧ w.alloc (.cells #[.slice a n cap] t) = w' := by
  subst hn
  have h := of_any (some ⟨w.heap.size, 0, none⟩) 1 [l] (w.alloc (.cells #[.slice a l.length cap] t)) (by simp) (hT.later ((Below.refl _ _).alloc (Nat.le_refl _) _)) (parts_one w a cap l t hB hl)
  have e : ([l] : List (List Int)).flatten = l := by simp
  rw [e] at h
  exact h

instance (l : List Int) : Decidable (Oct l) := by unfold Oct; infer_instance

theorem lit_bytes (w : World) (l : List Int) (fr : Nat × Nat) (ho : Oct l) : Bytes (w.alloc (.cells (l.map (Value.int .u8)).toArray 5 fr)) (some ⟨w.heap.size, 0, none⟩) l := by
  refine ⟨ho, fun _ => ⟨w.heap.size, 0, rfl, fun i hi => ?_⟩⟩
  have hh : (w.alloc (.cells (l.map (Value.int .u8)).toArray 5 fr)).heap[w.heap.size]? = some (.cells (l.map (Value.int .u8)).toArray 5 fr) := by
    show (w.heap.push _)[w.heap.size]? = _
    simp
  simp only [World.cell?, hh, Nat.zero_add]
  rw [List.getElem?_toArray, List.getElem?_map, List.getElem?_eq_getElem hi, List.getD_eq_getElem?_getD, List.getElem?_eq_getElem hi]; rfl

theorem crc_123 : crcN [49, 50, 51, 52, 53, 54, 55, 56, 57] = 3421780262 := by decide +kernel
theorem crc_a : crcN [97] = 3904355907 := by decide +kernel

theorem of_lit (w : World) (l : List Int) (g n : Nat) (C : Array Value) (fr : Nat × Nat) (x : Nat) (hg : g = w.heap.size + 1) (hC : C = (l.map (Value.int .u8)).toArray) (hn : n = l.length) (hx : crcN l = x) (ho : Oct l) (hl : l.length ≤ 9223372036854775807) (hT : Tab w) :
    Calls Tryd.prog 8 #[.slice (some ⟨g, 0, none⟩) 1 1] ((w.alloc (.cells C 5 fr)).alloc (.cells #[.slice (some ⟨w.heap.size, 0, none⟩) n n] 22)) fun e w' => e = .returned (.int .u32 (x : Int)) ∧ Below w.heap.size w w' := by
  subst hg hC
  have hb : Below w.heap.size w (w.alloc (.cells (l.map (Value.int .u8)).toArray 5 fr)) := (Below.refl _ _).alloc (Nat.le_refl _) _
  have h := of_one (w.alloc (.cells (l.map (Value.int .u8)).toArray 5 fr)) (some ⟨w.heap.size, 0, none⟩) n n l 22 hn (hT.later hb) (lit_bytes w l fr ho) hl
  have e : (w.alloc (.cells (l.map (Value.int .u8)).toArray 5 fr)).heap.size = w.heap.size + 1 := by simp
  rw [e] at h
  refine h.mono ?_
  rintro e w' ⟨rfl, rfl⟩
  exact ⟨by rw [hx], hb.alloc (by simp) _⟩

set_option maxHeartbeats 400000 in
theorem awake_any (w : World) (hT : Tab w) :
    Calls Tryd.prog 5 #[] w fun e w' => e = .returned (.bool true) ∧ Below w.heap.size w w' := by
  have HT := Lib.hid hT
  clear hT
  have kc := fun (w : World) (C : Array Value) (n c : Nat) => Lib.run_convert_bytes_const (P := Tryd.prog) w 22 5 C n c Tryd.underlying22 Tryd.underlying5
  go_enter Tryd.func5, Tryd.ntmps5
  go_wp2_with fail
  refine (of_lit w [49, 50, 51, 52, 53, 54, 55, 56, 57] _ 9 _ (9, 10) 3421780262 rfl rfl rfl crc_123 (by decide) (by simp) HT.out).mono ?_
  rintro e w1 ⟨rfl, hb1⟩
  have HT1 := Lib.hid (HT.out.later hb1)
  go_wp2_with fail
  refine (of_lit w1 [97] _ 1 _ (1, 2) 3904355907 rfl rfl rfl crc_a (by decide) (by simp) HT1.out).mono ?_
  rintro e w2 ⟨rfl, hb2⟩
  go_wp2_with fail
  refine (of_empty none 0 w2).mono ?_
  rintro e w' ⟨rfl, rfl⟩
  go_wp2
  go_ret
  exact ⟨rfl, hb1.trans (hb2.mono hb1.size)⟩
end Go.Proofs.YtkojldjgjmaodabDoor
