/- sig.Bytes. -/
import Derived.Test.YtkppnbehkmpogaaDoorSgLaid
import Derived.Test.YtkppnbehkmpogaaDoorSgOf2
import Derived.Laws.IdiomStrings
namespace Go.Proofs.YtkppnbehkmpogaaDoor
open Go.RowKit Go.Shelf Go.Proofs.BlkMath Go.Proofs.RangeLaw Go.Proofs.HeldRound
open Num (encR heldN)
open Crc (leB)
set_option linter.unusedVariables false
set_option maxRecDepth 100000

def strL (s : ByteArray) : List Int := s.data.toList.map fun b => (b.toNat : Int)
theorem strL_length (s : ByteArray) : (strL s).length = s.size := by simp [strL]
theorem strL_oct (s : ByteArray) : Oct (strL s) := by
  intro c hc
  simp only [strL, List.mem_map] at hc
  obtain ⟨b, _, rfl⟩ := hc
  have := b.toNat_lt
  omega
theorem strOfNums_strL (s : ByteArray) : strOfNums (strL s) = s := by
  unfold strOfNums strL
  have e : ((s.data.toList.map fun b => (b.toNat : Int)).map fun n => UInt8.ofNat n.toNat) = s.data.toList := by
    rw [List.map_map]
    conv => rhs; rw [← List.map_id s.data.toList]
    apply List.map_congr_left
    intro b _
    simp
  rw [e]

/-- bytes that lie at the beginning of a block of bytes -/
def SlB (w : World) (v : Value) (l : List Int) : Prop := Oct l ∧ ∃ g c cur fr, v = .slice (some ⟨g, 0, none⟩) l.length c ∧ w.heap[g]? = some (.cells cur 5 fr) ∧ l.length ≤ c ∧ ∀ i, i < l.length → cur[i]? = some (.int .u8 (l.getD i 0))
theorem SlB.keep {W W' : World} {v : Value} {l : List Int} (h : SlB W v l) (k : ∀ (b : Nat) (c : Array Value) (fr : Nat × Nat), W.heap[b]? = some (Obj.cells c 5 fr) → W'.heap[b]? = some (Obj.cells c 5 fr)) : SlB W' v l := by
  obtain ⟨h0, g, c, cur, fr, h1, h2, h3⟩ := h
  exact ⟨h0, g, c, cur, fr, h1, k _ _ _ h2, h3⟩
theorem SlB.later {W W' : World} {v : Value} {l : List Int} (h : SlB W v l) (hb : Below W.heap.size W W') : SlB W' v l := h.keep fun b c fr hh => (KeepC.of_below hb).2 _ _ _ _ hh
theorem SlB.sl {W : World} {v : Value} {l : List Int} (h : SlB W v l) : Sl W v l := by
  obtain ⟨h0, g, c, cur, fr, rfl, h2, h3, h4⟩ := h
  refine ⟨_, c, rfl, ⟨h0, fun _ => ⟨g, 0, rfl, fun i hi => ?_⟩⟩, (fun h => by cases h), h3⟩
  rw [cell_of_row W g (0 + i) _ _ fr h2, Nat.zero_add]; exact h4 i hi
theorem Own.slB {W : World} {base : Nat} {v : Value} {l : List Int} (h : Own W base v l) (ho : Oct l) (hne : l ≠ []) : SlB W v l := by
  obtain ⟨h1, h2⟩ := h
  rcases h2 with ⟨_, h0⟩ | ⟨g, cap, cur, rfl, h4, h5, h6, h7, h8, h9⟩
  · exact absurd (List.eq_nil_of_length_eq_zero h0) hne
  · refine ⟨ho, g, cap, cur, (0, 0), rfl, h5, h6, fun i hi => ?_⟩
    have e : (l.map (Value.int .u8))[i]? = some (.int .u8 (l.getD i 0)) := by
      rw [List.getElem?_map, List.getElem?_eq_getElem hi, List.getD_eq_getElem?_getD, List.getElem?_eq_getElem hi]; rfl
    rw [← h9, List.getElem?_take, if_pos (by omega)] at e
    simpa using e
theorem wk_slB {W : World} {g : Nat} {x : Int} (h : W.heap[g]? = some (.cells (wk x 4) 5)) : SlB W (.slice (some ⟨g, 0, none⟩) 4 4) (w4 x) :=
  ⟨w4_oct x, g, 4, wk x 4, (0, 0), rfl, h, Nat.le_refl _, fun i hi => by
    have : i = 0 ∨ i = 1 ∨ i = 2 ∨ i = 3 := by simp [w4] at hi; omega
    rcases this with rfl | rfl | rfl | rfl <;> rfl⟩
theorem str_slB (w : World) (s : ByteArray) (c : Nat) (hc : s.size ≤ c) (fr : Nat × Nat) : SlB (w.alloc (.cells (bytesRow s c) 5 fr)) (.slice (some ⟨w.heap.size, 0, none⟩) s.size c) (strL s) := by
  refine ⟨strL_oct s, w.heap.size, c, _, fr, by rw [strL_length], heap_new _ _, by rw [strL_length]; exact hc, fun i hi => ?_⟩
  rw [strL_length] at hi
  have hi' : i < s.data.size := hi
  simp only [bytesRow]
  rw [Array.getElem?_append_left (by simpa using hi'), Array.getElem?_map, Array.getElem?_eq_getElem hi', strL, List.getD_eq_getElem?_getD, List.getElem?_map, List.getElem?_eq_getElem (by simpa using hi')]
  simp

/-- a row of slices of bytes -/
def PRow (W : World) (base : Nat) (v : Value) (ps : List (List Int)) (vs : List Value) : Prop := vs.length = ps.length ∧ W.ownsRow base 22 1 v ps.length vs ∧ ∀ j, j < ps.length → SlB W (vs.getD j undef) (ps.getD j [])
theorem PRow.later {W W' : World} {base : Nat} {v : Value} {ps : List (List Int)} {vs : List Value} (h : PRow W base v ps vs) (hb : Below W.heap.size W W') : PRow W' base v ps vs :=
  ⟨h.1, (KeepC.of_below hb).row h.2.1, fun j hj => (h.2.2 j hj).later hb⟩
theorem PRow.next {W W2 : World} {base : Nat} {v v' u1 u2 : Value} {ps : List (List Int)} {vs : List Value} {l1 l2 : List Int} (h : PRow W base v ps vs) (hown : W2.ownsRow base 22 1 v' (ps.length + 2) (vs ++ [u1, u2])) (hg : W.grownBy W2 v.ownBlock) (h1 : SlB W u1 l1) (h2 : SlB W u2 l2) : PRow W2 base v' (ps ++ [l1, l2]) (vs ++ [u1, u2]) := by
  have hk : ∀ {u : Value} {l : List Int}, SlB W u l → SlB W2 u l := fun hs => hs.keep fun b c fr hh => row_apart h.2.1 hg hh (by decide)
  refine ⟨by simp [h.1], by simpa using hown, fun j hj => ?_⟩
  rw [List.length_append] at hj
  by_cases hlt : j < ps.length
  · rw [List.getD_eq_getElem?_getD, List.getElem?_append_left (by rw [h.1]; exact hlt), ← List.getD_eq_getElem?_getD, List.getD_eq_getElem?_getD (l := ps ++ [l1, l2]), List.getElem?_append_left hlt, ← List.getD_eq_getElem?_getD]
    exact hk (h.2.2 j hlt)
  · rw [List.getD_eq_getElem?_getD, List.getElem?_append_right (by rw [h.1]; omega), List.getD_eq_getElem?_getD (l := ps ++ [l1, l2]), List.getElem?_append_right (by omega), h.1]
    have hj2 : j - ps.length = 0 ∨ j - ps.length = 1 := by simp at hj; omega
    rcases hj2 with e | e
    · rw [e]; exact hk h1
    · rw [e]; exact hk h2
theorem PRow.at {W : World} {base g n cap : Nat} {ps : List (List Int)} {vs : List Value} (h : PRow W base (.slice (some ⟨g, 0, none⟩) n cap) ps vs) : PartsAt W g 0 ps := fun k hk => by
  have hc := World.ownsRow.cells h.2.1 (g := g) rfl
  refine ⟨vs.getD k undef, ?_, (h.2.2 k hk).sl⟩
  have e1 : (⟨g, 0, none⟩ : Addr).add k = ⟨g, 0 + k, none⟩ := by unfold Addr.add; split <;> simp_all
  rw [← e1]
  refine hc k _ ?_
  rw [List.getD_eq_getElem?_getD, List.getElem?_eq_getElem (by rw [h.1]; exact hk)]; rfl

/-- the parts of marks -/
def mparts (ms : List Mk) : List (List Int) := (ms.map fun m => [w4 m.1, strL m.2]).flatten
theorem mparts_length (ms : List Mk) : (mparts ms).length = ms.length * 2 := by
  induction ms with
  | nil => rfl
  | cons m ms ih =>
    have e : mparts (m :: ms) = [w4 m.1, strL m.2] ++ mparts ms := by simp [mparts]
    rw [e, List.length_append, ih]; simp; omega
theorem mparts_snoc (ms : List Mk) (k : Nat) (h : k < ms.length) : mparts (ms.take (k + 1)) = mparts (ms.take k) ++ [w4 (ms.getD k mkD).1, strL (ms.getD k mkD).2] := by
  have e : ms.take (k + 1) = ms.take k ++ [ms.getD k mkD] := by rw [List.take_succ_eq_append_getElem h, List.getD_eq_getElem?_getD, List.getElem?_eq_getElem h]; rfl
  rw [e]; simp [mparts]
/-- a signature's bytes, ahead of the sum -/
def sigParts (sz blk st : Int) (ms : List Mk) : List (List Int) := encAll [sz, blk, st] :: mparts ms
def sigL (sz blk st : Int) (ms : List Mk) : List Int := (sigParts sz blk st ms).flatten
theorem mparts_oct (ms : List Mk) : Oct (mparts ms).flatten := by
  intro c hc
  simp only [mparts, List.mem_flatten, List.mem_map] at hc
  obtain ⟨l, ⟨_, ⟨m, _, rfl⟩, hl⟩, hc⟩ := hc
  simp at hl
  rcases hl with rfl | rfl
  · exact w4_oct _ c hc
  · exact strL_oct _ c hc
theorem sigL_oct (sz blk st : Int) (ms : List Mk) : Oct (sigL sz blk st ms) := by
  unfold sigL sigParts
  rw [List.flatten_cons]
  exact (encAll_oct _).append (mparts_oct ms)
theorem mflat_length (ms : List Mk) (st : Nat) (h : ∀ m ∈ ms, m.2.size = st) : (mparts ms).flatten.length = ms.length * (4 + st) := by
  induction ms with
  | nil => simp [mparts]
  | cons m ms ih =>
    have e : (mparts (m :: ms)).flatten = w4 m.1 ++ (strL m.2 ++ (mparts ms).flatten) := by simp [mparts]
    rw [e, List.length_append, List.length_append, ih (fun x hx => h x (by simp [hx])), strL_length, h m (by simp), List.length_cons, Nat.add_mul]
    simp [w4]; omega

theorem Tryd.infoP : (Tryd.prog.info? 22).map (fun i => (i.zero, i.size, i.bytes)) = some (some (.slice none 0 0), 1, 24) := by kernel_rfl

set_option maxRecDepth 1000000 in
set_option maxHeartbeats 8000000 in
theorem bytes_yes (sz blk st : Int) (a : Option Addr) (cap n : Nat) (ms : List Mk) (w : World) (hn : n = ms.length) (hM : Marks w a ms) (hl : n ≤ 9000) (hs : ∀ m ∈ ms, m.2.size ≤ 9223372036854775807) (h0 : chkE sz blk st ms = 0) (hT : Crc.Tab w) (hlen : (sigL sz blk st ms).length ≤ 1000000) :
    Calls Tryd.prog 15 #[sigV sz blk st (.slice a n cap)] w fun e w' => ∃ v, e = .returned (.tuple #[v, .int .i64 0]) ∧ Own w' w.heap.size v (sigL sz blk st ms ++ leB (Go.Proofs.CrcMath.crcN (sigL sz blk st ms)) 4) ∧ Below w.heap.size w w' := by
  have HC : Hid (∀ W, Below w.heap.size w W → Calls Tryd.prog 17 #[sigV sz blk st (.slice a n cap)] W fun e w' => e = .returned (.int .i64 0) ∧ Below W.heap.size W w') := by
    intro W hb
    have h := check_any sz blk st a cap ms W (hM.later hb) (by omega) hs
    rw [h0, ← hn] at h
    exact h
  have HM := Lib.hid hM
  have HN := Lib.hid hn
  have HT := Lib.hid hT
  have HLEN := Lib.hid hlen
  obtain ⟨i1, hi1, hy0, hys, hyb⟩ := info_parts Tryd.infoP
  obtain ⟨W0, hW0⟩ : ∃ W0, W0 = w.alloc (Obj.cells #[Value.int IntKind.i64 sz, Value.int IntKind.i64 blk, Value.int IntKind.i64 st, .slice a n cap] 26) := ⟨_, rfl⟩
  have hb0 : Below w.heap.size w W0 := by rw [hW0]; exact (Below.refl _ _).alloc (Nat.le_refl _) _
  have hbx0 : W0.heap[w.heap.size]? = some (.cells #[Value.int IntKind.i64 sz, Value.int IntKind.i64 blk, Value.int IntKind.i64 st, .slice a n cap] 26) := by rw [hW0]; exact heap_new _ _
  have HB0 := Lib.hid hb0
  have HBX0 := Lib.hid hbx0
  unfold sigV at *
  clear hM hn hT hlen hs h0 hb0 hbx0
  go_enter Tryd.func15, Tryd.ntmps15
  go_wp2_with fail
  rw [← hW0]
  refine (HC.out _ HB0.out).mono ?_
  rintro e w1 ⟨rfl, hb1⟩
  have hbx1 := (KeepC.of_below hb1).2 _ _ _ _ HBX0.out
  have HBX1 := Lib.hid hbx1
  have HB1 : Hid (Below w.heap.size w w1) := HB0.out.trans (hb1.mono HB0.out.size)
  have c0 : w1.cell? ⟨w.heap.size, 0, none⟩ = some (.int .i64 sz) := by rw [cell_of_row w1 _ 0 _ _ (0, 0) hbx1]; rfl
  have c1 : w1.cell? ⟨w.heap.size, 1, none⟩ = some (.int .i64 blk) := by rw [cell_of_row w1 _ 1 _ _ (0, 0) hbx1]; rfl
  have c2 : w1.cell? ⟨w.heap.size, 2, none⟩ = some (.int .i64 st) := by rw [cell_of_row w1 _ 2 _ _ (0, 0) hbx1]; rfl
  have HNB : Hid (Calls Tryd.prog 39 #[.slice (some ⟨w1.heap.size, 0, none⟩) 3 3] (w1.alloc (.cells #[.int .i64 sz, .int .i64 blk, .int .i64 st] 3)) fun e w' => ∃ v, e = .returned v ∧ Own w' (w1.alloc (.cells #[.int .i64 sz, .int .i64 blk, .int .i64 st] 3)).heap.size v (encAll [sz, blk, st]) ∧ Below (w1.alloc (.cells #[.int .i64 sz, .int .i64 blk, .int .i64 st] 3)).heap.size (w1.alloc (.cells #[.int .i64 sz, .int .i64 blk, .int .i64 st] 3)) w') := by
    refine numbers_any w1.heap.size 0 3 3 [sz, blk, st] _ rfl (by omega) (fun i hi => ?_)
    have hh := heap_new w1 (.cells #[.int .i64 sz, .int .i64 blk, .int .i64 st] 3)
    have : i = 0 ∨ i = 1 ∨ i = 2 := by omega
    rcases this with rfl | rfl | rfl <;> (rw [cell_of_row _ _ _ _ _ (0, 0) hh]; rfl)
  clear hW0 HC hb1 hbx1 HB0 HBX0
  go_wp2_with fail
  refine HNB.out.mono ?_
  rintro e w2 ⟨ve, rfl, hve, hb2⟩
  obtain ⟨ae, ce, eve⟩ := own_form hve
  subst eve
  have hb12 : Below w1.heap.size w1 w2 := ((Below.refl _ _).alloc (Nat.le_refl _) _).trans (hb2.mono (by simp))
  have hene : encAll [sz, blk, st] ≠ [] := by
    intro e
    have h1 : (encAll [sz, blk, st]).length = (encR (heldN sz)).length + ((encR (heldN blk)).length + (encR (heldN st)).length) := by simp [encAll]
    rw [e, Num.encR_length, Num.encR_length, Num.encR_length] at h1
    have := Go.Proofs.NumMath.sizeN_pos (heldN sz)
    simp at h1; omega
  have HSE := Lib.hid (hve.slB (encAll_oct _) hene)
  have HB2 : Hid (Below w.heap.size w w2) := HB1.out.trans (hb12.mono HB1.out.size)
  have HBX2 := Lib.hid ((KeepC.of_below hb12).2 _ _ _ _ HBX1.out)
  have d3 : ∀ o, (w2.alloc o).cell? ⟨w.heap.size, 3, none⟩ = some (.slice a n cap) := fun o => cell_later ((Below.refl _ _).alloc (Nat.le_refl _) o) (by rw [cell_of_row w2 _ 3 _ _ (0, 0) HBX2.out]; rfl)
  generalize (encAll [sz, blk, st]).length = ne at *
  clear hve hb2 hb12 hene HNB c0 c1 c2 HB1 HBX1
  go_wp2
  go_loopw [5, 25] (fun v i wr => ∃ (k : Nat) (vs : List Value), i = .int .i64 k ∧ k ≤ n ∧ Hid (PRow wr w.heap.size v (sigParts sz blk st (ms.take k)) vs) ∧ Hid (wr.heap[w.heap.size]? = some (.cells #[Value.int IntKind.i64 sz, Value.int IntKind.i64 blk, Value.int IntKind.i64 st, .slice a n cap] 26)) ∧ Below w.heap.size w wr) (fun _ i _ => n - (intOf i).toNat)
  case atStart =>
    have hba : Below w2.heap.size w2 (w2.alloc (.cells #[.slice ae ne ce] 22)) := (Below.refl _ _).alloc (Nat.le_refl _) _
    refine ⟨0, [.slice ae ne ce], rfl, by omega, ⟨rfl, ?_, fun j hj => ?_⟩, (KeepC.of_below hba).2 _ _ _ _ HBX2.out, HB2.out.trans (hba.mono HB2.out.size)⟩
    · exact ⟨rfl, .inr ⟨w2.heap.size, 1, _, rfl, HB2.out.size, heap_new _ _, Nat.le_refl _, by unfold maxLen; omega, rfl, rfl⟩⟩
    · have : j = 0 := by simp [sigParts, mparts] at hj; omega
      subst this
      exact HSE.out.later hba
  case round =>
    obtain ⟨k, vs, rfl, hk, HPR0, HBOX0, hbel⟩ := hrel
    have HBL0 := Lib.hid hbel
    have hpn : (sigParts sz blk st (ms.take k)).length = (ms.take k).length * 2 + 1 := by unfold sigParts; rw [List.length_cons, mparts_length]
    rw [List.length_take] at hpn
    by_cases hlt : k < n
    · have hlt2 : (k : Int) < (n : Int) := by omega
      have hkl : k < ms.length := by rw [← HN.out]; exact hlt
      have hne : ms ≠ [] := by intro e; rw [e] at hkl; simp at hkl
      obtain ⟨b, off, ea, hcell⟩ := (HM.out.later hbel).2 hne
      subst ea
      obtain ⟨x0, x1⟩ := hcell k hkl
      have hxb := HM.out.1 (ms.getD k mkD) (by rw [List.getD_eq_getElem?_getD, List.getElem?_eq_getElem hkl]; exact List.getElem_mem hkl)
      have hsn : sigParts sz blk st (ms.take (k + 1)) = sigParts sz blk st (ms.take k) ++ [w4 (ms.getD k mkD).1, strL (ms.getD k mkD).2] := by unfold sigParts; rw [mparts_snoc ms k hkl]; rfl
      generalize (ms.getD k mkD).1 = xk at x0 hxb hsn
      generalize (ms.getD k mkD).2 = sk at x1 hsn
      have HSN := Lib.hid hsn
      obtain ⟨hx0, hx1⟩ := hxb
      have hpn2 : (sigParts sz blk st (ms.take k)).length ≤ 20000 := by omega
      clear hcell hsn hne hbel HSE HB2 HBX2 hpn
      go_wp2
      have hba : Below wr.heap.size wr (wr.alloc (.cells #[.int .u32 xk, .string sk] 47)) := (Below.refl _ _).alloc (Nat.le_refl _) _
      have hh := heap_new wr (.cells #[.int .u32 xk, .string sk] 47)
      have y0 : (wr.alloc (.cells #[.int .u32 xk, .string sk] 47)).drew.cell? ⟨wr.heap.size, 0, none⟩ = some (.int .u32 xk) := (show (wr.alloc (.cells #[.int .u32 xk, .string sk] 47)).cell? ⟨wr.heap.size, 0, none⟩ = some (.int .u32 xk) from by rw [cell_of_row _ _ 0 _ _ (0, 0) hh]; rfl)
      have y1 : (wr.alloc (.cells #[.int .u32 xk, .string sk] 47)).drew.cell? ⟨wr.heap.size, 1, none⟩ = some (.string sk) := (show (wr.alloc (.cells #[.int .u32 xk, .string sk] 47)).cell? ⟨wr.heap.size, 1, none⟩ = some (.string sk) from by rw [cell_of_row _ _ 1 _ _ (0, 0) hh]; rfl)
      have HPR := Lib.hid (HPR0.out.later hba)
      have HBOX := Lib.hid ((KeepC.of_below hba).2 _ _ _ _ HBOX0.out)
      have HBL : Hid (Below w.heap.size w (wr.alloc (.cells #[.int .u32 xk, .string sk] 47))) := HBL0.out.trans (hba.mono HBL0.out.size)
      have hzq := HBL.out.size
      obtain ⟨gm, hgm⟩ : ∃ gm, gm = wr.heap.size := ⟨_, rfl⟩
      rw [← hgm] at y0 y1 ⊢
      generalize wr.alloc (.cells #[.int .u32 xk, .string sk] 47) = wq at y0 y1 HPR HBOX HBL hzq ⊢
      clear hba hh x0 x1 HPR0 HBOX0 HBL0 hgm
      refine region_plain (S := fun W' => Below wq.drew.heap.size wq.drew W') (bad := [8, 9]) (by kernel_rfl) ?_
      have hS0 : Below wq.drew.heap.size wq.drew wq.drew := Below.refl _ _
      refine wpAnyK_take (i := 0) [8, 9] (v := u5) rfl (by kernel_rfl) (by kernel_rfl) (by kernel_rfl) (by kernel_rfl) (fun _ _ _ h => h) (Or.inl ⟨by rfl, fun w' hw' => by go_simp⟩) hS0 ?_
      refine wpAnyK_take (i := 1) [2, 3, 7, 8, 9] (v := .pointer (some ⟨gm, 0, none⟩)) rfl (by kernel_rfl) (by kernel_rfl) (by kernel_rfl) (by kernel_rfl) (fun _ _ _ h => h) (Or.inl ⟨by rfl, fun w' hw' => by go_simp⟩) hS0 ?_
      refine wpAnyK_take (i := 2) [3, 7, 8, 9] (v := .int .u32 xk) rfl (by kernel_rfl) (by kernel_rfl) (by kernel_rfl) (by kernel_rfl) (fun _ _ _ h => h) (Or.inl ⟨by rfl, fun w' hw' => by have c3' := cell_later hw' y0; go_simp⟩) hS0 ?_
      refine wpAnyK_take (i := 4) [5, 6, 7, 8, 9] (v := .pointer (some ⟨gm, 1, none⟩)) rfl (by kernel_rfl) (by kernel_rfl) (by kernel_rfl) (by kernel_rfl) (fun _ _ _ h => h) (Or.inl ⟨by rfl, fun w' hw' => by go_simp⟩) hS0 ?_
      refine wpAnyK_take (i := 5) [6, 7, 8, 9] (v := .string sk) rfl (by kernel_rfl) (by kernel_rfl) (by kernel_rfl) (by kernel_rfl) (fun _ _ _ h => h) (Or.inl ⟨by rfl, fun w' hw' => by have c3' := cell_later hw' y1; go_simp⟩) hS0 ?_
      refine wpAnyK_two (i := 3) (j := 6) (by kernel_rfl) rfl rfl (by rfl) (by rfl) (fun K0 hK0 => ?_) (fun K0 hK0 => ?_)
      · have HK0 := Lib.hid hK0
        clear hK0
        go_simp
        refine (weakBytes_any xk _ hx0 hx1).mono ?_
        rintro e w6 ⟨rfl, hq4, hb6⟩
        refine HK0.out _ _ (fun _ => hb6) ?_
        clear HK0
        refine wpAnyK_only (i := 6) (by kernel_rfl) rfl (by rfl) (fun K0 hK0 => ?_)
        have HK0 := Lib.hid hK0
        clear hK0
        have hcv := run_bytes_of_string (P := Tryd.prog) w6 9 22 5 sk Tryd.underlying9 Tryd.underlying22 Tryd.underlying5
        have hge := grownCap_ge w6 sk.size 0 5
        obtain ⟨cs, hcs⟩ : ∃ cs, cs = grownCap w6 sk.size 0 5 := ⟨_, rfl⟩
        rw [← hcs] at hcv hge
        obtain ⟨ps, hps⟩ : ∃ ps, ps = w6.heap.size := ⟨_, rfl⟩
        have hss : SlB (w6.drew.alloc (.cells (bytesRow sk cs) 5 ((bytesRow sk cs).size, (bytesRow sk cs).size + 1))) (.slice (some ⟨ps, 0, none⟩) sk.size cs) (strL sk) := by rw [hps]; exact str_slB w6.drew sk cs hge _
        have hb67' : Below w6.heap.size w6 (w6.drew.alloc (.cells (bytesRow sk cs) 5 ((bytesRow sk cs).size, (bytesRow sk cs).size + 1))) := ⟨rfl, rfl, rfl, by simp, fun k hk => Below.heap_alloc w6.drew _ _ hk⟩
        rw [← hps] at hcv
        obtain ⟨p4, hp4⟩ : ∃ p4, p4 = wq.drew.heap.size := ⟨_, rfl⟩
        generalize w6.drew.alloc (.cells (bytesRow sk cs) 5 ((bytesRow sk cs).size, (bytesRow sk cs).size + 1)) = w7 at hcv hss hb67'
        have hs4 : SlB w7 (.slice (some ⟨p4, 0, none⟩) 4 4) (w4 xk) := by rw [hp4]; exact (wk_slB hq4).later hb67'
        have hb67 : Below wq.drew.heap.size wq.drew w7 := hb6.trans (hb67'.mono hb6.size)
        rw [← hp4]
        clear hq4 hb67' hps hp4 hcs hge
        go_simp
        refine HK0.out _ _ (fun _ => hb67) ?_
        clear HK0 hcv
        refine wpAnyK_only (i := 7) (by kernel_rfl) rfl (by rfl) (fun K0 hK0 => ?_)
        have HK0 := Lib.hid hK0
        clear hK0
        go_simp
        have hb7 : Below wq.drew.heap.size wq.drew (w7.alloc (.cells #[.slice (some ⟨p4, 0, none⟩) 4 4, .slice (some ⟨ps, 0, none⟩) sk.size cs] 22)) := hb67.alloc hb67.size _
        refine HK0.out _ _ (fun _ => hb7) ?_
        clear HK0
        refine wpAnyK_only (i := 8) (by kernel_rfl) rfl (by rfl) (fun K0 hK0 => ?_)
        have HK0 := Lib.hid hK0
        clear hK0
        have hbW : Below wq.heap.size wq (w7.alloc (.cells #[.slice (some ⟨p4, 0, none⟩) 4 4, .slice (some ⟨ps, 0, none⟩) sk.size cs] 22)) := ⟨hb7.os, hb7.tape, hb7.output, hb7.size, hb7.block⟩
        have hcn : (w7.alloc (.cells #[.slice (some ⟨p4, 0, none⟩) 4 4, .slice (some ⟨ps, 0, none⟩) sk.size cs] 22)).heap[w7.heap.size]? = some (.cells #[.slice (some ⟨p4, 0, none⟩) 4 4, .slice (some ⟨ps, 0, none⟩) sk.size cs] 22) := heap_new _ _
        have hpr := HPR.out.later hbW
        have hown := hpr.2.1
        have hWs := hbW.size
        refine wp_append_own _ (.tmp 29) (.tmp 36) 40 rfl w.heap.size 22 i1 _ 1 24 Tryd.underlying40 hi1 hy0 hys hyb rfl (by decide) u5 _ _ rfl hown ⟨w7.heap.size, 0, none⟩ 2 2 [.slice (some ⟨p4, 0, none⟩) 4 4, .slice (some ⟨ps, 0, none⟩) sk.size cs] rfl rfl ?_ ?_ (by unfold maxLen; omega) (by omega) (by omega) ?_
        · intro j u hj
          have hj2 : j = 0 ∨ j = 1 := by
            rcases Nat.lt_or_ge j 2 with h | h
            · omega
            · rw [List.getElem?_eq_none (by simpa using h)] at hj; cases hj
          rcases hj2 with rfl | rfl
          · rw [show (⟨w7.heap.size, 0, none⟩ : Addr).add 0 = ⟨w7.heap.size, 0, none⟩ from by simp [Addr.add], cell_of_row _ _ 0 _ _ (0, 0) hcn]; exact hj
          · rw [show (⟨w7.heap.size, 0, none⟩ : Addr).add 1 = ⟨w7.heap.size, 1, none⟩ from by simp [Addr.add], cell_of_row _ _ 1 _ _ (0, 0) hcn]; exact hj
        · intro u hu
          simp at hu
          rcases hu with rfl | rfl <;> rfl
        intro v' w8 hown8 hg8 _
        obtain ⟨a8, c8, ev8⟩ := row_form hown8
        subst ev8
        refine HK0.out _ _ (fun h => by simp at h) ?_
        clear HK0
        refine wpAnyK_only (i := 9) (by kernel_rfl) rfl (by rfl) (fun K0 hK0 => ?_)
        have HK0 := Lib.hid hK0
        clear hK0
        go_simp
        refine HK0.out _ _ (fun h => by simp at h) ?_
        refine wpAnyK_done (by kernel_rfl) ?_ _
        have hba : Below w7.heap.size w7 (w7.alloc (.cells #[.slice (some ⟨p4, 0, none⟩) 4 4, .slice (some ⟨ps, 0, none⟩) sk.size cs] 22)) := (Below.refl _ _).alloc (Nat.le_refl _) _
        have hnx := hpr.next hown8 hg8 (hs4.later hba) (hss.later hba)
        have hbn : Below w.heap.size w w8 := HBL.out.trans ((hbW.mono HBL.out.size).trans ((Below.refl _ _).grown hg8 (by omega) (fun j hj => (World.ownsRow.lt hown j hj).1)))
        have hc8 : ∀ (b : Nat) (c : Array Value), wq.heap[b]? = some (.cells c 26) → w8.heap[b]? = some (.cells c 26) := fun b c hh => row_apart hown hg8 ((KeepC.of_below hbW).2 _ _ _ _ hh) (by decide)
        have HNX := Lib.hid hnx
        have HBN := Lib.hid hbn
        have HBX := Lib.hid (hc8 _ _ HBOX.out)
        clear hown8 hg8 hs4 hss hnx hbn hc8 hba hown hpr hbW hb7 hb67 hcn
        go_wp2
        go_roundw
        case rel => exact ⟨k + 1, _, by go_num, by omega, (by rw [HSN.out]; exact HNX.out), HBX, HBN.out⟩
        case measure => simp [intOf]; omega
      · have HK0 := Lib.hid hK0
        clear hK0
        have hcv := run_bytes_of_string (P := Tryd.prog) wq.drew 9 22 5 sk Tryd.underlying9 Tryd.underlying22 Tryd.underlying5
        have hge := grownCap_ge wq.drew sk.size 0 5
        obtain ⟨cs, hcs⟩ : ∃ cs, cs = grownCap wq.drew sk.size 0 5 := ⟨_, rfl⟩
        rw [← hcs] at hcv hge
        obtain ⟨ps, hps⟩ : ∃ ps, ps = wq.drew.heap.size := ⟨_, rfl⟩
        have hss' : SlB (wq.drew.drew.alloc (.cells (bytesRow sk cs) 5 ((bytesRow sk cs).size, (bytesRow sk cs).size + 1))) (.slice (some ⟨ps, 0, none⟩) sk.size cs) (strL sk) := by rw [hps]; exact str_slB wq.drew.drew sk cs hge _
        have hb6 : Below wq.drew.heap.size wq.drew (wq.drew.drew.alloc (.cells (bytesRow sk cs) 5 ((bytesRow sk cs).size, (bytesRow sk cs).size + 1))) := ⟨rfl, rfl, rfl, by simp, fun k hk => Below.heap_alloc wq.drew.drew _ _ hk⟩
        rw [← hps] at hcv
        generalize wq.drew.drew.alloc (.cells (bytesRow sk cs) 5 ((bytesRow sk cs).size, (bytesRow sk cs).size + 1)) = w6 at hcv hss' hb6
        clear hps hcs hge
        go_simp
        refine HK0.out _ _ (fun _ => hb6) ?_
        clear HK0 hcv
        refine wpAnyK_only (i := 3) (by kernel_rfl) rfl (by rfl) (fun K0 hK0 => ?_)
        have HK0 := Lib.hid hK0
        clear hK0
        go_simp
        refine (weakBytes_any xk _ hx0 hx1).mono ?_
        rintro e w7 ⟨rfl, hq4, hb67'⟩
        obtain ⟨p4, hp4⟩ : ∃ p4, p4 = w6.heap.size := ⟨_, rfl⟩
        have hs4 : SlB w7 (.slice (some ⟨p4, 0, none⟩) 4 4) (w4 xk) := by rw [hp4]; exact wk_slB hq4
        have hss := hss'.later hb67'
        have hb67 : Below wq.drew.heap.size wq.drew w7 := hb6.trans (hb67'.mono hb6.size)
        rw [← hp4]
        clear hq4 hb67' hp4 hss'
        refine HK0.out _ _ (fun _ => hb67) ?_
        clear HK0
        refine wpAnyK_only (i := 7) (by kernel_rfl) rfl (by rfl) (fun K0 hK0 => ?_)
        have HK0 := Lib.hid hK0
        clear hK0
        go_simp
        have hb7 : Below wq.drew.heap.size wq.drew (w7.alloc (.cells #[.slice (some ⟨p4, 0, none⟩) 4 4, .slice (some ⟨ps, 0, none⟩) sk.size cs] 22)) := hb67.alloc hb67.size _
        refine HK0.out _ _ (fun _ => hb7) ?_
        clear HK0
        refine wpAnyK_only (i := 8) (by kernel_rfl) rfl (by rfl) (fun K0 hK0 => ?_)
        have HK0 := Lib.hid hK0
        clear hK0
        have hbW : Below wq.heap.size wq (w7.alloc (.cells #[.slice (some ⟨p4, 0, none⟩) 4 4, .slice (some ⟨ps, 0, none⟩) sk.size cs] 22)) := ⟨hb7.os, hb7.tape, hb7.output, hb7.size, hb7.block⟩
        have hcn : (w7.alloc (.cells #[.slice (some ⟨p4, 0, none⟩) 4 4, .slice (some ⟨ps, 0, none⟩) sk.size cs] 22)).heap[w7.heap.size]? = some (.cells #[.slice (some ⟨p4, 0, none⟩) 4 4, .slice (some ⟨ps, 0, none⟩) sk.size cs] 22) := heap_new _ _
        have hpr := HPR.out.later hbW
        have hown := hpr.2.1
        have hWs := hbW.size
        refine wp_append_own _ (.tmp 29) (.tmp 36) 40 rfl w.heap.size 22 i1 _ 1 24 Tryd.underlying40 hi1 hy0 hys hyb rfl (by decide) u5 _ _ rfl hown ⟨w7.heap.size, 0, none⟩ 2 2 [.slice (some ⟨p4, 0, none⟩) 4 4, .slice (some ⟨ps, 0, none⟩) sk.size cs] rfl rfl ?_ ?_ (by unfold maxLen; omega) (by omega) (by omega) ?_
        · intro j u hj
          have hj2 : j = 0 ∨ j = 1 := by
            rcases Nat.lt_or_ge j 2 with h | h
            · omega
            · rw [List.getElem?_eq_none (by simpa using h)] at hj; cases hj
          rcases hj2 with rfl | rfl
          · rw [show (⟨w7.heap.size, 0, none⟩ : Addr).add 0 = ⟨w7.heap.size, 0, none⟩ from by simp [Addr.add], cell_of_row _ _ 0 _ _ (0, 0) hcn]; exact hj
          · rw [show (⟨w7.heap.size, 0, none⟩ : Addr).add 1 = ⟨w7.heap.size, 1, none⟩ from by simp [Addr.add], cell_of_row _ _ 1 _ _ (0, 0) hcn]; exact hj
        · intro u hu
          simp at hu
          rcases hu with rfl | rfl <;> rfl
        intro v' w8 hown8 hg8 _
        obtain ⟨a8, c8, ev8⟩ := row_form hown8
        subst ev8
        refine HK0.out _ _ (fun h => by simp at h) ?_
        clear HK0
        refine wpAnyK_only (i := 9) (by kernel_rfl) rfl (by rfl) (fun K0 hK0 => ?_)
        have HK0 := Lib.hid hK0
        clear hK0
        go_simp
        refine HK0.out _ _ (fun h => by simp at h) ?_
        refine wpAnyK_done (by kernel_rfl) ?_ _
        have hba : Below w7.heap.size w7 (w7.alloc (.cells #[.slice (some ⟨p4, 0, none⟩) 4 4, .slice (some ⟨ps, 0, none⟩) sk.size cs] 22)) := (Below.refl _ _).alloc (Nat.le_refl _) _
        have hnx := hpr.next hown8 hg8 (hs4.later hba) (hss.later hba)
        have hbn : Below w.heap.size w w8 := HBL.out.trans ((hbW.mono HBL.out.size).trans ((Below.refl _ _).grown hg8 (by omega) (fun j hj => (World.ownsRow.lt hown j hj).1)))
        have hc8 : ∀ (b : Nat) (c : Array Value), wq.heap[b]? = some (.cells c 26) → w8.heap[b]? = some (.cells c 26) := fun b c hh => row_apart hown hg8 ((KeepC.of_below hbW).2 _ _ _ _ hh) (by decide)
        have HNX := Lib.hid hnx
        have HBN := Lib.hid hbn
        have HBX := Lib.hid (hc8 _ _ HBOX.out)
        clear hown8 hg8 hs4 hss hnx hbn hc8 hba hown hpr hbW hb7 hb67 hcn
        go_wp2
        go_roundw
        case rel => exact ⟨k + 1, _, by go_num, by omega, (by rw [HSN.out]; exact HNX.out), HBX, HBN.out⟩
        case measure => simp [intOf]; omega
    · have hkk : ¬ (k : Int) < (n : Int) := by omega
      have hkn : ms.take k = ms := List.take_of_length_le (by have := HN.out; omega)
      rw [hkn] at HPR0
      have hpl : (sigParts sz blk st ms).length = ms.length * 2 + 1 := by unfold sigParts; rw [List.length_cons, mparts_length]
      obtain ⟨g, cp, e5⟩ : ∃ g cp, u5 = .slice (some ⟨g, 0, none⟩) (sigParts sz blk st ms).length cp := by
        rcases HPR0.out.2.1.2 with ⟨_, h0⟩ | ⟨g, cp, cur, h3, _⟩
        · omega
        · exact ⟨g, cp, h3⟩
      subst e5
      have HSL := Lib.hid (sealed_any g 0 cp _ (sigParts sz blk st ms) wr rfl (by have := HN.out; omega) HPR0.out.at HLEN.out (sigL_oct sz blk st ms) (HT.out.later hbel))
      generalize (sigParts sz blk st ms).length = np at HSL HPR0 ⊢
      clear hpl hkn hpn HPR0 HSE HB2 HBX2 hbel
      go_wp2_with (go_at_call 41; refine HSL.out.mono ?_; rintro e w9 ⟨v9, rfl, hv9, hb9⟩)
      go_ret2
      exact ⟨_, rfl, hv9.lower HBL0.out.size, HBL0.out.trans (hb9.mono HBL0.out.size)⟩

set_option maxHeartbeats 2000000 in
theorem bytes_no (sz blk st er : Int) (a : Option Addr) (cap n : Nat) (ms : List Mk) (w : World) (hn : n = ms.length) (hM : Marks w a ms) (hl : n ≤ 9223372036854775807) (hs : ∀ m ∈ ms, m.2.size ≤ 9223372036854775807) (h0 : chkE sz blk st ms = er) (he : er ≠ 0) :
    Calls Tryd.prog 15 #[sigV sz blk st (.slice a n cap)] w fun e w' => e = .returned (.tuple #[.slice none 0 0, .int .i64 er]) ∧ Below w.heap.size w w' := by
  have HC : Hid (∀ W, Below w.heap.size w W → Calls Tryd.prog 17 #[sigV sz blk st (.slice a n cap)] W fun e w' => e = .returned (.int .i64 er) ∧ Below W.heap.size W w') := by
    intro W hb
    have h := check_any sz blk st a cap ms W (hM.later hb) (by omega) hs
    rw [h0, ← hn] at h
    exact h
  have hb0 : Below w.heap.size w (w.alloc (Obj.cells #[Value.int IntKind.i64 sz, Value.int IntKind.i64 blk, Value.int IntKind.i64 st, .slice a n cap] 26)) := (Below.refl _ _).alloc (Nat.le_refl _) _
  have HB0 := Lib.hid hb0
  unfold sigV at *
  clear hM hn hs h0 hb0
  go_enter Tryd.func15, Tryd.ntmps15
  go_wp2_with (go_at_call 17; refine (HC.out _ HB0.out).mono ?_; rintro e w1 ⟨rfl, hb1⟩)
  go_ret2
  exact ⟨rfl, HB0.out.trans (hb1.mono HB0.out.size)⟩
end Go.Proofs.YtkppnbehkmpogaaDoor
