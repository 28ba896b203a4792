/- The document's window; Clear of both. -/
import Derived.Test.YtbkdimdnpekgpabSlidesW
namespace Go.Proofs.Ytbkdimdnpekgpab
open Go.RowKit Go.Proofs.RollMath
set_option linter.unusedVariables false

/-- the cells of the document's window -/
def RWin (W : World) (g n : Nat) (u : Value) (L : List Int) : Prop :=
  W.heap[g]? = some (.cells #[.int .i64 n, u] 58) ∧ Sl W u L ∧ L.length ≤ n ∧ 1 ≤ n ∧ n ≤ 65536

theorem cells2 {W : World} {g : Nat} {a b : Value} {t : TypeId} (h : W.heap[g]? = some (.cells #[a, b] t)) :
    W.cell? ⟨g, 0, none⟩ = some a ∧ W.cell? ⟨g, 1, none⟩ = some b := by
  refine ⟨?_, ?_⟩ <;> simp [World.cell?, h]
theorem heap2_set1 {W : World} {g : Nat} {a b u : Value} {t : TypeId} (h : W.heap[g]? = some (.cells #[a, b] t)) : (W.setCell ⟨g, 1, none⟩ u).heap[g]? = some (.cells #[a, u] t) := by
  simpa using Joins.block_setCell (i := 1) h u

theorem RWin.cells {W : World} {g n : Nat} {u : Value} {L : List Int} (h : RWin W g n u L) :
    ∃ a cap, u = .slice a L.length cap ∧ W.cell? ⟨g, 0, none⟩ = some (.int .i64 n) ∧ W.cell? ⟨g, 1, none⟩ = some (.slice a L.length cap) := by
  obtain ⟨h1, h2, h3⟩ := h
  obtain ⟨a, cap, rfl, _⟩ := id h2
  exact ⟨a, cap, rfl, cells2 h1⟩
theorem RWin.later {W W' : World} {g n : Nat} {u : Value} {L : List Int} (h : RWin W g n u L) (hb : Below W.heap.size W W') : RWin W' g n u L := by
  obtain ⟨h1, h2, h3⟩ := h
  exact ⟨by rw [hb.block g (heap_lt h1)]; exact h1, h2.later hb, h3⟩

theorem rnew_good (n : Int) (w : World) (h1 : 1 ≤ n) (h2 : n ≤ 65536) : Calls Try.prog 21 #[.int .i64 n] w fun e w' => e = .returned (.tuple #[.pointer (some ⟨w.heap.size, 0, none⟩), .int .i64 0]) ∧ w.alloc (.cells #[.int .i64 n, .slice none 0 0] 58) = w' := by
  go_enter Try.func21, Try.ntmps21
  go_wp2
  go_ret2
  exact ⟨rfl, rfl⟩
theorem new_bad (n : Int) (w : World) (h : n < 1 ∨ 65536 < n) : Calls Try.prog 20 #[.int .i64 n] w fun e w' => e = .returned (.tuple #[.pointer none, .int .i64 2]) ∧ w = w' := by
  by_cases h1 : n < 1
  · clear h
    go_enter Try.func20, Try.ntmps20
    go_wp2
    go_ret2
    exact ⟨rfl, rfl⟩
  · have h2 : 65536 < n := by omega
    clear h
    go_enter Try.func20, Try.ntmps20
    go_wp2
    go_ret2
    exact ⟨rfl, rfl⟩
theorem rnew_bad (n : Int) (w : World) (h : n < 1 ∨ 65536 < n) : Calls Try.prog 21 #[.int .i64 n] w fun e w' => e = .returned (.tuple #[.pointer none, .int .i64 2]) ∧ w = w' := by
  by_cases h1 : n < 1
  · clear h
    go_enter Try.func21, Try.ntmps21
    go_wp2
    go_ret2
    exact ⟨rfl, rfl⟩
  · have h2 : 65536 < n := by omega
    clear h
    go_enter Try.func21, Try.ntmps21
    go_wp2
    go_ret2
    exact ⟨rfl, rfl⟩

theorem rof_sl (v : Value) (l : List Int) (W : World) (hS : Sl W v l) (hl : l.length ≤ 9223372036854775807) :
    Calls Try.prog 10 #[v] W fun e w' => e = .returned (.int .u32 (sumOf l)) ∧ W = w' := by
  obtain ⟨a, cap, rfl, hB, _, _⟩ := hS
  exact rof_any a _ cap l W rfl hl hB
theorem rsum_win (W : World) (g n : Nat) (u : Value) (L : List Int) (h : RWin W g n u L) :
    Calls Try.prog 30 #[.pointer (some ⟨g, 0, none⟩)] W fun e w' => e = .returned (.int .u32 (sumOf L)) ∧ W = w' := by
  obtain ⟨a, cap, rfl, c0, c1⟩ := h.cells
  have HO := Lib.hid (rof_sl _ L W h.2.1 (by have := h.2.2.1; have := h.2.2.2.2; omega))
  clear h
  go_enter Try.func30, Try.ntmps30
  go_wp2_with (go_at_call 10; refine HO.out.mono ?_; rintro e w' ⟨rfl, rfl⟩)
  go_ret
  exact ⟨rfl, rfl⟩
theorem rlen_win (W : World) (g n : Nat) (u : Value) (L : List Int) (h : RWin W g n u L) :
    Calls Try.prog 31 #[.pointer (some ⟨g, 0, none⟩)] W fun e w' => e = .returned (.int .i64 (L.length : Int)) ∧ W = w' := by
  obtain ⟨a, cap, rfl, c0, c1⟩ := h.cells
  clear h
  go_enter Try.func31, Try.ntmps31
  go_wp2
  go_ret
  exact ⟨rfl, rfl⟩
theorem rbytes_win (W : World) (g n : Nat) (u : Value) (L : List Int) (h : RWin W g n u L) :
    Calls Try.prog 34 #[.pointer (some ⟨g, 0, none⟩)] W fun e w' => e = .returned u ∧ W = w' := by
  obtain ⟨a, cap, rfl, c0, c1⟩ := h.cells
  clear h
  go_enter Try.func34, Try.ntmps34
  go_wp2
  go_ret
  exact ⟨rfl, rfl⟩
theorem rfull_win (W : World) (g n : Nat) (u : Value) (L : List Int) (h : RWin W g n u L) :
    Calls Try.prog 32 #[.pointer (some ⟨g, 0, none⟩)] W fun e w' => e = .returned (.bool (decide (L.length = n))) ∧ Qt W w' := by
  obtain ⟨a, cap, rfl, c0, c1⟩ := h.cells
  have hq : ((L.length : Int) == (n : Int)) = decide (L.length = n) := by
    by_cases h : L.length = n
    · simp [h]
    · simp [h]; omega
  generalize hm : L.length = m at *
  clear h hm
  go_enter Try.func32, Try.ntmps32
  go_wp2
  go_region
  all_goals go_wp2
  all_goals go_ret
  all_goals exact ⟨rfl, Qt.drew _⟩

theorem rclear_win (W : World) (g n : Nat) (u : Value) (L : List Int) (h : RWin W g n u L) :
    Calls Try.prog 23 #[.pointer (some ⟨g, 0, none⟩)] W fun e w' => (∃ x, e = .returned x) ∧ W.setCell ⟨g, 1, none⟩ (.slice none 0 0) = w' := by
  obtain ⟨a, cap, rfl, c0, c1⟩ := h.cells
  have hfz := unfrozen4 (i := 1) h.1
  clear h
  go_enter Try.func23, Try.ntmps23
  go_wp2
  refine bodyPost_end (results_none rfl _ _ _) rfl ?_
  exact ⟨⟨_, rfl⟩, rfl⟩

set_option maxHeartbeats 1000000 in
theorem clear_win (W : World) (g n : Nat) (v : Value) (R : List Int) (f : Nat) (hw : Win W g n v R f) :
    Calls Try.prog 22 #[.pointer (some ⟨g, 0, none⟩)] W fun e w' => (∃ x, e = .returned x) ∧ ∃ v', Win w' g n v' [] 0 ∧ Fr W w' g v v' := by
  obtain ⟨a, cap, rfl, hS, c0, c1, c2, c3⟩ := hw.cells
  obtain ⟨hheap, hown, hoct, hf, hn, hfn, hn6⟩ := hw
  have hglt := heap_lt hheap
  obtain ⟨len, hlen⟩ : ∃ len, len = R.length := ⟨_, rfl⟩
  rw [← hlen] at c1 hheap hown
  have hfz1 := unfrozen4 (i := 1) hheap
  have hfz2 := unfrozen4 (i := 2) hheap
  have hfz3 := unfrozen4 (i := 3) hheap
  have hfirst : ∀ W', (Instr.slice 22 (.slice a len cap) none (some (.int .i64 0)) none).run Try.prog W' = .ok (.slice a 0 cap) W' := by
    intro W'
    have hr := run_slice_h (P := Try.prog) (w := W') 22 a len cap (by rw [hel]; exact Try.underlying22) .i64 0 (by omega) (by omega)
    have hsz : (sizeOf (Try.prog.elem 22)).run Try.prog W' = .ok 1 W' := by rw [hel]; rfl
    rw [hsz] at hr
    have e : (if cap = 0 then a else a.map (·.add (0 * 1))) = a := by
      split
      · rfl
      · cases a <;> simp [Addr.add]
    simp only [Result.andThen, sliced, Int.toNat_zero, Nat.sub_zero] at hr
    rw [e] at hr
    exact hr
  have hown0 : Own W (g + 1) (.slice a 0 cap) [] := by
    obtain ⟨h1, h2⟩ := hown
    refine ⟨by simp, ?_⟩
    rcases h2 with ⟨h2, h3⟩ | ⟨gb, cp, cur, h3, h4, h5, h6, h7, h8, h9⟩
    · simp only [Value.slice.injEq] at h2
      left
      rw [h2.1, h2.2.2]; simp
    · simp only [Value.slice.injEq] at h3
      right
      exact ⟨gb, cp, cur, by rw [h3.1, h3.2.2]; rfl, h4, h5, by simp, h7, h8, by simp⟩
  have HO := Lib.hid hown0
  have HH := Lib.hid hheap
  clear hown0 hheap hown hS hlen
  go_enter Try.func22, Try.ntmps22
  go_wp2
  refine bodyPost_end (results_none rfl _ _ _) rfl ?_
  refine ⟨⟨_, rfl⟩, .slice a 0 cap, ⟨?_, ?_, by intro c hc; simp at hc, by simp, by simp, by omega, hn6⟩, ?_⟩
  · rw [show sumOf (([] : List Int).drop 0) = 0 from by decide]
    exact heap4_set3 (heap4_set2 (heap4_set1 HH.out))
  · exact ownsRow_setCell_below (ownsRow_setCell_below (ownsRow_setCell_below HO.out (by simp) _) (by simp) _) (by simp) _
  · have f1 : Fr W (W.setCell ⟨g, 1, none⟩ (.slice a 0 cap)) g (.slice a R.length cap) (.slice a R.length cap) := Fr.set hglt
    have f2 := (f1.trans (Fr.set (i := 2) (u := .int .i64 0) (by simpa using hglt))).trans (Fr.set (i := 3) (u := .int .u32 0) (by simpa using hglt))
    exact ⟨f2.1, f2.2.1, .inl (by cases a <;> rfl)⟩

theorem run_from2 {w : World} {a : Option Addr} {l : List Int} (h : Bytes w a l) (cap n : Nat) (hn : n = l.length) (hcap : n ≤ cap) (hnil : a = none → cap = 0) (p m : Nat) (x : Int) (hx : x = ((p : Nat) : Int)) (hm : p + m = n) :
    ∃ a', (∀ W, (Instr.slice 22 (.slice a n cap) (some (.int .i64 x)) none none).run Try.prog W = .ok (.slice a' m (cap - p)) W) ∧ Sl w (.slice a' m (cap - p)) (l.drop p) ∧ ∀ k, (Value.slice a' m (cap - p)).ownBlock = some k → (Value.slice a n cap).ownBlock = some k := by
  subst hn hx
  have e0 : (l.drop p).take m = l.drop p := List.take_of_length_le (by rw [List.length_drop]; omega)
  have hs := sl_stretch h cap hcap hnil p m (by omega)
  rw [e0] at hs
  refine ⟨_, fun W => ?_, hs, ?_⟩
  · have hr := run_slice_l (P := Try.prog) (w := W) 22 a l.length cap (by rw [hel]; exact Try.underlying22) .i64 (p : Int) (by omega) (by omega)
    have hsz : (sizeOf (Try.prog.elem 22)).run Try.prog W = .ok 1 W := by rw [hel]; rfl
    rw [hsz] at hr
    have e2 : l.length - p = m := by omega
    simp only [Result.andThen, sliced, Int.toNat_natCast, e2] at hr
    exact hr
  · intro k hk
    cases a with
    | none => split at hk <;> simp [Value.ownBlock] at hk
    | some ad =>
      split at hk
      · simpa [Value.ownBlock] using hk
      · simp only [Option.map_some, Value.ownBlock] at hk ⊢
        rw [← hk]
        unfold Addr.add
        split <;> rfl

/-- a slice stays as it reads while another block is written -/
theorem sl_other {W w' : World} {u : Value} {L : List Int} (h : Sl W u L) (hk : ∀ k, u.ownBlock = some k → w'.heap[k]? = W.heap[k]?) : Sl w' u L := by
  obtain ⟨a, cap, rfl, hB, hn, hc⟩ := h
  refine ⟨a, cap, rfl, ⟨hB.1, fun hne => ?_⟩, hn, hc⟩
  obtain ⟨b, off, rfl, hcell⟩ := hB.2 hne
  refine ⟨b, off, rfl, fun i hi => ?_⟩
  rw [World.cell?_of_block (w := W) (hk b rfl)]
  exact hcell i hi
theorem sl_set {W : World} {g : Nat} {x a2 : Option Addr} {l m cx c2 B : Nat} {P' Q : List Int} {u' : Value} (h : Sl W (.slice x l cx) P') (hB : Bytes W a2 Q) (hnew : ∀ k, (Value.slice a2 m c2).ownBlock = some k → B ≤ k)
    (hblk : ∀ k, (Value.slice x l cx).ownBlock = some k → (Value.slice a2 m c2).ownBlock = some k) (hg : g < B) : Sl (W.setCell ⟨g, 1, none⟩ u') (.slice x l cx) P' :=
  sl_other h (fun k hk => Below.heap_setCell _ _ _ _ (by have := hnew k (hblk k hk); show k ≠ g; omega))

set_option maxHeartbeats 2000000 in
set_option maxRecDepth 1000000 in
theorem rpush_win (W : World) (g n : Nat) (u : Value) (L : List Int) (c : Int) (hw : RWin W g n u L) (hc0 : 0 ≤ c) (hc1 : c ≤ 255) :
    Calls Try.prog 29 #[.pointer (some ⟨g, 0, none⟩), .int .u8 c] W fun e w' => e = .returned (.int .u32 (sumOf (pushed n L c))) ∧ ∃ u', RWin w' g n u' (pushed n L c) ∧ (∀ k, k < W.heap.size → k ≠ g → w'.heap[k]? = W.heap[k]?) ∧ Below g W w' ∧ (∀ k, u'.ownBlock = some k → W.heap.size ≤ k) := by
  obtain ⟨a, cap, rfl, c0, c1⟩ := hw.cells
  obtain ⟨hheap, hS, hLn, hn1, hn6⟩ := hw
  have hglt := heap_lt hheap
  have hoL : Oct L := by obtain ⟨_, _, _, h, _⟩ := hS; exact h.1
  have ho1 : Oct (L ++ [c]) := hoL.append (by intro x hx; simp at hx; omega)
  obtain ⟨len, hlen⟩ : ∃ len, len = L.length := ⟨_, rfl⟩
  have hll : len ≤ n := by omega
  rw [← hlen] at c1 hheap hS
  have H0 := Lib.hid (Own.nil W W.heap.size)
  have HS := Lib.hid hS
  have HH := Lib.hid hheap
  have HLEN := Lib.hid hlen
  have HO1 := Lib.hid ho1
  obtain ⟨P', hP'⟩ : ∃ P', P' = pushed n L c := ⟨_, rfl⟩
  rw [← hP']
  have HP := Lib.hid hP'
  clear hS hheap hlen ho1 hoL hP' hLn
  go_enter Try.func29, Try.ntmps29
  go_wp2_with (at_builtin; refine append_sl rfl (.tmp 8) (.tmp 12) rfl W.heap.size _ _ [] L rfl H0.out rfl HS.out (by have := HLEN.out; simp; omega) (Nat.le_refl _) ?_)
  intro v1 w1 HV1 hb1
  have hz1 := hb1.size
  have H1 := Lib.hid (one_sl w1 c hc0 hc1)
  have HV1' : Hid (Own (w1.alloc (.cells #[.int .u8 c] 5)) W.heap.size v1 L) := by
    have h := HV1.out
    try rw [List.nil_append] at h
    exact World.ownsRow.alloc h _
  have d0 := cell_later (hb1.alloc hz1 (.cells #[.int .u8 c] 5)) c0
  have d1 := cell_later (hb1.alloc hz1 (.cells #[.int .u8 c] 5)) c1
  go_wp2_with (at_builtin; refine append_sl rfl (.tmp 14) (.tmp 16) rfl W.heap.size _ _ L [c] rfl HV1'.out rfl H1.out (by have := HLEN.out; simp; omega) (by simp; omega) ?_)
  intro v2 w2 HV2 hb2
  have hB2 : Below W.heap.size W w2 := (hb1.alloc hz1 _).trans hb2
  obtain ⟨a2, cap2, ev2, hBy2, hnil2, hcap2⟩ := HV2.out.sl HO1.out
  have hnew2 : ∀ k, v2.ownBlock = some k → W.heap.size ≤ k := HV2.out.base_le
  rw [show (L ++ [c]).length = len + 1 from by rw [HLEN.out]; simp] at ev2 hcap2
  subst ev2
  have f0 := cell_later hB2 c0
  have f1 := cell_later hB2 c1
  have HH2 : Hid (w2.heap[g]? = some (.cells #[.int .i64 n, .slice a len cap] 58)) := by show _ = _; rw [hB2.block g hglt]; exact HH.out
  have hfz := unfrozen4 (i := 1) HH2.out
  have HB2 := Lib.hid hB2
  have HBY2 := Lib.hid hBy2
  have HNEW2 := Lib.hid hnew2
  clear hb1 hb2 hB2 d0 d1 c0 c1 HV1 HV1' H1 H0 hBy2 hnew2
  by_cases hfl : n < len + 1
  · have hfi : (n : Int) < (len : Int) + 1 := by omega
    obtain ⟨x, hcut, hSx, hblk⟩ := run_from2 HBY2.out cap2 (len + 1) (by rw [HLEN.out]; simp) hcap2 hnil2 1 len 1 rfl (by omega)
    have e1 : (L ++ [c]).drop 1 = P' := by
      rw [HP.out, pushed, if_pos (by have := HLEN.out; omega), List.drop_append_of_le_length (by have := HLEN.out; omega)]
    rw [e1] at hSx
    have HSX := Lib.hid hSx
    have HBLK := Lib.hid hblk
    have HOF := Lib.hid (fun u' => rof_sl (.slice x len (cap2 - 1)) P' (w2.setCell ⟨g, 1, none⟩ u') (sl_set HSX.out HBY2.out HNEW2.out hblk hglt) (by rw [← e1]; simp; have := HLEN.out; omega))
    have hPl : P'.length = len := by rw [← e1]; simp [HLEN.out]
    have HPL := Lib.hid hPl
    clear hSx hblk e1 hPl hnil2 hcap2
    generalize cap2 - 1 = cx at *
    go_wp2_with (go_at_call 10; refine (HOF.out _).mono ?_; rintro e w' ⟨rfl, rfl⟩)
    go_ret
    refine ⟨rfl, .slice x len cx, ⟨heap2_set1 HH2.out, sl_set HSX.out HBY2.out HNEW2.out HBLK.out hglt, by rw [HPL.out]; omega, hn1, hn6⟩, ?_, ?_, ?_⟩
    · intro k hk hkg
      rw [Below.heap_setCell _ _ _ _ hkg, HB2.out.block k hk]
    · exact (HB2.out.mono (Nat.le_of_lt hglt)).trans (Below.setCell (p := ⟨g, 1, none⟩) (Below.refl _ _) (Nat.le_refl _) _)
    · intro k hk
      exact HNEW2.out k (HBLK.out k hk)
  · have hfi : ¬ (n : Int) < (len : Int) + 1 := by omega
    have hfi2 : (len : Int) + 1 ≤ (n : Int) := by omega
    have e1 : L ++ [c] = P' := by rw [HP.out, pushed, if_neg (by have := HLEN.out; omega)]
    have hSx : Sl w2 (.slice a2 (len + 1) cap2) P' := ⟨a2, cap2, by rw [← e1, HLEN.out]; simp, e1 ▸ HBY2.out, hnil2, by rw [← e1]; simp; rw [← HLEN.out]; exact hcap2⟩
    have HSX := Lib.hid hSx
    have HOF := Lib.hid (fun u' => rof_sl (.slice a2 (len + 1) cap2) P' (w2.setCell ⟨g, 1, none⟩ u') (sl_set HSX.out HBY2.out HNEW2.out (fun k hk => hk) hglt) (by rw [← e1]; simp; have := HLEN.out; omega))
    have hPl : P'.length = len + 1 := by rw [← e1]; simp [HLEN.out]
    have HPL := Lib.hid hPl
    clear hSx e1 hPl hnil2 hcap2
    go_wp2_with (go_at_call 10; refine (HOF.out _).mono ?_; rintro e w' ⟨rfl, rfl⟩)
    go_ret
    refine ⟨rfl, .slice a2 (len + 1) cap2, ⟨heap2_set1 HH2.out, sl_set HSX.out HBY2.out HNEW2.out (fun k hk => hk) hglt, by rw [HPL.out]; omega, hn1, hn6⟩, ?_, ?_, ?_⟩
    · intro k hk hkg
      rw [Below.heap_setCell _ _ _ _ hkg, HB2.out.block k hk]
    · exact (HB2.out.mono (Nat.le_of_lt hglt)).trans (Below.setCell (p := ⟨g, 1, none⟩) (Below.refl _ _) (Nat.le_refl _) _)
    · exact HNEW2.out
end Go.Proofs.Ytbkdimdnpekgpab
