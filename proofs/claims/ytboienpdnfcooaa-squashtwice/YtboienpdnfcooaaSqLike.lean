/- squash: common, likeAhead, longest. (A template: seatgen.py fills it.) -/
import Derived.Test.YtboienpdnfcooaaSqMath
import Derived.Test.YtboienpdnfcooaaGOwn
import Derived.Maps.Own
import Derived.Maps.OwnOps
import Derived.Maps.OwnSet
import Derived.DeepKeys4
import Derived.WideKeyArgs
import Derived.BigQuiet
import Derived.Laws.Cover3
import Derived.WalkMore
namespace Go.Proofs.Ytboienpdnfcooaa.Sq
open Go.RowKit Go.Proofs.NumMath Go.Maps
open Go.Proofs.Ytboienpdnfcooaa.Num (encR)
set_option linter.unusedVariables false
set_option maxRecDepth 100000

/-- how many of the first bytes are the same -/
def Cm (l m : List Int) (n : Nat) : Prop := n ≤ m.length ∧ (∀ i, i < n → l.getD i 0 = m.getD i 0) ∧ (n < m.length → l.getD n 0 ≠ m.getD n 0)

set_option maxHeartbeats 1000000 in
theorem common_any (v1 v2 : Value) (l m : List Int) (w : World) (h1 : Sl w v1 l) (h2 : Sl w v2 m) (hle : m.length ≤ l.length) (hm : m.length ≤ 9223372036854775807) :
    Calls Try.prog 34 #[v1, v2] w fun e w' => (∃ n : Nat, e = .returned (.int .i64 n) ∧ Cm l m n) ∧ w' = w := by
  obtain ⟨a1, c1, rfl, hB1, hn1, hc1⟩ := h1
  obtain ⟨a2, c2, rfl, hB2, hn2, hc2⟩ := h2
  by_cases hne : m = []
  · subst hne
    go_enter Try.func34, Try.ntmps34
    go_wp2
    go_loopw [9] (fun c wr => wr = w ∧ c = .int .i64 0) (fun _ _ => 0)
    case atStart => exact ⟨rfl, rfl⟩
    case round =>
      obtain ⟨rfl, rfl⟩ := hrel
      go_wp2
      go_ret
      exact ⟨⟨0, rfl, by simp [Cm]⟩, rfl⟩
  · obtain ⟨b2, o2, rfl, hk2⟩ := hB2.2 hne
    have hnl : l ≠ [] := by
      intro e; subst e
      exact hne (List.eq_nil_of_length_eq_zero (by simpa using hle))
    obtain ⟨b1, o1, rfl, hk1⟩ := hB1.2 hnl
    have H1 := Lib.hid hk1
    have H2 := Lib.hid hk2
    clear hk1 hk2 hB1 hB2 hnl hne hn1 hn2 hc1 hc2
    obtain ⟨N, hN⟩ : ∃ N, N = m.length := ⟨_, rfl⟩
    obtain ⟨M, hM⟩ : ∃ M, M = l.length := ⟨_, rfl⟩
    rw [← hN, ← hM]
    rw [← hN, ← hM] at hle
    rw [← hN] at hm
    have HN := Lib.hid hN
    have HM := Lib.hid hM
    clear hN hM
    go_enter Try.func34, Try.ntmps34
    go_wp2
    go_loopw [9] (fun c wr => wr = w ∧ ∃ k : Nat, k ≤ N ∧ c = .int .i64 k ∧ Hid (∀ i, i < k → l.getD i 0 = m.getD i 0)) (fun c _ => N - (intOf c).toNat)
    case atStart => exact ⟨rfl, 0, by omega, rfl, fun i hi => by omega⟩
    case round =>
      obtain ⟨rfl, k, hk, rfl, HK⟩ := hrel
      by_cases hlt : k < N
      · have d1 := H1.out k (by rw [← HM.out]; omega)
        have d2 := H2.out k (by rw [← HN.out]; omega)
        obtain ⟨x, hx⟩ : ∃ x, x = l.getD k 0 := ⟨_, rfl⟩
        obtain ⟨y, hy⟩ : ∃ y, y = m.getD k 0 := ⟨_, rfl⟩
        rw [← hx] at d1
        rw [← hy] at d2
        by_cases he : x = y
        · rw [← he] at d2
          have HE : Hid (l.getD k 0 = m.getD k 0) := by show _ = _; rw [← hx, ← hy]; exact he
          clear hx hy he
          go_wp2
          go_roundw
          case rel => exact ⟨trivial, k + 1, by omega, by go_num, fun i hi => by
            by_cases e : i = k
            · subst e; exact HE.out
            · exact HK.out i (by omega)⟩
          case measure => simp [intOf]; omega
        · have HE : Hid (l.getD k 0 ≠ m.getD k 0) := by show _ ≠ _; rw [← hx, ← hy]; exact he
          have hb : (x != y) = true := by simpa using he
          clear hx hy
          go_wp2
          go_ret
          exact ⟨⟨k, rfl, by rw [← HN.out]; omega, HK.out, fun _ => HE.out⟩, rfl⟩
      · have hkn : k = N := by omega
        subst hkn
        go_wp2
        go_ret
        exact ⟨⟨k, rfl, by rw [HN.out]; exact Nat.le_refl _, HK.out, fun h => by rw [← HN.out] at h; omega⟩, rfl⟩

/-! ### likeAhead -/
abbrev key4 (l : List Int) (j : Nat) : Value := .agg #[.int .u8 (l.getD j 0), .int .u8 (l.getD (j + 1) 0), .int .u8 (l.getD (j + 2) 0), .int .u8 (l.getD (j + 3) 0)]
theorem laidOut : laidOutB Try.prog = true := by kernel_rfl
theorem row4 : (53 : TypeId) < Try.prog.types.size := of_decide_eq_true (by kernel_rfl)
theorem cells4 : Try.prog.cellsOf 53 = 4 := by kernel_rfl
theorem cells1 : Try.prog.cellsOf 5 = 1 := by kernel_rfl
theorem wide4 : (match Try.prog.underlying 53 with | some (.array _ _) | some (.struct _) => true | _ => false) = true := by rw [Try.underlying53]
theorem law4 : Keyed Try.prog 53 := Keyed.of_law (deep_law_laid laidOut (m := 2) (by omega) row4 (by kernel_rfl) wide4)
theorem keyT4 : Try.prog.keyType 53 = true := by kernel_rfl
theorem formed4 {c0 c1 c2 c3 : Value} : (Value.agg #[c0, c1, c2, c3]).formed Try.prog 53 = true := by simp [Value.formed, Try.underlying53, cells4]
theorem size2 : ∃ d, Try.prog.types.size + 1 = d + 2 := ⟨Try.prog.types.size - 1, by have h : 53 < Try.prog.types.size := row4; exact (by omega : ∀ n : Nat, 53 < n → n + 1 = n - 1 + 2) _ h⟩
theorem key4_some {l : List Int} (h : Oct l) (j : Nat) : ∃ kl, keyOf Try.prog 53 (key4 l j) = some kl := by
  have wf : ∀ i, (Lit.int .u8 (l.getD i 0)).wf = true := fun i => WalkArith.wf_u8 (h.getD i)
  obtain ⟨d, hd⟩ := size2
  have hk : ∀ i, Try.prog.keyLits (d + 1) 5 [.int .u8 (l.getD i 0)] = some [.int .u8 (l.getD i 0)] := fun i => by
    simp only [Program.keyLits, Try.underlying5]
    rw [if_pos ⟨trivial, wf i⟩]
  have : (Try.prog.keyLits (Try.prog.types.size + 1) 53 (key4 l j).cells.toList).isSome = true := by
    rw [hd]
    simp only [Program.keyLits, Try.underlying53, cells4, cells1, Value.cells]
    have w0 := wf j
    have w1 := wf (j + 1)
    have w2 := wf (j + 2)
    have w3 := wf (j + 3)
    simp only [List.getD_eq_getElem?_getD] at w0 w1 w2 w3
    simp [List.range, List.range.loop, w0, w1, w2, w3]
  obtain ⟨ls, hls⟩ := Option.isSome_iff_exists.1 this
  refine ⟨.string (keyBytes ls), ?_⟩
  unfold keyOf
  simp only [Try.underlying53, keyT4, formed4, Bool.and_true, if_true, hls, Option.map_some]
theorem key4_inj {l : List Int} {i j : Nat} (h : key4 l i = key4 l j) : Eq4 l i j := by
  simp only [key4, Value.agg.injEq, Array.mk.injEq, List.cons.injEq, Value.int.injEq, true_and, and_true] at h
  obtain ⟨h0, h1, h2, h3⟩ := h
  intro k hk
  rcases k with _ | _ | _ | _ | k
  · exact h0
  · exact h1
  · exact h2
  · exact h3
  · omega
theorem key4_eq {l : List Int} {i j : Nat} (h : Eq4 l i j) : key4 l i = key4 l j := by
  have h0 := h 0 (by omega)
  have h1 := h 1 (by omega)
  have h2 := h 2 (by omega)
  have h3 := h 3 (by omega)
  simp only [Nat.add_zero] at h0
  simp only [key4, h0, h1, h2, h3]

/-- what the map tells: of each four bytes the last place below k where they stand -/
def LastIs (l : List Int) (D : DataW Unit) (k : Nat) : Prop :=
  IsMap D ∧ ∀ j kl, keyOf Try.prog 53 (key4 l j) = some kl →
    Maps.has D kl = decide (0 ≤ ahd l j k) ∧ (0 ≤ ahd l j k → D.atKey kl (.lit (.int .i64 0)) = .lit (.int .i64 (ahd l j k)))
theorem last_start (l : List Int) : LastIs l (.map []) 0 := ⟨isMap_empty, fun j kl _ => ⟨by simp [Maps.has, ahd], fun h => by simp [ahd] at h⟩⟩
theorem last_step {l : List Int} {D : DataW Unit} {k : Nat} {kl : Lit} (h : LastIs l D k) (hk : keyOf Try.prog 53 (key4 l k) = some kl) : LastIs l (D.put kl (.lit (.int .i64 (k : Int)))) (k + 1) := by
  refine ⟨h.1.put _ _, fun j kj hj => ?_⟩
  by_cases he : Eq4 l k j
  · have : kl = kj := by rw [key4_eq he, hj] at hk; exact (Option.some.inj hk).symm
    subst this
    rw [ahd_same l j k he]
    exact ⟨by rw [has_put_same h.1 (law4.key hk)]; simp, fun _ => atKey_put_same h.1 (law4.key hk) _ _⟩
  · have hne : kj ≠ kl := by
      intro e; subst e
      exact he (key4_inj (law4.inj hk hj))
    rw [ahd_other l j k he, has_put_other hne, atKey_put_other hne]
    exact h.2 j kj hj

theorem map_apart {w : World} {b n : Nat} {D : DataW Unit} {base : Nat} {v : Value} {m : Nat} {xs : List Value} {e : TypeId} {sz : Nat} {k : TypeId} {R : Value → Option (DataW Unit × List MemPlace)}
    (h : w.ownsMap Try.prog k R b n D) (hr : w.ownsRow base e sz v m xs) : v.ownBlock ≠ some b := by
  obtain ⟨es, clock, hb, _⟩ := h
  intro hv
  rcases hr.2 with ⟨rfl, _⟩ | ⟨g, cap, cur, rfl, _, hg, _⟩
  · simp [Value.ownBlock] at hv
  · simp [Value.ownBlock] at hv
    subst hv
    rw [hb] at hg; cases hg
theorem infoI : (Try.prog.info? 3).map (fun i => (i.zero, i.size, i.bytes)) = some (some (.int .i64 0), 1, 8) := by kernel_rfl
def IOwn (w : World) (base : Nat) (v : Value) (l : List Int) : Prop := w.ownsRow base 3 1 v l.length (l.map (Value.int .i64))
theorem zeroI (w : World) : (zeroValue 3).run Try.prog w = .ok (.int .i64 0) w := by kernel_rfl

set_option maxHeartbeats 4000000 in
theorem likeAhead_any (v : Value) (l : List Int) (w : World) (h : Sl w v l) (hl : l.length ≤ 65536) :
    Calls Try.prog 21 #[v] w fun e w' => ∃ u, e = .returned u ∧ IOwn w' w.heap.size u (aheads l (l.length - 3)) ∧ Below w.heap.size w w' := by
  obtain ⟨a, cap, rfl, hB, hn, hc⟩ := h
  obtain ⟨i0, hi, hz0, hz1, hz2⟩ := info_parts infoI
  have hmm := @run_makeMap Try.prog
  obtain ⟨N, hN⟩ : ∃ N, N = l.length := ⟨_, rfl⟩
  have HB := Lib.hid hB
  have HN := Lib.hid hN
  rw [← hN] at hc hl ⊢
  clear hB hN
  go_enter Try.func21, Try.ntmps21
  go_wp2
  go_loopw [3, 14] (fun u c wr => ∃ (k : Nat) (D : DataW Unit), (k : Int) ≤ max ((N : Int) - 3) 0 ∧ c = .int .i64 k ∧ IOwn wr w.heap.size u (aheads l k) ∧ wr.ownsMap Try.prog 53 (plainElem Try.prog 3) w.heap.size k D ∧ LastIs l D k ∧ Below w.heap.size w wr) (fun _ c _ => N - (intOf c).toNat)
  case atStart => exact ⟨0, .map [], by omega, rfl, World.ownsRow_nil _ _ _ _, World.ownsMap_made _ _ _ _, last_start l, (Below.refl _ _).alloc (Nat.le_refl _) _⟩
  case round =>
    obtain ⟨k, D, hk, rfl, hown, hmap, hlast, hbel⟩ := hrel
    by_cases hlt : k + 4 ≤ N
    · obtain ⟨b, off, rfl, hcell⟩ := HB.out.2 (by intro e; have := HN.out; subst e; simp at this; omega)
      have d0 := cell_later hbel (hcell k (by rw [← HN.out]; omega))
      have d1 := cell_later hbel (hcell (k + 1) (by rw [← HN.out]; omega))
      have d2 := cell_later hbel (hcell (k + 2) (by rw [← HN.out]; omega))
      have d3 := cell_later hbel (hcell (k + 3) (by rw [← HN.out]; omega))
      rw [← Nat.add_assoc] at d1 d2 d3
      have hat : ∀ W, (Instr.arrayAt 53 (.slice (some ⟨b, off + k, none⟩) (N - k) (cap - k))).run Try.prog W = .ok (.pointer (some ⟨b, off + k, none⟩)) W := fun W => run_arrayAt W 53 _ 4 _ (N - k) (cap - k) Try.underlying53 (by omega)
      obtain ⟨kl, hkey⟩ := key4_some HB.out.1 k
      have HKEY := Lib.hid hkey
      unfold key4 at hkey
      generalize l.getD k 0 = x0 at d0 hkey
      generalize l.getD (k + 1) 0 = x1 at d1 hkey
      generalize l.getD (k + 2) 0 = x2 at d2 hkey
      generalize l.getD (k + 3) 0 = x3 at d3 hkey
      have HO := Lib.hid hown
      have HM := Lib.hid hmap
      have HL := Lib.hid hlast
      have HK := Lib.hid hkey
      clear hown hmap hlast hkey hcell hn
      have hsz := hbel.size
      have hnew : ∀ (o : Obj) (c : Int), ∀ j u, [Value.int .i64 c][j]? = some u → ((wr.alloc o).alloc (.cells #[.int .i64 c] 3)).cell? ((⟨wr.heap.size + 1, 0, none⟩ : Addr).add j) = some u := fun o c => by
        have h := cell_one_new (wr.alloc o) (.int .i64 c) 3
        rw [show (wr.alloc o).heap.size = wr.heap.size + 1 from by simp] at h
        exact h
      obtain ⟨X, hX⟩ : ∃ X, X = ahd l k k := ⟨_, rfl⟩
      have hXb := ahd_lt l k k
      have hlk := HL.out.2 k kl HKEY.out
      rw [← hX] at hXb hlk
      have HX := Lib.hid hX
      clear hX
      by_cases hx0 : 0 ≤ X
      · have hh : Maps.has D kl = true := by rw [hlk.1]; simp [hx0]
        have HAT := Lib.hid (hlk.2 hx0)
        clear hlk
        go_wp2_with (first
          | (at_lookup; refine wpList_lookup_own_ok_int _ rfl _ _ 52 rfl 53 3 .i64 law4 Try.underlying52 Try.underlying3 (zeroI _) w.heap.size k D rfl (HM.out.alloc _) _ kl rfl HK.out ?_; intro c hat2 hwc; (have hcX : c = X := by have h := HAT.out; rw [hat2] at h; simpa using h); subst hcX; rw [hh]; clear hat2)
          | (at_builtin; refine wpList_append_own _ rfl (.tmp 30) (.tmp 32) 40 rfl w.heap.size 3 i0 (.int .i64 0) 1 8 Try.underlying40 hi hz0 hz1 hz2 rfl (by decide) _ _ _ rfl (World.ownsRow.alloc (World.ownsRow.alloc HO.out _) _) ⟨wr.heap.size + 1, 0, none⟩ 1 1 [.int .i64 c] rfl rfl (hnew _ _) (by simp [Value.oneCell']) (by rw [aheads_length]; unfold maxLen; omega) (by rw [aheads_length]; omega) (by simp; omega) ?_))
        intro v' w2 hown' hgrow _
        obtain ⟨hsz2, hb4, hm2⟩ : w.heap.size ≤ w2.heap.size ∧ w2.heap[wr.heap.size]? = some (.cells #[.int .u8 x0, .int .u8 x1, .int .u8 x2, .int .u8 x3] 53) ∧ w2.ownsMap Try.prog 53 (plainElem Try.prog 3) w.heap.size k D := by
          have hs := hgrow.size
          simp at hs
          refine ⟨by omega, ?_, ?_⟩
          · rw [hgrow.block wr.heap.size (by simp; omega) (fun e => by have := (World.ownsRow.lt HO.out _ e.symm).2; omega)]
            rw [Below.heap_alloc _ _ _ (by simp)]
            exact heap_new _ _
          · exact ((HM.out.alloc _).alloc _).kept hgrow (fun e => map_apart HM.out HO.out e.symm)
        have hbel2 : Below w.heap.size w w2 := ((hbel.alloc hsz _).alloc (by simp; omega) _).grown hgrow (by simp; omega) (fun j hj => (World.ownsRow.lt HO.out j hj).1)
        have HO2 : Hid (IOwn w2 w.heap.size v' (aheads l (k + 1))) := by
          show IOwn _ _ _ _
          rw [aheads_succ]
          unfold IOwn
          rw [List.length_append, List.map_append]
          rw [← HX.out]; simpa [aheads_length] using hown'
        have e0 : w2.cell? ⟨wr.heap.size, 0, none⟩ = some (.int .u8 x0) := by simp [World.cell?, hb4]
        have e1 : w2.cell? ⟨wr.heap.size, 1, none⟩ = some (.int .u8 x1) := by simp [World.cell?, hb4]
        have e2 : w2.cell? ⟨wr.heap.size, 2, none⟩ = some (.int .u8 x2) := by simp [World.cell?, hb4]
        have e3 : w2.cell? ⟨wr.heap.size, 3, none⟩ = some (.int .u8 x3) := by simp [World.cell?, hb4]
        have HM2 := Lib.hid hm2
        have HB2 := Lib.hid hbel2
        clear hown' hgrow hm2 hbel2 hb4
        go_wp2_with (at_mapUpdate; refine wpList_mapUpdate_own _ rfl _ _ _ 52 rfl 53 3 law4 Try.underlying52 _ w.heap.size k D rfl HM2.out (by unfold maxLen; omega) _ _ kl rfl rfl HK.out _ [] (plainElem_int Try.underlying3 (WalkArith.wf_i64 (n := (k : Int)) (by omega))) ?_)
        intro w3 hm3 hg3
        have HM3 := Lib.hid hm3
        have HO3 : Hid (IOwn w3 w.heap.size v' (aheads l (k + 1))) := World.ownsRow.kept HO2.out hg3 (.inr (map_apart HM2.out HO2.out))
        have HB3 : Hid (Below w.heap.size w w3) := HB2.out.grown hg3 hsz2 (fun j hj => by cases hj; exact Nat.le_refl _)
        clear hm3 hg3
        go_wp2
        go_roundw
        case rel => exact ⟨k + 1, _, by omega, by go_num, HO3.out, HM3.out, last_step HL.out HKEY.out, HB3.out⟩
        case measure => simp [intOf]; omega
      · have hh : Maps.has D kl = false := by rw [hlk.1]; simp [hx0]
        have hxm : X = -1 := by omega
        clear hlk
        go_wp2_with (first
          | (at_lookup; refine wpList_lookup_own_ok_int _ rfl _ _ 52 rfl 53 3 .i64 law4 Try.underlying52 Try.underlying3 (zeroI _) w.heap.size k D rfl (HM.out.alloc _) _ kl rfl HK.out ?_; intro c hat2 hwc; rw [hh]; clear hat2)
          | (at_builtin; refine wpList_append_own _ rfl (.tmp 30) (.tmp 32) 40 rfl w.heap.size 3 i0 (.int .i64 0) 1 8 Try.underlying40 hi hz0 hz1 hz2 rfl (by decide) _ _ _ rfl (World.ownsRow.alloc (World.ownsRow.alloc HO.out _) _) ⟨wr.heap.size + 1, 0, none⟩ 1 1 [.int .i64 (-1)] rfl rfl (hnew _ _) (by simp [Value.oneCell']) (by rw [aheads_length]; unfold maxLen; omega) (by rw [aheads_length]; omega) (by simp; omega) ?_))
        intro v' w2 hown' hgrow _
        obtain ⟨hsz2, hb4, hm2⟩ : w.heap.size ≤ w2.heap.size ∧ w2.heap[wr.heap.size]? = some (.cells #[.int .u8 x0, .int .u8 x1, .int .u8 x2, .int .u8 x3] 53) ∧ w2.ownsMap Try.prog 53 (plainElem Try.prog 3) w.heap.size k D := by
          have hs := hgrow.size
          simp at hs
          refine ⟨by omega, ?_, ?_⟩
          · rw [hgrow.block wr.heap.size (by simp; omega) (fun e => by have := (World.ownsRow.lt HO.out _ e.symm).2; omega)]
            rw [Below.heap_alloc _ _ _ (by simp)]
            exact heap_new _ _
          · exact ((HM.out.alloc _).alloc _).kept hgrow (fun e => map_apart HM.out HO.out e.symm)
        have hbel2 : Below w.heap.size w w2 := ((hbel.alloc hsz _).alloc (by simp; omega) _).grown hgrow (by simp; omega) (fun j hj => (World.ownsRow.lt HO.out j hj).1)
        have HO2 : Hid (IOwn w2 w.heap.size v' (aheads l (k + 1))) := by
          show IOwn _ _ _ _
          rw [aheads_succ]
          unfold IOwn
          rw [List.length_append, List.map_append]
          rw [← HX.out, hxm]; simpa [aheads_length] using hown'
        have e0 : w2.cell? ⟨wr.heap.size, 0, none⟩ = some (.int .u8 x0) := by simp [World.cell?, hb4]
        have e1 : w2.cell? ⟨wr.heap.size, 1, none⟩ = some (.int .u8 x1) := by simp [World.cell?, hb4]
        have e2 : w2.cell? ⟨wr.heap.size, 2, none⟩ = some (.int .u8 x2) := by simp [World.cell?, hb4]
        have e3 : w2.cell? ⟨wr.heap.size, 3, none⟩ = some (.int .u8 x3) := by simp [World.cell?, hb4]
        have HM2 := Lib.hid hm2
        have HB2 := Lib.hid hbel2
        clear hown' hgrow hm2 hbel2 hb4
        go_wp2_with (at_mapUpdate; refine wpList_mapUpdate_own _ rfl _ _ _ 52 rfl 53 3 law4 Try.underlying52 _ w.heap.size k D rfl HM2.out (by unfold maxLen; omega) _ _ kl rfl rfl HK.out _ [] (plainElem_int Try.underlying3 (WalkArith.wf_i64 (n := (k : Int)) (by omega))) ?_)
        intro w3 hm3 hg3
        have HM3 := Lib.hid hm3
        have HO3 : Hid (IOwn w3 w.heap.size v' (aheads l (k + 1))) := World.ownsRow.kept HO2.out hg3 (.inr (map_apart HM2.out HO2.out))
        have HB3 : Hid (Below w.heap.size w w3) := HB2.out.grown hg3 hsz2 (fun j hj => by cases hj; exact Nat.le_refl _)
        clear hm3 hg3
        go_wp2
        go_roundw
        case rel => exact ⟨k + 1, _, by omega, by go_num, HO3.out, HM3.out, last_step HL.out HKEY.out, HB3.out⟩
        case measure => simp [intOf]; omega
    · have hke : N - 3 = k := by omega
      have HR : Hid (IOwn wr w.heap.size u3 (aheads l (N - 3)) ∧ Below w.heap.size w wr) := by rw [hke]; exact ⟨hown, hbel⟩
      clear hown hbel hmap hlast
      go_wp2
      go_ret
      exact ⟨_, rfl, HR.out.1, HR.out.2⟩
theorem wrapN (n : Nat) (h : n ≤ 9223372036854775807) : IntKind.i64.wrap (n : Int) = (n : Int) := by rw [IntKind.wrap_i64]; omega
def two (x : Nat × Nat) : Value := .tuple #[.int .i64 (x.1 : Nat), .int .i64 (x.2 : Nat)]
theorem IOwn.below {w w' : World} {base : Nat} {v : Value} {l : List Int} (h : IOwn w base v l) (hb : Below w.heap.size w w') : IOwn w' base v l := by
  obtain ⟨h1, h2⟩ := h
  refine ⟨h1, ?_⟩
  rcases h2 with h2 | ⟨g, cap, cur, h3, h4, h5, h6, h7, h8, h9⟩
  · exact .inl h2
  · refine .inr ⟨g, cap, cur, h3, h4, ?_, h6, h7, h8, h9⟩
    have hlt : g < w.heap.size := by
      rcases Nat.lt_or_ge g w.heap.size with h | h
      · exact h
      · rw [Array.getElem?_eq_none h] at h5; cases h5
    rw [hb.block g hlt]; exact h5
end Go.Proofs.Ytboienpdnfcooaa.Sq
