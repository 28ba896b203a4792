/- path.Join. (A template.) -/
import Derived.Test.YtokocfoeohddfaaGreatDoorPaRow
import Derived.Deep.DeepCutAuto
namespace Go.Proofs.YtokocfoeohddfaaGreatDoor.Pa
open Go.RowKit Go.Shelf Go.Proofs.RangeStr
set_option linter.unusedVariables false
set_option linter.unusedSimpArgs false
attribute [local go_sem] Oper.semAt_some

/-- what the first parts have come to -/
def St (w : World) (done : List L8) (nb : Option Nat) (W : World) : Prop :=
  firstBad done = 0 ∧ W.heap[w.heap.size]? = some (.cells #[.string { data := #[] }] 9) ∧ W.heap[w.heap.size + 1]? = some (.cells #[.int .i64 0] 31) ∧
  (∃ v, W.heap[w.heap.size + 1 + 1]? = some (.cells #[v] 48) ∧ SOwn W (w.heap.size + 4) v ((good done).take 12) ∧ ∀ g, v.ownBlock = some g → nb ≠ some g) ∧
  W.heap[w.heap.size + 1 + 1 + 1]? = some (.cells #[.int .i64 ((good done).length : Nat)] 3) ∧ Below w.heap.size w W ∧ w.heap.size + 4 ≤ W.heap.size
theorem St.keep {w W W' : World} {done : List L8} {nb : Option Nat} (h : St w done nb W) (k : KeepCD W W') (hb : Below w.heap.size W W') : St w done nb W' := by
  obtain ⟨h1, h2, h3, ⟨v, h4, h5, h6⟩, h7, h8, h9⟩ := h
  exact ⟨h1, k.cells h2, k.cells h3, ⟨v, k.cells h4, k.row h5, h6⟩, k.cells h7, h8.trans hb, Nat.le_trans h9 k.1⟩
/-- a part that may not be has come -/
def Bad (w : World) (r : Int) (W : World) : Prop :=
  W.heap[w.heap.size]? = some (.cells #[.string { data := #[] }] 9) ∧ W.heap[w.heap.size + 1]? = some (.cells #[.int .i64 r] 31) ∧ Below w.heap.size w W
theorem Bad.keep {w W W' : World} {r : Int} (h : Bad w r W) (k : KeepCD W W') (hb : Below w.heap.size W W') : Bad w r W' := by
  obtain ⟨h1, h2, h3⟩ := h
  exact ⟨k.cells h1, k.cells h2, h3.trans hb⟩
theorem emptyX {p : L8} (h : p = [46]) : (mk p).toList.isEmpty = false := by subst h; rw [mk_toList]; rfl
theorem dotT {p : L8} (h : p = [46]) : ((mk p).toList == [46]) = true := by subst h; rw [mk_toList]; rfl
theorem dotF {p : L8} (h : p ≠ [46]) : ((mk p).toList == [46]) = false := by rw [mk_toList]; simpa using h
theorem good_skip {d : List L8} {p : L8} (h : skip p = true) : good (d ++ [p]) = good d := by rw [good_app]; simp [good, h]
theorem good_more {d : List L8} {p : L8} (h : skip p = false) : good (d ++ [p]) = good d ++ [p] := by rw [good_app]; simp [good, h]
theorem fb_skip {d : List L8} {p : L8} (h : skip p = true) (h0 : firstBad d = 0) : firstBad (d ++ [p]) = 0 := by rw [firstBad_app]; simp [firstBad, h, h0]
theorem fb_ok {d : List L8} {p : L8} (h : refV p = 0) (h0 : firstBad d = 0) : firstBad (d ++ [p]) = 0 := by rw [firstBad_app]; simp [firstBad, h, h0]
theorem fb_bad {d e : List L8} {p : L8} (hs : skip p = false) (h : refV p ≠ 0) (h0 : firstBad d = 0) : firstBad (d ++ p :: e) = refV p := by rw [firstBad_app]; simp [firstBad, h, h0, hs]
theorem take_part {l : List L8} {k : Nat} {p : L8} (h : l[k]? = some p) : l.take (k + 1) = l.take k ++ [p] := by
  rw [List.take_add_one, h]; rfl
theorem all_take {ss : List L8} {i : Nat} {s : L8} (h : ss[i]? = some s) : allParts (ss.take (i + 1)) = allParts (ss.take i) ++ parts s := by
  unfold allParts
  rw [take_part h]; simp
theorem all_split {ss : List L8} {i k : Nat} {s p : L8} (h : ss[i]? = some s) (hk : (parts s)[k]? = some p) : ∃ e, allParts ss = (allParts (ss.take i) ++ (parts s).take k) ++ p :: e := by
  refine ⟨(parts s).drop (k + 1) ++ allParts (ss.drop (i + 1)), ?_⟩
  have e1 : ss = ss.take i ++ s :: ss.drop (i + 1) := by
    have hlt := (List.getElem?_eq_some_iff.1 h)
    obtain ⟨h1, h2⟩ := hlt
    rw [← h2, ← List.drop_eq_getElem_cons h1, List.take_append_drop]
  have e2 : parts s = (parts s).take k ++ p :: (parts s).drop (k + 1) := by
    obtain ⟨h1, h2⟩ := List.getElem?_eq_some_iff.1 hk
    rw [← h2, ← List.drop_eq_getElem_cons h1, List.take_append_drop]
  conv => lhs; rw [e1]
  unfold allParts
  simp only [List.map_append, List.map_cons, List.flatten_append, List.flatten_cons]
  conv => lhs; rw [e2]
  simp
theorem join_glue (ps : List L8) : Lib.join ps [47] = glue ps := by
  induction ps with
  | nil => rfl
  | cons p r ih =>
    cases r with
    | nil => rw [Lib.join_one]; rfl
    | cons q r =>
      rw [glue, ← ih]
      simp [Lib.join, List.intercalate]

theorem good_small {ps : List L8} (h : firstBad ps = 0) : ∀ p ∈ good ps, p.length ≤ 48 := by
  induction ps with
  | nil => intro p hp; simp [good] at hp
  | cons q ps ih =>
    intro p hp
    unfold firstBad at h
    split at h
    · next hs =>
      have : good (q :: ps) = good ps := by simp [good, hs]
      rw [this] at hp
      exact ih h p hp
    · next hs =>
      split at h
      · next hr => exact absurd h hr
      · next hr =>
        have : good (q :: ps) = q :: good ps := by simp [good, hs]
        rw [this] at hp
        rcases List.mem_cons.1 hp with rfl | hp
        · have hr0 : refV p = 0 := by
            by_cases e : refV p = 0
            · exact e
            · exact absurd e hr
          unfold refV at hr0
          repeat' split at hr0
          all_goals omega
        · exact ih h p hp
theorem glue_len {ps : List L8} (h : ∀ p ∈ ps, p.length ≤ 48) : (glue ps).length ≤ 49 * ps.length := by
  induction ps with
  | nil => simp [glue]
  | cons p r ih =>
    have h1 := h p (by simp)
    by_cases hr : r = []
    · subst hr; simp [glue]; omega
    · rw [glue_cons p hr]
      have := ih (fun q hq => h q (by simp [hq]))
      simp; omega

theorem fin {w W : World} {rs : List Nat} {x0 y0 : Value} (h1 : W.heap[w.heap.size]? = some (.cells #[x0] 9)) (h2 : W.heap[w.heap.size + 1]? = some (.cells #[y0] 31)) (hm : Mks (w.heap.size + 4) rs W) (hb : Below w.heap.size w W) (X Y : Value) :
    Mks (w.heap.size + 4) rs ((W.setCell ⟨w.heap.size, 0, none⟩ X).setCell ⟨w.heap.size + 1, 0, none⟩ Y) ∧ Below w.heap.size w ((W.setCell ⟨w.heap.size, 0, none⟩ X).setCell ⟨w.heap.size + 1, 0, none⟩ Y) ∧
    ((W.setCell ⟨w.heap.size, 0, none⟩ X).setCell ⟨w.heap.size + 1, 0, none⟩ Y).heap[w.heap.size]? = some (.cells #[X] 9) ∧ ((W.setCell ⟨w.heap.size, 0, none⟩ X).setCell ⟨w.heap.size + 1, 0, none⟩ Y).heap[w.heap.size + 1]? = some (.cells #[Y] 31) := by
  have x1 : (W.setCell ⟨w.heap.size, 0, none⟩ X).heap[w.heap.size]? = some (.cells #[X] 9) := by rw [Joins.block_setCell h1 _]; rfl
  have x2 : (W.setCell ⟨w.heap.size, 0, none⟩ X).heap[w.heap.size + 1]? = some (.cells #[y0] 31) := by rw [Below.heap_setCell _ _ _ _ (by show w.heap.size + 1 ≠ w.heap.size; omega)]; exact h2
  refine ⟨hm.non ((NonCells.set h1 X).trans (NonCells.set x2 Y)), (hb.setCell (Nat.le_refl _) _).setCell (by show w.heap.size ≤ w.heap.size + 1; omega) _, ?_, ?_⟩
  · rw [Below.heap_setCell _ _ _ _ (by show w.heap.size ≠ w.heap.size + 1; omega)]; exact x1
  · rw [Joins.block_setCell x2 _]; rfl

set_option maxRecDepth 1000000 in
set_option maxHeartbeats 8000000 in
theorem join_loop (b off cap N : Nat) (ss : List L8) (w : World) (hN : N = ss.length) (hN0 : N ≤ 140737488355328) (hbw : b < w.heap.size)
    (hcells : ∀ (i : Nat) (s : L8), ss[i]? = some s → w.cell? ⟨b, off + i, none⟩ = some (.string (mk s))) (hlen : ∀ s ∈ ss, s.length ≤ 140737488355328) (htot : (allParts ss).length ≤ 4611686018427387904) :
    Calls Tryz.prog 58 #[.slice (some ⟨b, off, none⟩) N cap] w fun e w' => e = .returned (.tuple #[.string (mk (jn ss).1), .int .i64 (jn ss).2]) ∧ Below w.heap.size w w' := by
  have HC := Lib.hid hcells
  have HL := Lib.hid hlen
  have HNN := Lib.hid hN
  have HTOT := Lib.hid htot
  clear hcells hlen hN htot
  obtain ⟨R1, hR1⟩ : ∃ R1, R1 = (jn ss).1 := ⟨_, rfl⟩
  obtain ⟨R2, hR2⟩ : ∃ R2, R2 = (jn ss).2 := ⟨_, rfl⟩
  rw [← hR1, ← hR2]
  have HR1 := Lib.hid hR1
  have HR2 := Lib.hid hR2
  clear hR1 hR2
  refine callsIn_wide (n := 6).1 ?_
  refine callsIn_of_wp_marks Tryz.func58 rfl trivial ?_ rfl
  simp only [Tryz.ntmps58, List.size_toArray, List.length_cons, List.length_nil, Nat.reduceAdd, Nat.reduceSub, Array.replicate_succ, Array.replicate_zero, List.push_toArray, List.append_toArray, List.nil_append, List.cons_append]
  gi_wp2
  obtain ⟨w4, hw4⟩ : ∃ w4, w4 = ((((w.alloc (Obj.cells #[Value.string { data := #[] }] 9)).alloc (Obj.cells #[Value.int IntKind.i64 0] 31)).alloc (Obj.cells #[Value.slice none 0 0] 48)).alloc (Obj.cells #[Value.int IntKind.i64 0] 3)) := ⟨_, rfl⟩
  have hs4 : w4.heap.size = w.heap.size + 4 := by rw [hw4]; simp
  have hb4 : Below w.heap.size w w4 := by
    rw [hw4]
    exact ((((Below.refl _ w).alloc (Nat.le_refl _) _).alloc (by simp) _).alloc (by simp; omega) _).alloc (by simp; omega) _
  have hst4 : St w (allParts (ss.take 0)) none w4 := by
    refine ⟨rfl, ?_, ?_, ⟨.slice none 0 0, ?_, World.ownsRow_nil _ _ _ _, fun g h => by simp [Value.ownBlock] at h⟩, ?_, hb4, by omega⟩
    · rw [hw4, Below.heap_alloc _ _ _ (by first | (simp; done) | (simp; omega)), Below.heap_alloc _ _ _ (by first | (simp; done) | (simp; omega)), Below.heap_alloc _ _ _ (by simp)]; exact heap_new _ _
    · rw [hw4, Below.heap_alloc _ _ _ (by first | (simp; done) | (simp; omega)), Below.heap_alloc _ _ _ (by simp)]
      have := heap_new (w.alloc (Obj.cells #[Value.string { data := #[] }] 9)) (Obj.cells #[Value.int IntKind.i64 0] 31)
      rwa [World.size_alloc] at this
    · rw [hw4, Below.heap_alloc _ _ _ (by simp)]
      have := heap_new ((w.alloc (Obj.cells #[Value.string { data := #[] }] 9)).alloc (Obj.cells #[Value.int IntKind.i64 0] 31)) (Obj.cells #[Value.slice none 0 0] 48)
      rwa [World.size_alloc, World.size_alloc] at this
    · have := heap_new (((w.alloc (Obj.cells #[Value.string { data := #[] }] 9)).alloc (Obj.cells #[Value.int IntKind.i64 0] 31)).alloc (Obj.cells #[Value.slice none 0 0] 48)) (Obj.cells #[Value.int IntKind.i64 0] 3)
      rw [World.size_alloc, World.size_alloc, World.size_alloc] at this
      rw [hw4]
      exact this
  rw [← hw4]
  clear hw4 hs4 hb4
  have HST4 := Lib.hid hst4
  clear hst4
  refine wpIn_loop (fun a' W => ∃ (i : Nat) (rs : List Nat) (u6 u7 u8 u9 u10 u14 u15 u16 u17 u18 u19 u20 u21 u22 u23 u24 u25 u26 u27 u28 u29 u30 u31 u32 u33 u34 u35 u36 u37 u38 u39 u40 u41 u42 u43 u44 u45 u46 u47 u48 u49 : Value), i ≤ N ∧ a' = { tmps := #[Value.slice (some ⟨b, off, none⟩) N cap, undef, Value.pointer (some ⟨w.heap.size, 0, none⟩), Value.pointer (some ⟨w.heap.size + 1, 0, none⟩), Value.pointer (some ⟨w.heap.size + 1 + 1, 0, none⟩), Value.pointer (some ⟨w.heap.size + 1 + 1 + 1, 0, none⟩), u6, u7, u8, u9, u10, Value.slice (some ⟨b, off, none⟩) N cap, Value.int IntKind.i64 (N : Nat), Value.int IntKind.i64 (i : Nat), u14, u15, u16, u17, u18, u19, u20, u21, u22, u23, u24, u25, u26, u27, u28, u29, u30, u31, u32, u33, u34, u35, u36, u37, u38, u39, u40, u41, u42, u43, u44, u45, u46, u47, u48, u49], defers := rs.map mkD } ∧ Hid (St w (allParts (ss.take i)) none W) ∧ Hid (Mks (w.heap.size + 4) rs W)) (fun a' _ => N - (intOf (a'.tmps.getD 13 undef)).toNat) ⟨0, [], undef, undef, undef, undef, undef, undef, undef, undef, undef, undef, undef, undef, undef, undef, undef, undef, undef, undef, undef, undef, undef, undef, undef, undef, undef, undef, undef, undef, undef, undef, undef, undef, undef, undef, undef, undef, undef, undef, undef, undef, undef, Nat.zero_le _, rfl, HST4, List.nodup_nil, fun r h => by simp at h⟩ ?_
  clear HST4
  rintro a' W0 ⟨i, rs, u6, u7, u8, u9, u10, u14, u15, u16, u17, u18, u19, u20, u21, u22, u23, u24, u25, u26, u27, u28, u29, u30, u31, u32, u33, u34, u35, u36, u37, u38, u39, u40, u41, u42, u43, u44, u45, u46, u47, u48, u49, hi, rfl, HST, HMK⟩
  have hsz0 : w.heap.size + 4 ≤ W0.heap.size := HST.out.2.2.2.2.2.2
  by_cases hiN : i < N
  · have hI : (i : Int) < (N : Int) := by omega
    obtain ⟨s, hs⟩ : ∃ s, ss[i]? = some s := ⟨_, List.getElem?_eq_getElem (by rw [← HNN.out]; exact hiN)⟩
    have hc0 : W0.cell? ⟨b, off + i, none⟩ = some (.string (mk s)) := by
      rw [HST.out.2.2.2.2.2.1.cell hbw]; exact HC.out i s hs
    have hsl : s.length ≤ 140737488355328 := HL.out s (List.mem_of_getElem? hs)
    have HS := Lib.hid hs
    have HEA := Lib.hid (each_any s W0)
    clear hs
    gi_wp2_with (refine ⟨trivial, ?_⟩; gi_at_call 71; refine (callsIn_wide.2 HEA.out).mono ?_; rintro e w3 ⟨rfl, hw3⟩; have HW3 := Lib.hid hw3; clear hw3)
    clear HEA
    have hw3 := HW3.out
    have hb3 : Below W0.heap.size W0 w3 := by rw [hw3]; exact (Below.refl _ _).alloc (Nat.le_refl _) _
    have hs3 : W0.heap.size + 1 ≤ w3.heap.size ∧ w3.heap.size ≤ W0.heap.size + 1 := by rw [hw3]; simp
    have htb : w3.heap[W0.heap.size]? = some (.cells #[.string (mk s)] 9) := by rw [hw3]; exact heap_new _ _
    have HST3 : Hid (St w (allParts (ss.take i) ++ (parts s).take 0) (some W0.heap.size) w3) := by
      obtain ⟨q1, q2, q3, ⟨v, q4, q5, q6⟩, q7⟩ := HST.out.keep (KeepCD.below hb3) (hb3.mono (by omega))
      rw [List.take_zero, List.append_nil]
      refine ⟨q1, q2, q3, ⟨v, q4, q5, fun g hg e => ?_⟩, q7⟩
      injection e with e
      subst e
      obtain ⟨v', z4, z5, z6⟩ := HST.out.2.2.2.1
      have z4' := (KeepCD.below hb3).cells z4
      rw [q4] at z4'
      injection z4' with z4'
      injection z4' with z4'
      have ev : v = v' := by simpa using z4'
      subst ev
      rcases z5.form with ⟨_, rfl⟩ | ⟨g, cp, rfl, _, hlt, _⟩
      · simp [Value.ownBlock] at hg
      · simp [Value.ownBlock] at hg
        omega
    have HMK3 : Hid (Mks (w.heap.size + 4) rs w3) := HMK.out.keep (KeepCD.below hb3)
    have HTB := Lib.hid htb
    clear hw3 HW3 htb hc0
    have hJ0 : ∀ q, St w (allParts (ss.take i) ++ (parts s).take 0) (some W0.heap.size) ((w3.alloc (.deferred (some []))).alloc (.loop q)) ∧ ((w3.alloc (.deferred (some []))).alloc (.loop q)).heap[W0.heap.size]? = some (.cells #[.string (mk s)] 9) ∧ Mks (w.heap.size + 4) rs ((w3.alloc (.deferred (some []))).alloc (.loop q)) := by
      intro q
      have hbb : Below w3.heap.size w3 ((w3.alloc (.deferred (some []))).alloc (.loop q)) := ((Below.refl _ _).alloc (Nat.le_refl _) _).alloc (by simp) _
      have hk := KeepCD.below hbb
      exact ⟨HST3.out.keep hk (hbb.mono (by omega)), hk.cells HTB.out, HMK3.out.keep hk⟩
    refine range_seen (gf := 84) (lb := #[.pointer (some ⟨W0.heap.size, 0, none⟩)]) rfl (enters_of Tryz.func84 (by kernel_rfl) rfl)
      (each1_hands 5 W0.heap.size s w3 (by omega)) (Below.refl _ _) w.heap.size (by omega)
      (fun k W => St w (allParts (ss.take i) ++ (parts s).take k) (some W0.heap.size) W ∧ W.heap[W0.heap.size]? = some (.cells #[.string (mk s)] 9) ∧ Mks (w.heap.size + 4) rs W)
      (fun c k W => c = .ret ∧ firstBad (allParts ss) ≠ 0 ∧ Bad w (firstBad (allParts ss)) W ∧ Mks (w.heap.size + 4) rs W)
      ?hX ?hXp ?hJp ?hJxp ?hJs ?hT hJ0
      (fun k vs => { tmps := #[Value.slice (some ⟨b, off, none⟩) N cap, undef, Value.pointer (some ⟨w.heap.size, 0, none⟩), Value.pointer (some ⟨w.heap.size + 1, 0, none⟩), Value.pointer (some ⟨w.heap.size + 1 + 1, 0, none⟩), Value.pointer (some ⟨w.heap.size + 1 + 1 + 1, 0, none⟩), u6, Value.string (mk s), vs.getD 0 undef, u9, u10, Value.slice (some ⟨b, off, none⟩) N cap, Value.int IntKind.i64 (N : Nat), Value.int IntKind.i64 (i : Nat), Value.bool true, Value.pointer (some ⟨b, off + i, none⟩), Value.string (mk s), Value.string (mk s), Value.func (.func 84) #[] #[.pointer (some ⟨W0.heap.size, 0, none⟩)], vs.getD 0 undef, u20, u21, u22, u23, u24, u25, u26, u27, u28, u29, u30, u31, u32, u33, u34, u35, u36, u37, u38, u39, u40, u41, u42, u43, u44, u45, u46, u47, u48, u49], defers := [] })
      ?assign ?body ?done ?stop
    case hX => rintro k vs W hv; unfold Piece at hv; subst hv; rfl
    case hXp => rintro k vs W o hv hr; exact hv
    case hJp =>
      rintro k W o ⟨h1, h2, h3⟩ hr
      have hk := KeepCD.rec (.loop o) hr
      exact ⟨h1.keep hk (below_put _ (by omega)), hk.cells h2, h3.keep hk⟩
    case hJxp =>
      rintro c k W o ⟨h1, h0, h2, h3⟩ hr
      have hk := KeepCD.rec (.loop o) hr
      exact ⟨h1, h0, h2.keep hk (below_put _ (by omega)), h3.keep hk⟩
    case hJs =>
      rintro k W W' ⟨h1, h2, h3⟩ hs hb
      have hk := KeepCD.still hs
      exact ⟨h1.keep hk hb, hk.cells h2, h3.keep hk⟩
    case hT =>
      rintro k W ⟨h1, h2, h3⟩
      exact cell1 h2
    case assign =>
      rintro l' k vs W K hv hK
      unfold Piece at hv
      subst hv
      gi_wp2
      exact hK
    case body =>
      rintro k vs W hkN ⟨hSt, htb, hMk⟩ hv hlt hrec hdf
      have HREC := Lib.hid hrec
      have HDF := Lib.hid hdf
      clear hrec hdf
      unfold Piece at hv
      obtain ⟨p, hp⟩ : ∃ p, (parts s)[k]? = some p := ⟨_, List.getElem?_eq_getElem hkN⟩
      rw [List.getD_eq_getElem?_getD, hp] at hv
      simp only [Option.getD_some] at hv
      subst hv
      have HTK := Lib.hid (take_part hp)
      have HP := Lib.hid hp
      have HSt := Lib.hid hSt
      have HTb := Lib.hid htb
      have HMk := Lib.hid hMk
      have HRF := Lib.hid (refused_any p)
      clear hSt htb hMk hp
      by_cases hsk : skip p = true
      · have HSK := Lib.hid hsk
        have HEND : Hid (St w (allParts (ss.take i) ++ (parts s).take (k + 1)) (some W0.heap.size) W) := by
          show St _ _ _ _
          rw [HTK.out, ← List.append_assoc]
          obtain ⟨q1, q2, q3, q4, q5, q6⟩ := HSt.out
          unfold St
          rw [good_skip HSK.out]
          exact ⟨fb_skip HSK.out q1, q2, q3, q4, q5, q6⟩
        have hor : p = [] ∨ p = [46] := of_decide_eq_true hsk
        clear hsk
        rcases hor with h | h
        · have he := emptyT h
          clear h
          gi_wp2
          exact ⟨⟨rfl, rfl⟩, ⟨HEND.out, HTb.out, HMk.out⟩, Iters.refl _⟩
        · have he := emptyX h
          have hd := dotT h
          clear h
          gi_wp2
          exact ⟨⟨rfl, rfl⟩, ⟨HEND.out, HTb.out, HMk.out⟩, Iters.refl _⟩
      · rw [Bool.not_eq_true] at hsk
        have HSK := Lib.hid hsk
        have hno : ¬ (p = [] ∨ p = [46]) := of_decide_eq_false hsk
        have he := emptyF (fun h => hno (.inl h))
        have hd := dotF (fun h => hno (.inr h))
        clear hsk hno
        by_cases hr : refV p = 0
        · have HRR : Hid (∀ W, Calls Tryz.prog 72 #[.string (mk p)] W fun e w' => e = .returned (.int .i64 0) ∧ w' = W) := by
            intro W; have h := HRF.out W; rw [hr] at h; exact h
          have HR0 := Lib.hid hr
          clear HRF hr
          obtain ⟨done, hdone⟩ : ∃ done, done = allParts (ss.take i) ++ (parts s).take k := ⟨_, rfl⟩
          have hdb : (good done).length + 1 ≤ 4611686018427387904 := by
            obtain ⟨e, he⟩ := all_split HS.out HP.out
            have h1 := HTOT.out
            rw [he, List.length_append, List.length_cons, ← hdone] at h1
            have h2 : (good done).length ≤ done.length := List.length_filter_le ..
            omega
          have HSD := HSt.out
          rw [← hdone] at HSD
          obtain ⟨q1, q2, q3, ⟨v, q4, q5, qn⟩, q5d, q6, q7⟩ := HSD
          have HDONE := Lib.hid hdone
          clear hdone
          have HQ1 := Lib.hid q1
          have HQ2 := Lib.hid q2
          have HQ3 := Lib.hid q3
          have HQ4 := Lib.hid q4
          have HQD := Lib.hid q5d
          have HQ6 := Lib.hid q6
          have HQN := Lib.hid qn
          obtain ⟨d, hd⟩ : ∃ d, d = (good done).length := ⟨_, rfl⟩
          have c3 := cell1 q5d
          have f3 := unfrozen (i := 0) q5d
          have c4 := cell1 q4
          have f4 := unfrozen (i := 0) q4
          rw [← hd] at c3 hdb
          have HD := Lib.hid hd
          obtain ⟨av, cv, ev⟩ := q5.slice
          obtain ⟨n, hn⟩ : ∃ n, n = ((good done).take 12).length := ⟨_, rfl⟩
          rw [← hn] at ev
          have HNL := Lib.hid hn
          have HQ5 := Lib.hid q5
          clear q1 q2 q3 q4 q5 qn q5d q6 hd hn
          obtain ⟨W1, hW1⟩ : ∃ W1, W1 = W.setCell ⟨w.heap.size + 1 + 1 + 1, 0, none⟩ (.int .i64 ((d : Int) + 1)) := ⟨_, rfl⟩
          have y3 : W1.heap[w.heap.size + 1 + 1 + 1]? = some (.cells #[.int .i64 ((d : Int) + 1)] 3) := by rw [hW1, Joins.block_setCell HQD.out _]; rfl
          have yo : ∀ b, b ≠ w.heap.size + 1 + 1 + 1 → W1.heap[b]? = W.heap[b]? := fun b hb => by rw [hW1, Below.heap_setCell _ _ _ _ hb]
          have yb : Below w.heap.size W W1 := by rw [hW1]; exact (Below.refl _ _).setCell (by show w.heap.size ≤ w.heap.size + 1 + 1 + 1; omega) _
          have yn : NonCells W W1 := by rw [hW1]; exact NonCells.set HQD.out _
          have ys : W1.heap.size = W.heap.size := by rw [hW1]; simp [World.setCell]
          have HOW1 : Hid (SOwn W1 (w.heap.size + 4) v ((good done).take 12)) := by
            show SOwn _ _ _ _
            rw [hW1]
            exact ownsRow_setCell_below (a := ⟨w.heap.size + 1 + 1 + 1, 0, none⟩) HQ5.out (by show w.heap.size + 1 + 1 + 1 < w.heap.size + 4; omega) _
          have z3 := cell1 y3
          have z4 : W1.cell? ⟨w.heap.size + 1 + 1, 0, none⟩ = some v := cell1 (by rw [yo _ (by omega)]; exact HQ4.out)
          have HY3 := Lib.hid y3
          have HYO := Lib.hid yo
          have HYB := Lib.hid yb
          have HYN := Lib.hid yn
          have HW1 := Lib.hid hW1
          clear y3 yo yb yn hW1
          subst ev
          have HDN : Hid (allParts (ss.take i) ++ (parts s).take (k + 1) = done ++ [p]) := by show _ = _; rw [HTK.out, ← List.append_assoc, ← HDONE.out]
          have HGM : Hid (good (done ++ [p]) = good done ++ [p]) := good_more HSK.out
          by_cases h12 : d + 1 ≤ 12
          · have hI12 : (d : Int) + 1 ≤ 12 := by omega
            have HTAKE : Hid ((good done).take 12 = good done) := List.take_of_length_le (by rw [← HD.out]; omega)
            have HNEW : Hid ((good (done ++ [p])).take 12 = (good done).take 12 ++ [p]) := by
              show _ = _
              rw [HGM.out, HTAKE.out, List.take_of_length_le (by rw [List.length_append, ← HD.out]; simpa using h12)]
            have HND : Hid (n = d) := by show n = d; rw [HNL.out, HTAKE.out, ← HD.out]
            have hn12 : n ≤ 12 := by have := HND.out; omega
            have hba : Below W1.heap.size W1 (W1.alloc (.cells #[.string (mk p)] 9)) := (Below.refl _ _).alloc (Nat.le_refl _) _
            have HBA := Lib.hid hba
            have HOA : Hid (SOwn (W1.alloc (.cells #[.string (mk p)] 9)) (w.heap.size + 4) (.slice av n cv) ((good done).take 12)) := (KeepCD.below hba).row HOW1.out
            have HCA : Hid ((W1.alloc (.cells #[.string (mk p)] 9)).cell? ⟨W.heap.size, 0, none⟩ = some (.string (mk p))) := by
              show _ = _
              rw [← ys]
              exact cell1 (heap_new _ _)
            have HYS := Lib.hid ys
            rw [HW1.out] at HOA HCA
            clear hba ys
            gi_wp2_with (first
              | (refine ⟨trivial, ?_⟩; gi_at_call 72; refine (CallsIn.inRound _ (callsIn_wide.2 (HRR.out _))).mono ?_; rintro e w' ⟨rfl, hw'⟩; have hw2 := hw'.symm; clear hw'; subst hw2)
              | (gi_at_builtin; go_must (refine appendIn_str _ rfl (.tmp 35) (.tmp 37) rfl (w.heap.size + 4) (.slice av n cv) ((good done).take 12) p rfl HOA.out ⟨W.heap.size, 0, none⟩ 1 rfl HCA.out (by rw [← HNL.out]; omega) (by simp [World.setCell]; omega) ?_)))
            intro v5 w5 hown5 hg5 hblk5
            have HW5 := Lib.hid hown5
            have HG5 := Lib.hid hg5
            have HB5 := Lib.hid hblk5
            rw [← HW1.out] at HG5
            obtain ⟨a5, c5, e5⟩ := hown5.slice
            have hl5 : ((good done).take 12 ++ [p]).length = n + 1 := by rw [List.length_append, ← HNL.out]; rfl
            rw [hl5] at e5
            have hsz5 : W.heap.size ≤ w5.heap.size := by
              have h1 := HG5.out.size
              have h2 := HBA.out.size
              have h3 := HYS.out
              omega
            have hobx : ∀ g, g < w.heap.size + 4 → (Value.slice av n cv).ownBlock ≠ some g := fun g hg e => by have := (HOW1.out.base_le g e).1; omega
            have h5o : ∀ g, g < W.heap.size → (Value.slice av n cv).ownBlock ≠ some g → w5.heap[g]? = W1.heap[g]? := by
              intro g hg hne
              rw [HG5.out.block g (by have h2 := HBA.out.size; have := HYS.out; omega) (fun e => hne e.symm), HBA.out.block g (by have := HYS.out; omega)]
            have hk5 : w5.heap[w.heap.size + 1 + 1]? = some (.cells #[.slice av n cv] 48) := by rw [h5o _ (by omega) (hobx _ (by omega)), HYO.out _ (by omega)]; exact HQ4.out
            have c5k := cell1 hk5
            have f5k := unfrozen (i := 0) hk5
            have HK5 := Lib.hid hk5
            have H5O := Lib.hid h5o
            have HOBX := Lib.hid hobx
            clear hown5 hg5 hblk5 hl5 hk5 h5o hobx
            subst e5
            gi_wp2
            have yn5 : NonCells W w5 := (HYN.out.trans (NonCells.below HBA.out)).trans (NonCells.grown ((KeepCD.below HBA.out).row HOW1.out) HG5.out)
            have yn6 : NonCells W (w5.setCell ⟨w.heap.size + 1 + 1, 0, none⟩ (.slice a5 (n + 1) c5)) := yn5.trans (NonCells.set HK5.out _)
            have yo6 : ∀ g, g < W.heap.size → g ≠ w.heap.size + 1 + 1 → g ≠ w.heap.size + 1 + 1 + 1 → (Value.slice av n cv).ownBlock ≠ some g → (w5.setCell ⟨w.heap.size + 1 + 1, 0, none⟩ (.slice a5 (n + 1) c5)).heap[g]? = W.heap[g]? := by
              intro g h1 h2 h3 h4
              rw [Below.heap_setCell _ _ _ _ h2, H5O.out g h1 h4, HYO.out g h3]
            have hb6 : Below w.heap.size w (w5.setCell ⟨w.heap.size + 1 + 1, 0, none⟩ (.slice a5 (n + 1) c5)) := by
              refine Below.setCell ?_ (by show w.heap.size ≤ w.heap.size + 1 + 1; omega) _
              refine Below.grown (w := W1.alloc (.cells #[.string (mk p)] 9)) ((HQ6.out.trans HYB.out).trans (HBA.out.mono (by have := HYS.out; omega))) HG5.out (by have h2 := HBA.out.size; have := HYS.out; omega) ?_
              intro g hg
              have := (HOW1.out.base_le g hg).1
              omega
            have hW0lt : W0.heap.size < W.heap.size := heap_lt HTb.out
            refine ⟨⟨yn6.same HREC.out, yn6.same' HDF.out⟩, ⟨?_, ?_, HMk.out.non yn6⟩, yn6.iters⟩
            · rw [HDN.out]
              unfold St
              rw [HGM.out]
              refine ⟨fb_ok HR0.out HQ1.out, ?_, ?_, ⟨.slice a5 (n + 1) c5, ?_, ?_, ?_⟩, ?_, hb6, ?_⟩
              · rw [yo6 _ (by omega) (by omega) (by omega) (HOBX.out _ (by omega))]; exact HQ2.out
              · rw [yo6 _ (by omega) (by omega) (by omega) (HOBX.out _ (by omega))]; exact HQ3.out
              · rw [Joins.block_setCell HK5.out _]; rfl
              · rw [← HGM.out, HNEW.out]
                exact ownsRow_setCell_below (a := ⟨w.heap.size + 1 + 1, 0, none⟩) HW5.out (by show w.heap.size + 1 + 1 < w.heap.size + 4; omega) _
              · intro g hg e
                rcases HB5.out with h | h
                · rw [h] at hg; exact HQN.out g hg e
                · rw [h] at hg
                  injection hg with hg
                  injection e with e
                  have h2 := HBA.out.size
                  have := HYS.out
                  omega
              · rw [Below.heap_setCell _ _ _ _ (by show w.heap.size + 1 + 1 + 1 ≠ w.heap.size + 1 + 1; omega), H5O.out _ (by omega) (HOBX.out _ (by omega)), HY3.out, List.length_append, ← HD.out]
                rfl
              · simp only [World.setCell]; simp; omega
            · rw [yo6 _ hW0lt (by omega) (by omega) (fun e => HQN.out _ e rfl)]
              exact HTb.out
          · have hI12 : ¬ (d : Int) + 1 ≤ 12 := by omega
            gi_wp2_with (refine ⟨trivial, ?_⟩; gi_at_call 72; refine (CallsIn.inRound _ (callsIn_wide.2 (HRR.out _))).mono ?_; rintro e w' ⟨rfl, hw'⟩; have hw2 := hw'.symm; clear hw'; subst hw2)
            rw [← HW1.out]
            refine ⟨⟨HYN.out.same HREC.out, HYN.out.same' HDF.out⟩, ⟨?_, by rw [HYO.out _ (by omega)]; exact HTb.out, HMk.out.non HYN.out⟩, HYN.out.iters⟩
            rw [HDN.out]
            unfold St
            rw [HGM.out]
            refine ⟨fb_ok HR0.out HQ1.out, by rw [HYO.out _ (by omega)]; exact HQ2.out, by rw [HYO.out _ (by omega)]; exact HQ3.out, ⟨.slice av n cv, by rw [HYO.out _ (by omega)]; exact HQ4.out, ?_, HQN.out⟩, ?_, HQ6.out.trans HYB.out, by omega⟩
            · rw [List.take_append_of_le_length (by rw [← HD.out]; omega)]
              exact HOW1.out
            · rw [HY3.out, List.length_append, ← HD.out]
              rfl
        · have hne : (refV p == 0) = false := by simpa using hr
          have HFB : Hid (firstBad (allParts ss) = refV p) := by
            obtain ⟨e, he⟩ := all_split HS.out HP.out
            show _ = _
            rw [he]
            exact fb_bad HSK.out hr HSt.out.1
          rw [HFB.out]
          have HR0 := Lib.hid hr
          obtain ⟨q1, q2, q3, -, -, q6, q7⟩ := HSt.out
          have HQ2 := Lib.hid q2
          have HQ3 := Lib.hid q3
          have HQ6 := Lib.hid q6
          have c1 := cell1 q2
          have c2 := cell1 q3
          have f1 := unfrozen (i := 0) q2
          have f2 := unfrozen (i := 0) q3
          clear q1 q2 q3 q6 hr
          generalize refV p = r at *
          gi_wp2_with (refine ⟨trivial, ?_⟩; gi_at_call 72; refine (CallsIn.inRound _ (callsIn_wide.2 (HRF.out _))).mono ?_; rintro e w' ⟨rfl, hw'⟩; have hw2 := hw'.symm; clear hw'; subst hw2)
          have x1 : (W.setCell ⟨w.heap.size, 0, none⟩ (.string { data := #[] })).heap[w.heap.size]? = some (.cells #[.string { data := #[] }] 9) := by rw [Joins.block_setCell HQ2.out _]; rfl
          have x2 : (W.setCell ⟨w.heap.size, 0, none⟩ (.string { data := #[] })).heap[w.heap.size + 1]? = some (.cells #[.int .i64 0] 31) := by rw [Below.heap_setCell _ _ _ _ (by show w.heap.size + 1 ≠ w.heap.size; omega)]; exact HQ3.out
          have y1 : ((W.setCell ⟨w.heap.size, 0, none⟩ (.string { data := #[] })).setCell ⟨w.heap.size + 1, 0, none⟩ (.int .i64 r)).heap[w.heap.size]? = some (.cells #[.string { data := #[] }] 9) := by rw [Below.heap_setCell _ _ _ _ (by show w.heap.size ≠ w.heap.size + 1; omega)]; exact x1
          have y2 : ((W.setCell ⟨w.heap.size, 0, none⟩ (.string { data := #[] })).setCell ⟨w.heap.size + 1, 0, none⟩ (.int .i64 r)).heap[w.heap.size + 1]? = some (.cells #[.int .i64 r] 31) := by rw [Joins.block_setCell x2 _]; rfl
          have yn := (NonCells.set (i := 0) HQ2.out (.string { data := #[] })).trans (NonCells.set (i := 0) x2 (.int .i64 r))
          exact ⟨⟨yn.same HREC.out, yn.same' HDF.out⟩, rfl, HR0.out, ⟨y1, y2, (HQ6.out.setCell (Nat.le_refl _) _).setCell (by show w.heap.size ≤ w.heap.size + 1; omega) _⟩, HMk.out.non yn⟩
    case done =>
      rintro W ⟨hSt, htb, hMk⟩ hD hlt
      have HD := Lib.hid hD
      have hni : w3.heap.size ∉ rs := fun hm => by have := heap_lt (HMK3.out.2 _ hm).2; omega
      have HMKS : Hid (Mks (w.heap.size + 4) (w3.heap.size :: rs) W) := hMk.add (by omega) hni hD
      have HSTN : Hid (St w (allParts (ss.take (i + 1))) none W) := by
        obtain ⟨q1, q2, q3, ⟨v, q4, q5, q6⟩, q7⟩ := hSt
        rw [List.take_of_length_le (Nat.le_refl _), ← all_take HS.out] at q1 q5 q7
        exact ⟨q1, q2, q3, ⟨v, q4, q5, fun g _ e => by cases e⟩, q7⟩
      clear hSt htb hMk hD hni
      gi_wp2
      refine ⟨⟨i + 1, w3.heap.size :: rs, _, _, _, _, _, _, _, _, _, _, _, _, _, _, _, _, _, _, _, _, _, _, _, _, _, _, _, _, _, _, _, _, _, _, _, _, _, _, _, _, _, by omega, rfl, HSTN, HMKS⟩, ?_⟩
      simp [intOf]
      omega
    case stop =>
      rintro c k W _ ⟨rfl, h0, hBad, hMk⟩ hD hlt
      have hni : w3.heap.size ∉ rs := fun hm => by have := heap_lt (HMK3.out.2 _ hm).2; omega
      have hmks : Mks (w.heap.size + 4) (w3.heap.size :: rs) W := hMk.add (by omega) hni hD
      have hjn : jn ss = ([], firstBad (allParts ss)) := by unfold jn; rw [if_pos h0]
      have HE1 : Hid (R1 = []) := by show _ = _; rw [HR1.out, hjn]
      have HE2 : Hid (R2 = firstBad (allParts ss)) := by show _ = _; rw [HR2.out, hjn]
      have HBAD := Lib.hid hBad
      have HMKS := Lib.hid hmks
      clear hBad hMk hD hni hmks hjn h0
      rw [← HE2.out] at HBAD
      clear HE2
      gi_wp2
      refine leaves_marks (m := w.heap.size + 4) (w3.heap.size :: rs) _ HMKS.out ?_
      intro W' hb hcc
      obtain ⟨q1, q2, q3⟩ := HBAD.out
      have k1 := cell1 (hcc _ _ _ _ q1)
      have k2 := cell1 (hcc _ _ _ _ q2)
      refine ⟨.tuple #[.string { data := #[] }, .int .i64 R2], ?_, by rw [HE1.out]; rfl, q3.trans (hb.mono (by omega))⟩
      simp [results, loadVar, asAddr, go_sem, k1, k2]
  · have hiE : i = N := by omega
    have hall : allParts (ss.take i) = allParts ss := by rw [hiE, HNN.out, List.take_of_length_le (Nat.le_refl _)]
    have hst := HST.out
    rw [hall] at hst
    obtain ⟨q1, q2, q3, ⟨v, q4, q5, -⟩, qd, q6, q7⟩ := hst
    obtain ⟨d, hd⟩ : ∃ d, d = (good (allParts ss)).length := ⟨_, rfl⟩
    have hkl : ((good (allParts ss)).take 12).length ≤ 12 := by rw [List.length_take]; omega
    have hsm : ∀ p ∈ (good (allParts ss)).take 12, p.length ≤ 48 := fun p hp => good_small q1 p (List.mem_of_mem_take hp)
    have hgl := glue_len hsm
    have HJ : Hid (Calls Tryz.prog 73 #[v, .string { data := #[47] }] W0 fun e w' => e = .returned (.string (mk (glue ((good (allParts ss)).take 12)))) ∧ Below W0.heap.size W0 w') := by
      show Calls _ _ _ _ _
      rcases q5.form with ⟨he, rfl⟩ | ⟨g, cp, rfl, hg0, hg1, hg2, _, hg3⟩
      · rw [he]
        exact (Tryz.strings_Join_none none 0 { data := #[47] } W0).mono fun e w' ⟨h1, h2⟩ => ⟨h1, h2 ▸ Below.refl _ _⟩
      · have hx := Tryz.strings_Join g 0 cp (((good (allParts ss)).take 12).map mk) { data := #[47] } W0 (by
            intro j x hj
            rw [List.getElem?_map] at hj
            cases hq : ((good (allParts ss)).take 12)[j]? with
            | none => rw [hq] at hj; cases hj
            | some y => rw [hq] at hj; injection hj with hj; subst hj; exact hg3 j y hq) hg1 (by rw [List.length_map]; omega) (by rw [List.length_map]; omega) (by
            rw [List.map_map, show ((fun x : ByteArray => x.data.toList) ∘ mk) = id from funext mk_list, List.map_id]
            show (Lib.join _ [47]).length ≤ _
            rw [join_glue]; omega)
        rw [List.length_map, List.map_map, show ((fun x : ByteArray => x.data.toList) ∘ mk) = id from funext mk_list, List.map_id] at hx
        rw [show Lib.join ((good (allParts ss)).take 12) ({ data := #[47] } : ByteArray).data.toList = glue ((good (allParts ss)).take 12) from join_glue _] at hx
        exact hx
    obtain ⟨av, cv, ev⟩ := q5.slice
    obtain ⟨n, hn⟩ : ∃ n, n = ((good (allParts ss)).take 12).length := ⟨_, rfl⟩
    rw [← hn] at ev
    subst ev
    rw [← hd] at qd
    have c4 := cell1 q4
    have HQ1 := Lib.hid q1
    have HQ2 := Lib.hid q2
    have HQ3 := Lib.hid q3
    have HQD := Lib.hid qd
    have HQ6 := Lib.hid q6
    have HDD := Lib.hid hd
    clear q1 q2 q3 q4 q5 qd q6 hd hn hkl hsm hall hgl hiE
    obtain ⟨G, hG⟩ : ∃ G, G = glue ((good (allParts ss)).take 12) := ⟨_, rfl⟩
    rw [← hG] at HJ
    have HG := Lib.hid hG
    clear hG
    have HJN : Hid (jn ss = if 12 < (good (allParts ss)).length ∨ 200 < (glue (good (allParts ss))).length then ([], 7) else (glue (good (allParts ss)), 0)) := by
      show _ = _
      unfold jn; rw [if_neg (by rw [HQ1.out]; simp)]
    have hsG := mk_size G
    by_cases h12 : 12 < d
    · have hI12 : (12 : Int) < (d : Int) := by omega
      have hj : jn ss = ([], 7) := by rw [HJN.out, if_pos (.inl (by rw [← HDD.out]; exact h12))]
      have HE1 : Hid (R1 = []) := by show _ = _; rw [HR1.out, hj]
      have HE2 : Hid (R2 = 7) := by show _ = _; rw [HR2.out, hj]
      clear hj h12 hsG
      gi_wp2_with (refine ⟨trivial, ?_⟩; gi_at_call 73; refine (callsIn_wide.2 HJ.out).mono ?_; rintro e w5 ⟨rfl, hb5⟩; have HB5 := Lib.hid hb5; have c5 := cell1 ((KeepCD.below hb5).cells HQD.out); have k1 := cell1 ((KeepCD.below hb5).cells HQ2.out); have k2 := cell1 ((KeepCD.below hb5).cells HQ3.out); have f1 := unfrozen (i := 0) ((KeepCD.below hb5).cells HQ2.out); have f2 := unfrozen (i := 0) ((KeepCD.below hb5).cells HQ3.out); clear hb5)
      obtain ⟨z1, z2, z3, z4⟩ := fin (KeepCD.below HB5.out |>.cells HQ2.out) (KeepCD.below HB5.out |>.cells HQ3.out) (HMK.out.keep (KeepCD.below HB5.out)) (HQ6.out.trans (HB5.out.mono (by omega))) (.string { data := #[] }) (.int .i64 7)
      refine leaves_marks (m := w.heap.size + 4) rs _ z1 ?_
      intro W' hb hcc
      have g1 := cell1 (hcc _ _ _ _ z3)
      have g2 := cell1 (hcc _ _ _ _ z4)
      refine ⟨.tuple #[.string { data := #[] }, .int .i64 7], ?_, ?_, z2.trans (hb.mono (by omega))⟩
      · simp [results, loadVar, asAddr, go_sem, g1, g2]
      · (rw [HE1.out, HE2.out]); first | done | rfl
    · have hI12 : ¬ (12 : Int) < (d : Int) := by omega
      have hGg : G = glue (good (allParts ss)) := by rw [HG.out, List.take_of_length_le (by rw [← HDD.out]; omega)]
      by_cases h200 : 200 < G.length
      · have hI200 : (200 : Int) < ((mk G).size : Int) := by omega
        have hj : jn ss = ([], 7) := by rw [HJN.out, if_pos (.inr (by rw [← hGg]; exact h200))]
        have HE1 : Hid (R1 = []) := by show _ = _; rw [HR1.out, hj]
        have HE2 : Hid (R2 = 7) := by show _ = _; rw [HR2.out, hj]
        clear hj h12 hsG h200 hGg
        gi_wp2_with (refine ⟨trivial, ?_⟩; gi_at_call 73; refine (callsIn_wide.2 HJ.out).mono ?_; rintro e w5 ⟨rfl, hb5⟩; have HB5 := Lib.hid hb5; have c5 := cell1 ((KeepCD.below hb5).cells HQD.out); have k1 := cell1 ((KeepCD.below hb5).cells HQ2.out); have k2 := cell1 ((KeepCD.below hb5).cells HQ3.out); have f1 := unfrozen (i := 0) ((KeepCD.below hb5).cells HQ2.out); have f2 := unfrozen (i := 0) ((KeepCD.below hb5).cells HQ3.out); clear hb5)
        obtain ⟨z1, z2, z3, z4⟩ := fin (KeepCD.below HB5.out |>.cells HQ2.out) (KeepCD.below HB5.out |>.cells HQ3.out) (HMK.out.keep (KeepCD.below HB5.out)) (HQ6.out.trans (HB5.out.mono (by omega))) (.string { data := #[] }) (.int .i64 7)
        refine leaves_marks (m := w.heap.size + 4) rs _ z1 ?_
        intro W' hb hcc
        have g1 := cell1 (hcc _ _ _ _ z3)
        have g2 := cell1 (hcc _ _ _ _ z4)
        refine ⟨.tuple #[.string { data := #[] }, .int .i64 7], ?_, ?_, z2.trans (hb.mono (by omega))⟩
        · simp [results, loadVar, asAddr, go_sem, g1, g2]
        · (rw [HE1.out, HE2.out]); first | done | rfl
      · have hI200 : ¬ (200 : Int) < ((mk G).size : Int) := by omega
        have hj : jn ss = (G, 0) := by rw [HJN.out, if_neg (by rw [← HDD.out, ← hGg]; omega), ← hGg]
        have HE1 : Hid (R1 = G) := by show _ = _; rw [HR1.out, hj]
        have HE2 : Hid (R2 = 0) := by show _ = _; rw [HR2.out, hj]
        clear hj h12 hsG h200 hGg
        gi_wp2_with (refine ⟨trivial, ?_⟩; gi_at_call 73; refine (callsIn_wide.2 HJ.out).mono ?_; rintro e w5 ⟨rfl, hb5⟩; have HB5 := Lib.hid hb5; have c5 := cell1 ((KeepCD.below hb5).cells HQD.out); have k1 := cell1 ((KeepCD.below hb5).cells HQ2.out); have k2 := cell1 ((KeepCD.below hb5).cells HQ3.out); have f1 := unfrozen (i := 0) ((KeepCD.below hb5).cells HQ2.out); have f2 := unfrozen (i := 0) ((KeepCD.below hb5).cells HQ3.out); clear hb5)
        obtain ⟨z1, z2, z3, z4⟩ := fin (KeepCD.below HB5.out |>.cells HQ2.out) (KeepCD.below HB5.out |>.cells HQ3.out) (HMK.out.keep (KeepCD.below HB5.out)) (HQ6.out.trans (HB5.out.mono (by omega))) (.string (mk G)) (.int .i64 0)
        refine leaves_marks (m := w.heap.size + 4) rs _ z1 ?_
        intro W' hb hcc
        have g1 := cell1 (hcc _ _ _ _ z3)
        have g2 := cell1 (hcc _ _ _ _ z4)
        refine ⟨.tuple #[.string (mk G), .int .i64 0], ?_, ?_, z2.trans (hb.mono (by omega))⟩
        · simp [results, loadVar, asAddr, go_sem, g1, g2]
        · (rw [HE1.out, HE2.out])
end Go.Proofs.YtokocfoeohddfaaGreatDoor.Pa
