/- The law BlocksEach's own walk. -/
import Derived.Test.YtjkbacbofkcipaaBRCut
import Derived.Test.YtjkbacbofkcipaaQuietRound
namespace Go.Proofs.Ytjkbacbofkcipaa
open Go.RowKit Go.Shelf Go.Proofs.BlkMath Go.Proofs.RangeLaw
set_option linter.unusedVariables false
attribute [local go_sem] Oper.semAt_some

/-- whatever holds cells lies as it lay, but in one block -/
def KeepBut (kb : Nat) (W W' : World) : Prop := W.heap.size ≤ W'.heap.size ∧ ∀ (b : Nat) (c : Array Value) (t : TypeId) (fr : Nat × Nat), b ≠ kb → W.heap[b]? = some (Obj.cells c t fr) → W'.heap[b]? = some (Obj.cells c t fr)
theorem KeepC.but {W W' : World} (h : KeepC W W') (kb : Nat) : KeepBut kb W W' := ⟨h.1, fun b c t fr _ hb => h.2 b c t fr hb⟩
theorem KeepBut.own {W W' : World} {kb n0 : Nat} (h : KeepBut kb W W') (hk : kb < n0) {v : Value} {l : List Int} (ho : Own W n0 v l) : Own W' n0 v l := by
  obtain ⟨h1, h2⟩ := ho
  refine ⟨h1, ?_⟩
  rcases h2 with h2 | ⟨g, cap, cur, h3, h4, h5, h6⟩
  · exact .inl h2
  · exact .inr ⟨g, cap, cur, h3, h4, h.2 _ _ _ _ (by omega) h5, h6⟩
theorem Held.but {n0 tb bb kb : Nat} {L : List Int} {blk : Int} {W W' : World} (h : Held n0 tb bb L blk W) (k : KeepBut kb W W') (hk : kb < n0) : Held n0 tb bb L blk W' := by
  obtain ⟨vt, h1, h2, h3, h4, h5, h6⟩ := h
  exact ⟨vt, k.2 _ _ _ _ (by omega) h1, k.2 _ _ _ _ (by omega) h2, k.own hk h3, h4, h5, Nat.le_trans h6 k.1⟩

/-- what the k-th round is handed, of these blocks -/
def Nth (n0 : Nat) (ps : List (List Int)) (k : Nat) (vs : Array Value) (W : World) : Prop := ∃ v, vs = #[.int .i64 k, v] ∧ Own W n0 v (ps.getD k [])

/-- what Each hands back: an iterator over these blocks -/
def Iter (w : World) (ps : List (List Int)) (e : Ending) (w' : World) : Prop :=
  ∃ (gf : Nat) (lb : Array Value) (T H : World → Prop), e = .returned (.func (.func gf) #[] lb) ∧ Enters Try.prog gf ∧ (∀ n W, Hands Try.prog n gf lb (Nth w.heap.size ps) ps.length T W) ∧
    H w' ∧ (∀ kb W W', kb < w.heap.size → H W → KeepBut kb W W' → H W') ∧ (∀ W, H W → T W) ∧ Below w.heap.size w w'

theorem Hands.weak {P : Program} {n g : Nat} {lb : Array Value} {X X' : Nat → Array Value → World → Prop} {N : Nat} {T : World → Prop} {w : World} (h : Hands P n g lb X N T w) (hx : ∀ k vs W, k < N → X k vs W → X' k vs W) : Hands P n g lb X' N T w := by
  intro l J Jx W h1 h2 h3 h4 h5 h6
  exact h l J Jx W h1 h2 h3 h4 (fun k vs W1 hk hj hv => h5 k vs W1 hk hj (hx k vs W1 hk hv)) h6

theorem iter_yes (u : Value) (l : List Int) (blk : Nat) (w : World) (hS : Sl w u l) (ho : Oct l) (hR : Rt l.length blk) :
    Calls Try.prog 24 #[u, .int .i64 blk] w fun e w' => Iter w (pieces l blk (cnt l.length blk).toNat) e w' := by
  refine (each_yes u l blk w hS hR).mono ?_
  rintro e w' ⟨tb, rfl, hH, hb⟩
  refine ⟨_, _, TextAt w.heap.size tb w.heap.size l blk, Held w.heap.size tb w.heap.size l blk, rfl, enters_of Try.func30 (by kernel_rfl) rfl, ?_, hH, (fun kb W W' hk h hb => h.but hb hk), (fun W h => h.text ho), hb⟩
  intro n W
  rw [pieces_len]
  refine Hands.weak (each2_hands n w.heap.size tb w.heap.size blk l W hR) ?_
  rintro k vs W hk ⟨v, rfl, hv⟩
  exact ⟨v, rfl, by rw [pieces_get l blk _ k hk]; exact hv⟩

set_option maxRecDepth 1000000 in
theorem each1_hands (n : Nat) (X : Nat → Array Value → World → Prop) (T : World → Prop) (w : World) : Hands Try.prog n 28 #[] X 0 T w := by
  intro l J Jx W h1 h2 h3 h4 h5 h6
  have H6 := Lib.hid h6
  clear h1 h2 h3 h4 h5 h6
  refine callsIn_of_wp Try.func28 rfl trivial ?_ rfl
  simp only [Try.ntmps28, List.size_toArray, List.length_cons, List.length_nil, Nat.reduceAdd, Nat.reduceSub, Array.replicate_succ, Array.replicate_zero, List.push_toArray, List.append_toArray, List.nil_append, List.cons_append]
  gi_wp2
  go_end0
  exact ⟨⟨_, rfl⟩, .inl H6.out⟩

theorem iter_no (a : Option Addr) (len cap : Nat) (blk : Int) (w : World) (hl : len ≤ 9223372036854775807) (h : refB len blk ≠ 0) :
    Calls Try.prog 24 #[.slice a len cap, .int .i64 blk] w fun e w' => Iter w [] e w' := by
  have HRF := Lib.hid (fun W => refused_any a len cap blk W hl)
  generalize refB len blk = r at *
  obtain ⟨w1, hw1⟩ : ∃ w1, w1 = w.alloc (.cells #[.int .i64 blk] 3) := ⟨_, rfl⟩
  have hb1 : Below w.heap.size w w1 := by rw [hw1]; exact (Below.refl _ _).alloc (Nat.le_refl _) _
  have hbb : w1.heap[w.heap.size]? = some (.cells #[.int .i64 blk] 3) := by rw [hw1]; exact heap_new _ _
  have hcell : w1.cell? ⟨w.heap.size, 0, none⟩ = some (.int .i64 blk) := by rw [cell_of_row w1 _ 0 _ _ (0, 0) hbb]; rfl
  have HB1 := Lib.hid hb1
  clear hb1 hbb
  go_enter Try.func24, Try.ntmps24
  go_upto_region 1 with (fail)
  rw [← hw1]
  clear hw1
  go_wp2_with (go_at_call 27; with_reducible refine (HRF.out _).mono ?_; rintro e w' ⟨rfl, rfl⟩)
  go_ret
  exact ⟨_, _, fun _ => True, fun _ => True, rfl, enters_of Try.func28 (by kernel_rfl) rfl, (fun n W => each1_hands n _ _ W), trivial, (fun _ _ _ _ _ _ => trivial), (fun _ _ => trivial), HB1.out⟩

/-- the mark that a range statement leaves among the deferred calls -/
abbrev mkD (r : Nat) : Deferred := { target := .collected r, args := #[] }
/-- the marks lie in blocks made since -/
def Mks (m : Nat) (rs : List Nat) (W : World) : Prop := rs.Nodup ∧ ∀ r ∈ rs, m ≤ r ∧ W.heap[r]? = some (.deferred (some []))
def Mk (wc : World) (rs : List Nat) (W : World) : Prop := Below wc.heap.size wc W ∧ Mks wc.heap.size rs W
theorem leaves_marks {n : Nat} {fn : Func} {tmps : Array Value} {R : Ending → World → Prop} {m : Nat} : ∀ (rs : List Nat) (W : World), Mks m rs W →
    (∀ W', Below m W W' → LeavesIn Fence.wide n Try.prog fn tmps R [] .returning W') → LeavesInM Fence.wide n Try.prog fn tmps R (rs.map mkD) .returning W := by
  intro rs
  induction rs with
  | nil => intro W _ h; exact h W (Below.refl _ _)
  | cons r rs ih =>
    rintro W ⟨h2, h3⟩ h
    have hr := h3 r (by simp)
    refine ⟨by simp, .inl ⟨r, _, rfl, run_takeDeferred hr.2, ih _ ⟨(List.nodup_cons.1 h2).2, ?_⟩ ?_⟩⟩
    · intro q hq
      refine ⟨(h3 q (by simp [hq])).1, ?_⟩
      have hne : q ≠ r := by intro e; subst e; exact (List.nodup_cons.1 h2).1 hq
      rw [World.putObj_heap_other (by omega)]
      exact (h3 q (by simp [hq])).2
    · intro W' hb
      exact h W' ((below_put _ hr.1).trans hb)
theorem run_fnil (gf : Nat) (lb : Array Value) (W : World) : (binOp .eql 39 (.func (.func gf) #[] lb) .nilFunc).run Try.prog W = .ok (.bool false) W := rfl
theorem Mks.add {wc W0 W3 W : World} {rs : List Nat} (h : Mks wc.heap.size rs W0) (hb : Below W0.heap.size W0 W) (h0 : wc.heap.size ≤ W0.heap.size) (h3 : W0.heap.size ≤ W3.heap.size) (hd : W.heap[W3.heap.size]? = some (.deferred (some []))) : Mks wc.heap.size (W3.heap.size :: rs) W := by
  obtain ⟨q1, q2⟩ := h
  have hlt : ∀ r ∈ rs, r < W0.heap.size := fun r hr => heap_lt (q2 r hr).2
  refine ⟨List.nodup_cons.2 ⟨fun hm => by have := hlt _ hm; omega, q1⟩, fun r hr => ?_⟩
  rcases List.mem_cons.1 hr with rfl | hr
  · exact ⟨by omega, hd⟩
  · exact ⟨(q2 r hr).1, by rw [hb.block _ (hlt r hr)]; exact (q2 r hr).2⟩
theorem cell1 {W : World} {g : Nat} {v : Value} {t : TypeId} (h : W.heap[g]? = some (.cells #[v] t)) : W.cell? ⟨g, 0, none⟩ = some v := by rw [cell_of_row W g 0 _ _ (0, 0) h]; rfl

/-- between two rounds: k blocks have been looked at, fewer than are wanted -/
def EJ (W0 : World) (H : World → Prop) (N nn k : Nat) (W : World) : Prop :=
  k ≤ N ∧ (k < nn ∨ N = 0) ∧ W.heap[W0.heap.size]? = some (.cells #[.int .i64 k] 3) ∧ H W ∧ Below W0.heap.size W0 W
/-- as many as are wanted have come -/
def EJx (W0 : World) (nn : Nat) (c : Code) (k : Nat) (W : World) : Prop :=
  c = .exit 2 ∧ W.heap[W0.heap.size]? = some (.cells #[.int .i64 nn] 3) ∧ Below W0.heap.size W0 W

set_option maxRecDepth 1000000 in
set_option maxHeartbeats 2000000 in
theorem eachlaw (a : Option Addr) (len cap : Nat) (blk most : Int) (ps : List (List Int)) (r : Int) (w : World) (hlen : len ≤ 3000) (hps : ps.length ≤ 131072) (hoct : ∀ j, Oct (ps.getD j [])) (hm0 : -9223372036854775808 ≤ most) (hm1 : most ≤ 9223372036854775807)
    (hRC : ∀ W, Below w.heap.size w W → Calls Try.prog 22 #[.slice a len cap, .int .i64 blk] W fun e w' => ∃ v, e = .returned (.tuple #[v, .int .i64 r]) ∧ MadeR w' W.heap.size v ps ∧ Below W.heap.size W w')
    (hEA : ∀ W, Below w.heap.size w W → Calls Try.prog 24 #[.slice a len cap, .int .i64 blk] W fun e w' => Iter W ps e w') :
    Calls Try.prog 6 #[.slice a len cap, .int .i64 blk, .int .i64 most] w fun e w' => e = .returned (.bool true) ∧ Below w.heap.size w w' := by
  obtain ⟨N, hN⟩ : ∃ N, N = ps.length := ⟨_, rfl⟩
  rw [← hN] at hps
  have HN := Lib.hid hN
  obtain ⟨mx, hmx⟩ : ∃ mx : Int, mx = max most 1 := ⟨_, rfl⟩
  obtain ⟨nn, hnn⟩ : ∃ nn : Nat, (nn : Int) = min mx N := ⟨(min mx N).toNat, by omega⟩
  have hmax : ∀ W, (Builtin.max_ #[3, 3] 3 #[.int .i64 most, .int .i64 1]).run Try.prog W = .ok (.int .i64 mx) W := by
    intro W
    by_cases hq : (1 : Int) ≤ most
    · have e : mx = most := by omega
      rw [e]
      simp [Builtin.max_, Builtin.max2]
      try omega
    · have e : mx = 1 := by omega
      rw [e]
      simp [Builtin.max_, Builtin.max2]
      try omega
  have hmin : ∀ W, (Builtin.min_ #[3, 3] 3 #[.int .i64 mx, .int .i64 (N : Int)]).run Try.prog W = .ok (.int .i64 (nn : Int)) W := by
    intro W
    by_cases hq : mx ≤ (N : Int)
    · have e : (nn : Int) = mx := by omega
      rw [e]
      simp [Builtin.min_, Builtin.min2]
      try omega
    · have e : (nn : Int) = (N : Int) := by omega
      rw [e]
      simp [Builtin.min_, Builtin.min2]
      try omega
  have hnN : nn ≤ N := by omega
  have hn0 : 0 < N → 0 < nn := by omega
  have HN0 := Lib.hid hn0
  have HRC := Lib.hid hRC
  have HEA := Lib.hid hEA
  have HO := Lib.hid hoct
  have HA := Lib.hid (fun W => awake5_any W)
  clear hN hmx hnn hn0 hRC hEA hoct
  obtain ⟨wa, hwa⟩ : ∃ wa, wa = w.alloc (.cells #[.bool false] 4) := ⟨_, rfl⟩
  have hba : Below w.heap.size w wa := by rw [hwa]; exact (Below.refl _ _).alloc (Nat.le_refl _) _
  have HBA := Lib.hid hba
  have HWA := Lib.hid hwa
  have hsa : wa.heap.size = w.heap.size + 1 := by rw [hwa]; simp
  have hra : wa.heap[w.heap.size]? = some (.cells #[.bool false] 4) := by rw [hwa]; exact heap_new _ _
  have HRA := Lib.hid hra
  clear hba hwa hra
  refine callsIn_wide (n := 6).1 ?_
  refine callsIn_of_wp_marks Try.func6 rfl trivial ?_ rfl
  simp only [Try.ntmps6, List.size_toArray, List.length_cons, List.length_nil, Nat.reduceAdd, Nat.reduceSub, Array.replicate_succ, Array.replicate_zero, List.push_toArray, List.append_toArray, List.nil_append, List.cons_append]
  gi_wp2_with (refine ⟨trivial, ?_⟩; gi_at_call 22; rw [← HWA.out]; refine (callsIn_wide.2 (HRC.out _ HBA.out)).mono ?_; rintro e w1 ⟨v, rfl, hM, hb1⟩; obtain ⟨av, cv, ev⟩ := row_form hM.choose_spec.2.1; rw [← HN.out] at ev; subst ev; have HM := Lib.hid hM; have HB1 := Lib.hid hb1; clear hM hb1 HRC)
  obtain ⟨wc, hwc⟩ : ∃ wc, wc = (w1.alloc (.cells #[.slice av N cv] 32)).alloc (.cells #[.int .i64 nn] 3) := ⟨_, rfl⟩
  have hb2 : Below w1.heap.size w1 wc := by rw [hwc]; exact ((Below.refl _ _).alloc (Nat.le_refl _) _).alloc (by simp) _
  have hsc : wc.heap.size = w1.heap.size + 2 := by rw [hwc]; simp
  have hyc : wc.heap[w1.heap.size]? = some (.cells #[.slice av N cv] 32) := by rw [hwc, Below.heap_alloc _ _ _ (by simp)]; exact heap_new _ _
  have hnc : wc.heap[w1.heap.size + 1]? = some (.cells #[.int .i64 nn] 3) := by
    rw [hwc]
    have := heap_new (w1.alloc (.cells #[.slice av N cv] 32)) (.cells #[.int .i64 nn] 3)
    rwa [World.size_alloc] at this
  have hs1 := HB1.out.size
  have HB2 := Lib.hid hb2
  have HYC := Lib.hid hyc
  have HNC := Lib.hid hnc
  have HBW : Hid (Below w.heap.size w wc) := (HBA.out.trans (HB1.out.mono (by omega))).trans (hb2.mono (by omega))
  have HRW : Hid (wc.heap[w.heap.size]? = some (.cells #[.bool false] 4)) := by
    show _ = _
    rw [hb2.block _ (by omega), HB1.out.block _ (by omega)]
    exact HRA.out
  have HMC : Hid (MadeR wc wa.heap.size (.slice av N cv) ps) := HM.out.keep (KeepC.of_below hb2)
  rw [← hwc]
  clear hwc hb2 hyc hnc HM HB1 HBA HWA HRA
  refine wpIn_loop (fun a' W => ∃ (i : Nat) (rs : List Nat) (u11 u12 u13 u14 u30 u31 u32 u33 u34 u35 u36 u37 u38 u39 u40 u41 u42 u43 u44 u45 u46 u47 u48 u49 u50 u51 u52 u53 u54 u55 u56 u57 u58 u59 u60 u61 u62 u63 u64 u65 u66 u67 : Value), i ≤ 2 ∧ a' = { tmps := #[Value.slice a len cap, Value.int IntKind.i64 blk, Value.int IntKind.i64 most, undef, undef, undef, Value.pointer (some ⟨w.heap.size, 0, none⟩), Value.pointer (some ⟨w1.heap.size, 0, none⟩), Value.int IntKind.i64 r, Value.pointer (some ⟨w1.heap.size + 1, 0, none⟩), Value.int IntKind.i64 i, u11, u12, u13, u14, Value.slice a len cap, Value.int IntKind.i64 len, Value.bool (decide (3000 < (len : Int))), undef, Value.tuple #[Value.slice av N cv, Value.int IntKind.i64 r], Value.slice a len cap, Value.int IntKind.i64 blk, Value.tuple #[Value.slice av N cv, Value.int IntKind.i64 r], Value.slice av N cv, Value.int IntKind.i64 r, Value.int IntKind.i64 most, Value.int IntKind.i64 mx, Value.slice av N cv, Value.int IntKind.i64 N, Value.int IntKind.i64 nn, u30, u31, u32, u33, u34, u35, u36, u37, u38, u39, u40, u41, u42, u43, u44, u45, u46, u47, u48, u49, u50, u51, u52, u53, u54, u55, u56, u57, u58, u59, u60, u61, u62, u63, u64, u65, u66, u67, undef], defers := rs.map mkD } ∧ Hid (Mk wc rs W)) (fun a' _ => 2 - (intOf (a'.tmps.getD 10 undef)).toNat) ⟨0, [], undef, undef, undef, undef, undef, undef, undef, undef, undef, undef, undef, undef, undef, undef, undef, undef, undef, undef, undef, undef, undef, undef, undef, undef, undef, undef, undef, undef, undef, undef, undef, undef, undef, undef, undef, undef, undef, undef, undef, undef, undef, undef, by omega, rfl, ⟨Below.refl _ _, List.nodup_nil, fun r h => by simp at h⟩⟩ ?_
  rintro a' W0 ⟨i, rs, u11, u12, u13, u14, u30, u31, u32, u33, u34, u35, u36, u37, u38, u39, u40, u41, u42, u43, u44, u45, u46, u47, u48, u49, u50, u51, u52, u53, u54, u55, u56, u57, u58, u59, u60, u61, u62, u63, u64, u65, u66, u67, hi, rfl, HMK⟩
  have hsz0 : wc.heap.size ≤ W0.heap.size := HMK.out.1.size
  by_cases hi2 : i < 2
  · have hI : (i : Int) < 2 := by omega
    obtain ⟨W1, hW1⟩ : ∃ W1, W1 = W0.alloc (.cells #[.int .i64 0] 3) := ⟨_, rfl⟩
    have hb01 : Below W0.heap.size W0 W1 := by rw [hW1]; exact (Below.refl _ _).alloc (Nat.le_refl _) _
    have hs01 : W1.heap.size = W0.heap.size + 1 := by rw [hW1]; simp
    have hk1 : W1.heap[W0.heap.size]? = some (.cells #[.int .i64 0] 3) := by rw [hW1]; exact heap_new _ _
    have HB01 := Lib.hid hb01
    have HK1 := Lib.hid hk1
    have HW1 := Lib.hid hW1
    have HE1 := Lib.hid (HEA.out W1 ((HBW.out.trans (HMK.out.1.mono (by have := HBW.out.size; omega))).trans (hb01.mono (by have := HBW.out.size; omega))))
    clear hb01 hk1 hW1
    have hfn := run_fnil
    gi_wp2_with (refine ⟨trivial, ?_⟩; gi_at_call 24; rw [← HW1.out]; refine (callsIn_wide.2 HE1.out).mono ?_; rintro e w3 ⟨gf, lb, T, H, rfl, hent, hhands, hH3, hHk, hHT, hb3⟩; have HENT := Lib.hid hent; have HHA := Lib.hid hhands; have HH3 := Lib.hid hH3; have HHK := Lib.hid hHk; have HHT := Lib.hid hHT; have HB3 := Lib.hid hb3; clear hent hhands hH3 hHk hHT hb3)
    clear hfn HE1
    have hs3 : W1.heap.size ≤ w3.heap.size := HB3.out.size
    have HB03 : Hid (Below W0.heap.size W0 w3) := HB01.out.trans (HB3.out.mono (by omega))
    have HK3 : Hid (w3.heap[W0.heap.size]? = some (.cells #[.int .i64 0] 3)) := by show _ = _; rw [HB3.out.block _ (by omega)]; exact HK1.out
    have hJ0 : ∀ q, EJ W0 H N nn 0 ((w3.alloc (.deferred (some []))).alloc (.loop q)) := by
      intro q
      have hbb : Below w3.heap.size w3 ((w3.alloc (.deferred (some []))).alloc (.loop q)) := ((Below.refl _ _).alloc (Nat.le_refl _) _).alloc (by simp) _
      refine ⟨by omega, by have := HN0.out; omega, (KeepC.of_below hbb).2 _ _ _ _ HK3.out, HHK.out W0.heap.size _ _ (by omega) HH3.out ((KeepC.of_below hbb).but _), HB03.out.trans (hbb.mono (by omega))⟩
    refine range_seen (gf := gf) (lb := lb) rfl HENT.out (HHA.out 5 w3) (Below.refl _ _) (EJ W0 H N nn) (EJx W0 nn)
      ?hX ?hXp ?hJp ?hJxp ?hJb ?hT hJ0
      (fun k vs => { tmps := #[Value.slice a len cap, Value.int IntKind.i64 blk, Value.int IntKind.i64 most, undef, undef, undef, Value.pointer (some ⟨w.heap.size, 0, none⟩), Value.pointer (some ⟨w1.heap.size, 0, none⟩), Value.int IntKind.i64 r, Value.pointer (some ⟨w1.heap.size + 1, 0, none⟩), Value.int IntKind.i64 i, Value.pointer (some ⟨W0.heap.size, 0, none⟩), Value.func (.func gf) #[] lb, vs.getD 0 undef, vs.getD 1 undef, Value.slice a len cap, Value.int IntKind.i64 len, Value.bool (decide (3000 < (len : Int))), undef, Value.tuple #[Value.slice av N cv, Value.int IntKind.i64 r], Value.slice a len cap, Value.int IntKind.i64 blk, Value.tuple #[Value.slice av N cv, Value.int IntKind.i64 r], Value.slice av N cv, Value.int IntKind.i64 r, Value.int IntKind.i64 most, Value.int IntKind.i64 mx, Value.slice av N cv, Value.int IntKind.i64 N, Value.int IntKind.i64 nn, Value.int IntKind.i64 i, Value.bool true, u32, u33, Value.slice a len cap, Value.int IntKind.i64 blk, Value.func (.func gf) #[] lb, Value.func (.func gf) #[] lb, Value.bool false, Value.func (.func gf) #[] lb, vs.getD 0 undef, vs.getD 1 undef, u42, u43, u44, u45, u46, u47, u48, u49, u50, u51, u52, u53, u54, u55, u56, u57, u58, u59, u60, u61, u62, u63, u64, u65, u66, u67, undef], defers := [] })
      ?assign ?body ?done ?stop
    case hX => rintro k vs W ⟨v, rfl, _⟩; rfl
    case hXp =>
      rintro k vs W o ⟨v, rfl, hv⟩ hr
      exact ⟨v, rfl, (KeepC.rec o hr).own hv⟩
    case hJp =>
      rintro k W o ⟨h1, h2, h3, h4, h5⟩ hr
      exact ⟨h1, h2, (KeepC.rec o hr).2 _ _ _ _ h3, HHK.out W0.heap.size _ _ (by omega) h4 ((KeepC.rec o hr).but _), h5.trans (below_put _ (by omega))⟩
    case hJxp =>
      rintro c k W o ⟨h1, h3, h5⟩ hr
      exact ⟨h1, (KeepC.rec o hr).2 _ _ _ _ h3, h5.trans (below_put _ (by omega))⟩
    case hJb =>
      rintro k W W' ⟨h1, h2, h3, h4, h5⟩ hb
      exact ⟨h1, h2, (KeepC.of_below hb).2 _ _ _ _ h3, HHK.out W0.heap.size _ _ (by omega) h4 ((KeepC.of_below hb).but _), h5.trans (hb.mono h5.size)⟩
    case hT =>
      rintro k W ⟨h1, h2, h3, h4, h5⟩
      exact HHT.out _ h4
    case assign =>
      rintro l' k vs W K ⟨v, rfl, _⟩ hK
      gi_wp2
      exact hK
    case body =>
      rw [← HN.out]
      rintro k vs' W hkN ⟨hk1, hk2, hkc, hH, hbel⟩ ⟨v, rfl, hv⟩ hlt
      have hkn : k < nn := by omega
      have hncW : W.heap[w1.heap.size + 1]? = some (.cells #[.int .i64 nn] 3) := by rw [hbel.block _ (by omega), HMK.out.1.block _ (by omega)]; exact HNC.out
      have hycW : W.heap[w1.heap.size]? = some (.cells #[.slice av N cv] 32) := by rw [hbel.block _ (by omega), HMK.out.1.block _ (by omega)]; exact HYC.out
      have hMW : MadeR W wa.heap.size (.slice av N cv) ps := (HMC.out.keep (KeepC.of_below HMK.out.1)).keep (KeepC.of_below hbel)
      have c1 := cell1 hncW
      have c2 := cell1 hkc
      have c3 := cell1 hycW
      have hfr : W.frozen? ⟨W0.heap.size, 0, none⟩ = false := unfrozen hkc
      obtain ⟨av', cv', ey, hform⟩ := madeR_form hMW HO.out
      rw [← HN.out] at ey hform
      simp only [Value.slice.injEq] at ey
      obtain ⟨rfl, -, rfl⟩ := ey
      obtain ⟨g, pa, pc, eg, hc, hsl⟩ := hform k hkN
      subst eg
      obtain ⟨va, vc, ev⟩ := own_form hv
      have hvs := hv.sl (HO.out k)
      obtain ⟨pl, hpl⟩ : ∃ pl, pl = (ps.getD k []).length := ⟨_, rfl⟩
      rw [← hpl] at ev hc hsl
      subst ev
      obtain ⟨x1, y1, e1, hB1, -, -⟩ := hvs
      obtain ⟨x2, y2, e2, hB2, -, -⟩ := hsl
      simp only [Value.slice.injEq] at e1 e2
      obtain ⟨rfl, -, rfl⟩ := e1
      obtain ⟨rfl, -, rfl⟩ := e2
      have r1 : ∀ n, (convert 31 9 (.slice va pl vc)).run Try.prog (W.drewN n) = .ok (.string (strOfNums (ps.getD k []))) (W.drewN n) := fun n => run_str (w := W.drewN n) hB1 pl vc hpl
      have r2 : ∀ n, (convert 31 9 (.slice pa pl pc)).run Try.prog (W.drewN n) = .ok (.string (strOfNums (ps.getD k []))) (W.drewN n) := fun n => run_str (w := W.drewN n) hB2 pl pc hpl
      generalize strOfNums (ps.getD k []) = S at r1 r2
      have hkI : (k : Int) < (N : Int) := by omega
      have HHW := Lib.hid hH
      have HBEL := Lib.hid hbel
      have HKC := Lib.hid hkc
      have hs0W : W0.heap.size < W.heap.size := heap_lt hkc
      clear hB1 hB2 hpl hv hMW hform hncW hycW hH hbel hkc
      have d1 : decide ((nn : Int) ≤ (k : Int)) = false := decide_eq_false (by omega)
      have d1n : decide (nn ≤ k) = false := decide_eq_false (by omega)
      by_cases hlast : k + 1 = nn
      · gi_wp2
        refine QuietRound.region_quiet (by kernel_rfl) (by kernel_rfl) (by kernel_rfl) ?_
        repeat (gi_big_quiet_step (fail))
        refine wpQuietIn_nil ?_
        rintro _ ⟨nq, rfl⟩
        clear d1 d1n r1 r2
        gi_wp2
        have hx1 : ((W.drewN nq).setCell ⟨W0.heap.size, 0, none⟩ (.int .i64 ((k : Int) + 1))).heap[W0.heap.size]? = some (.cells #[.int .i64 ((k : Int) + 1)] 3) := by
          rw [Joins.block_setCell (w := W.drewN nq) HKC.out _]; rfl
        have hx2 : ∀ b, b ≠ W0.heap.size → ((W.drewN nq).setCell ⟨W0.heap.size, 0, none⟩ (.int .i64 ((k : Int) + 1))).heap[b]? = W.heap[b]? := fun b hb => Below.heap_setCell (W.drewN nq) _ _ _ hb
        have hx3 : Below W0.heap.size W0 ((W.drewN nq).setCell ⟨W0.heap.size, 0, none⟩ (.int .i64 ((k : Int) + 1))) := (below_drewN HBEL.out nq).setCell (Nat.le_refl _) _
        have ek : ((k : Int) + 1) = (nn : Int) := by omega
        refine ⟨⟨hx2 _ (by omega), hx2 _ (by omega)⟩, rfl, ?_, hx3⟩
        rw [hx1, ek]
      · gi_wp2
        refine QuietRound.region_quiet (by kernel_rfl) (by kernel_rfl) (by kernel_rfl) ?_
        repeat (gi_big_quiet_step (fail))
        refine wpQuietIn_nil ?_
        rintro _ ⟨nq, rfl⟩
        clear d1 d1n r1 r2
        gi_wp2
        have hx1 : ((W.drewN nq).setCell ⟨W0.heap.size, 0, none⟩ (.int .i64 ((k : Int) + 1))).heap[W0.heap.size]? = some (.cells #[.int .i64 ((k : Int) + 1)] 3) := by
          rw [Joins.block_setCell (w := W.drewN nq) HKC.out _]; rfl
        have hx2 : ∀ b, b ≠ W0.heap.size → ((W.drewN nq).setCell ⟨W0.heap.size, 0, none⟩ (.int .i64 ((k : Int) + 1))).heap[b]? = W.heap[b]? := fun b hb => Below.heap_setCell (W.drewN nq) _ _ _ hb
        have hx3 : Below W0.heap.size W0 ((W.drewN nq).setCell ⟨W0.heap.size, 0, none⟩ (.int .i64 ((k : Int) + 1))) := (below_drewN HBEL.out nq).setCell (Nat.le_refl _) _
        refine ⟨⟨hx2 _ (by omega), hx2 _ (by omega)⟩, by omega, .inl (by omega), ?_, HHK.out W0.heap.size W _ (by omega) HHW.out ⟨by simp [World.setCell], fun b c t fr hne hb => ?_⟩, hx3⟩
        · rw [hx1]; rfl
        · rw [hx2 b hne]; exact hb
    case done =>
      rw [← HN.out]
      rintro W ⟨hk1, hk2, hkc, hH, hbel⟩ hD hlt
      have hN0 : N = 0 := by omega
      have hn0 : nn = 0 := by omega
      have hncW : W.heap[w1.heap.size + 1]? = some (.cells #[.int .i64 nn] 3) := by rw [hbel.block _ (by omega), HMK.out.1.block _ (by omega)]; exact HNC.out
      have c1 := cell1 hncW
      have c2 := cell1 hkc
      rw [hN0] at c2
      rw [hn0] at c1
      have HMKS := Lib.hid (HMK.out.2.add hbel (by omega) (by omega) hD)
      have HBEL : Hid (Below wc.heap.size wc W) := HMK.out.1.trans (hbel.mono (by omega))
      clear hbel hkc hncW hD
      gi_wp2
      refine ⟨⟨i + 1, w3.heap.size :: rs, _, _, _, _, _, _, _, _, _, _, _, _, _, _, _, _, _, _, _, _, _, _, _, _, _, _, _, _, _, _, _, _, _, _, _, _, _, _, _, _, _, _, by omega, rfl, ⟨HBEL.out, HMKS.out⟩⟩, ?_⟩
      simp [intOf]
      omega
    case stop =>
      rintro c k W _ ⟨rfl, hkc, hbel⟩ hD hlt
      have hncW : W.heap[w1.heap.size + 1]? = some (.cells #[.int .i64 nn] 3) := by rw [hbel.block _ (by omega), HMK.out.1.block _ (by omega)]; exact HNC.out
      have c1 := cell1 hncW
      have c2 := cell1 hkc
      have HMKS := Lib.hid (HMK.out.2.add hbel (by omega) (by omega) hD)
      have HBEL : Hid (Below wc.heap.size wc W) := HMK.out.1.trans (hbel.mono (by omega))
      clear hbel hkc hncW hD
      gi_wp2
      refine ⟨⟨i + 1, w3.heap.size :: rs, _, _, _, _, _, _, _, _, _, _, _, _, _, _, _, _, _, _, _, _, _, _, _, _, _, _, _, _, _, _, _, _, _, _, _, _, _, _, _, _, _, _, by omega, rfl, ⟨HBEL.out, HMKS.out⟩⟩, ?_⟩
      simp [intOf]
      omega
  · have hi3 : i = 2 := by omega
    subst hi3
    have hr0 : W0.heap[w.heap.size]? = some (.cells #[.bool false] 4) := by rw [HMK.out.1.block _ (by omega)]; exact HRW.out
    have hrc := cell1 hr0
    have hrf : W0.frozen? ⟨w.heap.size, 0, none⟩ = false := unfrozen hr0
    have HR0 := Lib.hid hr0
    clear hr0
    gi_wp2_with (refine ⟨trivial, ?_⟩; gi_at_call 16; refine (callsIn_wide.2 (HA.out _)).mono ?_; rintro e w' ⟨rfl, rfl⟩)
    refine leaves_marks (m := wc.heap.size) rs _ ⟨HMK.out.2.1, fun q hq => ⟨(HMK.out.2.2 q hq).1, ?_⟩⟩ ?_
    · rw [Below.heap_setCell _ _ _ _ (by have := (HMK.out.2.2 q hq).1; show q ≠ w.heap.size; omega)]
      exact (HMK.out.2.2 q hq).2
    · intro W' hb
      have h1 : W'.heap[w.heap.size]? = some (.cells #[.bool true] 4) := by
        rw [hb.block _ (by omega), Joins.block_setCell HR0.out _]; rfl
      have hc1 := cell1 h1
      have hbb : Below w.heap.size w W' := ((HBW.out.trans (HMK.out.1.mono (by omega))).setCell (Nat.le_refl _) _).trans (hb.mono (by omega))
      refine ⟨.bool true, ?_, rfl, hbb⟩
      simp [results, loadVar, asAddr, go_sem, hc1]
end Go.Proofs.Ytjkbacbofkcipaa
