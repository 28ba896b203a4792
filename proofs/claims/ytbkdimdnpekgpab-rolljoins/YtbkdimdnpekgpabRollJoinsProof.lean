/- For every three byte slices the joined rolling sums are one whichever two are joined first: the law RollJoins returns true and leaves its arguments as they were. Conditions: none. -/
import Derived.Test.YtbkdimdnpekgpabRows
import Derived.Test.YtbkdimdnpekgpabBase
import Derived.Test.YtbkdimdnpekgpabRow
import Derived.SizedLaws
import Derived.WalkKit
import Derived.ProofKit
import Derived.OpenShut
import Derived.ShutString
import Derived.ChangeOld
import Derived.Below
namespace Go.Proofs.Ytbkdimdnpekgpab.rollJoins
open Go.Proofs.RollMath
open Go.ChangeShapes Go.WideShapes Go.ChangeAt Go.RowKit
open Go.ChangeMaps (open_string shut_string)
set_option linter.unusedVariables false

theorem own : ownKnob Try.prog.godebug = none := by kernel_rfl
theorem laidOut : laidOutB Try.prog = true := by kernel_rfl

/-! ### STEP 1: THE WALK: the Go text returns true, AND WRITES NOTHING THAT WAS THERE: 'Below w.heap.size w w'' (Derived/Below.lean: '.refl', '.alloc', '.drew', '.setCell' at a new block, '.trans'). Open each 'IsRow' by 'rcases' AHEAD of 'go_enter'; part every test ahead of the walk. -/
set_option maxHeartbeats 4000000 in
set_option maxRecDepth 1000000 in
theorem walk (a0 : Option Addr) (len0 cap0 : Nat) (z0 : List Int) (a1 : Option Addr) (len1 cap1 : Nat) (z1 : List Int) (a2 : Option Addr) (len2 cap2 : Nat) (z2 : List Int) (w : World) (w0 : IsRow .u8 w a0 len0 cap0 z0) (w1 : IsRow .u8 w a1 len1 cap1 z1) (w2 : IsRow .u8 w a2 len2 cap2 z2) (bd0 : len0 ≤ 140737488351232) (bd1 : len1 ≤ 140737488351232) (bd2 : len2 ≤ 140737488351232) :
    Calls Try.prog 6 #[.slice a0 len0 cap0, .slice a1 len1 cap1, .slice a2 len2 cap2] w fun e w' => e = .returned (.bool true) ∧ Below w.heap.size w w' := by
  obtain ⟨hl, hB⟩ := bytes_of w0
  obtain ⟨hl1, hB1⟩ := bytes_of w1
  obtain ⟨hl2, hB2⟩ := bytes_of w2
  obtain ⟨A0, hA0⟩ : ∃ A, A = z0.take len0 := ⟨_, rfl⟩
  obtain ⟨A1, hA1⟩ : ∃ A, A = z1.take len1 := ⟨_, rfl⟩
  obtain ⟨A2, hA2⟩ : ∃ A, A = z2.take len2 := ⟨_, rfl⟩
  rw [← hA0] at hl hB
  rw [← hA1] at hl1 hB1
  rw [← hA2] at hl2 hB2
  have H9 := Lib.hid (fun cap => of_any a0 len0 cap A0 w hl.1.symm (by omega) hB)
  have H91 := Lib.hid (fun cap => of_any a1 len1 cap A1 w hl1.1.symm (by omega) hB1)
  have H92 := Lib.hid (fun cap => of_any a2 len2 cap A2 w hl2.1.symm (by omega) hB2)
  have e01 : joinS (sumOf A0) (sumOf A1) len1 = sumOf (A0 ++ A1) := by rw [← hl1.1]; exact join_sum _ _
  have e012 : joinS (sumOf (A0 ++ A1)) (sumOf A2) len2 = sumOf (A0 ++ (A1 ++ A2)) := by rw [← hl2.1, ← List.append_assoc]; exact join_sum _ _
  have e12 : joinS (sumOf A1) (sumOf A2) len2 = sumOf (A1 ++ A2) := by rw [← hl2.1]; exact join_sum _ _
  have e3 : joinS (sumOf A0) (sumOf (A1 ++ A2)) ((len1 : Int) + (len2 : Int)) = sumOf (A0 ++ (A1 ++ A2)) := by
    have h := join_sum A0 (A1 ++ A2)
    rw [List.length_append, hl1.1, hl2.1] at h
    rw [← h]; simp
  have b0 := sumOf_bd A0
  have b1 := sumOf_bd A1
  have b2 := sumOf_bd A2
  have b01 := sumOf_bd (A0 ++ A1)
  have b12 := sumOf_bd (A1 ++ A2)
  generalize sumOf A0 = s0 at *
  generalize sumOf A1 = s1 at *
  generalize sumOf A2 = s2 at *
  generalize sumOf (A0 ++ A1) = s01 at *
  generalize sumOf (A1 ++ A2) = s12 at *
  generalize sumOf (A0 ++ (A1 ++ A2)) = s at *
  have J1 : Hid (∀ W, Calls Try.prog 18 #[.int .u32 s0, .int .u32 s1, .int .i64 len1] W fun e w' => e = .returned (.int .u32 s01) ∧ W = w') := by
    intro W; have h := join_any s0 s1 len1 W b0.1 b0.2 b1.1 b1.2; rw [e01] at h; exact h
  have J2 : Hid (∀ W, Calls Try.prog 18 #[.int .u32 s01, .int .u32 s2, .int .i64 len2] W fun e w' => e = .returned (.int .u32 s) ∧ W = w') := by
    intro W; have h := join_any s01 s2 len2 W b01.1 b01.2 b2.1 b2.2; rw [e012] at h; exact h
  have J3 : Hid (∀ W, Calls Try.prog 18 #[.int .u32 s1, .int .u32 s2, .int .i64 len2] W fun e w' => e = .returned (.int .u32 s12) ∧ W = w') := by
    intro W; have h := join_any s1 s2 len2 W b1.1 b1.2 b2.1 b2.2; rw [e12] at h; exact h
  have J4 : Hid (∀ W, Calls Try.prog 18 #[.int .u32 s0, .int .u32 s12, .int .i64 ((len1 : Int) + (len2 : Int))] W fun e w' => e = .returned (.int .u32 s) ∧ W = w') := by
    intro W; have h := join_any s0 s12 ((len1 : Int) + (len2 : Int)) W b0.1 b0.2 b12.1 b12.2; rw [e3] at h; exact h
  have J5 : Hid (∀ W, Calls Try.prog 18 #[.int .u32 0, .int .u32 s0, .int .i64 len0] W fun e w' => e = .returned (.int .u32 s0) ∧ W = w') := by
    intro W; have h := join_any 0 s0 len0 W (by omega) (by omega) b0.1 b0.2; rw [join_zero s0 len0 b0.1 b0.2] at h; exact h
  have J6 : Hid (∀ W, Calls Try.prog 18 #[.int .u32 s0, .int .u32 0, .int .i64 0] W fun e w' => e = .returned (.int .u32 s0) ∧ W = w') := by
    intro W; have h := join_any s0 0 0 W b0.1 b0.2 (by omega) (by omega); rw [join_none s0 b0.1 b0.2] at h; exact h
  clear hB hB1 hB2 hA0 hA1 hA2 hl hl1 hl2 w0 w1 w2 e01 e012 e12 e3 b0 b1 b2 b01 b12
  by_cases hc : 200000 < (len0 : Int) + len1 + len2
  · go_enter Try.func6, Try.ntmps6
    go_wp2_with (go_at_call 11; refine (awake_any _).mono ?_; rintro e w' ⟨rfl, hb⟩)
    go_ret
    exact ⟨rfl, hb⟩
  · go_enter Try.func6, Try.ntmps6
    go_wp2_with (first | (go_at_call 9; with_reducible refine (H9.out _).mono ?_; rintro e w' ⟨rfl, rfl⟩) | (go_at_call 9; with_reducible refine (H91.out _).mono ?_; rintro e w' ⟨rfl, rfl⟩) | (go_at_call 9; with_reducible refine (H92.out _).mono ?_; rintro e w' ⟨rfl, rfl⟩) | (go_at_call 11; refine (awake_any _).mono ?_; rintro e w' ⟨rfl, hb⟩) | (go_at_call 18; (first | with_reducible refine (J1.out _).mono ?_ | with_reducible refine (J2.out _).mono ?_ | with_reducible refine (J3.out _).mono ?_ | with_reducible refine (J4.out _).mono ?_ | with_reducible refine (J5.out _).mono ?_ | with_reducible refine (J6.out _).mono ?_); rintro e w' ⟨rfl, rfl⟩))
    go_ret
    exact ⟨rfl, hb⟩

theorem bytes5 : Try.prog.bytesOf 5 = 1 := by kernel_rfl

/-! ### THE ROW's STEP: WRITTEN OUT: LEAVE IT -/
set_option maxRecDepth 100000 in
theorem lifted (os : Os) (started : os.Started) (H : Type) (enc : TypeId × Value → H) :
    ReturnsInHanded {} Try.checked os 6 .any (Rows.rollJoinsSpec.pre6 enc Try.prog Try.f6 Rows.rollJoinsRow.domain false) (Rows.rollJoinsSpec.post enc Try.prog Try.f6 false true false false) := by
  refine returnsInHanded_of_change_sized (C := Try.checked) own started (by kernel_rfl) Try.func6
    (ChangeSpec.witness6 (enc := enc) (C := Try.checked) false ⟨#[], #[.slice none 0 0, .slice none 0 0, .slice none 0 0], []⟩ 8 (by kernel_rfl) (by kernel_rfl) (by kernel_rfl) (by kernel_rfl)) ?_
  intro W base args ds gs before hval0 hW hcnd hsz0 _
  have hval : ∀ (j : Nat) t v, Try.f6.params[j]? = some t → args[j]? = some v → Value.okWide Try.prog W .any base t v := hval0
  have hsz : (DataW.weightsEach Try.prog (Try.f6.params.toList ++ Rows.rollJoinsSpec.plain.varTypes Try.prog) (ds ++ gs)).all (· ≤ reachBytes) = true := hsz0
  have hW' := hW
  obtain ⟨p, q, hA0, hV, rfl, hfz, hnd⟩ := hW
  have hA : DataW.TrodAll enc Try.prog W 0 (fun _ => true) true Try.f6.params.toList args.toList ds p := hA0
  rw [Try.params6] at hA hval hsz
  obtain ⟨v0, vs0, d0, ds0, p0, q0, hargs, rfl, rfl, h0, r0⟩ := trodAll_cons hA
  obtain ⟨v1, vs1, d1, ds1, p1, q1, rfl, rfl, rfl, h1, r1⟩ := trodAll_cons r0
  obtain ⟨v2, vs2, d2, ds2, p2, q2, rfl, rfl, rfl, h2, r2⟩ := trodAll_cons r1
  obtain ⟨rfl, rfl, rfl⟩ := trodAll_nil r2
  obtain rfl : args = #[v0, v1, v2] := by cases args; simp_all
  obtain ⟨rfl, rfl⟩ := trodVars_none hV
  obtain ⟨a0, len0, cap0, rfl⟩ := okWide_slice Try.underlying22 (hval 0 22 v0 rfl rfl)
  have k0 := h0
  have lt0 : ∀ x ∈ p0, x.block < W.heap.size := by obtain ⟨m, hm⟩ := k0; exact DataW.trod_lt m _ _ _ hm
  obtain ⟨z0, w0, bd0⟩ : ∃ zs, IsRow .u8 W a0 len0 cap0 zs ∧ len0 ≤ 140737488351232 := by
    obtain ⟨fuel, hf⟩ := h0
    rcases open_ints Try.underlying22 Try.underlying5 (by kernel_rfl) hf with ⟨hcs, _⟩ | ⟨x, l, c, zs, hcs, _, hl, hm, hz, hx, hcell, hwz⟩
    · simp [Value.cells] at hcs
      obtain ⟨rfl, rfl, rfl⟩ := hcs
      exact ⟨[], .inl ⟨rfl, rfl, rfl, rfl⟩, Nat.zero_le _⟩
    · simp [Value.cells] at hcs
      obtain ⟨rfl, rfl, rfl⟩ := hcs
      refine ⟨zs, .inr ⟨_, rfl, hl, hm, by simpa using hz, hcell, hwz⟩, ?_⟩
      simp only [Prod.mk.injEq] at hx
      have hd := hx.1
      subst hd
      have hb := sized_slice hsz (j := 0) (t := 22) (e := 5) rfl rfl Try.underlying22
      rw [bytes5] at hb
      have hz' : zs.length = cap0 := by simpa using hz
      simp only [lits, List.length_map, List.length_take, List.length_drop, reachBytes] at hb
      omega
  obtain ⟨a1, len1, cap1, rfl⟩ := okWide_slice Try.underlying22 (hval 1 22 v1 rfl rfl)
  have k1 := h1
  have lt1 : ∀ x ∈ p1, x.block < W.heap.size := by obtain ⟨m, hm⟩ := k1; exact DataW.trod_lt m _ _ _ hm
  obtain ⟨z1, w1, bd1⟩ : ∃ zs, IsRow .u8 W a1 len1 cap1 zs ∧ len1 ≤ 140737488351232 := by
    obtain ⟨fuel, hf⟩ := h1
    rcases open_ints Try.underlying22 Try.underlying5 (by kernel_rfl) hf with ⟨hcs, _⟩ | ⟨x, l, c, zs, hcs, _, hl, hm, hz, hx, hcell, hwz⟩
    · simp [Value.cells] at hcs
      obtain ⟨rfl, rfl, rfl⟩ := hcs
      exact ⟨[], .inl ⟨rfl, rfl, rfl, rfl⟩, Nat.zero_le _⟩
    · simp [Value.cells] at hcs
      obtain ⟨rfl, rfl, rfl⟩ := hcs
      refine ⟨zs, .inr ⟨_, rfl, hl, hm, by simpa using hz, hcell, hwz⟩, ?_⟩
      simp only [Prod.mk.injEq] at hx
      have hd := hx.1
      subst hd
      have hb := sized_slice hsz (j := 1) (t := 22) (e := 5) rfl rfl Try.underlying22
      rw [bytes5] at hb
      have hz' : zs.length = cap1 := by simpa using hz
      simp only [lits, List.length_map, List.length_take, List.length_drop, reachBytes] at hb
      omega
  obtain ⟨a2, len2, cap2, rfl⟩ := okWide_slice Try.underlying22 (hval 2 22 v2 rfl rfl)
  have k2 := h2
  have lt2 : ∀ x ∈ p2, x.block < W.heap.size := by obtain ⟨m, hm⟩ := k2; exact DataW.trod_lt m _ _ _ hm
  obtain ⟨z2, w2, bd2⟩ : ∃ zs, IsRow .u8 W a2 len2 cap2 zs ∧ len2 ≤ 140737488351232 := by
    obtain ⟨fuel, hf⟩ := h2
    rcases open_ints Try.underlying22 Try.underlying5 (by kernel_rfl) hf with ⟨hcs, _⟩ | ⟨x, l, c, zs, hcs, _, hl, hm, hz, hx, hcell, hwz⟩
    · simp [Value.cells] at hcs
      obtain ⟨rfl, rfl, rfl⟩ := hcs
      exact ⟨[], .inl ⟨rfl, rfl, rfl, rfl⟩, Nat.zero_le _⟩
    · simp [Value.cells] at hcs
      obtain ⟨rfl, rfl, rfl⟩ := hcs
      refine ⟨zs, .inr ⟨_, rfl, hl, hm, by simpa using hz, hcell, hwz⟩, ?_⟩
      simp only [Prod.mk.injEq] at hx
      have hd := hx.1
      subst hd
      have hb := sized_slice hsz (j := 2) (t := 22) (e := 5) rfl rfl Try.underlying22
      rw [bytes5] at hb
      have hz' : zs.length = cap2 := by simpa using hz
      simp only [lits, List.length_map, List.length_take, List.length_drop, reachBytes] at hb
      omega
  clear hA0 hval0
  refine (walk a0 len0 cap0 z0 a1 len1 cap1 z1 a2 len2 cap2 z2 W w0 w1 w2 bd0 bd1 bd2).mono fun e W' ⟨he, bel⟩ => ?_
  subst he
  exact ⟨_, rfl, _, _, _, [], _, [], hW', trodAll_mk1 (shut_bool Try.underlying4 _), (trodAll_cons_mk (Below.trod laidOut (by kernel_rfl) (of_decide_eq_true (by kernel_rfl)) k0 bel lt0) (trodAll_cons_mk (Below.trod laidOut (by kernel_rfl) (of_decide_eq_true (by kernel_rfl)) k1 bel lt1) (trodAll_cons_mk (Below.trod laidOut (by kernel_rfl) (of_decide_eq_true (by kernel_rfl)) k2 bel lt2) trodAll_mk0))), rfl, bel.frame _, fun h => by cases h⟩

theorem over : Rows.rollJoinsRow.holds Try.pinned (OpenSpec.ofChange Rows.rollJoinsSpec) :=
  OpenClaim.holds_of_wide 6 Try.f6 rfl rfl rfl rfl rfl rfl rfl ⟨rfl, rfl, rfl, rfl, rfl⟩ rfl rfl rfl rfl rfl (by kernel_rfl) Try.func6 (by kernel_rfl)
    (of_decide_eq_true (by kernel_rfl)) (by unfold Func.isWrapper; first | (rw [if_pos (by decide +kernel)]; kernel_rfl) | (rw [if_neg (by decide +kernel)]; exact ⟨rfl, rfl⟩))
    (fun os started H enc _ => lifted os started H enc)

/-- ████ THE STATEMENT ████ -/
theorem proved : Rows.RollJoinsSaid := over
#print axioms proved
end Go.Proofs.Ytbkdimdnpekgpab.rollJoins
