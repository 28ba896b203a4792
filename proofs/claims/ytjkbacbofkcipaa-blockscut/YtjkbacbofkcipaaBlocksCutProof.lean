/- P5.4: Cut hands back the blocks that the document's own Cut hands back, with the same error, and they share no memory with the text: adding 1 to each of their bytes leaves the text as it was. The law BlocksCut returns true for every slice of bytes and every block length and changes no memory that was there; the guard of the law (at most 140,000 bytes) is the law's own. -/
import Derived.Test.YtjkbacbofkcipaaRows
import Derived.Test.YtjkbacbofkcipaaBCutLaw
import Derived.WalkKit
import Derived.ProofKit
import Derived.OpenShut
import Derived.ShutString
import Derived.ChangeOld
import Derived.Below
namespace Go.Proofs.Ytjkbacbofkcipaa.blocksCut
open Go.Proofs.Ytjkbacbofkcipaa
open Go.Proofs.BlkMath
open Go.ChangeShapes Go.WideShapes Go.ChangeAt Go.RowKit
open Go.ChangeMaps (open_string shut_string)
set_option linter.unusedVariables false

theorem own : ownKnob Try.prog.godebug = none := by kernel_rfl
theorem laidOut : laidOutB Try.prog = true := by kernel_rfl

/-! ### STEP 1: THE WALK: the Go text returns true, AND WRITES NOTHING THAT WAS THERE: 'Below w.heap.size w w'' (Derived/Below.lean: '.refl', '.alloc', '.drew', '.setCell' at a new block, '.trans'). Open each 'IsRow' by 'rcases' AHEAD of 'go_enter'; part every test ahead of the walk. -/
set_option maxHeartbeats 8000000 in
set_option maxRecDepth 1000000 in
theorem walk (a0 : Option Addr) (len0 cap0 : Nat) (z0 : List Int) (a1 : Int) (w : World) (w0 : IsRow .u8 w a0 len0 cap0 z0) (w1 : (Lit.int .i64 a1).wf = true) :
    Calls Try.prog 5 #[.slice a0 len0 cap0, .int .i64 a1] w fun e w' => e = .returned (.bool true) ∧ Below w.heap.size w w' := by
  obtain ⟨hlen, hB, hnil, hcap, hcm⟩ := bytes_of w0
  have hA := Lib.hid (fun W => awake5_any W)
  by_cases hbig : len0 ≤ 140000
  · by_cases hr : refB len0 a1 = 0
    · have hR : Rt len0 a1 := by
        unfold refB at hr
        unfold Rt
        split at hr
        · split at hr
          · omega
          · omega
        · omega
      obtain ⟨blk, hblk⟩ : ∃ blk : Nat, a1 = (blk : Int) := ⟨a1.toNat, by unfold Rt at hR; omega⟩
      subst hblk
      exact cutlaw_yes a0 len0 cap0 (z0.take len0) blk w hlen ⟨a0, cap0, by rw [← hlen], hB, hnil, by rw [← hlen]; exact hcap⟩ hB.1 hR
    · have hC := Lib.hid (cut_no a0 len0 cap0 a1 w (by omega) hr)
      have hD := Lib.hid (rcut_no a0 len0 cap0 a1 w (by omega) hr)
      have hSm := Lib.hid (same_made (.slice none 0 0) (.slice none 0 0) [] 0 0 w (MadeR.none _ _) (MadeR.none _ _) (fun j c hc => by simp at hc) (by simp))
      have HB0 := Lib.hid hB
      have HL0 := Lib.hid hlen
      have hst : Hid (∀ W, Below w.heap.size w W → (convert 31 9 (.slice a0 len0 cap0)).run Try.prog W = .ok (.string (strOfNums (z0.take len0))) W) := fun W hb => run_str (HB0.out.later hb) len0 cap0 HL0.out
      generalize strOfNums (z0.take len0) = S at hst
      clear hlen hB w0 HB0 HL0
      generalize refB len0 a1 = r at *
      go_enter Try.func5, Try.ntmps5
      go_wp2_with (first | (go_at_call 21; refine hC.out.mono ?_; rintro e w' ⟨rfl, rfl⟩) | (go_at_call 22; refine hD.out.mono ?_; rintro e w' ⟨rfl, rfl⟩) | (go_at_call 23; refine hSm.out.mono ?_; rintro e w' ⟨rfl, hb⟩; have hs := hst.out _ hb; have HB := Lib.hid hb; clear hb))
      go_loop [10] (fun c => c = .int .i64 0) (fun _ => 0)
      case atStart => rfl
      case round =>
        subst hrel
        go_wp2_with (go_at_call 16; refine (hA.out _).mono ?_; rintro e w' ⟨rfl, rfl⟩)
        go_ret
        exact ⟨rfl, HB.out⟩
  · clear hlen hB w0
    go_enter Try.func5, Try.ntmps5
    go_wp2_with (go_at_call 16; refine (hA.out _).mono ?_; rintro e w' ⟨rfl, rfl⟩)
    go_ret
    exact ⟨rfl, Below.refl _ _⟩

/-! ### THE ROW's STEP: WRITTEN OUT: LEAVE IT -/
set_option maxRecDepth 100000 in
theorem lifted (os : Os) (started : os.Started) (H : Type) (enc : TypeId × Value → H) :
    ReturnsInHanded {} Try.checked os 5 .any (Rows.blocksCutSpec.pre6 enc Try.prog Try.f5 Rows.blocksCutRow.domain false) (Rows.blocksCutSpec.post enc Try.prog Try.f5 false true false false) := by
  refine returnsInHanded_of_change (C := Try.checked) own started (by kernel_rfl) Try.func5
    (ChangeSpec.witness6 (enc := enc) (C := Try.checked) false ⟨#[], #[.slice none 0 0, .int .i64 0], []⟩ 8 (by kernel_rfl) (by kernel_rfl) (by kernel_rfl) (by kernel_rfl)) ?_
  intro W base args ds gs before hval0 hW hcnd _
  have hval : ∀ (j : Nat) t v, Try.f5.params[j]? = some t → args[j]? = some v → Value.okWide Try.prog W .any base t v := hval0
  have hW' := hW
  obtain ⟨p, q, hA0, hV, rfl, hfz, hnd⟩ := hW
  have hA : DataW.TrodAll enc Try.prog W 0 (fun _ => true) true Try.f5.params.toList args.toList ds p := hA0
  rw [Try.params5] at hA hval
  obtain ⟨v0, vs0, d0, ds0, p0, q0, hargs, rfl, rfl, h0, r0⟩ := trodAll_cons hA
  obtain ⟨v1, vs1, d1, ds1, p1, q1, rfl, rfl, rfl, h1, r1⟩ := trodAll_cons r0
  obtain ⟨rfl, rfl, rfl⟩ := trodAll_nil r1
  obtain rfl : args = #[v0, v1] := by cases args; simp_all
  obtain ⟨rfl, rfl⟩ := trodVars_none hV
  obtain ⟨a0, len0, cap0, rfl⟩ := okWide_slice Try.underlying31 (hval 0 31 v0 rfl rfl)
  have k0 := h0
  have lt0 : ∀ x ∈ p0, x.block < W.heap.size := by obtain ⟨m, hm⟩ := k0; exact DataW.trod_lt m _ _ _ hm
  obtain ⟨z0, w0⟩ : ∃ zs, IsRow .u8 W a0 len0 cap0 zs := by
    obtain ⟨fuel, hf⟩ := h0
    rcases open_ints Try.underlying31 Try.underlying5 (by kernel_rfl) hf with ⟨hcs, _⟩ | ⟨x, l, c, zs, hcs, _, hl, hm, hz, _, hcell, hwz⟩
    · simp [Value.cells] at hcs
      obtain ⟨rfl, rfl, rfl⟩ := hcs
      exact ⟨[], .inl ⟨rfl, rfl, rfl, rfl⟩⟩
    · simp [Value.cells] at hcs
      obtain ⟨rfl, rfl, rfl⟩ := hcs
      exact ⟨zs, .inr ⟨_, rfl, hl, hm, by simpa using hz, hcell, hwz⟩⟩
  obtain ⟨a1, rfl, rfl, rfl, w1⟩ := open_int Try.underlying3 (hval 1 3 v1 rfl rfl) h1
  clear hA0 hval0
  refine (walk a0 len0 cap0 z0 a1 W w0 w1).mono fun e W' ⟨he, bel⟩ => ?_
  subst he
  exact ⟨_, rfl, _, _, _, [], _, [], hW', trodAll_mk1 (shut_bool Try.underlying4 _), (trodAll_cons_mk (Below.trod laidOut (by kernel_rfl) (of_decide_eq_true (by kernel_rfl)) k0 bel lt0) (trodAll_cons_mk (shut_int Try.underlying3 w1) trodAll_mk0)), rfl, bel.frame _, fun h => by cases h⟩

theorem over : Rows.blocksCutRow.holds Try.pinned (OpenSpec.ofChange Rows.blocksCutSpec) :=
  OpenClaim.holds_of_wide 5 Try.f5 rfl rfl rfl rfl rfl rfl rfl ⟨rfl, rfl, rfl, rfl, rfl⟩ rfl rfl rfl rfl rfl (by kernel_rfl) Try.func5 (by kernel_rfl)
    (of_decide_eq_true (by kernel_rfl)) (by unfold Func.isWrapper; first | (rw [if_pos (by decide +kernel)]; kernel_rfl) | (rw [if_neg (by decide +kernel)]; exact ⟨rfl, rfl⟩))
    (fun os started H enc _ => lifted os started H enc)

/-- ████ THE STATEMENT ████ -/
theorem proved : Rows.BlocksCutSaid := over
#print axioms proved
end Go.Proofs.Ytjkbacbofkcipaa.blocksCut
