/- SquashPacks holds for every text and every number: the program's packing of a text of at most 3000 bytes is the document's, of 65537 zero bytes there is none, the bounds are the same, and the chapter's small case comes out. -/
import Derived.Test.YtkbpjgkggmbbjaaRows
import Derived.Test.YtkbpjgkggmbbjaaSqAwake
import Derived.Test.YtkbpjgkggmbbjaaSqRPack
import Derived.WalkKit
import Derived.ProofKit
import Derived.OpenShut
import Derived.ShutString
import Derived.ChangeOld
import Derived.Below
namespace Go.Proofs.Ytkbpjgkggmbbjaa.squashPacks
open Go.Proofs.Ytkbpjgkggmbbjaa
open Go.Proofs.Ytkbpjgkggmbbjaa.Sq
open Go.ChangeShapes Go.WideShapes Go.ChangeAt Go.RowKit
open Go.ChangeMaps (open_string shut_string)
set_option linter.unusedVariables false

theorem own : ownKnob Try.prog.godebug = none := by kernel_rfl
theorem laidOut : laidOutB Try.prog = true := by kernel_rfl

/-! ### STEP 1: THE WALK: the Go text returns true, AND WRITES NOTHING THAT WAS THERE: 'Below w.heap.size w w'' (Derived/Below.lean: '.refl', '.alloc', '.drew', '.setCell' at a new block, '.trans'). Open each 'IsRow' by 'rcases' AHEAD of 'go_enter'; part every test ahead of the walk. -/
set_option maxHeartbeats 8000000 in
set_option maxRecDepth 1000000 in
theorem walk (a0 : Option Addr) (len0 cap0 : Nat) (z0 : List Int) (a1 : Int) (w : World) (w0 : IsRow .u8 w a0 len0 cap0 z0) (w1 : (Lit.int .i64 a1).wf = true) :
    Calls Try.prog 3 #[.slice a0 len0 cap0, .int .i64 a1] w fun e w' => e = .returned (.bool true) ∧ Below w.heap.size w w' := by
  obtain ⟨hlen, hB, hnil, hcap, hcm⟩ := bytes_of w0
  have HS : Hid (Sl w (.slice a0 len0 cap0) (z0.take len0)) := ⟨a0, cap0, by rw [← hlen], hB, hnil, by rw [← hlen]; exact hcap⟩
  have HLN := Lib.hid hlen
  have hA := Lib.hid (fun W => awake_sq W)
  have hBo := Lib.hid (fun W => bound_any a1 W)
  have hRb := Lib.hid (fun W => rbound_any a1 W)
  obtain ⟨i0, hi, hz0, hz1, hz2⟩ := info_parts Try.infoB
  have hmk := run_make (P := Try.prog) w 22 5 i0 (.int .u8 0) Try.underlying22 hi hz0 .i64 .i64 65537 65537 (by omega) (by omega) (by rw [hz2]; omega) (by omega)
  rw [hz1] at hmk
  have e65 : (65537 : Int).toNat = 65537 := rfl
  simp only [e65] at hmk
  have HB1 : Hid (Below w.heap.size w (w.alloc (.cells (madeCells (Value.int .u8 0).cells (65537 * 1)) 5))) := (Below.refl _ _).alloc (Nat.le_refl _) _
  generalize w.alloc (.cells (madeCells (Value.int .u8 0).cells (65537 * 1)) 5) = w1 at hmk HB1
  have hBig := Lib.hid (pack_big (some ⟨w.heap.size, 0, none⟩) 65537 65537 w1 (by omega) (by omega))
  have HS1 : Hid (Sl w1 (.slice a0 len0 cap0) (z0.take len0)) := HS.out.later HB1.out
  generalize bnd a1 = bb at hBo hRb
  clear hlen hB hnil hcap hcm w0 HS hi hz0 hz1 hz2 e65
  by_cases hbig : len0 ≤ 3000
  · have hbI : ¬ (3000 : Int) < (len0 : Int) := by omega
    have HP := Lib.hid (pack_any _ _ w1 HS1.out (by rw [← HLN.out]; omega))
    have HR : Hid (∀ w2, Below w1.heap.size w1 w2 → Calls Try.prog 14 #[.slice a0 len0 cap0] w2 fun e w' => ∃ v', e = .returned v' ∧ Sl w' v' (packL (z0.take len0)) ∧ Below w2.heap.size w2 w') := fun w2 hb => rpack_any _ _ w2 (HS1.out.later hb) (by rw [← HLN.out]; omega)
    generalize z0.take len0 = l at HP HR
    go_enter Try.func3, Try.ntmps3
    go_wp2_with (first
      | (go_at_call 9; refine (hBo.out _).mono ?_; rintro e w' ⟨rfl, rfl⟩)
      | (go_at_call 10; refine (hRb.out _).mono ?_; rintro e w' ⟨rfl, rfl⟩))
    refine hBig.out.mono ?_
    rintro e w2 ⟨rfl, rfl⟩
    clear hBig hmk hBo hRb
    go_wp2_with fail
    refine HP.out.mono ?_
    rintro e w2 ⟨v2, rfl, hv2, hb2⟩
    have HV2 := Lib.hid hv2
    have HR2 := Lib.hid (HR.out w2 hb2)
    have HB2 := Lib.hid hb2
    clear hv2 hb2 HP HR
    go_wp2_with fail
    refine HR2.out.mono ?_
    rintro e w3 ⟨v3, rfl, hv3, hb3⟩
    have HSM := Lib.hid (same10 _ _ _ w3 (HV2.out.later hb3) hv3)
    have HB3 := Lib.hid hb3
    clear hv3 hb3 HR2 HV2
    go_wp2_with fail
    refine HSM.out.mono ?_
    rintro e w4 ⟨rfl, rfl⟩
    go_wp2_with fail
    refine (hA.out _).mono ?_
    rintro e w5 ⟨rfl, hb5⟩
    go_wp2
    go_ret
    have h12 := HB1.out.trans (HB2.out.mono HB1.out.size)
    have h13 := h12.trans (HB3.out.mono h12.size)
    exact ⟨rfl, h13.trans (hb5.mono h13.size)⟩
  · have hbI : (3000 : Int) < (len0 : Int) := by omega
    go_enter Try.func3, Try.ntmps3
    go_wp2_with (first
      | (go_at_call 9; refine (hBo.out _).mono ?_; rintro e w' ⟨rfl, rfl⟩)
      | (go_at_call 10; refine (hRb.out _).mono ?_; rintro e w' ⟨rfl, rfl⟩))
    refine hBig.out.mono ?_
    rintro e w2 ⟨rfl, rfl⟩
    clear hBig hmk hBo hRb
    go_wp2_with fail
    refine (hA.out _).mono ?_
    rintro e w5 ⟨rfl, hb5⟩
    go_wp2
    go_ret
    exact ⟨rfl, HB1.out.trans (hb5.mono HB1.out.size)⟩

/-! ### THE ROW's STEP: WRITTEN OUT: LEAVE IT -/
set_option maxRecDepth 100000 in
theorem lifted (os : Os) (started : os.Started) (H : Type) (enc : TypeId × Value → H) :
    ReturnsInHanded {} Try.checked os 3 .any (Rows.squashPacksSpec.pre6 enc Try.prog Try.f3 Rows.squashPacksRow.domain false) (Rows.squashPacksSpec.post enc Try.prog Try.f3 false true false false) := by
  refine returnsInHanded_of_change (C := Try.checked) own started (by kernel_rfl) Try.func3
    (ChangeSpec.witness6 (enc := enc) (C := Try.checked) false ⟨#[], #[.slice none 0 0, .int .i64 0], []⟩ 8 (by kernel_rfl) (by kernel_rfl) (by kernel_rfl) (by kernel_rfl)) ?_
  intro W base args ds gs before hval0 hW hcnd _
  have hval : ∀ (j : Nat) t v, Try.f3.params[j]? = some t → args[j]? = some v → Value.okWide Try.prog W .any base t v := hval0
  have hW' := hW
  obtain ⟨p, q, hA0, hV, rfl, hfz, hnd⟩ := hW
  have hA : DataW.TrodAll enc Try.prog W 0 (fun _ => true) true Try.f3.params.toList args.toList ds p := hA0
  rw [Try.params3] at hA hval
  obtain ⟨v0, vs0, d0, ds0, p0, q0, hargs, rfl, rfl, h0, r0⟩ := trodAll_cons hA
  obtain ⟨v1, vs1, d1, ds1, p1, q1, rfl, rfl, rfl, h1, r1⟩ := trodAll_cons r0
  obtain ⟨rfl, rfl, rfl⟩ := trodAll_nil r1
  obtain rfl : args = #[v0, v1] := by cases args; simp_all
  obtain ⟨rfl, rfl⟩ := trodVars_none hV
  obtain ⟨a0, len0, cap0, rfl⟩ := okWide_slice Try.underlying22 (hval 0 22 v0 rfl rfl)
  have k0 := h0
  have lt0 : ∀ x ∈ p0, x.block < W.heap.size := by obtain ⟨m, hm⟩ := k0; exact DataW.trod_lt m _ _ _ hm
  obtain ⟨z0, w0⟩ : ∃ zs, IsRow .u8 W a0 len0 cap0 zs := by
    obtain ⟨fuel, hf⟩ := h0
    rcases open_ints Try.underlying22 Try.underlying5 (by kernel_rfl) hf with ⟨hcs, _⟩ | ⟨x, l, c, zs, hcs, _, hl, hm, hz, _, hcell, hwz⟩
    · simp [Value.cells] at hcs
      obtain ⟨rfl, rfl, rfl⟩ := hcs
      exact ⟨[], .inl ⟨rfl, rfl, rfl, rfl⟩⟩
    · simp [Value.cells] at hcs
      obtain ⟨rfl, rfl, rfl⟩ := hcs
      exact ⟨zs, .inr ⟨_, rfl, hl, hm, by simpa using hz, hcell, hwz⟩⟩
  obtain ⟨a1, rfl, rfl, rfl, w1⟩ := open_int Try.underlying3 (hval 1 3 v1 rfl rfl) h1
  clear hA0 hval0
  refine (walk a0 len0 cap0 z0 a1 W w0 w1).mono fun e W' ⟨he, bel⟩ => ?_
  subst he
  exact ⟨_, rfl, _, _, _, [], _, [], hW', trodAll_mk1 (shut_bool Try.underlying4 _), (trodAll_cons_mk (Below.trod laidOut (by kernel_rfl) (of_decide_eq_true (by kernel_rfl)) k0 bel lt0) (trodAll_cons_mk (shut_int Try.underlying3 w1) trodAll_mk0)), rfl, bel.frame _, fun h => by cases h⟩

theorem over : Rows.squashPacksRow.holds Try.pinned (OpenSpec.ofChange Rows.squashPacksSpec) :=
  OpenClaim.holds_of_wide 3 Try.f3 rfl rfl rfl rfl rfl rfl rfl ⟨rfl, rfl, rfl, rfl, rfl⟩ rfl rfl rfl rfl rfl (by kernel_rfl) Try.func3 (by kernel_rfl)
    (of_decide_eq_true (by kernel_rfl)) (by unfold Func.isWrapper; first | (rw [if_pos (by decide +kernel)]; kernel_rfl) | (rw [if_neg (by decide +kernel)]; exact ⟨rfl, rfl⟩))
    (fun os started H enc _ => lifted os started H enc)

/-- ████ THE STATEMENT ████ -/
theorem proved : Rows.SquashPacksSaid := over
#print axioms proved
end Go.Proofs.Ytkbpjgkggmbbjaa.squashPacks
