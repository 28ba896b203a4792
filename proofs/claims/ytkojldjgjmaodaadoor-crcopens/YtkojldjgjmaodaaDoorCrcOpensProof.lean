/- For every byte slice of at most 1,000 bytes crc.Open answers as the document's Open, and opens what the document seals (of longer ones the law asks only the chapter's examples): the law CrcOpens returns true and leaves its argument as it was. Conditions: the package's table is as its initialiser lays it, tied to the program's text by the card. -/
import Derived.Test.YtkojldjgjmaodaaDoorCards
import Derived.Test.YtkojldjgjmaodaaDoorTie
import Derived.Test.YtkojldjgjmaodaaDoorRow
import Derived.Test.YtkojldjgjmaodaaDoorRSeal
import Derived.ProofKit
import Derived.OpenShut
import Derived.ShutString
import Derived.ChangeOld
import Derived.Below
import Derived.Deep.DeepHandedRow
import Derived.Lib.LaidTab
namespace Go.Proofs.YtkojldjgjmaodaaDoor.crcOpens
open Go.Proofs.CrcMath
open Go.ChangeShapes Go.WideShapes Go.ChangeAt Go.RowKit
open Go.ChangeMaps (open_string shut_string)
set_option linter.unusedVariables false

theorem own : ownKnob Tryd.prog.godebug = none := by kernel_rfl
theorem laidOut : laidOutB Tryd.prog = true := by kernel_rfl
theorem gTab : Tryd.prog.globalNamed "remora/crc.table" = some 0 := by kernel_rfl
theorem gTabType : (Tryd.prog.globals[0]?).map (·.type) = some 38 := by kernel_rfl
theorem cellsTab : Tryd.prog.cellsOf 38 = 16 := by kernel_rfl
theorem cellsU32 : Tryd.prog.cellsOf 25 = 1 := by kernel_rfl

/-- what the row's list gives: the table's cells -/
theorem table {W : World} (h : laidMetH Tryd.prog Rows.crcOpensRow.laid W) : Lib.TabIs Tryd.prog W "remora/crc.table" .u32 [0, 498536548, 997073096, 651767980, 1994146192, 1802195444, 1303535960, 1342533948, 3988292384, 4027552580, 3604390888, 3412177804, 2607071920, 2262029012, 2685067896, 3183342108] :=
  Lib.tabIs_of_head (rest := []) gTab gTabType Tryd.underlying38 Tryd.underlying25 cellsU32 cellsTab h
theorem tab_of {W : World} (h : laidMetH Tryd.prog Rows.crcOpensRow.laid W) : Tab W := by
  have hc : ∀ j, j < 16 → W.cell? ⟨0, j, none⟩ = some (.int .u32 ((T j : Nat) : Int)) := by
    intro j hj
    match j, hj with
    | 0, _ => exact (table h).cell gTab 0 (by decide)
    | 1, _ => exact (table h).cell gTab 1 (by decide)
    | 2, _ => exact (table h).cell gTab 2 (by decide)
    | 3, _ => exact (table h).cell gTab 3 (by decide)
    | 4, _ => exact (table h).cell gTab 4 (by decide)
    | 5, _ => exact (table h).cell gTab 5 (by decide)
    | 6, _ => exact (table h).cell gTab 6 (by decide)
    | 7, _ => exact (table h).cell gTab 7 (by decide)
    | 8, _ => exact (table h).cell gTab 8 (by decide)
    | 9, _ => exact (table h).cell gTab 9 (by decide)
    | 10, _ => exact (table h).cell gTab 10 (by decide)
    | 11, _ => exact (table h).cell gTab 11 (by decide)
    | 12, _ => exact (table h).cell gTab 12 (by decide)
    | 13, _ => exact (table h).cell gTab 13 (by decide)
    | 14, _ => exact (table h).cell gTab 14 (by decide)
    | 15, _ => exact (table h).cell gTab 15 (by decide)
    | j + 16, h => exact absurd h (by omega)
  exact ⟨World.block_lt_of_cell? _ _ (hc 0 (by omega)), hc⟩

theorem open_seal (l : List Int) (h : Oct l) : openE (l ++ leB (crcN l) 4) = 0 ∧ openL (l ++ leB (crcN l) 4) = l := by
  have hlen : (l ++ leB (crcN l) 4).length = l.length + 4 := by rw [List.length_append, leB_length]
  have ht : (l ++ leB (crcN l) 4).take ((l ++ leB (crcN l) 4).length - 4) = l := by
    rw [hlen, show l.length + 4 - 4 = l.length from by omega]; simp
  have hd : (l ++ leB (crcN l) 4).drop ((l ++ leB (crcN l) 4).length - 4) = leB (crcN l) 4 := by
    rw [hlen, show l.length + 4 - 4 = l.length from by omega]; simp
  have hE : openE (l ++ leB (crcN l) 4) = 0 := by
    unfold openE
    rw [if_neg (by omega), ht, hd, leV_leB _ 4 4 (Nat.le_refl _), Nat.mod_eq_of_lt (crcN_lt l h), if_pos rfl]
  exact ⟨hE, by unfold openL; rw [hE, if_pos rfl, ht]⟩

theorem walk (a0 : Option Addr) (len0 cap0 : Nat) (z0 : List Int) (w : World) (hT : Tab w) (w0 : IsRow .u8 w a0 len0 cap0 z0) :
    Calls Tryd.prog 6 #[.slice a0 len0 cap0] w fun e w' => e = .returned (.bool true) ∧ Below w.heap.size w w' := by
  obtain ⟨hlen, hc, h63, hnil, hB⟩ := bytes_of w0
  by_cases hbig : 1000 < len0
  · have HT := Lib.hid hT
    clear hT hB w0 hlen
    go_enter Tryd.func6, Tryd.ntmps6
    go_wp2_with (go_at_call 8; refine (awake_any _ HT.out).mono ?_; rintro e w' ⟨rfl, hb⟩)
    go_ret
    exact ⟨rfl, hb⟩
  · obtain ⟨L, hL⟩ : ∃ L, L = z0.take len0 := ⟨_, rfl⟩
    rw [← hL] at hlen hB
    clear hL w0
    have hS : Sl w (.slice a0 len0 cap0) L := ⟨a0, cap0, by rw [hlen], hB, hnil, by omega⟩
    have hso := open_seal L hB.1
    have HLEN := Lib.hid hlen
    have HB := Lib.hid hB
    have HS := Lib.hid hS
    have HT := Lib.hid hT
    have HSO := Lib.hid hso
    have HNIL := Lib.hid hnil
    clear hB hS hT hso hlen hnil
    go_enter Tryd.func6, Tryd.ntmps6
    go_wp2_with fail
    refine (open_any a0 cap0 len0 L w HLEN.out.symm HT.out HB.out hc HNIL.out (by omega)).mono ?_
    rintro e w1 ⟨v1, rfl, hown1, hb1⟩
    have T1 := HT.out.later hb1
    have S1 := HS.out.later hb1
    have x1 := hown1.sl (openL_oct L HB.out.1)
    clear hown1
    go_wp2_with fail
    refine (ropen_any _ L w1 S1 (by rw [HLEN.out]; omega)).mono ?_
    rintro e w2 ⟨v2, rfl, hown2, hb2⟩
    have T2 := T1.later hb2
    have S2 := S1.later hb2
    have x2 := x1.later hb2
    have y2 := hown2.sl (openL_oct L HB.out.1)
    clear hown2 T1 S1 x1
    go_wp2_with fail
    refine (rseal_any _ L w2 S2 (by rw [HLEN.out]; omega)).mono ?_
    rintro e w3 ⟨v3, rfl, hown3, hb3⟩
    have T3 := T2.later hb3
    have S3 := S2.later hb3
    have x3 := x2.later hb3
    have y3 := y2.later hb3
    obtain ⟨M, hM⟩ : ∃ M, M = L ++ leB (crcN L) 4 := ⟨_, rfl⟩
    have hMo : Oct M := by rw [hM]; exact HB.out.1.append (leB_oct _ _)
    have hMl : M.length = len0 + 4 := by rw [hM, List.length_append, leB_length, HLEN.out]
    rw [← hM] at hown3
    obtain ⟨a3, c3, e3, B3, n3, k3⟩ := hown3.sl hMo
    subst e3
    have HM := Lib.hid hM
    have HML := Lib.hid hMl
    clear hown3 T2 S2 x2 y2 hM hMo hMl
    go_wp2_with fail
    refine (open_any a3 c3 M.length M w3 rfl T3 B3 k3 n3 (by rw [HML.out]; omega)).mono ?_
    rintro e w4 ⟨v4, rfl, hown4, hb4⟩
    have T4 := T3.later hb4
    obtain ⟨p1, r1, g1, P1, _, _⟩ := x3.later hb4
    obtain ⟨p2, r2, g2, P2, _, _⟩ := y3.later hb4
    have hz := HSO.out
    rw [← HM.out] at hz
    rw [hz.2] at hown4
    obtain ⟨p4, r4, g4, P4, _, _⟩ := hown4.sl HB.out.1
    have BL := ((HB.out.later hb1).later (hb2)).later hb3 |>.later hb4
    rw [hz.1]
    subst g1 g2 g4
    have s1 := run_str P1 _ r1 rfl
    have s2 := run_str P2 _ r2 rfl
    have s4 := run_str P4 _ r4 rfl
    have s0 := run_str BL len0 cap0 HLEN.out.symm
    generalize strOfNums (openL L) = X at s1 s2
    generalize strOfNums L = Y at s4 s0
    generalize (openL L).length = nx at s1 s2 ⊢
    generalize openE L = ex
    generalize L.length = ny at s4 ⊢
    have HT4 := Lib.hid T4
    have z1 := hb1.size
    have z2 := hb2.size
    have z3 := hb3.size
    have hball := hb1.trans ((hb2.mono z1).trans ((hb3.mono (Nat.le_trans z1 z2)).trans (hb4.mono (Nat.le_trans z1 (Nat.le_trans z2 z3)))))
    clear T3 S3 x3 y3 B3 n3 k3 hown4 P1 P2 P4 BL hz T4
    go_wp2_with (go_at_call 8; refine (awake_any _ HT4.out).mono ?_; rintro e w' ⟨rfl, hb⟩)
    go_ret
    exact ⟨rfl, hball.trans (hb.mono hball.size)⟩

theorem contract (H : Type) (enc : TypeId × Value → H) (W : World) (base : Nat) (args : Array Value) (ds gs : List (DataW H)) (before : List MemPlace)
    (hval : ∀ (j : Nat) t v, Tryd.f6.params[j]? = some t → args[j]? = some v → Value.okWide Tryd.prog W .any base t v)
    (hW : DataW.Whole enc Tryd.prog Tryd.f6.params.toList Rows.crcOpensSpec.vars false W args.toList ds gs before) (hL : laidMetH Tryd.prog Rows.crcOpensRow.laid W) :
    Calls Tryd.prog 6 args W fun e W' => ∃ v, e = .returned v ∧ Rows.crcOpensSpec.post enc Tryd.prog Tryd.f6 false true false false W args v W' := by
  have hW' := hW
  obtain ⟨p, q, hA0, hV, rfl, hfz, hnd⟩ := hW
  have hA : DataW.TrodAll enc Tryd.prog W 0 (fun _ => true) true Tryd.f6.params.toList args.toList ds p := hA0
  rw [Tryd.params6] at hA hval
  obtain ⟨v0, vs0, d0, ds0, p0, q0, hargs, rfl, rfl, h0, r0⟩ := trodAll_cons hA
  obtain ⟨rfl, rfl, rfl⟩ := trodAll_nil r0
  obtain rfl : args = #[v0] := by cases args; simp_all
  obtain ⟨rfl, rfl⟩ := trodVars_none hV
  obtain ⟨a0, len0, cap0, rfl⟩ := okWide_slice Tryd.underlying24 (hval 0 24 v0 rfl rfl)
  have k0 := h0
  have lt0 : ∀ x ∈ p0, x.block < W.heap.size := by obtain ⟨m, hm⟩ := k0; exact DataW.trod_lt m _ _ _ hm
  obtain ⟨z0, w0⟩ : ∃ zs, IsRow .u8 W a0 len0 cap0 zs := by
    obtain ⟨fuel, hf⟩ := h0
    rcases open_ints Tryd.underlying24 Tryd.underlying5 (by kernel_rfl) hf with ⟨hcs, _⟩ | ⟨x, l, c, zs, hcs, _, hl, hm, hz, _, hcell, hwz⟩
    · simp [Value.cells] at hcs
      obtain ⟨rfl, rfl, rfl⟩ := hcs
      exact ⟨[], .inl ⟨rfl, rfl, rfl, rfl⟩⟩
    · simp [Value.cells] at hcs
      obtain ⟨rfl, rfl, rfl⟩ := hcs
      exact ⟨zs, .inr ⟨_, rfl, hl, hm, by simpa using hz, hcell, hwz⟩⟩
  clear hA0
  refine (walk a0 len0 cap0 z0 W (tab_of hL) w0).mono fun e W' ⟨he, bel⟩ => ?_
  subst he
  exact ⟨_, rfl, _, _, _, [], _, [], hW', trodAll_mk1 (shut_bool Tryd.underlying4 _), (trodAll_cons_mk (Below.trod laidOut (by kernel_rfl) (of_decide_eq_true (by kernel_rfl)) k0 bel lt0) trodAll_mk0), rfl, bel.frame _, fun h => by cases h⟩

/-- a world for the witness: the settled one, the table holding what its initialiser lays -/
noncomputable def laidWorld (os : Os) : World :=
  { World.holding Tryd.prog os ⟨#[], #[], []⟩ with heap := (World.holding Tryd.prog os ⟨#[], #[], []⟩).heap.modify 0 fun
      | .cells _ t frozen => .cells #[.int .u32 0, .int .u32 498536548, .int .u32 997073096, .int .u32 651767980, .int .u32 1994146192, .int .u32 1802195444, .int .u32 1303535960, .int .u32 1342533948, .int .u32 3988292384, .int .u32 4027552580, .int .u32 3604390888, .int .u32 3412177804, .int .u32 2607071920, .int .u32 2262029012, .int .u32 2685067896, .int .u32 3183342108] t frozen
      | o => o }
theorem laid_met (os : Os) : laidMet Tryd.prog Rows.crcOpensRow.laid ((laidWorld os).forCall (fun _ _ => 0) ⟨#[], #[.slice none 0 0], []⟩).memory :=
  laidMet_of_run' 8 (by kernel_rfl) (by kernel_rfl)
theorem reads (os : Os) {H : Type} (enc : TypeId × Value → H) : ∃ places, DataW.whole enc Tryd.prog ((laidWorld os).forCall (fun _ _ => 0) ⟨#[], #[.slice none 0 0], []⟩).memory Tryd.f6.params.toList Rows.crcOpensSpec.vars false (#[.slice none 0 0] : Array Value).toList 8 = some ([.nil], [], places) :=
  ⟨[], by kernel_rfl⟩

set_option maxRecDepth 100000 in
theorem lifted (os : Os) (started : os.Started) (H : Type) (enc : TypeId × Value → H) (F : Stop.Interp) :
    ReturnsInHanded {} Tryd.checked os 6 .any ((OpenSpec.ofChange Rows.crcOpensSpec).preRow enc Tryd.prog Tryd.f6 Rows.crcOpensRow.domain false Rows.crcOpensRow.laid) (((OpenSpec.ofChange Rows.crcOpensSpec).at F).post enc Tryd.prog Tryd.f6 false true false false) := by
  obtain ⟨places, hx⟩ := reads os enc
  refine returnsInHanded_of_row (C := Tryd.checked) (s := OpenSpec.ofChange Rows.crcOpensSpec) own started (by kernel_rfl) Tryd.func6
    (witness_row_at (enc := enc) (C := Tryd.checked) false (laidWorld os) #[.slice none 0 0] rfl (by kernel_rfl) (by kernel_rfl) (by kernel_rfl)
      (OpenSpec.preRow_of_cond 8 hx (by kernel_rfl) (fun k hk => by cases hk) (by kernel_rfl) (laid_met os))) ?_
  intro W base args ds gs before hval hW _ _ _ hL _ _
  exact contract H enc W base args ds gs before hval hW hL

theorem said : Rows.CrcOpensSaid :=
  OpenClaim.holds_of_cond 6 Tryd.f6 rfl rfl rfl rfl rfl rfl rfl ⟨rfl, rfl, rfl, rfl, rfl⟩ rfl rfl rfl rfl rfl (by kernel_rfl) Tryd.func6 (by kernel_rfl)
    (of_decide_eq_true (by kernel_rfl)) (by unfold Func.isWrapper; first | (rw [if_pos (by decide +kernel)]; kernel_rfl) | (rw [if_neg (by decide +kernel)]; exact ⟨rfl, rfl⟩))
    (fun os started H enc _ F => by rw [OpenClaim.pre_eq_preRow]; exact lifted os started H enc F)

theorem plain (f : FuncId) (fn : Func) (hf : Tryd.pinned.checked.prog.funcNamed "remora/remoralaw02.CrcOpens" = some f) (hfn : Tryd.pinned.checked.prog.funcs[f]? = some fn) :
    false = Tryd.pinned.checked.prog.looks [] ∧ ∀ (j : Nat) t, fn.params[j]? = some t → Tryd.pinned.checked.prog.wantsStandIn t = false := by
  obtain rfl : f = 6 := Option.some.inj ((show Tryd.prog.funcNamed "remora/remoralaw02.CrcOpens" = some 6 by kernel_rfl).symm.trans hf) |>.symm
  obtain rfl : fn = Tryd.f6 := (Option.some.inj (Tryd.func6.symm.trans hfn)).symm
  refine ⟨by kernel_rfl, fun j t ht => ?_⟩
  rw [Tryd.params6] at ht
  obtain rfl : t = 24 := by simpa using Array.mem_of_getElem? ht
  exact (show Tryd.prog.wantsStandIn 24 = false by kernel_rfl)

theorem card : Rows.CrcOpensCardSaid :=
  Claim7.holds_tied_plain_at .later [] _ _ _ _ said (fun _ h => by cases h) (by kernel_rfl) (fun _ h => by cases h) crcOpens_row_tie rfl ⟨rfl, rfl⟩ (by kernel_rfl) rfl plain (by kernel_rfl)
#print axioms card
end Go.Proofs.YtkojldjgjmaodaaDoor.crcOpens
