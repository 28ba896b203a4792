/- For every byte slice of at most 1,000 bytes crc.Seal answers as the document's Seal, in memory of its own (of longer ones the law asks only the chapter's examples): the law CrcSeals returns true and leaves its argument as it was. Conditions: the package's table is as its initialiser lays it, tied to the program's text by the card. -/
import Derived.Test.YtkojldjgjmaodaaDoorCards
import Derived.Test.YtkojldjgjmaodaaDoorTie
import Derived.Test.YtkojldjgjmaodaaDoorRow
import Derived.Test.YtkojldjgjmaodaaDoorRSeal
import Derived.ProofKit
import Derived.OpenShut
import Derived.ShutString
import Derived.ChangeOld
import Derived.Below
import Derived.Deep.DeepCutAuto
import Derived.Deep.DeepHandedRow
import Derived.Lib.LaidTab
namespace Go.Proofs.YtkojldjgjmaodaaDoor.crcSeals
open Go.Proofs.CrcMath
open Go.ChangeShapes Go.WideShapes Go.ChangeAt Go.RowKit
open Go.ChangeMaps (open_string shut_string)
set_option linter.unusedVariables false

theorem own : ownKnob Tryd.prog.godebug = none := by kernel_rfl
theorem laidOut : laidOutB Tryd.prog = true := by kernel_rfl
theorem gTab : Tryd.prog.globalNamed "remora/crc.table" = some 0 := by kernel_rfl
theorem gTabType : (Tryd.prog.globals[0]?).map (·.type) = some 38 := by kernel_rfl
theorem cellsTab : Tryd.prog.cellsOf 38 = 16 := by kernel_rfl
theorem cellsU32 : Tryd.prog.cellsOf 25 = 1 := by kernel_rfl

/-- what the row's list gives: the table's cells -/
theorem table {W : World} (h : laidMetH Tryd.prog Rows.crcSealsRow.laid W) : Lib.TabIs Tryd.prog W "remora/crc.table" .u32 [0, 498536548, 997073096, 651767980, 1994146192, 1802195444, 1303535960, 1342533948, 3988292384, 4027552580, 3604390888, 3412177804, 2607071920, 2262029012, 2685067896, 3183342108] :=
  Lib.tabIs_of_head (rest := []) gTab gTabType Tryd.underlying38 Tryd.underlying25 cellsU32 cellsTab h
theorem tab_of {W : World} (h : laidMetH Tryd.prog Rows.crcSealsRow.laid W) : Tab W := by
  have hc : ∀ j, j < 16 → W.cell? ⟨0, j, none⟩ = some (.int .u32 ((T j : Nat) : Int)) := by
    intro j hj
    match j, hj with
    | 0, _ => exact (table h).cell gTab 0 (by decide)
    | 1, _ => exact (table h).cell gTab 1 (by decide)
    | 2, _ => exact (table h).cell gTab 2 (by decide)
    | 3, _ => exact (table h).cell gTab 3 (by decide)
    | 4, _ => exact (table h).cell gTab 4 (by decide)
    | 5, _ => exact (table h).cell gTab 5 (by decide)
    | 6, _ => exact (table h).cell gTab 6 (by decide)
    | 7, _ => exact (table h).cell gTab 7 (by decide)
    | 8, _ => exact (table h).cell gTab 8 (by decide)
    | 9, _ => exact (table h).cell gTab 9 (by decide)
    | 10, _ => exact (table h).cell gTab 10 (by decide)
    | 11, _ => exact (table h).cell gTab 11 (by decide)
    | 12, _ => exact (table h).cell gTab 12 (by decide)
    | 13, _ => exact (table h).cell gTab 13 (by decide)
    | 14, _ => exact (table h).cell gTab 14 (by decide)
    | 15, _ => exact (table h).cell gTab 15 (by decide)
    | j + 16, h => exact absurd h (by omega)
  exact ⟨World.block_lt_of_cell? _ _ (hc 0 (by omega)), hc⟩


theorem walk (a0 : Option Addr) (len0 cap0 : Nat) (z0 : List Int) (w : World) (hT : Tab w) (w0 : IsRow .u8 w a0 len0 cap0 z0) :
    Calls Tryd.prog 5 #[.slice a0 len0 cap0] w fun e w' => e = .returned (.bool true) ∧ Below w.heap.size w w' := by
  obtain ⟨hlen, hc, h63, hnil, hB⟩ := bytes_of w0
  by_cases hbig : 1000 < len0
  · have HT := Lib.hid hT
    clear hT hB w0 hlen
    go_enter Tryd.func5, Tryd.ntmps5
    go_wp2_with (go_at_call 8; refine (awake_any _ HT.out).mono ?_; rintro e w' ⟨rfl, hb⟩)
    go_ret
    exact ⟨rfl, hb⟩
  · obtain ⟨L, hL⟩ : ∃ L, L = z0.take len0 := ⟨_, rfl⟩
    rw [← hL] at hlen hB
    clear hL w0
    have hS : Sl w (.slice a0 len0 cap0) L := ⟨a0, cap0, by rw [hlen], hB, hnil, by omega⟩
    have hst0 := run_str hB len0 cap0 hlen.symm
    have HLEN := Lib.hid hlen
    have HB := Lib.hid hB
    have HS := Lib.hid hS
    have HT := Lib.hid hT
    obtain ⟨M, hM⟩ : ∃ M, M = L ++ leB (crcN L) 4 := ⟨_, rfl⟩
    have hMo : Oct M := by rw [hM]; exact HB.out.1.append (leB_oct _ _)
    have hMl : M.length = len0 + 4 := by rw [hM, List.length_append, leB_length, HLEN.out]
    have HMO := Lib.hid hMo
    have HML := Lib.hid hMl
    have hseal := seal_any a0 cap0 len0 L w HLEN.out.symm HT.out HB.out (by omega)
    rw [← hM] at hseal
    have HSEAL := Lib.hid hseal
    have hrseal := fun (W : World) (h : Sl W (.slice a0 len0 cap0) L) => rseal_any _ L W h (by rw [HLEN.out]; omega)
    rw [← hM] at hrseal
    have HRSEAL := Lib.hid hrseal
    obtain ⟨Y, hY⟩ : ∃ Y, Y = strOfNums L := ⟨_, rfl⟩
    rw [← hY] at hst0
    have HY := Lib.hid hY
    clear hB hS hT hlen hnil hM hMo hMl hseal hrseal hY
    go_enter Tryd.func5, Tryd.ntmps5
    go_wp2_with fail
    refine HSEAL.out.mono ?_
    rintro e w1 ⟨v1, rfl, hown1, hb1⟩
    obtain ⟨hx1, hx2⟩ := hown1
    rcases hx2 with ⟨_, h0⟩ | ⟨g, cp, cur, rfl, hg4, hg5, hg6, hg7, hg8, hg9⟩
    · exfalso; have := HML.out; omega
    have hown1 : Own w1 w.heap.size (.slice (some ⟨g, 0, none⟩) M.length cp) M := ⟨hx1, .inr ⟨g, cp, cur, rfl, hg4, hg5, hg6, hg7, hg8, hg9⟩⟩
    obtain ⟨a5, c5, e5, hB5, _, _⟩ := hown1.sl HMO.out
    simp only [Value.slice.injEq] at e5
    obtain ⟨rfl, -, rfl⟩ := e5
    have HB5 := Lib.hid hB5
    have hs1 : (convert 24 9 (.slice (some ⟨g, 0, none⟩) M.length cp)).run Tryd.prog w1.drew = .ok (.string (strOfNums M)) w1.drew := run_str (w := w1.drew) hB5 M.length cp rfl
    have hrs : Calls Tryd.prog 14 #[.slice a0 len0 cap0] w1.drew fun e w' => ∃ v', e = .returned v' ∧ Sl w' v' M ∧ (convert 24 9 (.slice (some ⟨g, 0, none⟩) M.length cp)).run Tryd.prog w' = .ok (.string (strOfNums M)) w' ∧ Below w1.drew.heap.size w1.drew w' := by
      refine (HRSEAL.out w1.drew (Sl.later HS.out hb1.drew)).mono ?_
      rintro e w' ⟨v', rfl, hown', hb'⟩
      exact ⟨v', rfl, hown'.sl HMO.out, run_str (Bytes.later (w := w1.drew) hB5 hb') M.length cp rfl, hb'⟩
    obtain ⟨X, hX⟩ : ∃ X, X = strOfNums M := ⟨_, rfl⟩
    rw [← hX] at hs1 hrs
    have HX := Lib.hid hX
    have HRS := Lib.hid hrs
    have HG5 := Lib.hid hg5
    have HW1 := Lib.hid hb1
    have hgl : g < w1.heap.size := by
      rcases Nat.lt_or_ge g w1.heap.size with h | h
      · exact h
      · rw [Array.getElem?_eq_none h] at hg5; cases hg5
    have n1 : (X.toList == X.toList) = true := by simp
    have n2 : (!X.toList == X.toList) = false := by simp
    have HG4 := Lib.hid hg4
    have HGL := Lib.hid hgl
    clear hX hrs hx1 hg5 hg6 hg7 hg8 hg9 hown1 hB5 hb1 hg4 hgl
    go_wp2
    go_cut [19] (fun c wx => c = .bool false ∧ Below w1.heap.size w1 wx)
    case first =>
      go_region_with (first
        | (go_at_call 14; refine HRS.out.mono ?_; rintro e w3 ⟨v3, rfl, ⟨a4, c4, e4, hB4, hn4, hc4⟩, hst3, hb3⟩; subst e4; have hst4 := run_str hB4 M.length c4 rfl; rw [← HX.out] at hst4))
      all_goals go_wp2
      all_goals go_meet
      all_goals exact ⟨rfl, (Below.refl _ _).drew.trans hb3⟩
    case rest =>
      obtain ⟨rfl, hbx⟩ := hcut
      have HBX := Lib.hid hbx
      have hcells : ∀ i, i < M.length → (∃ x, wc.cell? ⟨g, i, none⟩ = some (.int .u8 x)) ∧ wc.frozen? ⟨g, i, none⟩ = false := by
        intro i hi
        have hBc := HB5.out.later hbx
        obtain ⟨b, off, e, hc⟩ := hBc.2 (by intro e; rw [e] at hi; simp at hi)
        simp only [Option.some.injEq, Addr.mk.injEq] at e
        obtain ⟨rfl, rfl, -⟩ := e
        refine ⟨⟨_, by have := hc i hi; rwa [Nat.zero_add] at this⟩, ?_⟩
        have hh : wc.heap[g]? = some (.cells cur 5 (0, 0)) := by rw [hbx.block g HGL.out]; exact HG5.out
        simp [World.frozen?, hh]
      have HCL := Lib.hid hcells
      clear hcells hbx
      have hMl := HML.out
      obtain ⟨n, hn⟩ : ∃ n, n = M.length := ⟨_, rfl⟩
      rw [← hn] at HCL hMl ⊢
      have HNN := Lib.hid hMl
      have hn2 : n ≤ 2000 := by omega
      have HNM := Lib.hid hn
      clear hn hMl
      go_wp2
      go_loopw [5] (fun i wr => ∃ k : Nat, k ≤ n ∧ i = .int .i64 k ∧ Below w.heap.size w wr ∧ Hid (∀ i, i < n → (∃ x, wr.cell? ⟨g, i, none⟩ = some (.int .u8 x)) ∧ wr.frozen? ⟨g, i, none⟩ = false)) (fun i _ => n - (intOf i).toNat)
      case atStart => exact ⟨0, by omega, rfl, HW1.out.trans (HBX.out.mono HW1.out.size), HCL.out⟩
      case round =>
        obtain ⟨k, hk, rfl, hbel, HCW⟩ := hrel
        by_cases hlt : k < n
        · obtain ⟨⟨x, hx⟩, hf⟩ := HCW.out k hlt
          go_wp2
          go_roundw
          case rel => exact ⟨k + 1, by omega, by go_num, hbel.setCell HG4.out _, (fun i hi => ⟨by
            by_cases hik : i = k
            · subst hik; exact ⟨_, World.cell?_setCell_same _ _ _ hx⟩
            · obtain ⟨⟨x', hx'⟩, _⟩ := HCW.out i hi
              exact ⟨x', by rw [World.cell?_setCell_other _ _ _ _ (by simp <;> omega)]; exact hx'⟩, by rw [World.frozen?_setCell]; exact (HCW.out i hi).2⟩)⟩
          case measure => simp [intOf]; omega
        · have hkn : k = n := by omega
          subst hkn
          have hste := run_str (HB.out.later hbel) len0 cap0 HLEN.out.symm
          rw [← HY.out] at hste
          have HTE := Lib.hid (HT.out.later hbel)
          go_wp2_with (go_at_call 8; refine (awake_any _ HTE.out).mono ?_; rintro e w' ⟨rfl, hb⟩)
          go_ret
          exact ⟨rfl, hbel.trans (hb.mono hbel.size)⟩

theorem contract (H : Type) (enc : TypeId × Value → H) (W : World) (base : Nat) (args : Array Value) (ds gs : List (DataW H)) (before : List MemPlace)
    (hval : ∀ (j : Nat) t v, Tryd.f5.params[j]? = some t → args[j]? = some v → Value.okWide Tryd.prog W .any base t v)
    (hW : DataW.Whole enc Tryd.prog Tryd.f5.params.toList Rows.crcSealsSpec.vars false W args.toList ds gs before) (hL : laidMetH Tryd.prog Rows.crcSealsRow.laid W) :
    Calls Tryd.prog 5 args W fun e W' => ∃ v, e = .returned v ∧ Rows.crcSealsSpec.post enc Tryd.prog Tryd.f5 false true false false W args v W' := by
  have hW' := hW
  obtain ⟨p, q, hA0, hV, rfl, hfz, hnd⟩ := hW
  have hA : DataW.TrodAll enc Tryd.prog W 0 (fun _ => true) true Tryd.f5.params.toList args.toList ds p := hA0
  rw [Tryd.params5] at hA hval
  obtain ⟨v0, vs0, d0, ds0, p0, q0, hargs, rfl, rfl, h0, r0⟩ := trodAll_cons hA
  obtain ⟨rfl, rfl, rfl⟩ := trodAll_nil r0
  obtain rfl : args = #[v0] := by cases args; simp_all
  obtain ⟨rfl, rfl⟩ := trodVars_none hV
  obtain ⟨a0, len0, cap0, rfl⟩ := okWide_slice Tryd.underlying24 (hval 0 24 v0 rfl rfl)
  have k0 := h0
  have lt0 : ∀ x ∈ p0, x.block < W.heap.size := by obtain ⟨m, hm⟩ := k0; exact DataW.trod_lt m _ _ _ hm
  obtain ⟨z0, w0⟩ : ∃ zs, IsRow .u8 W a0 len0 cap0 zs := by
    obtain ⟨fuel, hf⟩ := h0
    rcases open_ints Tryd.underlying24 Tryd.underlying5 (by kernel_rfl) hf with ⟨hcs, _⟩ | ⟨x, l, c, zs, hcs, _, hl, hm, hz, _, hcell, hwz⟩
    · simp [Value.cells] at hcs
      obtain ⟨rfl, rfl, rfl⟩ := hcs
      exact ⟨[], .inl ⟨rfl, rfl, rfl, rfl⟩⟩
    · simp [Value.cells] at hcs
      obtain ⟨rfl, rfl, rfl⟩ := hcs
      exact ⟨zs, .inr ⟨_, rfl, hl, hm, by simpa using hz, hcell, hwz⟩⟩
  clear hA0
  refine (walk a0 len0 cap0 z0 W (tab_of hL) w0).mono fun e W' ⟨he, bel⟩ => ?_
  subst he
  exact ⟨_, rfl, _, _, _, [], _, [], hW', trodAll_mk1 (shut_bool Tryd.underlying4 _), (trodAll_cons_mk (Below.trod laidOut (by kernel_rfl) (of_decide_eq_true (by kernel_rfl)) k0 bel lt0) trodAll_mk0), rfl, bel.frame _, fun h => by cases h⟩

/-- a world for the witness: the settled one, the table holding what its initialiser lays -/
noncomputable def laidWorld (os : Os) : World :=
  { World.holding Tryd.prog os ⟨#[], #[], []⟩ with heap := (World.holding Tryd.prog os ⟨#[], #[], []⟩).heap.modify 0 fun
      | .cells _ t frozen => .cells #[.int .u32 0, .int .u32 498536548, .int .u32 997073096, .int .u32 651767980, .int .u32 1994146192, .int .u32 1802195444, .int .u32 1303535960, .int .u32 1342533948, .int .u32 3988292384, .int .u32 4027552580, .int .u32 3604390888, .int .u32 3412177804, .int .u32 2607071920, .int .u32 2262029012, .int .u32 2685067896, .int .u32 3183342108] t frozen
      | o => o }
theorem laid_met (os : Os) : laidMet Tryd.prog Rows.crcSealsRow.laid ((laidWorld os).forCall (fun _ _ => 0) ⟨#[], #[.slice none 0 0], []⟩).memory :=
  laidMet_of_run' 8 (by kernel_rfl) (by kernel_rfl)
theorem reads (os : Os) {H : Type} (enc : TypeId × Value → H) : ∃ places, DataW.whole enc Tryd.prog ((laidWorld os).forCall (fun _ _ => 0) ⟨#[], #[.slice none 0 0], []⟩).memory Tryd.f5.params.toList Rows.crcSealsSpec.vars false (#[.slice none 0 0] : Array Value).toList 8 = some ([.nil], [], places) :=
  ⟨[], by kernel_rfl⟩

set_option maxRecDepth 100000 in
theorem lifted (os : Os) (started : os.Started) (H : Type) (enc : TypeId × Value → H) (F : Stop.Interp) :
    ReturnsInHanded {} Tryd.checked os 5 .any ((OpenSpec.ofChange Rows.crcSealsSpec).preRow enc Tryd.prog Tryd.f5 Rows.crcSealsRow.domain false Rows.crcSealsRow.laid) (((OpenSpec.ofChange Rows.crcSealsSpec).at F).post enc Tryd.prog Tryd.f5 false true false false) := by
  obtain ⟨places, hx⟩ := reads os enc
  refine returnsInHanded_of_row (C := Tryd.checked) (s := OpenSpec.ofChange Rows.crcSealsSpec) own started (by kernel_rfl) Tryd.func5
    (witness_row_at (enc := enc) (C := Tryd.checked) false (laidWorld os) #[.slice none 0 0] rfl (by kernel_rfl) (by kernel_rfl) (by kernel_rfl)
      (OpenSpec.preRow_of_cond 8 hx (by kernel_rfl) (fun k hk => by cases hk) (by kernel_rfl) (laid_met os))) ?_
  intro W base args ds gs before hval hW _ _ _ hL _ _
  exact contract H enc W base args ds gs before hval hW hL

theorem said : Rows.CrcSealsSaid :=
  OpenClaim.holds_of_cond 5 Tryd.f5 rfl rfl rfl rfl rfl rfl rfl ⟨rfl, rfl, rfl, rfl, rfl⟩ rfl rfl rfl rfl rfl (by kernel_rfl) Tryd.func5 (by kernel_rfl)
    (of_decide_eq_true (by kernel_rfl)) (by unfold Func.isWrapper; first | (rw [if_pos (by decide +kernel)]; kernel_rfl) | (rw [if_neg (by decide +kernel)]; exact ⟨rfl, rfl⟩))
    (fun os started H enc _ F => by rw [OpenClaim.pre_eq_preRow]; exact lifted os started H enc F)

theorem plain (f : FuncId) (fn : Func) (hf : Tryd.pinned.checked.prog.funcNamed "remora/remoralaw02.CrcSeals" = some f) (hfn : Tryd.pinned.checked.prog.funcs[f]? = some fn) :
    false = Tryd.pinned.checked.prog.looks [] ∧ ∀ (j : Nat) t, fn.params[j]? = some t → Tryd.pinned.checked.prog.wantsStandIn t = false := by
  obtain rfl : f = 5 := Option.some.inj ((show Tryd.prog.funcNamed "remora/remoralaw02.CrcSeals" = some 5 by kernel_rfl).symm.trans hf) |>.symm
  obtain rfl : fn = Tryd.f5 := (Option.some.inj (Tryd.func5.symm.trans hfn)).symm
  refine ⟨by kernel_rfl, fun j t ht => ?_⟩
  rw [Tryd.params5] at ht
  obtain rfl : t = 24 := by simpa using Array.mem_of_getElem? ht
  exact (show Tryd.prog.wantsStandIn 24 = false by kernel_rfl)

theorem card : Rows.CrcSealsCardSaid :=
  Claim7.holds_tied_plain_at .later [] _ _ _ _ said (fun _ h => by cases h) (by kernel_rfl) (fun _ h => by cases h) crcSeals_row_tie rfl ⟨rfl, rfl⟩ (by kernel_rfl) rfl plain (by kernel_rfl)
#print axioms card
end Go.Proofs.YtkojldjgjmaodaaDoor.crcSeals
