/- PaRSplit, PaRGlue, PaRParts, RuCheck, RuPrint, RuROne, RuLight, RuRWh, RuRAc, RuBelowM, RuRHd, MRange, MeCut, SplitIt, RuParse2, RuRow, RuLines, RuAwake, RuLawA, joined. -/
import Derived.Test.YtokocfoeohddfaaGreatDoorPaOrderM
import Derived.Lib.AppendStr
import Derived.Lib.UnsafeStr
import Derived.Test.YtokocfoeohddfaaGreatDoorRuHid
import Derived.Laws.Concat
import Derived.Test.YtokocfoeohddfaaGreatDoorMbA
import Derived.Deep.Slices
import Derived.ChangeArms
import Derived.Test.YtokocfoeohddfaaGreatDoorPaBackM
import Derived.RangeFuncNested
import Derived.RangeFuncBound
import Derived.RangeFuncCalls
import Derived.RangeFuncLeaves
import Derived.Shelf.Abstract
import Derived.WalkKit
import Derived.OwnWalkIn
import Derived.TacticsInMore
import Derived.LoopNIn
import Derived.LoopIn
import Derived.Test.YtokocfoeohddfaaGreatDoorPaMath
import Derived.Test.YtokocfoeohddfaaGreatDoorPaStr
import Derived.Test.YtokocfoeohddfaaGreatDoorShelf
import Derived.Lib.IndexLaws
import Derived.Lib.Walk
import Derived.Test.YtokocfoeohddfaaGreatDoorRuParse
import Derived.BigRegionIn
namespace Go.Proofs.YtokocfoeohddfaaGreatDoor.Pa
open Go.RowKit
set_option linter.unusedVariables false
set_option linter.unusedSimpArgs false
set_option maxRecDepth 1000000

theorem append_str2 {w : World} {ops : Array Oper} {rest : List Oper} {o : Oper} {a : Act} {Q : Exit → Act → World → Prop}
    (hg : o.guard = none) (s x : Operand) (hop : o.op = Op.call { callee := Callee.builtin Builtin.append, args := #[s, x], argTypes := #[48, 48] })
    (base : Nat) (v : Value) (ps : List L8) (p : L8) (hs : a.eval s = v) (hown : SOwn w base v ps) (ad : Addr) (c : Nat) (hx : a.eval x = .slice (some ad) 1 c)
    (hc : w.cell? ad = some (.string (mk p))) (hl : ps.length ≤ 4398046511104) (b3 : base ≤ w.heap.size)
    (hK : ∀ v' w', Hid (SOwn w' base v' (ps ++ [p])) → Hid (w.grownBy w' v.ownBlock) → wpList Tryz.prog ops Q rest (a.put o.dst v') w') :
    wpList Tryz.prog ops Q (o :: rest) a w := by
  obtain ⟨i0, hi, hz0, hz1, hz2⟩ := info_parts Tryz.infoStr
  refine wpList_append_own w hg s x 48 hop base 9 i0 (.string ⟨#[]⟩) 1 16 Tryz.underlying48 hi hz0 hz1 hz2 rfl (by decide) v ps.length (strs ps) hs hown ad 1 c (strs [p]) hx rfl
    (by intro j u hj
        cases j with
        | zero => simp [strs] at hj; subst hj; simpa [Addr.add] using hc
        | succ j => simp [strs] at hj) (strs_one _) (by unfold maxLen; omega) (by omega) b3 ?_
  intro v' w' r1 r2 _
  refine hK v' w' ?_ r2
  show w'.ownsRow base 9 1 v' (ps ++ [p]).length (strs (ps ++ [p]))
  rw [strs_app, List.length_append]
  exact r1

/-- how far the text has been gone through: k parts, the next one begins at f, the place is i -/
def Walk (l : L8) (k f i : Nat) (out : List L8) : Prop := (i ≤ l.length ∧ At l k f ∧ Free l f i ∧ f ≤ i ∧ out = (cut l).take k) ∨ (i = l.length + 1 ∧ out = cut l)
set_option maxHeartbeats 8000000 in
theorem rsplit_any (l : L8) (w : World) (hl : l.length ≤ 4398046511100) :
    Calls Tryz.prog 36 #[.string (mk l)] w fun e w' => ∃ v, e = .returned v ∧ SOwn w' w.heap.size v (parts l) ∧ Below w.heap.size w w' := by
  have hs : (mk l).size = l.length := mk_size l
  by_cases hn : l = []
  · have he := emptyT hn
    have hp : parts l = [] := by unfold parts; rw [if_pos hn]
    rw [hp]
    clear hn hp hs
    go_enter Tryz.func36, Tryz.ntmps36
    go_wp2
    go_ret
    exact ⟨_, rfl, World.ownsRow_nil _ _ _ _, Below.refl _ _⟩
  · have he := emptyF hn
    have hp : parts l = cut l := by unfold parts; rw [if_neg hn]
    rw [hp]
    have hcl := cut_length l
    have hcc : l.count 47 ≤ l.length := List.count_le_length
    obtain ⟨n, hnn⟩ : ∃ n, n = (mk l).size := ⟨_, rfl⟩
    have HN : Hid (n = l.length) := by show _ = _; omega
    have hnb : n ≤ 4398046511100 := by omega
    have HCL : Hid ((cut l).length ≤ n + 1) := by show _ ≤ _; omega
    have HSZ := Lib.hid hnn
    clear hn hp hcl hcc
    go_enter Tryz.func36, Tryz.ntmps36
    go_wp2
    go_loopw [3, 4, 5] (fun v f c wr => ∃ (k fN i : Nat) (out : List L8), f = .int .i64 fN ∧ c = .int .i64 i ∧ i ≤ n + 1 ∧ fN ≤ n + 1 ∧ Hid (Walk l k fN i out) ∧ Hid (out.length ≤ n + 1) ∧ (∃ a cc, v = .slice a out.length cc) ∧ Hid (SOwn wr w.heap.size v out) ∧ Hid (Below w.heap.size w wr)) (fun _ _ c _ => n + 2 - (intOf c).toNat)
    case atStart =>
      exact ⟨0, 0, 0, [], rfl, rfl, by omega, by omega, .inl ⟨Nat.zero_le _, At.zero l, Free.empty l 0 0 (Nat.le_refl _), Nat.le_refl _, rfl⟩, by show _ ≤ _; simp, ⟨none, 0, rfl⟩, World.ownsRow_nil _ _ _ _, Below.refl _ _⟩
    case round =>
      clear he
      obtain ⟨k, fN, i, out, rfl, rfl, hi, hfn, HW, HOL, ⟨a3, c3, rfl⟩, HO, HB⟩ := hrel
      have hlen : ((mk l).size : Int) = (n : Int) := by rw [HSZ.out]
      by_cases hlt : i ≤ n
      · have hI : (i : Int) ≤ (n : Int) := by omega
        have hI2 : (i : Int) ≤ ((mk l).size : Int) := by omega
        have HW2 : Hid (At l k fN ∧ Free l fN i ∧ fN ≤ i ∧ out = (cut l).take k) := by
          rcases HW.out with ⟨_, h⟩ | ⟨h, _⟩
          · exact h
          · have := HN.out; omega
        -- a part ends here?
        by_cases hend : i = n ∨ l[i]? = some 47
        · obtain ⟨hA, hF, hfi, hout⟩ := HW2.out
          have hpart : ∃ p k' f', p = (l.drop fN).take (i - fN) ∧ Walk l k' f' (i + 1) (out ++ [p]) ∧ f' = i + 1 := by
            by_cases h47 : l[i]? = some 47
            · obtain ⟨q1, q2⟩ := hA.slash hF hfi h47
              refine ⟨_, k + 1, i + 1, rfl, .inl ⟨q2.1, q2, Free.empty l _ _ (Nat.le_refl _), Nat.le_refl _, ?_⟩, rfl⟩
              rw [take_part q1, hout]
            · have hin : i = l.length := by rcases hend with h | h; (have := HN.out; omega); exact absurd h h47
              have hF2 : Free l fN l.length := hin ▸ hF
              obtain ⟨q1, q2⟩ := hA.last hF2
              refine ⟨_, k, i + 1, rfl, .inr ⟨by omega, ?_⟩, rfl⟩
              have e : (l.drop fN).take (i - fN) = l.drop fN := List.take_of_length_le (by rw [List.length_drop]; omega)
              rw [e, hout, ← take_part q1, ← q2, List.take_of_length_le (Nat.le_refl _)]
          obtain ⟨p, k', f', hp, hW', rfl⟩ := hpart
          have hcut := run_sub l fN i hfi (by have := HN.out; omega)
          rw [← hp] at hcut
          have HPP := Lib.hid hp
          have HWN := Lib.hid hW'
          have HLO : Hid ((out ++ [p]).length ≤ n + 1) := by
            show _ ≤ _
            have := HCL.out
            rcases hW' with ⟨_, _, _, _, h⟩ | ⟨_, h⟩
            · rw [h, List.length_take]; omega
            · rw [h]; omega
          have hba : Below wr.heap.size wr (wr.alloc (.cells #[.string (mk p)] 9)) := (Below.refl _ _).alloc (Nat.le_refl _) _
          have HBA := Lib.hid hba
          obtain ⟨m, hm⟩ : ∃ m, m = out.length := ⟨_, rfl⟩
          have HOA : Hid (SOwn (wr.alloc (.cells #[.string (mk p)] 9)) w.heap.size (.slice a3 m c3) out) := by rw [hm]; exact (KeepCD.below hba).row HO.out
          have HCA : Hid ((wr.alloc (.cells #[.string (mk p)] 9)).cell? ⟨wr.heap.size, 0, none⟩ = some (.string (mk p))) := cell1 (heap_new _ _)
          have hsz := HB.out.size
          have HM := Lib.hid hm
          rw [← hm]
          have HFI := Lib.hid hfi
          clear hA hF hfi hout hp hW' hba hm
          by_cases hin : i = n
          · have hinS : i = (mk l).size := by rw [← HSZ.out]; exact hin
            have HIN := Lib.hid hin
            have hlen2 := Lib.hid hlen
            have hx : (mk l).extract fN (List.length l) = mk p := by rw [mk_extract, HPP.out, ← HN.out, ← hin]
            clear hin hend hI hlen HW HW2
            subst hinS
            clear HSZ
            go_wp2_with (at_builtin; go_must (refine append_str2 rfl (.tmp 24) (.tmp 29) rfl w.heap.size (.slice a3 m c3) out p rfl HOA.out ⟨wr.heap.size, 0, none⟩ 1 rfl HCA.out (by have := HOL.out; have := HM.out; omega) (by simp; omega) ?_))
            intro v5 w5 HO5 HG5
            have HB5 : Hid (Below w.heap.size w w5) := Below.grown (w := wr.alloc (.cells #[.string (mk p)] 9)) (HB.out.trans (HBA.out.mono hsz)) HG5.out (by simp; omega) (fun q hq => (HOA.out.base_le q hq).1)
            obtain ⟨a5, c5, e5⟩ := HO5.out.slice
            have hl5 : (out ++ [p]).length = m + 1 := by rw [List.length_append, ← HM.out]; rfl
            rw [hl5] at e5
            subst e5
            have HL5 := Lib.hid hl5
            clear hl5
            go_wp2
            go_roundw
            case rel => exact ⟨k', (mk l).size + 1, (mk l).size + 1, out ++ [p], by go_num, by go_num, by have := HIN.out; omega, by have := HIN.out; omega, HWN, HLO, ⟨a5, c5, by rw [HL5.out]⟩, HO5, HB5⟩
            case measure => simp [intOf]; have := HIN.out; omega
          · have h47 : l[i]? = some 47 := by rcases hend with h | h; exact absurd h hin; exact h
            have hil : i < l.length := by have := HN.out; omega
            have hidx := run_at l i hil
            rw [(bt_slash hil).2 h47] at hidx
            have hq : ((i : Int) == ((mk l).size : Int)) = false := by have : ¬ (i : Int) = ((mk l).size : Int) := by omega
                                                                       simpa using this
            have hq2 : ¬ i = (mk l).size := by omega
            have HIN : Hid (i < n) := by show i < n; omega
            clear hin hend h47 hil hI hlen HW HW2 HSZ
            go_wp2_with (at_builtin; go_must (refine append_str2 rfl (.tmp 24) (.tmp 29) rfl w.heap.size (.slice a3 m c3) out p rfl HOA.out ⟨wr.heap.size, 0, none⟩ 1 rfl HCA.out (by have := HOL.out; have := HM.out; omega) (by simp; omega) ?_))
            intro v5 w5 HO5 HG5
            have HB5 : Hid (Below w.heap.size w w5) := Below.grown (w := wr.alloc (.cells #[.string (mk p)] 9)) (HB.out.trans (HBA.out.mono hsz)) HG5.out (by simp; omega) (fun q hq => (HOA.out.base_le q hq).1)
            obtain ⟨a5, c5, e5⟩ := HO5.out.slice
            have hl5 : (out ++ [p]).length = m + 1 := by rw [List.length_append, ← HM.out]; rfl
            rw [hl5] at e5
            subst e5
            have HL5 := Lib.hid hl5
            clear hl5
            go_wp2
            go_roundw
            case rel => exact ⟨k', i + 1, i + 1, out ++ [p], by go_num, by go_num, by have := HIN.out; omega, by have := HIN.out; omega, HWN, HLO, ⟨a5, c5, by rw [HL5.out]⟩, HO5, HB5⟩
            case measure => simp [intOf]; have := HIN.out; omega
        · have hin : ¬ i = n := fun h => hend (.inl h)
          have h47 : l[i]? ≠ some 47 := fun h => hend (.inr h)
          have hil : i < l.length := by have := HN.out; omega
          have hidx := run_at l i hil
          have hb47 : ¬ bt l i = 47 := fun h => h47 ((bt_slash hil).1 h)
          have HWN : Hid (Walk l k fN (i + 1) out) := by
            obtain ⟨hA, hF, hfi, hout⟩ := HW2.out
            exact .inl ⟨by omega, hA, hF.step (fun x h1 h2 => by have : x = i := by omega
                                                                 subst this; exact h47), by omega, hout⟩
          have hq : ((i : Int) == ((mk l).size : Int)) = false := by have : ¬ (i : Int) = ((mk l).size : Int) := by omega
                                                                     simpa using this
          have hq2 : ¬ i = (mk l).size := by omega
          have hq3 : (bt l i == 47) = false := by simpa using hb47
          generalize bt l i = x at *
          have HIN : Hid (i < n) := by show i < n; omega
          clear hin hend h47 hil hI hlen HW HW2 HSZ
          go_wp2
          go_roundw
          case rel => exact ⟨k, fN, i + 1, out, rfl, by go_num, by have := HIN.out; omega, by omega, HWN, HOL, ⟨a3, c3, rfl⟩, HO, HB⟩
          case measure => simp [intOf]; have := HIN.out; omega
      · have hI2 : ¬ (i : Int) ≤ ((mk l).size : Int) := by omega
        have hout : out = cut l := by
          rcases HW.out with ⟨h, _⟩ | ⟨_, h⟩
          · have := HN.out; omega
          · exact h
        have HOUT := Lib.hid hout
        have HO2 : Hid (SOwn wr w.heap.size (.slice a3 out.length c3) (cut l)) := by show SOwn _ _ _ _; rw [← hout]; exact HO.out
        clear hout hlen HO
        generalize out.length = m at *
        go_wp2
        go_ret
        exact ⟨_, rfl, HO2.out, HB.out⟩
end Go.Proofs.YtokocfoeohddfaaGreatDoor.Pa
namespace Go.Proofs.YtokocfoeohddfaaGreatDoor.Pa
open Go.RowKit
set_option linter.unusedVariables false
set_option linter.unusedSimpArgs false
set_option maxRecDepth 1000000

def nums (l : L8) : List Int := l.map (fun c => (c.toNat : Int))
theorem nums_length (l : L8) : (nums l).length = l.length := by simp [nums]
theorem nums_app (a b : L8) : nums (a ++ b) = nums a ++ nums b := by simp [nums]
theorem nums_oct (l : L8) : Oct (nums l) := by
  intro c hc
  obtain ⟨x, _, rfl⟩ := List.mem_map.1 hc
  have := x.toNat_lt
  omega
theorem nums_str (l : L8) : strOfNums (nums l) = mk l := by
  unfold strOfNums nums mk
  rw [List.map_map]
  have : ((fun n : Int => UInt8.ofNat n.toNat) ∘ fun c : UInt8 => (c.toNat : Int)) = id := by
    funext c; simp
  rw [this, List.map_id]
theorem nums_cells (l : L8) : Lib.strCells (mk l) = (nums l).map (Value.int .u8) := by
  rw [Lib.strCells_eq, mk_list]; simp [Lib.byteCells, nums]
theorem glue_take {ps : List L8} {k : Nat} {p : L8} (h : ps[k]? = some p) : glue (ps.take (k + 1)) = if k = 0 then p else glue (ps.take k) ++ [47] ++ p := by
  rw [take_part h]
  by_cases hk : k = 0
  · subst hk; rw [if_pos rfl]; simp [glue]
  · rw [if_neg hk]
    have h0 : ps.take k ≠ [] := by
      have h1 := (List.getElem?_eq_some_iff.1 h).1
      intro e
      have h2 := congrArg List.length e
      rw [List.length_take, List.length_nil] at h2
      omega
    rw [glue_app h0 (by simp)]
    simp [glue]
/-- an append of a text to bytes of one's own -/
theorem append_text {w : World} {ops : Array Oper} {rest : List Oper} {o : Oper} {a : Act} {Q : Exit → Act → World → Prop}
    (hg : o.guard = none) (s x : Operand) (hop : o.op = Op.call { callee := Callee.builtin Builtin.append, args := #[s, x], argTypes := #[68, 9] })
    (base : Nat) (v : Value) (l p : L8) (hs : a.eval s = v) (hown : Own w base v (nums l)) (hx : a.eval x = .string (mk p)) (hl : l.length + p.length ≤ 140737488355328) (b3 : base ≤ w.heap.size)
    (hK : ∀ v' w', Hid (Own w' base v' (nums (l ++ p))) → Hid (Below base w w') → wpList Tryz.prog ops Q rest (a.put o.dst v') w') :
    wpList Tryz.prog ops Q (o :: rest) a w := by
  obtain ⟨i0, hi, hz0, hz1, hz2⟩ := info_parts Tryz.infoB
  have hsz := mk_size p
  refine Lib.wpList_append_own_string w hg s x 68 9 hop base 5 i0 Tryz.underlying68 Tryz.underlying9 hi hz0 hz1 hz2 v (nums l).length _ hs hown (mk p) hx (by rw [nums_length]; unfold maxLen; omega) (by rw [nums_length]; omega) b3 ?_
  intro v' w' r1 r2 _
  refine hK v' w' ?_ ((Below.refl _ _).grown r2 b3 (fun j hj => hown.base_le j hj))
  show w'.ownsRow base 5 1 v' (nums (l ++ p)).length ((nums (l ++ p)).map (Value.int .u8))
  rw [nums_app, List.map_append, List.length_append, ← nums_cells p, nums_length p, ← hsz]
  exact r1

set_option maxHeartbeats 8000000 in
theorem glue_any (v : Value) (ps : List L8) (w : World) (h : Txt w v ps) (hl : ∀ k, (glue (ps.take k)).length ≤ 35184372088832) (hn : ps.length ≤ 4611686018427387904) (hp : ∀ p ∈ ps, p.length ≤ 35184372088832) :
    Calls Tryz.prog 41 #[v] w fun e w' => e = .returned (.string (mk (glue ps))) ∧ Below w.heap.size w w' := by
  obtain ⟨a, c, rfl, hT⟩ := h
  obtain ⟨n, hnn⟩ : ∃ n, n = ps.length := ⟨_, rfl⟩
  rw [← hnn] at hn ⊢
  have HN := Lib.hid hnn
  have HT := Lib.hid hT
  have HL := Lib.hid hl
  have HP := Lib.hid hp
  clear hT hl hp hnn
  go_enter Tryz.func41, Tryz.ntmps41
  go_wp2
  go_loopw [3, 4] (fun v c wr => ∃ (k m : Nat) (G : L8), c = .int .i64 k ∧ k ≤ n ∧ (∃ a cc, v = .slice a m cc) ∧ Hid (m = (nums G).length) ∧ Hid (G = glue (ps.take k)) ∧ Hid (Own wr w.heap.size v (nums G)) ∧ Hid (Below w.heap.size w wr)) (fun _ c _ => n - (intOf c).toNat)
  case atStart => exact ⟨0, 0, [], rfl, Nat.zero_le _, ⟨none, 0, rfl⟩, rfl, rfl, Own.nil _ _, Below.refl _ _⟩
  case round =>
    obtain ⟨k, m, G, rfl, hk, ⟨a3, c3, rfl⟩, HM, HGE, HO, HB⟩ := hrel
    have hsz := HB.out.size
    by_cases hlt : k < n
    · have hI : (k : Int) < (n : Int) := by omega
      obtain ⟨p, hp⟩ : ∃ p, ps[k]? = some p := ⟨_, List.getElem?_eq_getElem (by have := HN.out; omega)⟩
      obtain ⟨g, off, ea, hcell⟩ := HT.out (by intro e; rw [e] at hp; simp at hp)
      subst ea
      have hcx := cell_later HB.out (hcell k p hp)
      have HCELL := Lib.hid (hcell k p hp)
      have HG := Lib.hid (glue_take hp)
      have HPL := Lib.hid (HP.out p (List.mem_of_getElem? hp))
      have HGL := Lib.hid (HL.out k)
      rw [← HGE.out] at HG HGL
      clear hp hcell
      by_cases h0 : k = 0
      · subst h0
        rw [Nat.add_zero] at hcx
        have hGe : G = [] := by rw [HGE.out]; rfl
        have HG1 : Hid (glue (ps.take (0 + 1)) = G ++ p) := by show _ = _; rw [HG.out, if_pos rfl, hGe]; rfl
        clear HG hGe HGE
        go_wp2_with (at_builtin; go_must (refine append_text rfl (.tmp 16) (.tmp 20) rfl w.heap.size (.slice a3 m c3) G p rfl HO.out rfl (by have := HGL.out; have := HPL.out; omega) hsz ?_))
        intro v5 w5 HO5 HB5
        obtain ⟨a5, c5, e5⟩ := own_form HO5.out
        obtain ⟨m5, hm5⟩ : ∃ m5, m5 = (nums (G ++ p)).length := ⟨_, rfl⟩
        rw [← hm5] at e5
        subst e5
        have HM5 := Lib.hid hm5
        have HBN : Hid (Below w.heap.size w w5) := HB.out.trans HB5.out
        clear hm5
        go_wp2
        go_roundw
        case rel => exact ⟨1, m5, G ++ p, by go_num, by omega, ⟨a5, c5, rfl⟩, HM5, HG1.out.symm, HO5, HBN⟩
        case measure => simp [intOf]; omega
      · have hI0 : (0 : Int) < (k : Int) := by omega
        have HG1 : Hid (glue (ps.take (k + 1)) = (G ++ [47]) ++ p) := by show _ = _; rw [HG.out, if_neg h0]
        have hba : Below wr.heap.size wr (wr.alloc (.cells #[.int .u8 47] 5)) := (Below.refl _ _).alloc (Nat.le_refl _) _
        have HOA : Hid (Own (wr.alloc (.cells #[.int .u8 47] 5)) w.heap.size (.slice a3 m c3) (nums G)) := World.ownsRow.alloc HO.out _
        have HS47 : Hid (Sl (wr.alloc (.cells #[.int .u8 47] 5)) (.slice (some ⟨wr.heap.size, 0, none⟩) 1 1) [47]) := one_sl wr 47 (by omega) (by omega)
        have HBA := Lib.hid hba
        have HCX := Lib.hid hcx
        clear HG h0 hba HGE hcx
        go_wp2_with (at_builtin; go_must (refine append_sl rfl (.tmp 13) (.tmp 14) rfl w.heap.size (.slice a3 m c3) _ (nums G) [47] rfl HOA.out rfl HS47.out (by rw [nums_length]; have := HGL.out; simp; omega) (by simp; omega) ?_))
        intro v4 w4 HO4 hb4
        have HO4' : Hid (Own w4 w.heap.size v4 (nums (G ++ [47]))) := by show Own _ _ _ _; rw [nums_app]; exact HO4.out
        obtain ⟨G4, hG4⟩ : ∃ G4, G4 = G ++ [47] := ⟨_, rfl⟩
        have hG4l : G4.length = G.length + 1 := by rw [hG4]; simp
        rw [← hG4] at HO4' HG1
        have HG4L := Lib.hid hG4l
        clear hG4 hG4l
        have HB4 : Hid (Below w.heap.size w w4) := (HB.out.trans (HBA.out.mono hsz)).trans hb4
        have hsz4 := HB4.out.size
        have hcx4 : w4.cell? ⟨g, off + k, none⟩ = some (.string (mk p)) := cell_later HB4.out HCELL.out
        obtain ⟨a4, c4, e4⟩ := own_form HO4'.out
        obtain ⟨m4, hm4⟩ : ∃ m4, m4 = (nums G4).length := ⟨_, rfl⟩
        rw [← hm4] at e4
        subst e4
        clear hm4 hb4 HO4
        go_wp2_with (at_builtin; go_must (refine append_text rfl (.tmp 16) (.tmp 20) rfl w.heap.size (.slice a4 m4 c4) G4 p rfl HO4'.out rfl (by have := HGL.out; have := HPL.out; have := HG4L.out; omega) hsz4 ?_))
        intro v5 w5 HO5 HB5
        obtain ⟨a5, c5, e5⟩ := own_form HO5.out
        obtain ⟨m5, hm5⟩ : ∃ m5, m5 = (nums (G4 ++ p)).length := ⟨_, rfl⟩
        rw [← hm5] at e5
        subst e5
        have HM5 := Lib.hid hm5
        have HBN : Hid (Below w.heap.size w w5) := HB4.out.trans HB5.out
        clear hm5
        go_wp2
        go_roundw
        case rel => exact ⟨k + 1, m5, G4 ++ p, by go_num, by omega, ⟨a5, c5, rfl⟩, HM5, HG1.out.symm, HO5, HBN⟩
        case measure => simp [intOf]; omega
    · have hI : ¬ (k : Int) < (n : Int) := by omega
      have hGe : G = glue ps := by rw [HGE.out, List.take_of_length_le (by have := HN.out; omega)]
      obtain ⟨ax, cx, ex, hB3, -, -⟩ := HO.out.sl (nums_oct G)
      rw [← HM.out] at ex
      simp only [Value.slice.injEq] at ex
      obtain ⟨rfl, -, rfl⟩ := ex
      have hr := run_str hB3 m c3 HM.out
      rw [nums_str, hGe] at hr
      clear hGe hB3
      go_wp2
      go_ret
      exact ⟨rfl, HB.out⟩
end Go.Proofs.YtokocfoeohddfaaGreatDoor.Pa
namespace Go.Proofs.YtokocfoeohddfaaGreatDoor.Pa
open Go.RowKit
set_option linter.unusedVariables false
set_option linter.unusedSimpArgs false
set_option maxRecDepth 1000000

theorem hel24 : Tryz.prog.elem 48 = 9 := by kernel_rfl
theorem run_head {w : World} {base : Nat} {a : Option Addr} {n c : Nat} {ps : List L8} (h : SOwn w base (.slice a n c) ps) (m : Nat) (hm : m ≤ ps.length) :
    ∃ a', (∀ W, (Instr.slice 48 (.slice a n c) none (some (.int .i64 (m : Int))) none).run Tryz.prog W = .ok (.slice a' m c) W) ∧ Txt w (.slice a' m c) (ps.take m) := by
  have key : n = ps.length ∧ ps.length ≤ c ∧ (ps ≠ [] → ∃ g, a = some ⟨g, 0, none⟩ ∧ ∀ (j : Nat) (x : L8), ps[j]? = some x → w.cell? ⟨g, 0 + j, none⟩ = some (.string (mk x))) := by
    rcases h.form with ⟨rfl, e⟩ | ⟨g, cap, e, _, _, hc, _, hx⟩
    · simp only [Value.slice.injEq] at e
      obtain ⟨rfl, rfl, rfl⟩ := e
      exact ⟨rfl, by simp, fun h => absurd rfl h⟩
    · simp only [Value.slice.injEq] at e
      obtain ⟨rfl, rfl, rfl⟩ := e
      exact ⟨rfl, hc, fun _ => ⟨g, rfl, hx⟩⟩
  obtain ⟨rfl, hc, hx⟩ := key
  have hr : ∀ W, (Instr.slice 48 (.slice a ps.length c) none (some (.int .i64 (m : Int))) none).run Tryz.prog W = .ok (.slice (if c = 0 then a else a.map (·.add (0 * 1))) m c) W := by
    intro W
    have hr := run_slice_h (P := Tryz.prog) (w := W) 48 a ps.length c (by rw [hel24]; exact Tryz.underlying48) .i64 m (by omega) (by omega)
    have hsz : (sizeOf (Tryz.prog.elem 48)).run Tryz.prog W = .ok 1 W := by rw [hel24]; rfl
    rw [hsz] at hr
    simpa [Result.andThen, sliced] using hr
  refine ⟨_, hr, _, c, by rw [List.length_take, Nat.min_eq_left hm], fun hne => ?_⟩
  have hn0 : ps ≠ [] := by intro e; subst e; simp at hne
  obtain ⟨g, rfl, hcell⟩ := hx hn0
  refine ⟨g, 0, by split <;> simp [Addr.add], fun j x hj => ?_⟩
  rw [List.getElem?_take] at hj
  split at hj
  · exact hcell j x hj
  · cases hj
theorem run_tail {w : World} {base : Nat} {a : Option Addr} {n c : Nat} {ps : List L8} (h : SOwn w base (.slice a n c) ps) (k : Nat) (hk : k ≤ ps.length) :
    ∃ a', (∀ W, (Instr.slice 48 (.slice a n c) (some (.int .i64 (k : Int))) none none).run Tryz.prog W = .ok (.slice a' (n - k) (c - k)) W) ∧ Txt w (.slice a' (n - k) (c - k)) (ps.drop k) := by
  have key : n = ps.length ∧ ps.length ≤ c ∧ (ps ≠ [] → ∃ g, a = some ⟨g, 0, none⟩ ∧ ∀ (j : Nat) (x : L8), ps[j]? = some x → w.cell? ⟨g, 0 + j, none⟩ = some (.string (mk x))) := by
    rcases h.form with ⟨rfl, e⟩ | ⟨g, cap, e, _, _, hc, _, hx⟩
    · simp only [Value.slice.injEq] at e
      obtain ⟨rfl, rfl, rfl⟩ := e
      exact ⟨rfl, by simp, fun h => absurd rfl h⟩
    · simp only [Value.slice.injEq] at e
      obtain ⟨rfl, rfl, rfl⟩ := e
      exact ⟨rfl, hc, fun _ => ⟨g, rfl, hx⟩⟩
  obtain ⟨rfl, hc, hx⟩ := key
  have hr : ∀ W, (Instr.slice 48 (.slice a ps.length c) (some (.int .i64 (k : Int))) none none).run Tryz.prog W = .ok (.slice (if c = k then a else a.map (·.add (k * 1))) (ps.length - k) (c - k)) W := by
    intro W
    have hr := run_slice_l (P := Tryz.prog) (w := W) 48 a ps.length c (by rw [hel24]; exact Tryz.underlying48) .i64 (k : Int) (by omega) (by omega)
    have hsz : (sizeOf (Tryz.prog.elem 48)).run Tryz.prog W = .ok 1 W := by rw [hel24]; rfl
    rw [hsz] at hr
    simp only [Result.andThen, sliced, Int.toNat_natCast] at hr
    exact hr
  refine ⟨_, hr, _, c - k, by rw [List.length_drop], fun hne => ?_⟩
  have hn0 : ps ≠ [] := by intro e; subst e; simp at hne
  have hkl : k < ps.length := by
    rcases Nat.lt_or_ge k ps.length with h | h
    · exact h
    · rw [List.drop_eq_nil_of_le h] at hne; exact absurd rfl hne
  obtain ⟨g, rfl, hcell⟩ := hx hn0
  refine ⟨g, k, ?_, fun j x hj => ?_⟩
  · rw [if_neg (by omega)]
    by_cases h0 : k = 0
    · subst h0; simp [Addr.add]
    · simp [Addr.add, h0]
  · rw [List.getElem?_drop] at hj
    have := hcell _ x hj
    rwa [Nat.zero_add] at this

set_option maxHeartbeats 2000000 in
theorem nought_any (p : L8) (w : World) (hl : p.length ≤ 4611686018427387904) :
    Calls Tryz.prog 37 #[.string (mk p)] w fun e w' => e = .returned (.bool (decide ((0 : UInt8) ∈ p))) ∧ w = w' := by
  have hs : (mk p).size = p.length := mk_size p
  obtain ⟨R, hR⟩ : ∃ R, R = decide ((0 : UInt8) ∈ p) := ⟨_, rfl⟩
  rw [← hR]
  have HR := Lib.hid hR
  have HS := Lib.hid hs
  clear hR hs
  go_enter Tryz.func37, Tryz.ntmps37
  go_wp2
  go_loopw [3] (fun c wr => ∃ k : Nat, c = .int .i64 k ∧ k ≤ p.length ∧ Hid (∀ j, j < k → p[j]? ≠ some 0) ∧ w = wr) (fun c _ => p.length - (intOf c).toNat)
  case atStart => exact ⟨0, rfl, Nat.zero_le _, (fun j hj => by omega), rfl⟩
  case round =>
    obtain ⟨k, rfl, hk, HN, rfl⟩ := hrel
    by_cases hlt : k < p.length
    · have hI : (k : Int) < ((mk p).size : Int) := by have := HS.out; omega
      have hidx := run_at p k hlt
      by_cases h0 : p[k]? = some 0
      · have hb : bt p k = 0 := by rw [bt_of h0]; rfl
        rw [hb] at hidx
        have HF : Hid (R = true) := by show _ = _; rw [HR.out]; exact decide_eq_true (List.mem_of_getElem? h0)
        clear h0 hb hlt
        go_wp2
        go_ret
        exact ⟨by rw [HF.out]; rfl, rfl⟩
      · have hb : ¬ bt p k = 0 := by
          intro e
          apply h0
          rw [List.getElem?_eq_getElem hlt] at h0 ⊢
          rw [bt_of (List.getElem?_eq_getElem hlt)] at e
          congr 1
          exact UInt8.toNat_inj.1 (by have : p[k].toNat = 0 := by omega
                                      rw [this]; rfl)
        have hb2 : (bt p k == 0) = false := by simpa using hb
        have HN2 : Hid (∀ j, j < k + 1 → p[j]? ≠ some 0) := by
          intro j hj
          rcases Nat.lt_or_ge j k with h | h
          · exact HN.out j h
          · have : j = k := by omega
            subst this; exact h0
        generalize bt p k = x at *
        have HLT : Hid (k < p.length) := hlt
        clear h0 hlt
        go_wp2
        go_roundw
        case rel => exact ⟨k + 1, by go_num, by have := HLT.out; omega, HN2, trivial⟩
        case measure => simp [intOf]; have := HLT.out; omega
    · have hI : ¬ (k : Int) < ((mk p).size : Int) := by have := HS.out; omega
      have HF : Hid (R = false) := by
        show _ = _
        rw [HR.out]
        refine decide_eq_false (fun hm => ?_)
        obtain ⟨j, hj, e⟩ := List.getElem_of_mem hm
        exact HN.out j (by omega) (by rw [List.getElem?_eq_getElem hj, e])
      clear hlt
      go_wp2
      go_ret
      exact ⟨by rw [HF.out]; rfl, rfl⟩

theorem right_iff (l : L8) : rightB l = true ↔ ((parts l).length ≤ 12 ∧ l.length ≤ 200 ∧ ∀ p ∈ parts l, skip p = false ∧ refV p = 0) := by
  constructor
  · intro h
    obtain ⟨g, hg, rfl⟩ := right_fine h
    rw [hg.parts]
    exact ⟨hg.few, hg.short, fun p hp => ⟨(hg.may p hp).1, (hg.may p hp).2.1⟩⟩
  · rintro ⟨h1, h2, h3⟩
    have hF : Fine (parts l) := ⟨fun p hp => ⟨(h3 p hp).1, (h3 p hp).2, parts_free l p hp⟩, h1, by rw [glue_parts]; exact h2⟩
    have := hF.right
    rwa [glue_parts] at this
theorem bad_part {p : L8} (h : ¬ (skip p = false ∧ refV p = 0)) : p = [] ∨ p = [46] ∨ p = [46, 46] ∨ 48 < p.length ∨ (0 : UInt8) ∈ p := by
  by_cases h1 : p = []
  · exact .inl h1
  · by_cases h2 : p = [46]
    · exact .inr (.inl h2)
    · right; right
      by_cases h3 : p = [46, 46]
      · exact .inl h3
      · right
        by_cases h4 : 48 < p.length
        · exact .inl h4
        · right
          apply Classical.byContradiction
          intro h5
          exact h ⟨decide_eq_false (fun e => e.elim h1 h2), by unfold refV; rw [if_neg h3, if_neg h5, if_neg h4]⟩
theorem good_part {p : L8} (h : skip p = false ∧ refV p = 0) : p ≠ [] ∧ p ≠ [46] ∧ p ≠ [46, 46] ∧ ¬ 48 < p.length ∧ ¬ (0 : UInt8) ∈ p := by
  obtain ⟨h1, h2⟩ := h
  have h3 := of_decide_eq_false h1
  unfold refV at h2
  split at h2
  · omega
  · next h4 =>
    split at h2
    · omega
    · next h5 =>
      split at h2
      · omega
      · next h6 => exact ⟨fun e => h3 (.inl e), fun e => h3 (.inr e), h4, h6, h5⟩
theorem in_glue {ps : List L8} {p : L8} (h : p ∈ ps) : p.length ≤ (glue ps).length := by
  induction ps with
  | nil => cases h
  | cons q r ih =>
    by_cases hr : r = []
    · subst hr
      simp at h; subst h; exact Nat.le_refl _
    · rw [glue_cons q hr]
      rcases List.mem_cons.1 h with rfl | h
      · simp
      · have := ih h; simp; omega
theorem part_len (l : L8) (p : L8) (h : p ∈ parts l) : p.length ≤ l.length := by
  have := in_glue h
  rwa [glue_parts] at this
theorem glue_sub {d g : List L8} (h : d <+: g) : (glue d).length ≤ (glue g).length := by
  obtain ⟨m, rfl⟩ := h
  by_cases hd : d = []
  · subst hd; simp [glue]
  · by_cases hm : m = []
    · subst hm; simp
    · rw [glue_app hd hm]; simp
theorem glue_suf {d m : List L8} : (glue m).length ≤ (glue (d ++ m)).length := by
  by_cases hd : d = []
  · subst hd; simp
  · by_cases hm : m = []
    · subst hm; simp [glue]
    · rw [glue_app hd hm]; simp; omega
set_option maxHeartbeats 8000000 in
theorem rright_any (l : L8) (w : World) (hl : l.length ≤ 1048576) :
    Calls Tryz.prog 19 #[.string (mk l)] w fun e w' => e = .returned (.bool (rightB l)) ∧ Below w.heap.size w w' := by
  have hs : (mk l).size = l.length := mk_size l
  obtain ⟨R, hR⟩ : ∃ R, R = rightB l := ⟨_, rfl⟩
  rw [← hR]
  have hri := right_iff l
  rw [← hR] at hri
  have HRI := Lib.hid hri
  have HSP := Lib.hid (rsplit_any l w (by omega))
  obtain ⟨n, hn⟩ : ∃ n, n = (parts l).length := ⟨_, rfl⟩
  have HN := Lib.hid hn
  have hpl := parts_len l
  have hnb : n ≤ 1048577 := by omega
  have hpb : ∀ p ∈ parts l, p.length ≤ 1048576 := fun p hp => Nat.le_trans (part_len l p hp) hl
  have HPB := Lib.hid hpb
  clear hR hri hpl hpb
  by_cases h12 : 12 < n
  · have hI : (12 : Int) < (n : Int) := by omega
    have HF : Hid (R = false) := by
      show _ = _
      cases hb : R with
      | false => rfl
      | true => have := (HRI.out.1 hb).1; omega
    clear hn h12 hs
    go_enter Tryz.func19, Tryz.ntmps19
    go_wp2_with (go_at_call 36; refine HSP.out.mono ?_; rintro e w1 ⟨v, rfl, hO, hb⟩; obtain ⟨a3, c3, e3⟩ := hO.slice; rw [← HN.out] at e3; have HB := Lib.hid hb; clear hO hb; subst e3)
    go_ret
    exact ⟨by rw [HF.out]; rfl, HB.out⟩
  · have hI : ¬ (12 : Int) < (n : Int) := by omega
    by_cases h200 : 200 < l.length
    · have hI2 : (200 : Int) < ((mk l).size : Int) := by omega
      have HF : Hid (R = false) := by
        show _ = _
        cases hb : R with
        | false => rfl
        | true => have := (HRI.out.1 hb).2.1; omega
      clear hn h12 hs h200
      go_enter Tryz.func19, Tryz.ntmps19
      go_wp2_with (go_at_call 36; refine HSP.out.mono ?_; rintro e w1 ⟨v, rfl, hO, hb⟩; obtain ⟨a3, c3, e3⟩ := hO.slice; rw [← HN.out] at e3; have HB := Lib.hid hb; clear hO hb; subst e3)
      go_ret
      exact ⟨by rw [HF.out]; rfl, HB.out⟩
    · have hI2 : ¬ (200 : Int) < ((mk l).size : Int) := by omega
      have H12 : Hid (n ≤ 12) := by show _ ≤ _; omega
      have H200 : Hid (l.length ≤ 200) := by show _ ≤ _; omega
      clear hn h12 hs h200
      go_enter Tryz.func19, Tryz.ntmps19
      go_wp2_with (go_at_call 36; refine HSP.out.mono ?_; rintro e w1 ⟨v, rfl, hO, hb⟩; obtain ⟨a3, c3, e3⟩ := hO.slice; rw [← HN.out] at e3; have HB := Lib.hid hb; have HT := Lib.hid hO.txt; clear hO hb; subst e3)
      go_loopw [4] (fun c wr => ∃ k : Nat, c = .int .i64 k ∧ k ≤ n ∧ Hid (∀ j p, j < k → (parts l)[j]? = some p → skip p = false ∧ refV p = 0) ∧ w1 = wr) (fun c _ => n - (intOf c).toNat)
      case atStart => exact ⟨0, rfl, Nat.zero_le _, (fun j p hj => by omega), rfl⟩
      case round =>
        obtain ⟨k, rfl, hk, HG, rfl⟩ := hrel
        by_cases hlt : k < n
        · have hIk : (k : Int) < (n : Int) := by omega
          obtain ⟨x, hx⟩ : ∃ x, (parts l)[k]? = some x := ⟨_, List.getElem?_eq_getElem (by rw [← HN.out]; exact hlt)⟩
          obtain ⟨a', c', e', ht⟩ := HT.out
          obtain ⟨g, off, ea, hcell⟩ := ht (by intro e; rw [e] at hx; simp at hx)
          rw [← HN.out] at e'
          simp only [Value.slice.injEq] at e'
          obtain ⟨rfl, -, rfl⟩ := e'
          subst ea
          have hcx := hcell k x hx
          have hxs : (mk x).size = x.length := mk_size x
          have hxb := HPB.out x (List.mem_of_getElem? hx)
          have HNO := Lib.hid (fun W => nought_any x W (by omega))
          have HX := Lib.hid hx
          clear hcell ht hx
          by_cases hgood : skip x = false ∧ refV x = 0
          · obtain ⟨g1, g2, g3, g4, g5⟩ := good_part hgood
            have e1 := emptyF g1
            have e2 := dotF g2
            have e3 := dotsF g3
            have e4 : ¬ (48 : Int) < ((mk x).size : Int) := by omega
            have e5 : decide ((48 : Int) < ((mk x).size : Int)) = false := decide_eq_false e4
            rw [decide_eq_false g5] at HNO
            have HG2 : Hid (∀ j p, j < k + 1 → (parts l)[j]? = some p → skip p = false ∧ refV p = 0) := by
              intro j p hj hp
              rcases Nat.lt_or_ge j k with h | h
              · exact HG.out j p h hp
              · have : j = k := by omega
                subst this
                rw [HX.out] at hp
                injection hp with hp
                subst hp; exact hgood
            clear hgood g1 g2 g3 g4 g5 hxs hxb
            go_wp2_with (go_at_call 37; refine (HNO.out _).mono ?_; rintro e w2 ⟨rfl, rfl⟩)
            go_roundw
            case rel => exact ⟨k + 1, by go_num, by omega, HG2, trivial⟩
            case measure => simp [intOf]; omega
          · have HF : Hid (R = false) := by
              show _ = _
              cases hb : R with
              | false => rfl
              | true => exact absurd ((HRI.out.1 hb).2.2 x (List.mem_of_getElem? HX.out)) hgood
            have hbad := bad_part hgood
            by_cases b1 : x = []
            · have e1 := emptyT b1
              clear hgood hbad b1 hxs hxb
              go_wp2
              go_ret
              exact ⟨by rw [HF.out]; rfl, HB.out⟩
            · by_cases b2 : x = [46]
              · have e1 := emptyX b2
                have e2 := dotT b2
                clear hgood hbad b1 b2 hxs hxb
                go_wp2
                go_ret
                exact ⟨by rw [HF.out]; rfl, HB.out⟩
              · have e1 := emptyF b1
                have e2 := dotF b2
                by_cases b3 : x = [46, 46]
                · have e3 := dotsT b3
                  clear hgood hbad b1 b2 b3 hxs hxb
                  go_wp2
                  go_ret
                  exact ⟨by rw [HF.out]; rfl, HB.out⟩
                · have e3 := dotsF b3
                  by_cases b4 : 48 < x.length
                  · have e4 : (48 : Int) < ((mk x).size : Int) := by omega
                    clear hgood hbad b1 b2 b3 b4 hxs hxb
                    go_wp2
                    go_ret
                    exact ⟨by rw [HF.out]; rfl, HB.out⟩
                  · have e4 : ¬ (48 : Int) < ((mk x).size : Int) := by omega
                    have e5 : decide ((48 : Int) < ((mk x).size : Int)) = false := decide_eq_false e4
                    have b5 : (0 : UInt8) ∈ x := by
                      rcases hbad with h | h | h | h | h
                      · exact absurd h b1
                      · exact absurd h b2
                      · exact absurd h b3
                      · exact absurd h b4
                      · exact h
                    rw [decide_eq_true b5] at HNO
                    clear hgood hbad b1 b2 b3 b4 b5 hxs hxb
                    go_wp2_with (go_at_call 37; refine (HNO.out _).mono ?_; rintro e w2 ⟨rfl, rfl⟩)
                    go_ret
                    exact ⟨by rw [HF.out]; rfl, HB.out⟩
        · have hIk : ¬ (k : Int) < (n : Int) := by omega
          have HF : Hid (R = true) := by
            show _ = _
            refine HRI.out.2 ⟨by rw [← HN.out]; exact H12.out, H200.out, fun p hp => ?_⟩
            obtain ⟨j, hj, e⟩ := List.getElem_of_mem hp
            exact HG.out j p (by have := HN.out; omega) (by rw [List.getElem?_eq_getElem hj, e])
          go_wp2
          go_ret
          exact ⟨by rw [HF.out]; rfl, HB.out⟩

theorem base_parts (l : L8) : (parts l = [] ∧ baseL l = []) ∨ ∃ I, parts l = I ++ [baseL l] := by
  by_cases h : l = []
  · subst h
    left
    refine ⟨rfl, ?_⟩
    have := (parent_cut []).2
    have h2 := congrArg List.getLast? this
    simp [cut] at h2
    exact h2
  · right
    refine ⟨(cut l).dropLast, ?_⟩
    unfold parts
    rw [if_neg h]
    exact (parent_cut l).2
theorem parent_parts (l : L8) : parentL l = glue (parts l).dropLast := by
  by_cases h : l = []
  · subst h; rw [(parent_cut _).1]; rfl
  · rw [(parent_cut l).1]; unfold parts; rw [if_neg h]
set_option maxHeartbeats 2000000 in
theorem rbase_any (l : L8) (w : World) (hl : l.length ≤ 1048576) :
    Calls Tryz.prog 22 #[.string (mk l)] w fun e w' => e = .returned (.string (mk (baseL l))) ∧ Below w.heap.size w w' := by
  have HSP := Lib.hid (rsplit_any l w (by omega))
  obtain ⟨n, hn⟩ : ∃ n, n = (parts l).length := ⟨_, rfl⟩
  have HN := Lib.hid hn
  have hpl := parts_len l
  have hnb : n ≤ 1048577 := by omega
  rcases base_parts l with ⟨h1, h2⟩ | ⟨I, h1⟩
  · have hn0 : n = 0 := by rw [hn, h1]; rfl
    subst hn0
    rw [h2]
    clear hn h1 h2 hpl
    go_enter Tryz.func22, Tryz.ntmps22
    go_wp2_with (go_at_call 36; refine HSP.out.mono ?_; rintro e w1 ⟨v, rfl, hO, hb⟩; obtain ⟨a3, c3, e3⟩ := hO.slice; rw [← HN.out] at e3; have HB := Lib.hid hb; clear hO hb; subst e3)
    go_ret
    exact ⟨rfl, HB.out⟩
  · have hnI : n = I.length + 1 := by rw [hn, h1]; simp
    have hlast : (parts l)[I.length]? = some (baseL l) := by rw [h1]; simp
    have HL := Lib.hid hlast
    generalize baseL l = z at *
    obtain ⟨k, hk⟩ : ∃ k, k = I.length := ⟨_, rfl⟩
    rw [← hk] at hnI HL
    subst hnI
    clear hn h1 hpl hlast hk
    go_enter Tryz.func22, Tryz.ntmps22
    go_wp2_with (go_at_call 36; refine HSP.out.mono ?_; rintro e w1 ⟨v, rfl, hO, hb⟩; obtain ⟨a3, c3, e3, hcell⟩ := hO.txt; obtain ⟨g, off, ea, hcell⟩ := hcell (by intro e; have := HL.out; rw [e] at this; simp at this); rw [← HN.out] at e3; have hcx := hcell k z HL.out; have HB := Lib.hid hb; clear hO hb hcell; subst ea; subst e3)
    go_ret
    exact ⟨rfl, HB.out⟩
set_option maxHeartbeats 2000000 in
theorem rparent_any (l : L8) (w : World) (hl : l.length ≤ 1048576) :
    Calls Tryz.prog 25 #[.string (mk l)] w fun e w' => e = .returned (.string (mk (parentL l))) ∧ Below w.heap.size w w' := by
  have HSP := Lib.hid (rsplit_any l w (by omega))
  obtain ⟨n, hn⟩ : ∃ n, n = (parts l).length := ⟨_, rfl⟩
  have HN := Lib.hid hn
  have hpl := parts_len l
  have hnb : n ≤ 1048577 := by omega
  have hpp := parent_parts l
  by_cases h2 : n < 2
  · have hI : (n : Int) < 2 := by omega
    have hz : parentL l = [] := by
      rw [hpp]
      have : (parts l).dropLast = [] := List.eq_nil_of_length_eq_zero (by rw [List.length_dropLast]; omega)
      rw [this]; rfl
    rw [hz]
    clear hn hpl h2 hz hpp
    go_enter Tryz.func25, Tryz.ntmps25
    go_wp2_with (go_at_call 36; refine HSP.out.mono ?_; rintro e w1 ⟨v, rfl, hO, hb⟩; obtain ⟨a3, c3, e3⟩ := hO.slice; rw [← HN.out] at e3; have HB := Lib.hid hb; clear hO hb; subst e3)
    go_ret
    exact ⟨rfl, HB.out⟩
  · have hI : ¬ (n : Int) < 2 := by omega
    have hm : (n : Int) - 1 = ((n - 1 : Nat) : Int) := by omega
    have htk : (parts l).take (n - 1) = (parts l).dropLast := by rw [List.dropLast_eq_take, ← hn]
    have HG : Hid (∀ W v, Txt W v ((parts l).take (n - 1)) → Calls Tryz.prog 41 #[v] W fun e w' => e = .returned (.string (mk (parentL l))) ∧ Below W.heap.size W w') := by
      intro W v h
      have hgl : (glue (parts l)).length = l.length := by rw [glue_parts]
      have := glue_any v _ W h (fun k => by
        have h1 := glue_sub (d := ((parts l).take (n - 1)).take k) (g := parts l) ((List.take_prefix _ _).trans (List.take_prefix _ _))
        omega) (by rw [List.length_take]; omega) (fun p hp => by have := part_len l p (List.mem_of_mem_take hp); omega)
      rwa [htk, ← hpp] at this
    have HRH : Hid (∀ W a c, SOwn W w.heap.size (.slice a n c) (parts l) → ∃ a', (∀ W, (Instr.slice 48 (.slice a n c) none (some (.int .i64 ((n - 1 : Nat) : Int))) none).run Tryz.prog W = .ok (.slice a' (n - 1) c) W) ∧ Txt W (.slice a' (n - 1) c) ((parts l).take (n - 1))) := fun W a c h => run_head h (n - 1) (by omega)
    clear hn hpl h2 hpp htk
    go_enter Tryz.func25, Tryz.ntmps25
    go_wp2_with (first
      | (go_at_call 36; refine HSP.out.mono ?_; rintro e w1 ⟨v, rfl, hO, hb⟩; obtain ⟨a3, c3, e3⟩ := hO.slice; rw [← HN.out] at e3; subst e3; obtain ⟨a', hsl, ht⟩ := HRH.out _ _ _ hO; have HT := Lib.hid ht; have HB := Lib.hid hb; clear hO hb ht)
      | (go_at_call 41; refine (HG.out _ _ HT.out).mono ?_; rintro e w2 ⟨rfl, hb2⟩; have HB2 := Lib.hid hb2; clear hb2))
    go_ret
    exact ⟨rfl, HB.out.trans (HB2.out.mono HB.out.size)⟩
end Go.Proofs.YtokocfoeohddfaaGreatDoor.Pa
namespace Go.Proofs.YtokocfoeohddfaaGreatDoor.Pa
open Go.RowKit
set_option linter.unusedVariables false
set_option linter.unusedSimpArgs false
set_option maxRecDepth 100000

def badE : List Ru → Int
  | [] => 0
  | r :: L => if refE r.act r.pat ≠ 0 then refE r.act r.pat else badE L
def checkE (L : List Ru) : Int := if 64 < L.length then 7 else badE L
end Go.Proofs.YtokocfoeohddfaaGreatDoor.Pa
namespace Go.Proofs.YtokocfoeohddfaaGreatDoor.Pa
open Go.RowKit
set_option linter.unusedVariables false
set_option linter.unusedSimpArgs false
set_option maxRecDepth 100000

theorem mk_plus (a b : L8) : mk a ++ mk b = mk (a ++ b) := by
  have h : (mk a ++ mk b).data = (mk (a ++ b)).data := by simp [mk]
  generalize mk a ++ mk b = x at h
  generalize mk (a ++ b) = y at h
  cases x; cases y; simp_all
theorem run_plus (a b : L8) (h : a.length + b.length ≤ 4611686018427387904) (W : World) : (Op.stringOp .add (mk a) (mk b)).run Tryz.prog W = .ok (.string (mk (a ++ b))) W := by
  have ha := mk_size a
  have hb := mk_size b
  rw [run_string_add_sum W _ _ (by omega), mk_plus]
def signOf (act : Int) : L8 := (([43, 45, 80, 82] : L8).drop (act - 1).toNat).take 1
def lineOf (r : Ru) : L8 := ((signOf r.act ++ [32]) ++ (if r.anch then [47] else [])) ++ r.pat ++ (if r.dir then [47] else [])
def printR (r : Ru) : L8 × Int := if refE r.act r.pat ≠ 0 then ([], refE r.act r.pat) else (lineOf r, 0)
theorem signOf_len (act : Int) : (signOf act).length ≤ 1 := by unfold signOf; rw [List.length_take]; omega
end Go.Proofs.YtokocfoeohddfaaGreatDoor.Pa
namespace Go.Proofs.YtokocfoeohddfaaGreatDoor.Pa
open Go.RowKit
set_option linter.unusedVariables false
set_option linter.unusedSimpArgs false
set_option maxRecDepth 100000

set_option maxHeartbeats 8000000 in
theorem rone_any (act : Int) (l : L8) (dir anch : Bool) (w : World) (hl : l.length ≤ 4611686018427387000) :
    Calls Tryz.prog 18 #[ruV act (mk l) dir anch] w fun e w' => e = .returned (.int .i64 (refE act l)) ∧ Below w.heap.size w w' := by
  have hs : (mk l).size = l.length := mk_size l
  have HZ := Lib.hid hs
  obtain ⟨R, hR⟩ : ∃ R, R = refE act l := ⟨_, rfl⟩
  rw [← hR]
  have HR := Lib.hid hR
  have HB : Hid (Below w.heap.size w (w.alloc (.cells #[.int .i64 act, .string (mk l), .bool dir, .bool anch] 26))) := (Below.refl _ _).alloc (Nat.le_refl _) _
  have HCK : Hid (∀ W, Below w.heap.size w W → Calls Tryz.prog 35 #[.string (mk l)] W fun e w' => e = .returned (.int .i64 (readE l)) ∧ Below w.heap.size w w') := fun W hW => (rcheck_any l W (by omega)).mono fun e w' ⟨h1, h2⟩ => ⟨h1, hW.trans (h2.mono hW.size)⟩
  have HM : Hid (misE act l ≠ 0 → R = misE act l) := fun h => by show _ = _; rw [HR.out]; unfold refE; rw [if_pos h]
  have HLN : Hid (l.length ≤ 4611686018427387000) := hl
  clear hR
  by_cases ha : act < 1
  · have hD : decide (act < 1) = true := decide_eq_true ha
    have HF : Hid (R = 2) := by
      have e : misE act l = 2 := by unfold misE; rw [if_pos (.inl ha)]
      show _ = _; rw [HM.out (by rw [e]; omega), e]
    clear hs hl
    generalize mk l = p at *
    go_enter Tryz.func18, Tryz.ntmps18
    go_wp2
    go_ret
    exact ⟨by rw [HF.out]; rfl, HB.out⟩
  · have hD : decide (act < 1) = false := decide_eq_false ha
    by_cases hb : 4 < act
    · have hD2 : decide (4 < act) = true := decide_eq_true hb
      have HF : Hid (R = 2) := by
        have e : misE act l = 2 := by unfold misE; rw [if_pos (.inr hb)]
        show _ = _; rw [HM.out (by rw [e]; omega), e]
      clear hs hl
      generalize mk l = p at *
      go_enter Tryz.func18, Tryz.ntmps18
      go_wp2
      go_ret
      exact ⟨by rw [HF.out]; rfl, HB.out⟩
    · have hD2 : decide (4 < act) = false := decide_eq_false hb
      have HE : Hid (misE act l = if bad l then 5 else 0) := by show _ = _; unfold misE; rw [if_neg (by omega)]
      have HF5 : Hid (bad l → R = 5) := fun h => by
        have e : misE act l = 5 := by rw [HE.out, if_pos h]
        rw [HM.out (by rw [e]; omega), e]
      have HF0 : Hid (¬ bad l → R = readE l) := fun h => by
        have e : misE act l = 0 := by rw [HE.out, if_neg h]
        rw [HR.out]; unfold refE; rw [if_neg (by rw [e]; simp)]
      by_cases hn : l = []
      · have HF : Hid (R = 5) := HF5.out (.inl hn)
        have hz0 : (((mk l).size : Int) == 0) = true := by rw [hs, hn]; rfl
        have hz1 : ((mk l).size : Int) = 0 := by rw [hs, hn]; rfl
        clear hs hl hn
        generalize mk l = p at *
        go_enter Tryz.func18, Tryz.ntmps18
        go_wp2
        go_ret
        exact ⟨by rw [HF.out]; rfl, HB.out⟩
      · have hpos : 0 < l.length := by cases l with
          | nil => exact absurd rfl hn
          | cons c r => simp
        have hz0 : (((mk l).size : Int) == 0) = false := by rw [hs]; simpa using fun e => hn e
        have hz1 : ¬ ((mk l).size : Int) = 0 := by rw [hs]; omega
        have hsp : (0 : Int) < ((mk l).size : Int) := by rw [hs]; omega
        have hx0 := run_at l 0 hpos
        simp only [Int.cast_ofNat_Int] at hx0
        have hxl := run_at l (l.length - 1) (by omega)
        have hsub : IntKind.i64.wrap (((mk l).size : Int) - 1) = ((l.length - 1 : Nat) : Int) := by rw [hs, IntWalk.i64_in _ (by omega)]; omega
        obtain ⟨b0, hb0⟩ : ∃ b, b = nb l 0 := ⟨_, rfl⟩
        obtain ⟨b1, hb1⟩ : ∃ b, b = nb l (l.length - 1) := ⟨_, rfl⟩
        rw [bt_nb, ← hb0] at hx0
        rw [bt_nb, ← hb1] at hxl
        obtain ⟨k, hk⟩ : ∃ k, k = l.length - 1 := ⟨_, rfl⟩
        rw [← hk] at hxl hsub
        have hks : (k : Int) < ((mk l).size : Int) := by rw [hs]; omega
        by_cases h47 : b0 = 47
        · have HF : Hid (R = 5) := HF5.out (.inr (.inl (hb0.symm.trans h47)))
          have hq47 : ((b0 : Int) == 47) = true := by rw [h47]; rfl
          clear hs hl hn hpos hb0 hb1 hk h47
          generalize mk l = p at *
          go_enter Tryz.func18, Tryz.ntmps18
          go_wp2
          go_ret
          exact ⟨by rw [HF.out]; rfl, HB.out⟩
        · have hq0 : (((b0 : Nat) : Int) == 47) = false := by simpa using fun e => h47 (by omega)
          by_cases h47b : b1 = 47
          · have HF : Hid (R = 5) := HF5.out (.inr (.inr (.inl (hb1.symm.trans h47b))))
            have hq47 : ((b1 : Int) == 47) = true := by rw [h47b]; rfl
            clear hs hl hn hpos hb0 hb1 hk h47 h47b
            generalize mk l = p at *
            go_enter Tryz.func18, Tryz.ntmps18
            go_wp2
            go_ret
            exact ⟨by rw [HF.out]; rfl, HB.out⟩
          · have hq1 : (((b1 : Nat) : Int) == 47) = false := by simpa using fun e => h47b (by omega)
            have HNB : Hid ((10 : UInt8) ∉ l → ¬ bad l) := fun h => by
              rintro (h' | h' | h' | h')
              · exact hn h'
              · exact h47 (hb0.trans h')
              · exact h47b (hb1.trans h')
              · exact h h'
            have H10 : Hid ((10 : UInt8) ∈ l → bad l) := fun h => .inr (.inr (.inr h))
            have hc1 : (w.alloc (.cells #[.int .i64 act, .string (mk l), .bool dir, .bool anch] 26)).cell? ⟨w.heap.size, 1, none⟩ = some (.string (mk l)) := by
              rw [cell_of_row _ _ 1 _ _ (0, 0) (heap_new _ _)]; rfl
            have HC1 := Lib.hid hc1
            clear hs hl hn hpos hb0 hb1 hk h47 h47b hc1
            go_enter Tryz.func18, Tryz.ntmps18
            go_wp2
            go_loopw [4] (fun v wr => ∃ i : Nat, v = .int .i64 i ∧ Hid (i ≤ l.length) ∧ Hid ((10 : UInt8) ∉ l.take i) ∧ Hid (Below w.heap.size w wr) ∧ Hid (wr.cell? ⟨w.heap.size, 1, none⟩ = some (.string (mk l)))) (fun v _ => l.length - (intOf v).toNat)
            case atStart => exact ⟨0, rfl, Nat.zero_le _, by show _ ∉ _; simp, HB, HC1⟩
            case round =>
              clear HC1 HB
              obtain ⟨i, rfl, HI, HNI, HB, HC1⟩ := hrel
              have hc1 := HC1.out
              by_cases hi : i < l.length
              · have hIi : (i : Int) < ((mk l).size : Int) := by rw [HZ.out]; omega
                have hx := run_at l i hi
                have hw1 : IntKind.i64.wrap ((i : Int) + 1) = (i : Int) + 1 := IntWalk.i64_in _ (by have := HLN.out; omega)
                obtain ⟨c, hc, hcn⟩ := take_nb hi
                by_cases h10 : nb l i = 10
                · have hb10 : bt l i = 10 := by rw [bt_nb, h10]; rfl
                  rw [hb10] at hx
                  have HF : Hid (R = 5) := HF5.out (H10.out (by
                    have e : c = 10 := UInt8.toNat_inj.1 (by rw [hcn, h10]; rfl)
                    have : c ∈ l.take (i + 1) := by rw [hc]; simp
                    rw [e] at this
                    exact List.mem_of_mem_take this))
                  clear hi h10 hb10 hc hcn
                  go_wp2
                  go_ret
                  exact ⟨by rw [HF.out]; rfl, HB.out⟩
                · have hq : (bt l i == 10) = false := bt_ne (n := 10) h10
                  have HNN : Hid ((10 : UInt8) ∉ l.take (i + 1)) := by
                    show _ ∉ _
                    rw [hc, List.mem_append]
                    rintro (h | h)
                    · exact HNI.out h
                    · simp at h
                      rw [← h] at hcn
                      exact h10 (by rw [← hcn]; rfl)
                  have HIL : Hid (i < l.length) := hi
                  generalize bt l i = cc at *
                  clear hi h10 hc hcn
                  go_wp2
                  go_roundw
                  case rel => exact ⟨i + 1, by go_num, by show _ ≤ _; have := HIL.out; omega, HNN, HB, HC1⟩
                  case measure => have := HIL.out; simp [intOf]; omega
              · have hIi : ¬ (i : Int) < ((mk l).size : Int) := by rw [HZ.out]; omega
                have hie : i = l.length := by have := HI.out; omega
                have hni := HNI.out
                rw [hie, List.take_length] at hni
                have HF : Hid (R = readE l) := HF0.out (HNB.out hni)
                have HC2 := Lib.hid (HCK.out _ HB.out)
                clear hi hie hni
                go_wp2_with (go_at_call 35; refine HC2.out.mono ?_; rintro e w3 ⟨rfl, hb⟩; have HB3 := Lib.hid hb; clear hb)
                go_ret
                exact ⟨by rw [HF.out]; rfl, HB3.out⟩
end Go.Proofs.YtokocfoeohddfaaGreatDoor.Pa
namespace Go.Proofs.YtokocfoeohddfaaGreatDoor.Pa
open Go.RowKit Go.ChangeShapes Go.WideShapes
set_option linter.unusedVariables false
set_option linter.unusedSimpArgs false
set_option maxRecDepth 100000

instance : Inhabited Ru := ⟨⟨0, [], false, false⟩⟩
theorem add_none (g off n : Nat) : (⟨g, off, none⟩ : Addr).add n = ⟨g, off + n, none⟩ := by
  unfold Addr.add; split <;> simp_all
theorem add_twice (a : Addr) (i j : Nat) : (a.add i).add j = a.add (i + j) := by
  unfold Addr.add
  by_cases hi : i = 0
  · subst hi; simp
  · by_cases hj : j = 0
    · subst hj; simp
    · simp [hi, hj, Nat.add_assoc]
/-- what a row of rules that is handed in reads as -/
theorem open_rules {H : Type} {enc : TypeId × Value → H} {W : World} {base fuel : Nat} {sp : Nat → Bool} {held : Bool} {v : Value} {x : DataW H × List MemPlace}
    (h : DataW.trod enc Tryz.prog W base sp held fuel 22 [v] = some x) : ∃ L : List Ru, RuAt W v L ∧ L.length ≤ maxLen ∧ ∀ r ∈ L, r.pat.length ≤ maxLen := by
  rcases Deep.open_slice Tryz.underlying22 h with ⟨hcs, _⟩ | ⟨a, len, cap, m, n, D, Pl, hcs, hb, hl, hm, hmm, hx, hr⟩
  · simp at hcs
    subst hcs
    exact ⟨[], ⟨none, 0, rfl, fun h => absurd rfl h⟩, by simp, by simp⟩
  · simp at hcs
    subst hcs
    have hlm : len ≤ m := by rw [hmm]; split <;> omega
    have hc4 : Tryz.prog.cellsOf 26 = 4 := by kernel_rfl
    have kI : Tryz.prog.cellsOf 3 = 1 := by kernel_rfl
    have kS : Tryz.prog.cellsOf 9 = 1 := by kernel_rfl
    have kB : Tryz.prog.cellsOf 4 = 1 := by kernel_rfl
    rw [hc4] at hr
    have each : ∀ i, i < len → ∃ r : Ru, W.cell? (a.add (i * 4)) = some (.int .i64 r.act) ∧ W.cell? (a.add (i * 4 + 1)) = some (.string (mk r.pat)) ∧ W.cell? (a.add (i * 4 + 2)) = some (.bool r.dir) ∧ W.cell? (a.add (i * 4 + 3)) = some (.bool r.anch) ∧ r.pat.length ≤ maxLen := by
      intro i hi
      obtain ⟨cs', h1, h2⟩ := hr i (by omega)
      obtain ⟨_, hlen, hcell⟩ := World.cells?_some h1
      obtain ⟨xs, k, hk, hxy, _, hxl, hf⟩ := DataW.trod_struct Tryz.underlying26 h2
      match xs, hxl, cs', hlen with
      | [y0, y1, y2, y3], _, [v0, v1, v2, v3], _ =>
        have g0 := hf 0 _ rfl
        have g1 := hf 1 _ rfl
        have g2 := hf 2 _ rfl
        have g3 := hf 3 _ rfl
        simp [kI, kS, kB] at g0 g1 g2 g3
        obtain ⟨z0, e0, _, q0⟩ := DataW.trod_int Tryz.underlying3 g0
        obtain ⟨z1, e1, _, q1⟩ := DataW.trod_string Tryz.underlying9 g1
        obtain ⟨z2, e2, _⟩ := DataW.trod_bool Tryz.underlying4 g2
        obtain ⟨z3, e3, _⟩ := DataW.trod_bool Tryz.underlying4 g3
        simp only [List.cons.injEq, and_true] at e0 e1 e2 e3
        subst e0 e1 e2 e3
        have c0 := hcell 0 (by omega)
        have c1 := hcell 1 (by omega)
        have c2 := hcell 2 (by omega)
        have c3 := hcell 3 (by omega)
        rw [add_twice] at c0 c1 c2 c3
        refine ⟨⟨z0, z1.data.toList, z2, z3⟩, c0, ?_, c2, c3, ?_⟩
        · rw [mk_data]; exact c1
        · show z1.data.toList.length ≤ _
          rw [Array.length_toList]; exact q1
    obtain ⟨f, hf⟩ := Deep.choose_lt each
    refine ⟨(List.range len).map f, ⟨some a, cap, by simp, fun hne => ?_⟩, by simp; omega, ?_⟩
    · have h0 : 0 < len := by
        rcases Nat.eq_zero_or_pos len with h | h
        · subst h; simp at hne
        · exact h
      obtain ⟨g, off, spot⟩ := a
      have hs : spot = none ∧ g < W.heap.size := by
        have hc := (hf 0 h0).1
        simp only [Nat.zero_mul, Addr.add, if_pos] at hc
        unfold World.cell? at hc
        simp only at hc
        split at hc
        · next hh =>
          refine ⟨?_, (Array.getElem?_eq_some_iff.1 hh).1⟩
          cases spot with
          | none => rfl
          | some y => simp at hc
        · cases hc
      obtain ⟨rfl, hg⟩ := hs
      refine ⟨g, off, rfl, hg, fun i r hi => ?_⟩
      rw [List.getElem?_map] at hi
      have hlt : i < len := by
        rcases Nat.lt_or_ge i len with h | h
        · exact h
        · rw [List.getElem?_eq_none (by simpa using h)] at hi; cases hi
      rw [List.getElem?_range hlt] at hi
      simp at hi
      subst hi
      obtain ⟨c0, c1, c2, c3, _⟩ := hf i hlt
      rw [add_none] at c0 c1 c2 c3
      exact ⟨c0, c1, c2, c3⟩
    · intro r hr'
      obtain ⟨i, hi, rfl⟩ := List.mem_map.1 hr'
      exact (hf i (List.mem_range.1 hi)).2.2.2.2
def lightB (L : List Ru) : Bool := decide (L.length ≤ 80) && L.all (fun r => decide (r.pat.length ≤ 200))
theorem lightB_of {L : List Ru} (h : lightB L = true) : L.length ≤ 80 ∧ ∀ r ∈ L, r.pat.length ≤ 200 := by
  unfold lightB at h
  simpa using h
set_option maxHeartbeats 8000000 in
theorem light_any (L : List Ru) (v : Value) (w : World) (hv : RuAt w v L) :
    Calls Tryz.prog 4 #[v] w fun e w' => e = .returned (.bool (lightB L)) ∧ Below w.heap.size w w' := by
  obtain ⟨a, c, rfl, hrow⟩ := hv
  obtain ⟨R, hR⟩ : ∃ R, R = lightB L := ⟨_, rfl⟩
  rw [← hR]
  have HROW := Lib.hid hrow
  clear hrow
  by_cases h80 : 80 < L.length
  · have hI : (80 : Int) < (L.length : Int) := by omega
    have HRR : Hid (R = false) := by show _ = _; rw [hR]; unfold lightB; rw [decide_eq_false (by omega)]; rfl
    clear hR h80
    go_enter Tryz.func4, Tryz.ntmps4
    go_wp2
    go_ret
    exact ⟨by rw [HRR.out]; rfl, Below.refl _ _⟩
  · have hI : ¬ (80 : Int) < (L.length : Int) := by omega
    have H0 : Hid (R = (L.drop 0).all (fun r => decide (r.pat.length ≤ 200))) := by show _ = _; rw [hR]; unfold lightB; rw [decide_eq_true (by omega)]; rfl
    have HLL : Hid (L.length ≤ 80) := by show _ ≤ _; omega
    clear hR h80
    go_enter Tryz.func4, Tryz.ntmps4
    go_wp2
    go_loopw [10] (fun i wr => ∃ k : Nat, i = .int .i64 k ∧ Hid (k ≤ L.length) ∧ Hid (R = (L.drop k).all (fun r => decide (r.pat.length ≤ 200))) ∧ Hid (Below w.heap.size w wr)) (fun i _ => L.length - (intOf i).toNat)
    case atStart => exact ⟨0, rfl, Nat.zero_le _, H0, Below.refl _ _⟩
    case round =>
      clear H0
      obtain ⟨k, rfl, HK, HRK, HB⟩ := hrel
      by_cases hk : k < L.length
      · have hIk : (k : Int) < (L.length : Int) := by omega
        obtain ⟨r, hr⟩ : ∃ r, L[k]? = some r := ⟨_, List.getElem?_eq_getElem hk⟩
        have hw1 : IntKind.i64.wrap ((k : Int) + 1) = (k : Int) + 1 := IntWalk.i64_in _ (by have := HLL.out; omega)
        obtain ⟨g, off, ea, hg, hc⟩ := HROW.out (by intro e; rw [e] at hr; simp at hr)
        obtain ⟨c0, c1, c2, c3⟩ := hc k r hr
        have k0 := (HB.out.cell (p := ⟨g, off + k * 4, none⟩) hg).trans c0
        have k1 := (HB.out.cell (p := ⟨g, off + k * 4 + 1, none⟩) hg).trans c1
        have k2 := (HB.out.cell (p := ⟨g, off + k * 4 + 2, none⟩) hg).trans c2
        have k3 := (HB.out.cell (p := ⟨g, off + k * 4 + 3, none⟩) hg).trans c3
        have hd : L.drop k = r :: L.drop (k + 1) := by
          obtain ⟨h1, h2⟩ := List.getElem?_eq_some_iff.1 hr
          rw [List.drop_eq_getElem_cons h1, h2]
        have HRK2 : Hid (R = (decide (r.pat.length ≤ 200) && (L.drop (k + 1)).all (fun r => decide (r.pat.length ≤ 200)))) := by show _ = _; rw [HRK.out, hd]; rfl
        have HBA : Hid (Below w.heap.size w (wr.alloc (.cells #[.int .i64 r.act, .string (mk r.pat), .bool r.dir, .bool r.anch] 26))) := HB.out.trans ((Below.refl _ _).alloc HB.out.size _)
        have HKL := Lib.hid hk
        have hsz : (mk r.pat).size = r.pat.length := mk_size _
        subst ea
        clear hk hr hc c0 c1 c2 c3 hd HRK
        obtain ⟨act, pat, rd, an⟩ := r
        simp only at k0 k1 k2 k3 HRK2 hsz HBA
        by_cases hz : pat.length ≤ 200
        · have hI2 : ¬ (200 : Int) < ((mk pat).size : Int) := by omega
          have HRN : Hid (R = (L.drop (k + 1)).all (fun r => decide (r.pat.length ≤ 200))) := by show _ = _; rw [HRK2.out, decide_eq_true hz]; rfl
          clear HRK2 hz hsz
          generalize mk pat = q at *
          go_wp2
          go_roundw
          case rel => exact ⟨k + 1, rfl, HKL.out, HRN, HBA⟩
          case measure => have := HKL.out; simp [intOf]; omega
        · have hI2 : (200 : Int) < ((mk pat).size : Int) := by omega
          have HRN : Hid (R = false) := by show _ = _; rw [HRK2.out, decide_eq_false hz]; rfl
          clear HRK2 hz hsz
          generalize mk pat = q at *
          go_wp2
          go_ret
          exact ⟨by rw [HRN.out]; rfl, HBA.out⟩
      · have hIk : ¬ (k : Int) < (L.length : Int) := by omega
        have HRN : Hid (R = true) := by show _ = _; rw [HRK.out, List.drop_of_length_le (by omega)]; rfl
        clear hk HRK
        go_wp2
        go_ret
        exact ⟨by rw [HRN.out]; rfl, HB.out⟩
end Go.Proofs.YtokocfoeohddfaaGreatDoor.Pa
namespace Go.Proofs.YtokocfoeohddfaaGreatDoor.Pa
open Go.RowKit
set_option linter.unusedVariables false
set_option linter.unusedSimpArgs false
set_option maxRecDepth 1000000

/-- the block of a rule handed in by value, and all below it -/
def BoxW (w : World) (act : Int) (q : ByteArray) (rd an : Bool) (W : World) : Prop := W.heap[w.heap.size]? = some (.cells #[.int .i64 act, .string q, .bool rd, .bool an] 26) ∧ Below w.heap.size w W
theorem BoxW.keep {w W W' : World} {act : Int} {q : ByteArray} {rd an : Bool} (h : BoxW w act q rd an W) (hb : Below W.heap.size W W') : BoxW w act q rd an W' :=
  ⟨(hb.block _ (Array.getElem?_eq_some_iff.1 h.1).1).trans h.1, h.2.trans (hb.mono h.2.size)⟩
theorem BoxW.drew {w W : World} {act : Int} {q : ByteArray} {rd an : Bool} (h : BoxW w act q rd an W) : BoxW w act q rd an W.drew := h.keep ((Below.refl _ _).drew)
theorem BoxW.new (w : World) (act : Int) (q : ByteArray) (rd an : Bool) : BoxW w act q rd an (w.alloc (.cells #[.int .i64 act, .string q, .bool rd, .bool an] 26)) := ⟨heap_new _ _, (Below.refl _ _).alloc (Nat.le_refl _) _⟩
set_option maxHeartbeats 8000000 in
theorem rwhole_any (act : Int) (l : L8) (dir anch : Bool) (w : World) (hl : l.length ≤ 4611686018427387000) :
    Calls Tryz.prog 20 #[ruV act (mk l) dir anch] w fun e w' => e = .returned (.bool (decide ((47 : UInt8) ∈ l) || anch)) ∧ Below w.heap.size w w' := by
  have hs : (mk l).size = l.length := mk_size l
  have HB : Hid (Below w.heap.size w (w.alloc (.cells #[.int .i64 act, .string (mk l), .bool dir, .bool anch] 26))) := (Below.refl _ _).alloc (Nat.le_refl _) _
  obtain ⟨R, hR⟩ : ∃ R, R = (decide ((47 : UInt8) ∈ l) || anch) := ⟨_, rfl⟩
  rw [← hR]
  have HR := Lib.hid hR
  have HS := Lib.hid hs
  clear hR hs
  go_enter Tryz.func20, Tryz.ntmps20
  go_wp2
  go_loopw [3] (fun c wr => ∃ k : Nat, c = .int .i64 k ∧ k ≤ l.length ∧ Hid (∀ j, j < k → l[j]? ≠ some 47) ∧ w.alloc (.cells #[.int .i64 act, .string (mk l), .bool dir, .bool anch] 26) = wr) (fun c _ => l.length - (intOf c).toNat)
  case atStart => exact ⟨0, rfl, Nat.zero_le _, (fun j hj => by omega), rfl⟩
  case round =>
    obtain ⟨k, rfl, hk, HN, rfl⟩ := hrel
    by_cases hlt : k < l.length
    · have hI : (k : Int) < ((mk l).size : Int) := by have := HS.out; omega
      have hidx := run_at l k hlt
      have hw1 : IntKind.i64.wrap ((k : Int) + 1) = (k : Int) + 1 := IntWalk.i64_in _ (by omega)
      by_cases h0 : l[k]? = some 47
      · have hb : bt l k = 47 := by rw [bt_of h0]; rfl
        rw [hb] at hidx
        have HF : Hid (R = true) := by show _ = _; rw [HR.out, decide_eq_true (List.mem_of_getElem? h0)]; rfl
        clear h0 hb hlt
        go_wp2
        go_ret
        exact ⟨by rw [HF.out]; rfl, HB.out⟩
      · have hb : ¬ bt l k = 47 := by
          intro e
          apply h0
          rw [List.getElem?_eq_getElem hlt] at h0 ⊢
          rw [bt_of (List.getElem?_eq_getElem hlt)] at e
          congr 1
          exact UInt8.toNat_inj.1 (by have : l[k].toNat = 47 := by omega
                                      rw [this]; rfl)
        have hb2 : (bt l k == 47) = false := by simpa using hb
        have HN2 : Hid (∀ j, j < k + 1 → l[j]? ≠ some 47) := by
          intro j hj
          rcases Nat.lt_or_ge j k with h | h
          · exact HN.out j h
          · have : j = k := by omega
            subst this; exact h0
        generalize bt l k = x at *
        have HLT : Hid (k < l.length) := hlt
        clear h0 hlt
        go_wp2
        go_roundw
        case rel => exact ⟨k + 1, by go_num, by have := HLT.out; omega, HN2, trivial⟩
        case measure => simp [intOf]; have := HLT.out; omega
    · have hI : ¬ (k : Int) < ((mk l).size : Int) := by have := HS.out; omega
      have HF : Hid (R = anch) := by
        show _ = _
        rw [HR.out, decide_eq_false (fun hm => ?_)]
        · rfl
        · obtain ⟨j, hj, e⟩ := List.getElem_of_mem hm
          exact HN.out j (by omega) (by rw [List.getElem?_eq_getElem hj, e])
      clear hlt
      go_wp2
      go_ret
      exact ⟨(by rw [HF.out]; try rfl), HB.out⟩
theorem matchR_bad {act : Int} {pat p : L8} {rd an dir : Bool} (h : refE act pat ≠ 0) : matchR ⟨act, pat, rd, an⟩ p dir = false := by
  unfold matchR fitsB
  unfold refE at h
  by_cases hm : misE act pat = 0
  · rw [if_neg (by simpa using hm)] at h
    rcases read_ways pat with ⟨_, h2⟩ | ⟨h2, _⟩
    · have : ∀ s, matchP pat s = false := fun s => by unfold matchP; rw [h2]
      simp [this]
    · exact absurd h2 h
  · simp [hm]
theorem refE_ok {act : Int} {pat : L8} (h : refE act pat = 0) : misE act pat = 0 := by
  unfold refE at h
  by_cases hm : misE act pat = 0
  · exact hm
  · rw [if_pos hm] at h; exact h
set_option maxHeartbeats 16000000 in
theorem rmatches_any (r : Ru) (p : L8) (dir : Bool) (w : World) (hl : r.pat.length ≤ 4611686018427387000) (hp : p.length ≤ 900000) :
    Calls Tryz.prog 7 #[r.val, .string (mk p), .bool dir] w fun e w' => e = .returned (.bool (matchR r p dir)) ∧ Below w.heap.size w w' := by
  obtain ⟨act, pat, rd, an⟩ := r
  have hV : (⟨act, pat, rd, an⟩ : Ru).val = .agg #[.int .i64 act, .string (mk pat), .bool rd, .bool an] := rfl
  rw [hV]
  simp only at hl
  obtain ⟨R, hR⟩ : ∃ R, R = matchR ⟨act, pat, rd, an⟩ p dir := ⟨_, rfl⟩
  rw [← hR]
  have HN0 := Lib.hid (BoxW.new w act (mk pat) rd an)
  have HO : Hid (∀ W, BoxW w act (mk pat) rd an W → Calls Tryz.prog 18 #[.agg #[.int .i64 act, .string (mk pat), .bool rd, .bool an]] W fun e w' => e = .returned (.int .i64 (refE act pat)) ∧ BoxW w act (mk pat) rd an w') := fun W h => (rone_any act pat rd an W hl).mono fun e w' ⟨h1, h2⟩ => ⟨h1, h.keep h2⟩
  have HWH : Hid (∀ W, BoxW w act (mk pat) rd an W → Calls Tryz.prog 20 #[.agg #[.int .i64 act, .string (mk pat), .bool rd, .bool an]] W fun e w' => e = .returned (.bool (decide ((47 : UInt8) ∈ pat) || an)) ∧ BoxW w act (mk pat) rd an w') := fun W h => (rwhole_any act pat rd an W hl).mono fun e w' ⟨h1, h2⟩ => ⟨h1, h.keep h2⟩
  have HRI : Hid (∀ W, BoxW w act (mk pat) rd an W → Calls Tryz.prog 19 #[.string (mk p)] W fun e w' => e = .returned (.bool (rightB p)) ∧ BoxW w act (mk pat) rd an w') := fun W h => (rright_any p W (by omega)).mono fun e w' ⟨h1, h2⟩ => ⟨h1, h.keep h2⟩
  have HBA : Hid (∀ W, BoxW w act (mk pat) rd an W → Calls Tryz.prog 22 #[.string (mk p)] W fun e w' => e = .returned (.string (mk (baseL p))) ∧ BoxW w act (mk pat) rd an w') := fun W h => (rbase_any p W (by omega)).mono fun e w' ⟨h1, h2⟩ => ⟨h1, h.keep h2⟩
  have HM1 : Hid (∀ W, BoxW w act (mk pat) rd an W → Calls Tryz.prog 21 #[.string (mk pat), .string (mk p)] W fun e w' => e = .returned (.bool (matchP pat p)) ∧ BoxW w act (mk pat) rd an w') := fun W h => (rmatch_any pat p W (by omega) hp).mono fun e w' ⟨h1, h2⟩ => ⟨h1, h.keep h2⟩
  have HM2 : Hid (∀ W, BoxW w act (mk pat) rd an W → Calls Tryz.prog 21 #[.string (mk pat), .string (mk (baseL p))] W fun e w' => e = .returned (.bool (matchP pat (baseL p))) ∧ BoxW w act (mk pat) rd an w') := fun W h => (rmatch_any pat (baseL p) W (by omega) (by have := baseL_len p; omega)).mono fun e w' ⟨h1, h2⟩ => ⟨h1, h.keep h2⟩
  clear hV
  by_cases h1 : refE act pat ≠ 0
  · have HF : Hid (R = false) := by show _ = _; rw [hR]; exact matchR_bad h1
    have hE : (refE act pat != 0) = true := by simpa using h1
    clear h1 hR hl hp HWH HRI HBA HM1 HM2
    generalize refE act pat = er at *
    generalize mk pat = q at *
    generalize mk p = pp at *
    go_enter Tryz.func7, Tryz.ntmps7
    go_wp2_with (go_at_call 18; go_must (refine (HO.out _ HN0.out).mono ?_); rintro e w1 ⟨rfl, hb⟩; have HX := Lib.hid hb; clear hb)
    go_ret
    exact ⟨(by rw [HF.out]; try rfl), HX.out.2⟩
  replace h1 : refE act pat = 0 := Decidable.not_not.1 h1
  rw [h1] at HO
  have hm := refE_ok h1
  have hR2 : R = (ruledB p && (!(rd && !dir) && matchP pat (fitsP ⟨act, pat, rd, an⟩ p))) := by
    rw [hR]; unfold matchR fitsB; simp [hm]
  clear h1 hm hR
  cases hri : rightB p with
  | false =>
    have HF : Hid (R = false) := by show _ = _; rw [hR2]; unfold ruledB; rw [hri]; simp
    rw [hri] at HRI
    clear hR2 hri hl hp HWH HBA HM1 HM2
    generalize mk pat = q at *
    generalize mk p = pp at *
    go_enter Tryz.func7, Tryz.ntmps7
    go_wp2_with (first
      | (go_at_call 18; go_must (refine (HO.out _ HN0.out).mono ?_); rintro e w1 ⟨rfl, hb⟩; have HX := Lib.hid hb; clear hb)
      | (go_at_call 19; go_must (refine (HRI.out _ HX.out).mono ?_); rintro e w1 ⟨rfl, hb⟩; have HX := Lib.hid hb; clear hb))
    go_ret
    exact ⟨(by rw [HF.out]; try rfl), HX.out.2⟩
  | true =>
    rw [hri] at HRI
    by_cases hn : p = []
    · have HF : Hid (R = false) := by show _ = _; rw [hR2]; unfold ruledB; rw [hn]; simp
      have he := emptyT hn
      clear hR2 hri hn hl hp HWH HBA HM1 HM2
      generalize mk pat = q at *
      generalize mk p = pp at *
      go_enter Tryz.func7, Tryz.ntmps7
      go_wp2_with (first
        | (go_at_call 18; go_must (refine (HO.out _ HN0.out).mono ?_); rintro e w1 ⟨rfl, hb⟩; have HX := Lib.hid hb; clear hb)
        | (go_at_call 19; go_must (refine (HRI.out _ HX.out).mono ?_); rintro e w1 ⟨rfl, hb⟩; have HX := Lib.hid hb; clear hb))
      go_ret
      exact ⟨(by rw [HF.out]; try rfl), HX.out.2⟩
    · have he := emptyF hn
      have hru : ruledB p = true := by unfold ruledB; rw [hri]; simp [hn]
      rw [hru] at hR2
      clear hru hri hn
      by_cases hd : rd = true ∧ dir = false
      · obtain ⟨rfl, rfl⟩ := hd
        have HF : Hid (R = false) := by show _ = _; rw [hR2]; rfl
        clear hR2 hl hp HWH HBA HM1 HM2
        generalize mk pat = q at *
        generalize mk p = pp at *
        go_enter Tryz.func7, Tryz.ntmps7
        go_wp2_with (first
          | (go_at_call 18; go_must (refine (HO.out _ HN0.out).mono ?_); rintro e w1 ⟨rfl, hb⟩; obtain ⟨⟨k0, k1, k2, k3⟩, -⟩ := cells4 hb.1; have HX := Lib.hid hb; clear hb)
          | (go_at_call 19; go_must (refine (HRI.out _ HX.out).mono ?_); rintro e w1 ⟨rfl, hb⟩; obtain ⟨⟨k0, k1, k2, k3⟩, -⟩ := cells4 hb.1; have HX := Lib.hid hb; clear hb))
        go_ret
        exact ⟨(by rw [HF.out]; try rfl), HX.out.2⟩
      · have hd2 : (rd && !dir) = false := by
          cases rd <;> cases dir <;> simp_all
        rw [hd2] at hR2
        simp only [Bool.not_false, Bool.true_and] at hR2
        by_cases hwh : (47 : UInt8) ∈ pat ∨ an = true
        · have hw : (decide ((47 : UInt8) ∈ pat) || an) = true := by rcases hwh with h | h <;> simp [h]
          have hR3 : R = matchP pat p := by
            rw [hR2]; unfold fitsP; rw [if_neg (by rintro ⟨h3, h4⟩; simp only at h3 h4; rcases hwh with h | h; exact h4 h; rw [h3] at h; cases h)]
          rw [hw] at HWH
          rw [← hR3] at HM1
          clear hR2 hR3 hw hwh hd hl hp HBA HM2
          generalize mk pat = q at *
          generalize mk p = pp at *
          cases rd <;> cases dir
          all_goals first | (exact absurd hd2 (by decide)) | skip
          all_goals
            clear hd2
            go_enter Tryz.func7, Tryz.ntmps7
            go_wp2_with (first
              | (go_at_call 18; go_must (refine (HO.out _ HN0.out).mono ?_); rintro e w1 ⟨rfl, hb⟩; obtain ⟨⟨k0, k1, k2, k3⟩, -⟩ := cells4 hb.1; have HX := Lib.hid hb; clear hb)
              | (go_at_call 19; go_must (refine (HRI.out _ HX.out).mono ?_); rintro e w1 ⟨rfl, hb⟩; obtain ⟨⟨k0, k1, k2, k3⟩, -⟩ := cells4 hb.1; have HX := Lib.hid hb; clear hb)
              | (go_at_call 20; go_must (refine (HWH.out _ HX.out).mono ?_); rintro e w1 ⟨rfl, hb⟩; obtain ⟨⟨k0, k1, k2, k3⟩, -⟩ := cells4 hb.1; have HX := Lib.hid hb; clear hb)
              | (go_at_call 21; go_must (refine (HM1.out _ HX.out).mono ?_); rintro e w1 ⟨rfl, hb⟩; have HX := Lib.hid hb; clear hb))
            go_ret
            exact ⟨rfl, HX.out.2⟩
        · have hw : (decide ((47 : UInt8) ∈ pat) || an) = false := by
            rw [decide_eq_false (fun h => hwh (.inl h))]
            cases an with
            | true => exact absurd (.inr rfl) hwh
            | false => rfl
          have hR3 : R = matchP pat (baseL p) := by
            rw [hR2]; unfold fitsP; rw [if_pos ⟨by cases an with | true => exact absurd (.inr rfl) hwh | false => rfl, fun h => hwh (.inl h)⟩]
          rw [hw] at HWH
          rw [← hR3] at HM2
          clear hR2 hR3 hw hwh hd hl hp HM1
          generalize mk pat = q at *
          generalize mk (baseL p) = bb at *
          generalize mk p = pp at *
          cases rd <;> cases dir
          all_goals first | (exact absurd hd2 (by decide)) | skip
          all_goals
            clear hd2
            go_enter Tryz.func7, Tryz.ntmps7
            go_wp2_with (first
              | (go_at_call 18; go_must (refine (HO.out _ HN0.out).mono ?_); rintro e w1 ⟨rfl, hb⟩; obtain ⟨⟨k0, k1, k2, k3⟩, -⟩ := cells4 hb.1; have HX := Lib.hid hb; clear hb)
              | (go_at_call 19; go_must (refine (HRI.out _ HX.out).mono ?_); rintro e w1 ⟨rfl, hb⟩; obtain ⟨⟨k0, k1, k2, k3⟩, -⟩ := cells4 hb.1; have HX := Lib.hid hb; clear hb)
              | (go_at_call 20; go_must (refine (HWH.out _ HX.out).mono ?_); rintro e w1 ⟨rfl, hb⟩; obtain ⟨⟨k0, k1, k2, k3⟩, -⟩ := cells4 hb.1; have HX := Lib.hid hb; have hs0 := And.intro hb k1; have hs1 := And.intro hb.drew k1; clear hb))
            first
              | (go_region_held3 (fun W => BoxW w act q true an W ∧ W.cell? ⟨w.heap.size, 1, none⟩ = some (.string q)) (first | assumption | exact hs1 | exact hs0) (first
                | (go_at_call 22; (with_reducible refine (HBA.out _ ?_).mono ?_); (focus (first | exact hs1.1 | exact hs0.1)); rintro e w5 ⟨rfl, hk5⟩; have hs5 := And.intro hk5 (cells4 hk5.1).1.2.1)
                | (go_at_call 21; (with_reducible refine (HM2.out _ ?_).mono ?_); (focus (first | exact hs5.1 | exact hs5.1.drew)); rintro e w6 ⟨rfl, hk6⟩; have hs6 := And.intro hk6 (cells4 hk6.1).1.2.1)))
              | (go_region_held3 (fun W => BoxW w act q false an W ∧ W.cell? ⟨w.heap.size, 1, none⟩ = some (.string q)) (first | assumption | exact hs1 | exact hs0) (first
                | (go_at_call 22; (with_reducible refine (HBA.out _ ?_).mono ?_); (focus (first | exact hs1.1 | exact hs0.1)); rintro e w5 ⟨rfl, hk5⟩; have hs5 := And.intro hk5 (cells4 hk5.1).1.2.1)
                | (go_at_call 21; (with_reducible refine (HM2.out _ ?_).mono ?_); (focus (first | exact hs5.1 | exact hs5.1.drew)); rintro e w6 ⟨rfl, hk6⟩; have hs6 := And.intro hk6 (cells4 hk6.1).1.2.1)))
            go_wp2
            go_ret
            exact ⟨rfl, hs6.1.2⟩
end Go.Proofs.YtokocfoeohddfaaGreatDoor.Pa
namespace Go.Proofs.YtokocfoeohddfaaGreatDoor.Pa
open Go.RowKit
set_option linter.unusedVariables false
set_option linter.unusedSimpArgs false
set_option maxRecDepth 1000000

/-- does a rule say what becomes of a path, as the document has it? -/
def says (p : L8) (dir drop : Bool) (r : Ru) : Bool := (drop || decide (r.act < 3)) && matchR r p dir
def sayR (L : List Ru) (p : L8) (dir drop : Bool) : Int := ((L.find? (says p dir drop)).map (·.act)).getD 0
theorem sayR_cons (r : Ru) (L : List Ru) (p : L8) (dir drop : Bool) : sayR (r :: L) p dir drop = if says p dir drop r = true then r.act else sayR L p dir drop := by
  unfold sayR
  rw [List.find?_cons]
  cases h : says p dir drop r <;> simp
theorem says_eq {p : L8} {dir drop : Bool} (hru : ruledB p = true) (r : Ru) : says p dir drop r = counts p dir drop r := by
  unfold says counts matchR shows
  rw [hru, Bool.true_and]
  by_cases hf : fitsB r p dir = true
  · have hm : misE r.act r.pat = 0 := by
      unfold fitsB at hf
      simp only [Bool.and_eq_true, decide_eq_true_eq] at hf
      exact hf.1.1
    have h1 : ¬ (r.act < 1 ∨ 4 < r.act) := by
      intro h
      unfold misE at hm
      rw [if_pos h] at hm
      omega
    have h2 : (r.act < 3) ↔ (r.act = 1 ∨ r.act = 2) := by omega
    by_cases h3 : r.act < 3
    · rcases h2.1 h3 with h | h <;> simp [h]
    · have h4 : ¬ r.act = 1 := fun h => h3 (h2.2 (.inl h))
      have h5 : ¬ r.act = 2 := fun h => h3 (h2.2 (.inr h))
      simp [h3, h4, h5]
  · simp [hf]
theorem sayR_act (L : List Ru) (p : L8) (dir drop : Bool) : sayR L p dir drop = actR L p dir drop := by
  unfold actR
  by_cases hru : ruledB p = true
  · rw [if_pos hru]
    unfold sayR firstR
    have : says p dir drop = counts p dir drop := funext (says_eq hru)
    rw [this]
  · rw [if_neg hru]
    have : ∀ r, says p dir drop r = false := fun r => by unfold says matchR; simp [hru]
    unfold sayR
    rw [List.find?_eq_none.2 (fun r _ => by simp [this r])]
    rfl
set_option maxHeartbeats 16000000 in
theorem ract_any (L : List Ru) (v : Value) (p : L8) (dir drop : Bool) (w : World) (hv : RuAt w v L) (hL : L.length ≤ 1000000 ∧ ∀ r ∈ L, r.pat.length ≤ 1000000) (hp : p.length ≤ 900000) :
    Calls Tryz.prog 9 #[v, .string (mk p), .bool dir, .bool drop] w fun e w' => e = .returned (.int .i64 (actR L p dir drop)) ∧ Below w.heap.size w w' := by
  rw [← sayR_act]
  obtain ⟨a, c, rfl, hrow⟩ := hv
  obtain ⟨R, hR⟩ : ∃ R, R = sayR L p dir drop := ⟨_, rfl⟩
  rw [← hR]
  have H0 : Hid (R = sayR (L.drop 0) p dir drop) := hR
  have HROW := Lib.hid hrow
  have HLL := Lib.hid hL.1
  have HF : Hid (∀ r ∈ L, ∀ W, Calls Tryz.prog 7 #[.agg #[.int .i64 r.act, .string (mk r.pat), .bool r.dir, .bool r.anch], .string (mk p), .bool dir] W fun e w' => e = .returned (.bool (matchR r p dir)) ∧ Below W.heap.size W w') := fun r hr W => rmatches_any r p dir W (by have := hL.2 r hr; omega) hp
  clear hrow hL hp hR
  go_enter Tryz.func9, Tryz.ntmps9
  go_wp2
  go_loopw [13] (fun i wr => ∃ k : Nat, i = .int .i64 k ∧ Hid (k ≤ L.length) ∧ Hid (R = sayR (L.drop k) p dir drop) ∧ Hid (Below w.heap.size w wr)) (fun i _ => L.length - (intOf i).toNat)
  case atStart => exact ⟨0, rfl, Nat.zero_le _, H0, Below.refl _ _⟩
  case round =>
    clear H0
    obtain ⟨k, rfl, HK, HRK, HB⟩ := hrel
    by_cases hk : k < L.length
    · have hIk : (k : Int) < (L.length : Int) := by omega
      obtain ⟨r, hr⟩ : ∃ r, L[k]? = some r := ⟨_, List.getElem?_eq_getElem hk⟩
      have hw1 : IntKind.i64.wrap ((k : Int) + 1) = (k : Int) + 1 := IntWalk.i64_in _ (by have := HLL.out; omega)
      obtain ⟨g, off, ea, hg, hc⟩ := HROW.out (by intro e; rw [e] at hr; simp at hr)
      obtain ⟨c0, c1, c2, c3⟩ := hc k r hr
      have k0 := (HB.out.cell (p := ⟨g, off + k * 4, none⟩) hg).trans c0
      have k1 := (HB.out.cell (p := ⟨g, off + k * 4 + 1, none⟩) hg).trans c1
      have k2 := (HB.out.cell (p := ⟨g, off + k * 4 + 2, none⟩) hg).trans c2
      have k3 := (HB.out.cell (p := ⟨g, off + k * 4 + 3, none⟩) hg).trans c3
      have hd : L.drop k = r :: L.drop (k + 1) := by
        obtain ⟨h1, h2⟩ := List.getElem?_eq_some_iff.1 hr
        rw [List.drop_eq_getElem_cons h1, h2]
      have HRK2 : Hid (R = if says p dir drop r = true then r.act else sayR (L.drop (k + 1)) p dir drop) := by show _ = _; rw [HRK.out, hd, sayR_cons]
      obtain ⟨w1, hw1'⟩ : ∃ w1, w1 = wr.alloc (.cells #[.int .i64 r.act, .string (mk r.pat), .bool r.dir, .bool r.anch] 26) := ⟨_, rfl⟩
      have hr1 : w1.heap[wr.heap.size]? = some (.cells #[.int .i64 r.act, .string (mk r.pat), .bool r.dir, .bool r.anch] 26) := by rw [hw1']; exact heap_new _ _
      have hb1 : Below wr.heap.size wr w1 := by rw [hw1']; exact (Below.refl _ _).alloc (Nat.le_refl _) _
      have HFT : Hid (Calls Tryz.prog 7 #[.agg #[.int .i64 r.act, .string (mk r.pat), .bool r.dir, .bool r.anch], .string (mk p), .bool dir] w1 fun e w' => e = .returned (.bool (matchR r p dir)) ∧ w'.heap[wr.heap.size]? = some (.cells #[.int .i64 r.act, .string (mk r.pat), .bool r.dir, .bool r.anch] 26) ∧ Below wr.heap.size wr w') :=
        (HF.out r (List.mem_of_getElem? hr) w1).mono fun e w' ⟨h1, h2⟩ => ⟨h1, (h2.block _ (Array.getElem?_eq_some_iff.1 hr1).1).trans hr1, hb1.trans (h2.mono hb1.size)⟩
      have HB1 := Lib.hid (HB.out.trans (hb1.mono HB.out.size))
      rw [hw1'] at HFT HB1
      have HKL := Lib.hid hk
      subst ea
      clear hk hr hc c0 c1 c2 c3 hd hw1' hr1 hb1 HRK
      obtain ⟨act, pat, rd, an⟩ := r
      simp only at k0 k1 k2 k3 HFT HB1 HRK2
      have HSH : Hid (says p dir drop ⟨act, pat, rd, an⟩ = ((drop || decide (act < 3)) && matchR ⟨act, pat, rd, an⟩ p dir)) := rfl
      generalize matchR ⟨act, pat, rd, an⟩ p dir = fb at *
      generalize mk pat = q at *
      have fin : ∀ w3 : World, w3.heap[wr.heap.size]? = some (.cells #[.int .i64 act, .string q, .bool rd, .bool an] 26) → w3.cell? ⟨wr.heap.size, 0, none⟩ = some (.int .i64 act) := fun w3 h => (cells4 h).1.1
      have FIN := Lib.hid fin
      clear fin
      by_cases hsh : drop = true ∨ act < 3
      · have hsh2 : (drop || decide (act < 3)) = true := by
          rcases hsh with h | h <;> simp [h]
        cases fb with
        | true =>
          have HRA : Hid (R = act) := by show _ = _; rw [HRK2.out, HSH.out, hsh2]; rfl
          clear hsh2 HRK2 HSH
          cases drop with
          | true =>
            clear hsh
            go_wp2_with (go_at_call 7; refine HFT.out.mono ?_; rintro e w3 ⟨rfl, hr3, hb3⟩; have q0 := FIN.out w3 hr3; have HB3 := Lib.hid (HB.out.trans (hb3.mono HB.out.size)); clear hr3 hb3)
            go_ret
            exact ⟨(by rw [HRA.out]; try rfl), HB3.out⟩
          | false =>
            have h3 : act < 3 := by rcases hsh with h | h; cases h; exact h
            clear hsh
            go_wp2_with (go_at_call 7; refine HFT.out.mono ?_; rintro e w3 ⟨rfl, hr3, hb3⟩; have q0 := FIN.out w3 hr3; have HB3 := Lib.hid (HB.out.trans (hb3.mono HB.out.size)); clear hr3 hb3)
            go_ret
            exact ⟨(by rw [HRA.out]; try rfl), HB3.out⟩
        | false =>
          have HRN : Hid (R = sayR (L.drop (k + 1)) p dir drop) := by show _ = _; rw [HRK2.out, HSH.out, Bool.and_false]; rfl
          clear hsh2 HRK2 HSH
          cases drop with
          | true =>
            clear hsh
            go_wp2_with (go_at_call 7; refine HFT.out.mono ?_; rintro e w3 ⟨rfl, hr3, hb3⟩; have HB3 := Lib.hid (HB.out.trans (hb3.mono HB.out.size)); clear hr3 hb3)
            go_roundw
            case rel => exact ⟨k + 1, by go_num, by show _ ≤ _; have := HKL.out; omega, HRN, HB3⟩
            case measure => have := HKL.out; simp [intOf]; omega
          | false =>
            have h3 : act < 3 := by rcases hsh with h | h; cases h; exact h
            clear hsh
            go_wp2_with (go_at_call 7; refine HFT.out.mono ?_; rintro e w3 ⟨rfl, hr3, hb3⟩; have HB3 := Lib.hid (HB.out.trans (hb3.mono HB.out.size)); clear hr3 hb3)
            go_roundw
            case rel => exact ⟨k + 1, by go_num, by show _ ≤ _; have := HKL.out; omega, HRN, HB3⟩
            case measure => have := HKL.out; simp [intOf]; omega
      · have h3 : ¬ act < 3 := fun h => hsh (.inr h)
        have hdr : drop = false := by cases drop with | true => exact absurd (.inl rfl) hsh | false => rfl
        subst hdr
        have HRN : Hid (R = sayR (L.drop (k + 1)) p dir false) := by show _ = _; rw [HRK2.out, HSH.out, decide_eq_false h3]; rfl
        clear hsh HRK2 HSH HFT
        go_wp2
        go_roundw
        case rel => exact ⟨k + 1, by go_num, by show _ ≤ _; have := HKL.out; omega, HRN, HB1⟩
        case measure => have := HKL.out; simp [intOf]; omega
    · have hIk : ¬ (k : Int) < (L.length : Int) := by omega
      have HF0 : Hid (R = 0) := by
        show _ = _
        have hke : k = L.length := by have := HK.out; omega
        rw [HRK.out, hke, List.drop_length]; rfl
      clear hk
      go_wp2
      go_ret
      exact ⟨(by rw [HF0.out]; try rfl), HB.out⟩
theorem rsafe_any (L : List Ru) (v : Value) (p : L8) (dir : Bool) (w : World) (hv : RuAt w v L) (hL : L.length ≤ 1000000 ∧ ∀ r ∈ L, r.pat.length ≤ 1000000) (hp : p.length ≤ 900000) :
    Calls Tryz.prog 13 #[v, .string (mk p), .bool dir] w fun e w' => e = .returned (.bool (safeB L p dir)) ∧ Below w.heap.size w w' := by
  have HA := Lib.hid (ract_any L v p dir true w hv hL hp)
  obtain ⟨a, c, rfl, -⟩ := hv
  unfold safeB
  generalize actR L p dir true = x at *
  clear hL hp
  generalize L.length = n at *
  generalize mk p = q at *
  go_enter Tryz.func13, Tryz.ntmps13
  go_wp2_with (go_at_call 9; refine HA.out.mono ?_; rintro e w2 ⟨rfl, hb⟩; have HB := Lib.hid hb; clear hb)
  go_ret
  exact ⟨rfl, HB.out⟩
end Go.Proofs.YtokocfoeohddfaaGreatDoor.Pa
namespace Go.Proofs.YtokocfoeohddfaaGreatDoor.Pa
set_option linter.unusedVariables false
set_option linter.unusedSimpArgs false

theorem glue_len_app (a b : List L8) : (glue a).length ≤ (glue (a ++ b)).length := by
  by_cases ha : a = []
  · subst ha; simp [glue]
  · by_cases hb : b = []
    · subst hb; simp
    · rw [glue_app ha hb, List.length_append]; omega
theorem Fine.take {g : List L8} (h : Fine g) (k : Nat) : Fine (g.take k) := by
  refine ⟨fun p hp => h.may p (List.mem_of_mem_take hp), by rw [List.length_take]; have := h.few; omega, ?_⟩
  have := glue_len_app (g.take k) (g.drop k)
  rw [List.take_append_drop] at this
  have := h.short
  omega
theorem Fine.ruled {g : List L8} (h : Fine g) (h0 : g ≠ []) : ruledB (glue g) = true := by
  unfold ruledB
  rw [h.right, decide_eq_true (glue_ne h0 h.ne)]; rfl
/-- one up from the k+1 first parts -/
theorem up_take {g : List L8} (h : Fine g) (k : Nat) (hk : k < g.length) : parentL (glue (g.take (k + 1))) = glue (g.take k) := by
  have h1 := h.take (k + 1)
  have h0 : g.take (k + 1) ≠ [] := fun e => by have := congrArg List.length e; rw [List.length_take, List.length_nil] at this; omega
  have e : (g.take (k + 1)).dropLast = g.take k := by
    rw [List.dropLast_eq_take, List.length_take, List.take_take]
    congr 1
    omega
  rw [(parent_cut _).1, h1.cut h0, e]
theorem glue_take_ne {g : List L8} (h : Fine g) (k : Nat) (hk : k < g.length) : glue (g.take (k + 1)) ≠ [] := by
  have h1 := h.take (k + 1)
  have h0 : g.take (k + 1) ≠ [] := fun e => by have := congrArg List.length e; rw [List.length_take, List.length_nil] at this; omega
  exact glue_ne h0 h1.ne
/-- what is asked of the first j parts, all of which are directories but perhaps the m-th -/
theorem hid_up (L : List Ru) {g : List L8} (h : Fine g) : ∀ (j n : Nat) (d : Bool), j ≤ g.length → (glue (g.take j)).length < n →
    (hidN L n (glue (g.take j)) d = true ↔ ∃ k, k < j ∧ firstR L (glue (g.take (k + 1))) (d || decide (k + 1 < j)) false = 2) := by
  intro j
  induction j with
  | zero =>
    intro n d hj hn
    obtain ⟨m, rfl⟩ : ∃ m, n = m + 1 := ⟨n - 1, by omega⟩
    rw [hidN_eq, if_pos (by simp [glue])]
    simp
  | succ j ih =>
    intro n d hj hn
    obtain ⟨m, rfl⟩ : ∃ m, n = m + 1 := ⟨n - 1, by omega⟩
    have hne := glue_take_ne h j (by omega)
    have hup := up_take h j (by omega)
    have hlt := parentL_lt hne
    rw [hidN_eq, if_neg hne, hup]
    rw [hup] at hlt
    by_cases h2 : firstR L (glue (g.take (j + 1))) d false = 2
    · rw [if_pos h2]
      refine ⟨fun _ => ⟨j, by omega, ?_⟩, fun _ => rfl⟩
      rw [decide_eq_false (by omega), Bool.or_false]; exact h2
    · rw [if_neg h2, ih m true (by omega) (by omega)]
      constructor
      · rintro ⟨k, hk, h3⟩
        refine ⟨k, by omega, ?_⟩
        rw [decide_eq_true (by omega : k + 1 < j + 1), Bool.or_true]
        simpa using h3
      · rintro ⟨k, hk, h3⟩
        have hkj : k ≠ j := by
          intro e; subst e
          rw [decide_eq_false (by omega), Bool.or_false] at h3
          exact h2 h3
        refine ⟨k, by omega, ?_⟩
        rw [decide_eq_true (by omega : k + 1 < j + 1), Bool.or_true] at h3
        simpa using h3
theorem hidden_iff (L : List Ru) {g : List L8} (h : Fine g) (h0 : g ≠ []) (d : Bool) : hiddenB L (glue g) d = true ↔ ∃ k, k < g.length ∧ firstR L (glue (g.take (k + 1))) (d || decide (k + 1 < g.length)) false = 2 := by
  unfold hiddenB
  rw [h.ruled h0, Bool.true_and]
  have := hid_up L h g.length ((glue g).length + 1) d (Nat.le_refl _) (by rw [List.take_length]; omega)
  rw [List.take_length] at this
  exact this
/-- two joined: the first one's parts come first -/
theorem join_two {p q : L8} (hp : rightB p = true) (hj : (jn [p, q]).2 = 0) : ∃ g t, Fine g ∧ p = glue g ∧ Fine (g ++ t) ∧ (jn [p, q]).1 = glue (g ++ t) := by
  obtain ⟨g, hg, rfl⟩ := right_fine hp
  have ha : allParts [glue g, q] = g ++ parts q := by simp [allParts, hg.parts]
  have hgg : good (g ++ parts q) = g ++ good (parts q) := by
    unfold good
    rw [List.filter_append]
    congr 1
    exact good_fine (fun p hp => (hg.may p hp).1)
  refine ⟨g, good (parts q), hg, rfl, ?_⟩
  unfold Pa.jn at hj ⊢
  rw [ha] at hj ⊢
  by_cases h : firstBad (g ++ parts q) ≠ 0
  · rw [if_pos h] at hj; exact absurd hj h
  · rw [if_neg h] at hj ⊢
    rw [hgg] at hj ⊢
    by_cases h2 : 12 < (g ++ good (parts q)).length ∨ 200 < (glue (g ++ good (parts q))).length
    · rw [if_pos h2] at hj; simp at hj
    · rw [if_neg h2]
      refine ⟨⟨?_, by omega, by omega⟩, rfl⟩
      rw [← hgg]
      exact good_may (Classical.byContradiction h) (fun x hx => by
        rcases List.mem_append.1 hx with hx | hx
        · exact (hg.may x hx).2.2
        · exact parts_free q x hx)
theorem below_hidden (L : List Ru) {g t : List L8} (hg : Fine g) (hgt : Fine (g ++ t)) (h0 : g ≠ []) (ht : t ≠ []) (d : Bool) (h : hiddenB L (glue g) true = true) : hiddenB L (glue (g ++ t)) d = true := by
  obtain ⟨k, hk, hf⟩ := (hidden_iff L hg h0 true).1 h
  refine (hidden_iff L hgt (by simp [h0]) d).2 ⟨k, by rw [List.length_append]; omega, ?_⟩
  have htl : 0 < t.length := List.length_pos_iff.2 ht
  rw [List.take_append_of_le_length (by omega), decide_eq_true (by rw [List.length_append]; omega), Bool.or_true]
  simpa using hf
end Go.Proofs.YtokocfoeohddfaaGreatDoor.Pa
namespace Go.Proofs.YtokocfoeohddfaaGreatDoor.Pa
open Go.RowKit
set_option linter.unusedVariables false
set_option linter.unusedSimpArgs false
set_option maxRecDepth 1000000

theorem right_up {p : L8} (h : rightB p = true) : rightB (parentL p) = true := by
  obtain ⟨g, hg, rfl⟩ := right_fine h
  by_cases h0 : g = []
  · subst h0
    have e : parentL (glue []) = glue [] := by simp [glue, parentL]
    rw [e]; exact hg.right
  · obtain ⟨k, hk⟩ : ∃ k, g.length = k + 1 := ⟨g.length - 1, by cases g with | nil => exact absurd rfl h0 | cons a b => simp⟩
    have h1 := up_take hg k (by omega)
    rw [← hk, List.take_length] at h1
    rw [h1]
    exact (hg.take k).right
set_option maxHeartbeats 8000000 in
theorem rhidden_any (L : List Ru) (v : Value) (p : L8) (dir : Bool) (w : World) (hv : RuAt w v L) (hL : L.length ≤ 1000000 ∧ ∀ r ∈ L, r.pat.length ≤ 1000000) (hp : p.length ≤ 900000) :
    Calls Tryz.prog 11 #[v, .string (mk p), .bool dir] w fun e w' => e = .returned (.bool (hiddenB L p dir)) ∧ Below w.heap.size w w' := by
  have HRU := Lib.hid (rright_any p w (by omega))
  have HF : Hid (∀ q d W, q.length ≤ p.length → Below w.heap.size w W → Calls Tryz.prog 9 #[v, .string (mk q), .bool d, .bool false] W fun e w' => e = .returned (.int .i64 (actR L q d false)) ∧ Below w.heap.size w w') := fun q d W hq hW => (ract_any L v q d false W (hv.later hW) hL (by omega)).mono fun e w' ⟨h1, h2⟩ => ⟨h1, hW.trans (h2.mono hW.size)⟩
  obtain ⟨a, c, rfl, -⟩ := hv
  have HP := Lib.hid hp
  clear hL hp
  cases hb : rightB p with
  | false =>
    rw [hb] at HRU
    have e : hiddenB L p dir = false := by unfold hiddenB ruledB; rw [hb]; simp
    rw [e]
    clear hb e HF HP
    generalize L.length = n at *
    generalize mk p = q at *
    go_enter Tryz.func11, Tryz.ntmps11
    go_wp2_with (go_at_call 19; refine HRU.out.mono ?_; rintro e w2 ⟨rfl, hb⟩; have HB := Lib.hid hb; clear hb)
    go_ret
    exact ⟨rfl, HB.out⟩
  | true =>
    rw [hb] at HRU
    obtain ⟨R, hR⟩ : ∃ R, R = hiddenB L p dir := ⟨_, rfl⟩
    rw [← hR]
    have H0 : Hid (R = hidN L (p.length + 1) p dir) := by
      show _ = _
      rw [hR]
      unfold hiddenB ruledB
      by_cases h0 : p = []
      · rw [hidN_eq, if_pos h0]; simp [h0]
      · rw [hb]; simp [h0]
    have HRB := Lib.hid hb
    clear hb hR
    generalize hLn : L.length = nn at *
    clear hLn
    go_enter Tryz.func11, Tryz.ntmps11
    go_wp2_with (go_at_call 19; refine HRU.out.mono ?_; rintro e w2 ⟨rfl, hb⟩; have HB := Lib.hid hb; clear hb)
    go_loopw [1, 2] (fun x y wr => ∃ (q : L8) (d : Bool) (n : Nat), x = .string (mk q) ∧ y = .bool d ∧ Hid (rightB q = true) ∧ Hid (q.length < n) ∧ Hid (q.length ≤ p.length) ∧ Hid (R = hidN L n q d) ∧ Hid (Below w.heap.size w wr)) (fun x _ _ => match x with | .string s => s.size | _ => 0)
    case atStart => exact ⟨p, dir, p.length + 1, rfl, rfl, HRB, Nat.lt_succ_self _, Nat.le_refl _, H0, HB⟩
    case round =>
      clear H0 HB HRU HRB
      obtain ⟨q, d, n, rfl, rfl, HRB, HQ, HQP, HRQ, HB⟩ := hrel
      obtain ⟨m, rfl⟩ : ∃ m, n = m + 1 := ⟨n - 1, by have := HQ.out; omega⟩
      by_cases hn : q = []
      · have he : (mk q).toList.isEmpty = true := by rw [mk_toList, hn]; rfl
        have HRF : Hid (R = false) := by show _ = _; rw [HRQ.out, hidN_eq, if_pos hn]
        clear hn
        generalize mk q = s at *
        go_wp2
        go_ret
        exact ⟨(by rw [HRF.out]; try rfl), HB.out⟩
      · have he : (mk q).toList.isEmpty = false := emptyF hn
        have HF1 := Lib.hid (HF.out q d wr HQP.out HB.out)
        have hac : actR L q d false = firstR L q d false := by unfold actR ruledB; rw [HRB.out]; simp [hn]
        rw [hac] at HF1
        have hpl := parentL_lt hn
        have HPA : Hid (∀ W, Below w.heap.size w W → Calls Tryz.prog 25 #[.string (mk q)] W fun e w' => e = .returned (.string (mk (parentL q))) ∧ Below w.heap.size w w') := fun W hW => (rparent_any q W (by have := HP.out; have := HQP.out; omega)).mono fun e w' ⟨h1, h2⟩ => ⟨h1, hW.trans (h2.mono hW.size)⟩
        clear hac
        by_cases h2 : firstR L q d false = 2
        · have HRF : Hid (R = true) := by show _ = _; rw [HRQ.out, hidN_eq, if_neg hn, if_pos h2]
          rw [h2] at HF1
          clear hn hpl h2 HPA
          generalize mk q = s at *
          go_wp2_with (go_at_call 9; refine HF1.out.mono ?_; rintro e w3 ⟨rfl, hb⟩; have HB3 := Lib.hid hb; clear hb)
          go_ret
          exact ⟨(by rw [HRF.out]; try rfl), HB3.out⟩
        · have HRN : Hid (R = hidN L m (parentL q) true) := by show _ = _; rw [HRQ.out, hidN_eq, if_neg hn, if_neg h2]
          have hne : (firstR L q d false == 2) = false := by simpa using h2
          have HSZ : Hid ((mk (parentL q)).size < (mk q).size) := by show _ < _; rw [mk_size, mk_size]; exact hpl
          have HL2 : Hid ((parentL q).length < m) := by show _ < _; have := HQ.out; omega
          have HL3 : Hid ((parentL q).length ≤ p.length) := by show _ ≤ _; have := HQP.out; omega
          have HRU2 := Lib.hid (right_up HRB.out)
          generalize firstR L q d false = x at *
          clear hn hpl
          go_wp2_with (first
            | (go_at_call 9; refine HF1.out.mono ?_; rintro e w3 ⟨rfl, hb⟩; have HB3 := Lib.hid hb; clear hb)
            | (go_at_call 25; refine (HPA.out _ HB3.out).mono ?_; rintro e w4 ⟨rfl, hb⟩; have HB4 := Lib.hid hb; clear hb))
          go_roundw
          case rel => exact ⟨parentL q, true, m, rfl, rfl, HRU2, HL2, HL3, HRN, HB4⟩
          case measure => exact HSZ.out
end Go.Proofs.YtokocfoeohddfaaGreatDoor.Pa
namespace Go.Proofs.RangeCap
open Go.RowKit Go.Shelf
set_option linter.unusedVariables false

/-- a loop's record lies in a block -/
def Rec (W : World) (l : Nat) : Prop := ∃ r, W.heap[l]? = some (.loop r)

/-- nothing but one block has changed, and nothing has gone -/
def Still (tb : Nat) (W W' : World) : Prop := W'.os = W.os ∧ W'.tape = W.tape ∧ W'.output = W.output ∧ W.heap.size ≤ W'.heap.size ∧ ∀ (b : Nat) (o : Obj), W.heap[b]? = some o → b ≠ tb → W'.heap[b]? = some o
theorem Still.refl (tb : Nat) (W : World) : Still tb W W := ⟨rfl, rfl, rfl, Nat.le_refl _, fun _ _ h _ => h⟩
theorem Still.trans {tb : Nat} {a b c : World} (h : Still tb a b) (k : Still tb b c) : Still tb a c := ⟨k.1.trans h.1, k.2.1.trans h.2.1, k.2.2.1.trans h.2.2.1, Nat.le_trans h.2.2.2.1 k.2.2.2.1, fun x o hx ho => k.2.2.2.2 x o (h.2.2.2.2 x o hx ho) ho⟩
theorem Still.below {tb : Nat} {W W' : World} (h : Below W.heap.size W W') : Still tb W W' := ⟨h.os, h.tape, h.output, h.size, fun b o hb _ => by rw [h.block b (Array.getElem?_eq_some_iff.1 hb).1]; exact hb⟩
theorem Still.set {W : World} {tb i : Nat} (v : Value) : Still tb W (W.setCell ⟨tb, i, none⟩ v) := by
  have hb := (Below.refl W.heap.size W)
  refine ⟨by simp [World.setCell] <;> (repeat' split) <;> rfl, by simp [World.setCell] <;> (repeat' split) <;> rfl, by simp [World.setCell] <;> (repeat' split) <;> rfl, by simp, fun b o hb hne => ?_⟩
  rw [Below.heap_setCell W _ v b hne]; exact hb

/-- what an iterator that hands k-th things owes a caller: J k: k rounds are over; X k vs: what the k-th round is handed, in its world -/
def Hands (P : Program) (n : Nat) (g : Nat) (lb : Array Value) (tb : Nat) (X : Nat → Array Value → World → Prop) (N : Nat) (T C : World → Prop) (w : World) : Prop :=
  ∀ (B l : Nat) (J Jx : Nat → World → Prop) (W : World), Below w.heap.size w W → B ≤ tb → T W → (∀ k W, J k W → C W) →
    (∀ k W W', J k W → Still tb W W' → Below B W W' → J k W') →
    (∀ k vs W1, k < N → J k W1 → X k vs W1 → YieldAt Fence.wide (n - 1) P l vs W1 fun e W' =>
      (e = .returned (.bool true) ∧ J (k + 1) W' ∧ W'.heap[tb]? = W1.heap[tb]? ∧ W1.heap.size ≤ W'.heap.size) ∨ (e = .returned (.bool false) ∧ Jx (k + 1) W')) →
    J 0 W →
    CallsIn Fence.wide n P g (#[.func (.yield l) #[] #[]] ++ lb) W fun e W' => (∃ v, e = .returned v) ∧ (J N W' ∨ ∃ k, k ≤ N ∧ Jx k W')

/-- how a round's body may be left -/
def Left (tb l D : Nat) (J : Nat → World → Prop) (Jx : Code → Nat → World → Prop) (k : Nat) (W : World) : Exit → Act → World → Prop
  | .normal, _, W' => (W'.heap[l]? = W.heap[l]? ∧ W'.heap[D]? = W.heap[D]?) ∧ J k W' ∧ W'.heap[tb]? = W.heap[tb]? ∧ W.heap.size ≤ W'.heap.size
  | .ret, _, W' => (W'.heap[l]? = W.heap[l]? ∧ W'.heap[D]? = W.heap[D]?) ∧ Jx .ret k W'
  | .exit id, _, W' => (W'.heap[l]? = W.heap[l]? ∧ W'.heap[D]? = W.heap[D]?) ∧ Jx (.exit id) k W'
  | .goto t, _, W' => (W'.heap[l]? = W.heap[l]? ∧ W'.heap[D]? = W.heap[D]?) ∧ Jx (.goto t) k W'
  | .panic _, _, _ => False
  | .outgrown, _, _ => False

theorem range_seen {P : Program} {n : Nat} {g : Operand} {ps : Array Tmp} {assign body : Code} {Q : Exit → Act → World → Prop} {a : Act} {w : World}
    {gf : Nat} {lb : Array Value} (hg : a.eval g = .func (.func gf) #[] lb) (eg : Enters P gf)
    {X : Nat → Array Value → World → Prop} {N : Nat} {T C : World → Prop} {w0 : World} {tb : Nat} (hseq : Hands P (n - 1) gf lb tb X N T C w0) (hb0 : Below w0.heap.size w0 w)
    (B : Nat) (hB : B ≤ tb) (htb : tb < w.heap.size)
    (J : Nat → World → Prop) (Jx : Code → Nat → World → Prop)
    (hX : ∀ k vs W, X k vs W → vs.size = ps.size)
    (hXp : ∀ k vs W o, X k vs W → Rec W (w.heap.size + 1) → X k vs (W.putObj (w.heap.size + 1) (.loop o)))
    (hJp : ∀ k W o, J k W → Rec W (w.heap.size + 1) → J k (W.putObj (w.heap.size + 1) (.loop o)))
    (hJxp : ∀ c k W o, Jx c k W → Rec W (w.heap.size + 1) → Jx c k (W.putObj (w.heap.size + 1) (.loop o)))
    (hJs : ∀ k W W', J k W → Still tb W W' → Below B W W' → J k W')
    (hC : ∀ k W, J k W → C W)
    (hT : T w) (hTb : ∀ W, T w → Below w.heap.size w W → T W)
    (h0 : ∀ r, J 0 ((w.alloc (.deferred (some []))).alloc (.loop r)))
    (A : Nat → Array Value → Act)
    (hassign : ∀ (l k : Nat) (vs : Array Value) (W : World) (K : Act → World → Prop), X k vs W → K (A k vs) W →
      assign.wpIn (Fence.wide.inRound l) (n - 1 - 1) P (Exit.then K (fun _ _ _ => False)) { tmps := (ps.zip vs).foldl (fun t (p, v) => t.setIfInBounds p v) a.tmps, defers := [] } W)
    (hbody : ∀ (k : Nat) (vs : Array Value) (W : World), k < N → J k W → X k vs W → w.heap.size + 1 < W.heap.size → Rec W (w.heap.size + 1) → W.heap[w.heap.size]? = some (.deferred (some [])) →
      body.wpIn (Fence.wide.inRound (w.heap.size + 1)) (n - 1 - 1) P (Left tb (w.heap.size + 1) w.heap.size J Jx (k + 1) W) (A k vs) W)
    (hdone : ∀ (W : World), J N W → W.heap[w.heap.size]? = some (.deferred (some [])) → w.heap.size + 1 < W.heap.size → Q .normal { a with defers := { target := .collected w.heap.size, args := #[] } :: a.defers } W)
    (hstop : ∀ (c : Code) (k : Nat) (W : World), k ≤ N → Jx c k W → W.heap[w.heap.size]? = some (.deferred (some [])) → w.heap.size + 1 < W.heap.size → c.wpIn Fence.wide n P Q { a with defers := { target := .collected w.heap.size, args := #[] } :: a.defers } W) :
    (Code.rangeFunc g ps assign body).wpIn Fence.wide n P Q a w := by
  refine wpIn_rangeFunc ?_
  intro fn hfn
  -- the loop's record, in each of its states
  let lp : LoopState → Option Code → Loop := fun st pe => { state := st, pending := pe, fn, tmps := a.tmps, params := ps, assign, body, defers := w.heap.size }
  have hnew : ((w.alloc (.deferred (some []))).alloc (.loop (lp .ready none))).heap[w.heap.size + 1]? = some (.loop (lp .ready none)) := by
    have := World.alloc_heap_new (w.alloc (.deferred (some []))) (.loop (lp .ready none)); rwa [World.size_alloc] at this
  have hdef : ((w.alloc (.deferred (some []))).alloc (.loop (lp .ready none))).heap[w.heap.size]? = some (.deferred (some [])) :=
    (Below.heap_alloc _ _ _ (by simp)).trans (World.alloc_heap_new w _)
  have hbel : Below w.heap.size w ((w.alloc (.deferred (some []))).alloc (.loop (lp .ready none))) := ((Below.refl _ w).alloc (Nat.le_refl _) _).alloc (by simp) _
  have hJ0 := h0 (lp .ready none)
  -- what the iterator is told of a round: the caller's word, and both blocks as they lie
  let JJ : Nat → World → Prop := fun k W => J k W ∧ W.heap[w.heap.size + 1]? = some (.loop (lp .ready none)) ∧ W.heap[w.heap.size]? = some (.deferred (some []))
  let JJx : Nat → World → Prop := fun k W => ∃ c, Jx c k W ∧ W.heap[w.heap.size + 1]? = some (.loop (lp .done (some c))) ∧ W.heap[w.heap.size]? = some (.deferred (some []))
  have hent : (Instr.enterLoop fn a.tmps ps assign body Fence.wide.round).run P w = .ok (w.heap.size + 1, [{ target := .collected w.heap.size, args := #[] }]) ((w.alloc (.deferred (some []))).alloc (.loop (lp .ready none))) := run_enterLoop_outer _ _ _ _ _
  obtain ⟨W1, hW1⟩ : ∃ W1, (w.alloc (.deferred (some []))).alloc (.loop (lp .ready none)) = W1 := ⟨_, rfl⟩
  rw [hW1] at hnew hdef hbel hJ0 hent
  have hres : (resolve a.eval (rangeCall g (w.heap.size + 1)) 0).run P W1 = .ok { target := .fn (.func gf) lb, args := #[.func (.yield (w.heap.size + 1)) #[] #[]] } W1 := by
    simp only [resolve, hg]
    simp [go_sem]
  have hinv : (invoke (.fn (.func gf) lb) #[.func (.yield (w.heap.size + 1)) #[] #[]]).run P W1 = .ok (.enter gf (#[.func (.yield (w.heap.size + 1)) #[] #[]] ++ lb)) W1 := by
    simp [invoke, go_sem, eg _ _]
  refine ⟨w.heap.size + 1, [{ target := .collected w.heap.size, args := #[] }], W1, { target := .fn (.func gf) lb, args := #[.func (.yield (w.heap.size + 1)) #[] #[]] }, W1, gf,
    #[.func (.yield (w.heap.size + 1)) #[] #[]] ++ lb, W1, hent, hres, fun _ _ => trivial, hinv, fun h => by simp [Fence.wide] at h, ?_⟩
  · refine (hseq B (w.heap.size + 1) JJ JJx _ (hb0.trans (hbel.mono hb0.size)) hB (hTb _ hT hbel) (fun k W h => hC k W h.1) ?_ ?_ ⟨hJ0, hnew, hdef⟩).mono ?_
    · rintro k W W' ⟨h1, h2, h3⟩ hs hb
      exact ⟨hJs k W W' h1 hs hb, hs.2.2.2.2 _ _ h2 (by omega), hs.2.2.2.2 _ _ h3 (by omega)⟩
    · rintro k vs W hk ⟨h1, h2, h3⟩ hx
      have hlt := (Array.getElem?_eq_some_iff.1 h2).1
      have hy := run_yield (P := P) (args := vs) h2 (hX k vs W hx)
      refine ⟨_, _, _, _, hy, roundIn_of_wpIn hfn (hassign _ k vs W _ hx ⟨_, run_beginRound h2 rfl, ?_⟩)⟩
      have hb1 : (W.putObj (w.heap.size + 1) (.loop (lp .busy none))).heap[w.heap.size + 1]? = some (.loop (lp .busy none)) := World.putObj_heap_same hlt
      have hb2 : (W.putObj (w.heap.size + 1) (.loop (lp .busy none))).heap[w.heap.size]? = some (.deferred (some [])) := (World.putObj_heap_other (by omega)).trans h3
      have hsz : (W.putObj (w.heap.size + 1) (.loop (lp .busy none))).heap.size = W.heap.size := by simp [World.putObj]
      refine wpIn_mono (hbody k vs (W.putObj (w.heap.size + 1) (.loop (lp .busy none))) hk (hJp k W _ h1 ⟨_, h2⟩) (hXp k vs W _ hx ⟨_, h2⟩) (by rw [hsz]; exact hlt) ⟨_, hb1⟩ hb2) ?_
      rintro e a3 W3 hp
      cases e with
      | normal =>
        obtain ⟨⟨hl, hd⟩, hj, hi, hi2⟩ := hp
        rw [hb1] at hl
        rw [hb2] at hd
        refine ⟨_, _, run_endRound none hl, .inl ⟨rfl, ⟨hJp _ _ _ hj ⟨_, hl⟩, World.putObj_heap_same (Array.getElem?_eq_some_iff.1 hl).1, (World.putObj_heap_other (by omega)).trans hd⟩, ?_⟩⟩
        refine ⟨(World.putObj_heap_other (by omega)).trans (hi.trans (World.putObj_heap_other (by omega))), ?_⟩
        simp only [World.putObj, Array.size_setIfInBounds] at hi2 ⊢
        exact hi2
      | ret =>
        obtain ⟨⟨hl, hd⟩, hj⟩ := hp
        rw [hb1] at hl
        rw [hb2] at hd
        refine ⟨_, _, run_endRound (some .ret) hl, .inr ⟨rfl, .ret, hJxp _ _ _ _ hj ⟨_, hl⟩, World.putObj_heap_same (Array.getElem?_eq_some_iff.1 hl).1, (World.putObj_heap_other (by omega)).trans hd⟩⟩
      | exit id =>
        obtain ⟨⟨hl, hd⟩, hj⟩ := hp
        rw [hb1] at hl
        rw [hb2] at hd
        refine ⟨_, _, run_endRound (some (.exit id)) hl, .inr ⟨rfl, .exit id, hJxp _ _ _ _ hj ⟨_, hl⟩, World.putObj_heap_same (Array.getElem?_eq_some_iff.1 hl).1, (World.putObj_heap_other (by omega)).trans hd⟩⟩
      | goto t =>
        obtain ⟨⟨hl, hd⟩, hj⟩ := hp
        rw [hb1] at hl
        rw [hb2] at hd
        refine ⟨_, _, run_endRound (some (.goto t)) hl, .inr ⟨rfl, .goto t, hJxp _ _ _ _ hj ⟨_, hl⟩, World.putObj_heap_same (Array.getElem?_eq_some_iff.1 hl).1, (World.putObj_heap_other (by omega)).trans hd⟩⟩
      | panic ch => exact hp.elim
      | outgrown => exact hp.elim
    · rintro e W2 ⟨⟨v, rfl⟩, (⟨hj, hl, hd⟩ | ⟨k, hk, c, hj, hl, hd⟩)⟩
      · have hlt := (Array.getElem?_eq_some_iff.1 hl).1
        exact ⟨none, _, run_endLoop hl (by simp [lp]), hdone _ (hJp _ _ _ hj ⟨_, hl⟩) ((World.putObj_heap_other (by omega)).trans hd) (by simpa [World.putObj] using hlt)⟩
      · have hlt := (Array.getElem?_eq_some_iff.1 hl).1
        exact ⟨some c, _, run_endLoop hl (by simp [lp]), hstop c k _ hk (hJxp _ _ _ _ hj ⟨_, hl⟩) ((World.putObj_heap_other (by omega)).trans hd) (by simpa [World.putObj] using hlt)⟩
end Go.Proofs.RangeCap
namespace Go.Proofs.YtokocfoeohddfaaGreatDoor.Me
open Go.Proofs.YtokocfoeohddfaaGreatDoor.Pa
set_option linter.unusedVariables false
set_option linter.unusedSimpArgs false

/-- what stands between the bytes c -/
def cutc (c : UInt8) : L8 → List L8
  | [] => [[]]
  | x :: l => if x = c then [] :: cutc c l else (x :: (cutc c l).headD []) :: (cutc c l).tail
theorem cutc_ne (c : UInt8) (l : L8) : cutc c l ≠ [] := by cases l with | nil => simp [cutc] | cons x l => rw [cutc]; split <;> simp
theorem cutc_plain {c : UInt8} {a : L8} (h : ∀ x ∈ a, x ≠ c) : cutc c a = [a] := by
  induction a with
  | nil => rfl
  | cons x a ih => rw [cutc, if_neg (h x (by simp)), ih (fun y hy => h y (by simp [hy]))]; rfl
theorem cutc_at {c : UInt8} {a b : L8} (h : ∀ x ∈ a, x ≠ c) : cutc c (a ++ c :: b) = a :: cutc c b := by
  induction a with
  | nil => rw [List.nil_append, cutc, if_pos rfl]
  | cons x a ih => rw [List.cons_append, cutc, if_neg (h x (by simp)), ih (fun y hy => h y (by simp [hy]))]; rfl
theorem cutc_len (c : UInt8) (l : L8) : (cutc c l).length ≤ l.length + 1 := by
  induction l with
  | nil => simp [cutc]
  | cons x l ih =>
    have := cutc_ne c l
    rw [cutc]
    split
    · simp; omega
    · simp; omega
/-- the k-th is what stands at f, and the rest is behind -/
def AtC (c : UInt8) (l : L8) (k f : Nat) : Prop := f ≤ l.length ∧ (cutc c l).drop k = cutc c (l.drop f)
theorem AtC.zero (c : UInt8) (l : L8) : AtC c l 0 0 := ⟨Nat.zero_le _, by simp⟩
theorem AtC.last {c : UInt8} {l : L8} {k f : Nat} (h : AtC c l k f) (hf : ∀ x ∈ l.drop f, x ≠ c) : (cutc c l)[k]? = some (l.drop f) ∧ (cutc c l).length = k + 1 := by
  have e := h.2
  rw [cutc_plain hf] at e
  have e2 := congrArg List.length e
  simp at e2
  refine ⟨?_, by omega⟩
  have := congrArg (fun x => x[0]?) e
  simpa using this
theorem AtC.next {c : UInt8} {l : L8} {k f i : Nat} (h : AtC c l k f) (hi : (l.drop f)[i]? = some c) (hf : ∀ x ∈ (l.drop f).take i, x ≠ c) : (cutc c l)[k]? = some ((l.drop f).take i) ∧ AtC c l (k + 1) (f + i + 1) := by
  have hlt := (List.getElem?_eq_some_iff.1 hi).1
  have e0 : l.drop f = (l.drop f).take i ++ c :: l.drop (f + i + 1) := by
    conv => lhs; rw [← List.take_append_drop i (l.drop f)]
    rw [List.drop_eq_getElem_cons hlt, (List.getElem?_eq_some_iff.1 hi).2, List.drop_drop]
    rw [show f + (i + 1) = f + i + 1 from by omega]
  have e := h.2
  rw [e0, cutc_at hf] at e
  have e1 := congrArg (fun x => x[0]?) e
  simp only [List.getElem?_drop, Nat.add_zero, List.getElem?_cons_zero] at e1
  refine ⟨e1, ?_, ?_⟩
  · simp at hlt; omega
  · have := congrArg (List.drop 1) e
    simpa [List.drop_drop] using this
end Go.Proofs.YtokocfoeohddfaaGreatDoor.Me
namespace Go.Proofs.YtokocfoeohddfaaGreatDoor.Me
open Go.RowKit Go.Shelf Go.Proofs.RangeCap Go.Proofs.YtokocfoeohddfaaGreatDoor.Pa
set_option linter.unusedVariables false
set_option linter.unusedSimpArgs false
attribute [local go_sem] Oper.semAt_some

def PieceC (c : UInt8) (l : L8) (k : Nat) (vs : Array Value) (W : World) : Prop := vs = #[.string (mk ((cutc c l).getD k []))]
def SrcAt (tb : Nat) (l : L8) (W : World) : Prop := W.cell? ⟨tb, 0, none⟩ = some (.string (mk l)) ∧ W.frozen? ⟨tb, 0, none⟩ = false
def CapAt (c : UInt8) (sb vb : Nat) (W : World) : Prop := W.cell? ⟨sb, 0, none⟩ = some (.string ⟨#[c]⟩) ∧ W.cell? ⟨vb, 0, none⟩ = some (.int .i64 0)
theorem idx_cases (d : L8) (c : UInt8) : (Lib.indexByte d c = -1 ∧ ∀ x ∈ d, x ≠ c) ∨ ∃ i : Nat, Lib.indexByte d c = i ∧ i < d.length ∧ d[i]? = some c ∧ ∀ x ∈ d.take i, x ≠ c := by
  have hge := Lib.indexByte_ge d c
  by_cases h : Lib.indexByte d c = -1
  · left
    refine ⟨h, fun x hx e => ?_⟩
    obtain ⟨k, hk, hxk⟩ := List.mem_iff_getElem.1 hx
    exact Lib.indexByte_none h k (by rw [List.getElem?_eq_getElem hk, hxk, e])
  · right
    obtain ⟨i, hi⟩ : ∃ i : Nat, Lib.indexByte d c = i := ⟨(Lib.indexByte d c).toNat, by omega⟩
    obtain ⟨h1, h2⟩ := Lib.indexByte_some hi
    refine ⟨i, hi, (List.getElem?_eq_some_iff.1 h1).1, h1, fun x hx e => ?_⟩
    obtain ⟨k, hk, hxk⟩ := List.mem_iff_getElem.1 hx
    rw [List.length_take] at hk
    rw [List.getElem_take] at hxk
    exact h2 k (by omega) (by rw [List.getElem?_eq_getElem (by omega), hxk, e])
set_option maxRecDepth 1000000 in
set_option maxHeartbeats 4000000 in
theorem seq1_hands (n : Nat) (c : UInt8) (l : L8) (tb sb vb : Nat) (w : World) (hl : l.length ≤ 4611686018427387904) (hd1 : sb ≠ tb) (hd2 : vb ≠ tb) :
    Hands Tryz.prog n 55 #[.pointer (some ⟨sb, 0, none⟩), .pointer (some ⟨tb, 0, none⟩), .pointer (some ⟨vb, 0, none⟩)] tb (PieceC c l) (cutc c l).length (SrcAt tb l) (CapAt c sb vb) w := by
  intro B rec J Jx W hW hBW hTW hC hJs hY h0
  have HC := Lib.hid hC
  have HJS := Lib.hid hJs
  have HH0 := Lib.hid h0
  have HBT := Lib.hid hBW
  have HL := Lib.hid hl
  have HYY : Hid (∀ k p W1, (cutc c l)[k]? = some p → J k W1 → YieldAt Fence.wide (n - 1) Tryz.prog rec #[.string (mk p)] W1 fun e W' => (e = .returned (.bool true) ∧ J (k + 1) W' ∧ W'.heap[tb]? = W1.heap[tb]? ∧ W1.heap.size ≤ W'.heap.size) ∨ (e = .returned (.bool false) ∧ Jx (k + 1) W')) := by
    intro k p W1 hk hj
    refine hY k _ W1 ?_ hj ?_
    · exact (List.getElem?_eq_some_iff.1 hk).1
    · unfold PieceC; rw [List.getD_eq_getElem?_getD, hk]; rfl
  have HS0 : Hid (SrcAt tb (l.drop 0) W) := hTW
  obtain ⟨hc0, hc1⟩ := hC 0 W h0
  have hz : (({ data := #[c] } : ByteArray)).size = 1 := rfl
  clear hC hJs h0 hY hl hTW hBW
  refine callsIn_of_wp Tryz.func55 rfl trivial ?_ rfl
  simp only [Tryz.ntmps55, List.size_toArray, List.length_cons, List.length_nil, Nat.reduceAdd, Nat.reduceSub, Array.replicate_succ, Array.replicate_zero, List.push_toArray, List.append_toArray, List.nil_append, List.cons_append]
  gi_wp2
  gi_loopw [7] (fun _ wr => ∃ k f : Nat, Hid (AtC c l k f) ∧ Hid (SrcAt tb (l.drop f) wr) ∧ Hid (J k wr)) (fun _ wr => match wr.cell? ⟨tb, 0, none⟩ with | some (.string s) => s.size | _ => 0)
  case atStart => exact ⟨0, 0, AtC.zero c l, HS0, HH0⟩
  case round =>
    clear HH0 HS0 hc0 hc1
    obtain ⟨k, f, hA, hS, hj⟩ := hrel
    have hsc := hS.out.1
    have hsf := hS.out.2
    obtain ⟨hcs, hcv⟩ := HC.out k wr hj.out
    have hIX := Tryz.strings_Index_one (mk (l.drop f)) c
    rw [mk_list] at hIX
    have hdl : (l.drop f).length ≤ 4611686018427387904 := by rw [List.length_drop]; have := HL.out; omega
    have hm0 : (match wr.cell? ⟨tb, 0, none⟩ with | some (.string s) => s.size | _ => 0) = (l.drop f).length := by rw [hsc]; exact mk_size _
    rcases idx_cases (l.drop f) c with ⟨hi, hfree⟩ | ⟨i, hi, hil, hic, hfree⟩
    · rw [hi] at hIX
      have HIX := Lib.hid hIX
      obtain ⟨hk, hlen⟩ := hA.out.last hfree
      obtain ⟨fn, tmps, assign, body, hy, hRd⟩ := HYY.out k _ wr hk hj.out
      have HRD := Lib.hid hRd
      have HLEN := Lib.hid hlen
      clear hRd hk hlen hfree hi hIX hdl hm0
      gi_wp2_with (refine ⟨trivial, fun h => (by simp [Fence.wide] at h), ?_⟩; gi_at_call 57; refine (callsIn_wide.2 (HIX.out _)).mono ?_; rintro e w' ⟨rfl, rfl⟩)
      refine ⟨fun h => (by simp [Fence.wide] at h), ?_⟩
      refine HRD.out.mono ?_
      rintro e W3 (⟨rfl, hJ3, -⟩ | ⟨rfl, hJx3⟩)
      · have HJ3 := Lib.hid hJ3
        clear hJ3
        gi_wp2
        go_end0
        exact ⟨⟨_, rfl⟩, .inl (by rw [HLEN.out]; exact HJ3.out)⟩
      · have HJX := Lib.hid hJx3
        clear hJx3
        gi_wp2
        go_end0
        exact ⟨⟨_, rfl⟩, .inr ⟨k + 1, by rw [HLEN.out]; exact Nat.le_refl _, HJX.out⟩⟩
    · rw [hi] at hIX
      have HIX := Lib.hid hIX
      obtain ⟨hk, hA2⟩ := hA.out.next hic hfree
      obtain ⟨fn, tmps, assign, body, hy, hRd⟩ := HYY.out k _ wr hk hj.out
      have HRD := Lib.hid hRd
      have HA2 := Lib.hid hA2
      have hsub := run_hd (l.drop f) i (by omega)
      have htl := run_tl (l.drop f) (i + 1) (by omega)
      rw [List.drop_drop, show f + (i + 1) = f + i + 1 from by omega, show ((i + 1 : Nat) : Int) = (i : Int) + 1 from by omega] at htl
      have hw0 : IntKind.i64.wrap (i : Int) = (i : Int) := IntWalk.i64_in _ (by omega)
      have hw1 : IntKind.i64.wrap ((i : Int) + 1) = (i : Int) + 1 := IntWalk.i64_in _ (by omega)
      have HKL : Hid (k + 1 ≤ (cutc c l).length) := (List.getElem?_eq_some_iff.1 hk).1
      have HM : Hid ((mk (l.drop (f + i + 1))).size < (mk (l.drop f)).size) := by
        show _ < _; rw [mk_size, mk_size, List.length_drop, List.length_drop]; rw [List.length_drop] at hil; omega
      clear hRd hk hA2 hfree hi hIX hdl hm0 hil hic
      gi_wp2_with (refine ⟨trivial, fun h => (by simp [Fence.wide] at h), ?_⟩; gi_at_call 57; refine (callsIn_wide.2 (HIX.out _)).mono ?_; rintro e w' ⟨rfl, rfl⟩)
      refine ⟨fun h => (by simp [Fence.wide] at h), ?_⟩
      refine HRD.out.mono ?_
      rintro e W3 (⟨rfl, hJ3, hh3, hz3⟩ | ⟨rfl, hJx3⟩)
      · have HJ3 := Lib.hid hJ3
        obtain ⟨q1, q2⟩ := HC.out _ W3 hJ3
        have q3 : W3.cell? ⟨tb, 0, none⟩ = some (.string (mk (l.drop f))) := by rw [← hsc]; exact World.cell?_of_block hh3
        have q4 : W3.frozen? ⟨tb, 0, none⟩ = false := by rw [← hsf]; exact World.frozen?_of_block hh3
        have HQ3 := Lib.hid q3
        have HQ4 := Lib.hid q4
        clear hJ3 hh3 hz3 hsc hsf hcs hcv
        gi_wp2
        go_roundw
        case rel => exact ⟨k + 1, f + i + 1, HA2, ⟨World.cell?_setCell_same' _ _ _ (by rw [HQ3.out]; rfl), by rw [World.frozen?_setCell]; exact HQ4.out⟩, HJS.out _ _ _ HJ3.out (Still.set _) ((Below.refl B W3).setCell (p := ⟨tb, 0, none⟩) HBT.out _)⟩
        case measure =>
          have e1 : (W3.setCell ⟨tb, 0, none⟩ (.string (mk (l.drop (f + i + 1))))).cell? ⟨tb, 0, none⟩ = some (.string (mk (l.drop (f + i + 1)))) := World.cell?_setCell_same' _ _ _ (by rw [HQ3.out]; rfl)
          rw [e1]
          have e2 := hS.out.1
          rw [e2]
          exact HM.out
      · have HJX := Lib.hid hJx3
        clear hJx3
        gi_wp2
        refine bodyPost_ret (results_none rfl _ _ _) rfl ?_
        exact ⟨⟨_, rfl⟩, .inr ⟨k + 1, HKL.out, HJX.out⟩⟩
/-- SplitSeq itself: three blocks, and the iterator over them -/
theorem split_any (c : UInt8) (l : L8) (w : World) : Calls Tryz.prog 30 #[.string (mk l), .string ⟨#[c]⟩] w fun e w' => e = .returned (.func (.func 55) #[] #[.pointer (some ⟨w.heap.size + 1, 0, none⟩), .pointer (some ⟨w.heap.size, 0, none⟩), .pointer (some ⟨w.heap.size + 2, 0, none⟩)]) ∧ w' = ((w.alloc (.cells #[.string (mk l)] 9)).alloc (.cells #[.string ⟨#[c]⟩] 9)).alloc (.cells #[.int .i64 0] 3) := by
  have H : Hid (∀ W : World, Calls Tryz.prog 46 #[.string (mk l), .string ⟨#[c]⟩, .int .i64 0] W fun e w' => e = .returned (.func (.func 55) #[] #[.pointer (some ⟨W.heap.size + 1, 0, none⟩), .pointer (some ⟨W.heap.size, 0, none⟩), .pointer (some ⟨W.heap.size + 2, 0, none⟩)]) ∧ w' = ((W.alloc (.cells #[.string (mk l)] 9)).alloc (.cells #[.string ⟨#[c]⟩] 9)).alloc (.cells #[.int .i64 0] 3)) := by
    intro W
    go_enter Tryz.func46, Tryz.ntmps46
    go_wp2
    go_ret
    exact ⟨rfl, rfl⟩
  go_enter Tryz.func30, Tryz.ntmps30
  go_wp2_with (go_at_call 46; refine (H.out _).mono ?_; rintro e w' ⟨rfl, rfl⟩)
  go_ret
  exact ⟨rfl, rfl⟩
end Go.Proofs.YtokocfoeohddfaaGreatDoor.Me
namespace Go.Proofs.YtokocfoeohddfaaGreatDoor.Pa
open Go.RowKit
set_option linter.unusedVariables false
set_option linter.unusedSimpArgs false
set_option maxRecDepth 100000

set_option maxHeartbeats 8000000 in
theorem parse_ru (l : L8) (w : World) (hl : l.length ≤ 4611686018427387904) :
    Calls Tryz.prog 14 #[.string (mk l)] w fun e w' => e = .returned (.tuple #[(parseR l).1.val, .int .i64 (parseR l).2]) ∧ Below w.heap.size w w' := by
  have hs : (mk l).size = l.length := mk_size l
  have HR0 : Hid ((w.alloc (.cells #[.int .i64 0, .string { data := #[] }, .bool false, .bool false] 26)).heap[w.heap.size]? = some (.cells #[.int .i64 0, .string { data := #[] }, .bool false, .bool false] 26)) := heap_new _ _
  have HB0 : Hid (Below w.heap.size w (w.alloc (.cells #[.int .i64 0, .string { data := #[] }, .bool false, .bool false] 26))) := (Below.refl _ _).alloc (Nat.le_refl _) _
  by_cases h2 : l.length < 2
  · have hD : decide (((mk l).size : Int) < 2) = true := decide_eq_true (by omega)
    have e : parseR l = (zeroRu, 5) := by unfold parseR; rw [if_pos (.inl h2)]
    rw [e]
    clear hs hl h2 e
    generalize mk l = p at *
    go_enter Tryz.func14, Tryz.ntmps14
    go_wp2
    try simp only [Exit.inBlock, Exit.then]
    refine bodyPost_ret (v := .tuple #[zeroRu.val, .int .i64 5]) (results_cell2_row (p := 2) (u := 3) rfl _ _ w.heap.size 26 #[.int .i64 0, .string { data := #[] }, .bool false, .bool false] (0, 0) _ rfl HR0.out Tryz.underlying26 rfl (by kernel_rfl)) rfl ?_
    exact ⟨rfl, HB0.out⟩
  · have hD : decide (((mk l).size : Int) < 2) = false := decide_eq_false (by omega)
    have hx1 := run_at l 1 (by omega)
    simp only [Int.cast_ofNat_Int] at hx1
    rw [bt_nb] at hx1
    by_cases h32 : nb l 1 = 32
    · rw [h32] at hx1
      have hx0 := run_at l 0 (by omega)
      simp only [Int.cast_ofNat_Int] at hx0
      rw [bt_nb] at hx0
      have HI : Hid (∀ W, Calls Tryz.prog 26 #[.string { data := #[43, 45, 80, 82] }, .int .u8 (nb l 0 : Int)] W fun e w' => e = .returned (.int .i64 (signI (l.getD 0 0))) ∧ w' = W) := by
        intro W
        have := Tryz.strings_IndexByte { data := #[43, 45, 80, 82] } (nb l 0 : Int) W
        have e1 : ((nb l 0 : Int)).toNat.toUInt8 = l.getD 0 0 := by unfold nb; simp
        rw [e1] at this
        exact this
      have hsb := signI_bd (l.getD 0 0)
      obtain ⟨S, hS⟩ : ∃ S, S = signI (l.getD 0 0) := ⟨_, rfl⟩
      rw [← hS] at HI hsb
      by_cases hneg : S < 0
      · have hDn : decide (S < 0) = true := decide_eq_true hneg
        have e : parseR l = (zeroRu, 5) := by unfold parseR; rw [if_pos (.inr (.inr (hS ▸ hneg)))]
        rw [e]
        clear hs hl h2 e hS hsb h32
        generalize nb l 0 = c0 at *
        generalize mk l = p at *
        go_enter Tryz.func14, Tryz.ntmps14
        go_wp2_with (go_at_call 26; refine (HI.out _).mono ?_; rintro e w' ⟨rfl, rfl⟩)
        try simp only [Exit.inBlock, Exit.then]
        refine bodyPost_ret (v := .tuple #[zeroRu.val, .int .i64 5]) (results_cell2_row (p := 2) (u := 3) rfl _ _ w.heap.size 26 #[.int .i64 0, .string { data := #[] }, .bool false, .bool false] (0, 0) _ rfl HR0.out Tryz.underlying26 rfl (by kernel_rfl)) rfl ?_
        exact ⟨rfl, HB0.out⟩
      · have hDn : decide (S < 0) = false := decide_eq_false hneg
        have hw1 : IntKind.i64.wrap (1 + S) = 1 + S := IntWalk.i64_in _ (by omega)
        have hxt := run_tl l 2 (by omega)
        simp only [Int.cast_ofNat_Int] at hxt
        have hdl : (l.drop 2).length ≤ 4611686018427387904 := by rw [List.length_drop]; omega
        have hcl := cutp_len (l.drop 2)
        have hcl2 := cuts_len (cutp (l.drop 2)).1
        have HCP := Lib.hid (fun W => cutp_any (l.drop 2) W hdl)
        have HCS := Lib.hid (fun W => cuts_any (cutp (l.drop 2)).1 W (by omega))
        have hE : lineRu l = ⟨1 + S, (cuts (cutp (l.drop 2)).1).1, (cuts (cutp (l.drop 2)).1).2, (cutp (l.drop 2)).2⟩ := by unfold lineRu; rw [← hS]
        have hP : parseR l = if refE (1 + S) (cuts (cutp (l.drop 2)).1).1 ≠ 0 then (zeroRu, refE (1 + S) (cuts (cutp (l.drop 2)).1).1) else (lineRu l, 0) := by
          unfold parseR
          rw [if_neg (by rw [← hS]; simp only [not_or]; exact ⟨h2, fun h => h h32, hneg⟩), hE]
        rw [hE] at hP
        rw [hP]
        obtain ⟨q1, hq1⟩ : ∃ q, q = (cutp (l.drop 2)).1 := ⟨_, rfl⟩
        obtain ⟨an, han⟩ : ∃ b, b = (cutp (l.drop 2)).2 := ⟨_, rfl⟩
        rw [← hq1] at HCP HCS hP hcl2 hcl ⊢
        rw [← han] at HCP hP ⊢
        obtain ⟨q2, hq2⟩ : ∃ q, q = (cuts q1).1 := ⟨_, rfl⟩
        obtain ⟨di, hdi⟩ : ∃ b, b = (cuts q1).2 := ⟨_, rfl⟩
        rw [← hq2] at HCS hP hcl2 ⊢
        rw [← hdi] at HCS hP ⊢
        obtain ⟨act, hact⟩ : ∃ a, a = 1 + S := ⟨_, rfl⟩
        have ha1 : IntKind.i64.wrap (1 + S) = act := by rw [hact]; exact hw1
        rw [← hact] at hP ⊢
        obtain ⟨w2, hw2⟩ : ∃ w2, w2 = (w.alloc (.cells #[.int .i64 0, .string { data := #[] }, .bool false, .bool false] 26)).alloc (.cells #[.int .i64 act, .string (mk q2), .bool di, .bool an] 26) := ⟨_, rfl⟩
        have r2 : w2.heap[w.heap.size]? = some (.cells #[.int .i64 0, .string { data := #[] }, .bool false, .bool false] 26) := by rw [hw2, Below.heap_alloc _ _ _ (by simp)]; exact heap_new _ _
        have r3 : w2.heap[w.heap.size + 1]? = some (.cells #[.int .i64 act, .string (mk q2), .bool di, .bool an] 26) := by
          have := heap_new (w.alloc (.cells #[.int .i64 0, .string { data := #[] }, .bool false, .bool false] 26)) (.cells #[.int .i64 act, .string (mk q2), .bool di, .bool an] 26)
          rw [World.size_alloc] at this
          rw [hw2]; exact this
        have b2 : Below w.heap.size w w2 := by rw [hw2]; exact ((Below.refl _ _).alloc (Nat.le_refl _) _).alloc (by simp) _
        have HRF : Hid (Calls Tryz.prog 29 #[ruV act (mk q2) di an] w2 fun e w' => e = .returned (.int .i64 (refE act q2)) ∧ w'.heap[w.heap.size]? = some (.cells #[.int .i64 0, .string { data := #[] }, .bool false, .bool false] 26) ∧ w'.heap[w.heap.size + 1]? = some (.cells #[.int .i64 act, .string (mk q2), .bool di, .bool an] 26) ∧ Below w.heap.size w w') :=
          (refused_ru act q2 di an w2 (by omega)).mono fun e w' ⟨h1, h2⟩ => ⟨h1, (h2.block _ (Array.getElem?_eq_some_iff.1 r2).1).trans r2, (h2.block _ (Array.getElem?_eq_some_iff.1 r3).1).trans r3, b2.trans (h2.mono b2.size)⟩
        rw [hw2] at HRF
        have HP2 : Hid ((if refE act q2 ≠ 0 then (zeroRu, refE act q2) else ((⟨act, q2, di, an⟩ : Ru), 0)) = if refE act q2 ≠ 0 then (zeroRu, refE act q2) else ((⟨act, q2, di, an⟩ : Ru), 0)) := rfl
        clear hs hl h2 h32 hneg hsb hS hdl hcl hcl2 hE hP hq1 han hq2 hdi hw2 r2 r3 b2
        clear hw1 hact
        generalize nb l 0 = c0 at *
        generalize mk (l.drop 2) = t2 at *
        generalize mk l = p at *
        by_cases hz : refE act q2 = 0
        · rw [if_neg (by simpa using hz)]
          rw [hz] at HRF
          clear hz HP2
          have HV : Hid ((⟨act, q2, di, an⟩ : Ru).val = .agg #[.int .i64 act, .string (mk q2), .bool di, .bool an]) := rfl
          rw [HV.out]
          generalize mk q2 = s2 at *
          generalize mk q1 = s1 at *
          go_enter Tryz.func14, Tryz.ntmps14
          go_wp2_with (first
            | (go_at_call 26; refine (HI.out _).mono ?_; rintro e w' ⟨rfl, rfl⟩)
            | (go_at_call 27; refine (HCP.out _).mono ?_; rintro e w' ⟨rfl, rfl⟩)
            | (go_at_call 28; refine (HCS.out _).mono ?_; rintro e w' ⟨rfl, rfl⟩)
            | (go_at_call 29; refine HRF.out.mono ?_; rintro e w3 ⟨rfl, hr2, hr3, hb3⟩; obtain ⟨⟨k0, k1, k2, k3⟩, f0, f1, f2, f3⟩ := cells4 hr2; obtain ⟨⟨j0, j1, j2, j3⟩, -⟩ := cells4 hr3; have HR2 := Lib.hid hr2; have HB3 := Lib.hid hb3; clear hr2 hr3 hb3))
          try simp only [Exit.inBlock, Exit.then]
          refine bodyPost_ret (v := .tuple #[.agg #[.int .i64 act, .string s2, .bool di, .bool an], .int .i64 0]) (results_cell2_row (p := 2) (u := 3) rfl _ _ w.heap.size 26 #[.int .i64 act, .string s2, .bool di, .bool an] (0, 0) _ rfl (by exact row4 HR2.out _ _ _ _) Tryz.underlying26 rfl (by kernel_rfl)) rfl ?_
          exact ⟨rfl, (((HB3.out.setCell (Nat.le_refl _) _).setCell (Nat.le_refl _) _).setCell (Nat.le_refl _) _).setCell (Nat.le_refl _) _⟩
        · rw [if_pos hz]
          have hne : (refE act q2 == 0) = false := by simpa using hz
          generalize refE act q2 = er at *
          clear hz HP2
          generalize mk q2 = s2 at *
          generalize mk q1 = s1 at *
          go_enter Tryz.func14, Tryz.ntmps14
          go_wp2_with (first
            | (go_at_call 26; refine (HI.out _).mono ?_; rintro e w' ⟨rfl, rfl⟩)
            | (go_at_call 27; refine (HCP.out _).mono ?_; rintro e w' ⟨rfl, rfl⟩)
            | (go_at_call 28; refine (HCS.out _).mono ?_; rintro e w' ⟨rfl, rfl⟩)
            | (go_at_call 29; refine HRF.out.mono ?_; rintro e w3 ⟨rfl, hr2, hr3, hb3⟩; obtain ⟨⟨k0, k1, k2, k3⟩, f0, f1, f2, f3⟩ := cells4 hr2; have HR2 := Lib.hid hr2; have HB3 := Lib.hid hb3; clear hr2 hr3 hb3))
          try simp only [Exit.inBlock, Exit.then]
          refine bodyPost_ret (v := .tuple #[zeroRu.val, .int .i64 er]) (results_cell2_row (p := 2) (u := 3) rfl _ _ w.heap.size 26 #[.int .i64 0, .string { data := #[] }, .bool false, .bool false] (0, 0) _ rfl (by exact row4 HR2.out _ _ _ _) Tryz.underlying26 rfl (by kernel_rfl)) rfl ?_
          exact ⟨rfl, (((HB3.out.setCell (Nat.le_refl _) _).setCell (Nat.le_refl _) _).setCell (Nat.le_refl _) _).setCell (Nat.le_refl _) _⟩
    · have hq : (((nb l 1 : Nat) : Int) == 32) = false := by
        have : ¬ ((nb l 1 : Int) = 32) := by omega
        simpa using this
      have e : parseR l = (zeroRu, 5) := by unfold parseR; rw [if_pos (.inr (.inl h32))]
      rw [e]
      clear hs hl h2 e h32
      generalize nb l 1 = c1 at *
      generalize mk l = p at *
      go_enter Tryz.func14, Tryz.ntmps14
      go_wp2
      try simp only [Exit.inBlock, Exit.then]
      refine bodyPost_ret (v := .tuple #[zeroRu.val, .int .i64 5]) (results_cell2_row (p := 2) (u := 3) rfl _ _ w.heap.size 26 #[.int .i64 0, .string { data := #[] }, .bool false, .bool false] (0, 0) _ rfl HR0.out Tryz.underlying26 rfl (by kernel_rfl)) rfl ?_
      exact ⟨rfl, HB0.out⟩
end Go.Proofs.YtokocfoeohddfaaGreatDoor.Pa
namespace Go.Proofs.YtokocfoeohddfaaGreatDoor.Pa
open Go.RowKit Go.Proofs.YtokocfoeohddfaaGreatDoor.Me
set_option linter.unusedVariables false
set_option linter.unusedSimpArgs false
set_option maxRecDepth 100000

theorem Tryz.infoRu : (Tryz.prog.info? 26).map (fun i => (i.zero, i.size, i.bytes)) = some (some (.agg #[.int .i64 0, .string ⟨#[]⟩, .bool false, .bool false]), 4, 32) := by kernel_rfl
def Ru.cs (r : Ru) : List Value := [.int .i64 r.act, .string (Pa.mk r.pat), .bool r.dir, .bool r.anch]
def ruCells (L : List Ru) : List Value := L.flatMap Ru.cs
theorem ruCells_length (L : List Ru) : (ruCells L).length = L.length * 4 := by
  induction L with
  | nil => rfl
  | cons x L ih => unfold ruCells at *; rw [List.flatMap_cons, List.length_append, ih, List.length_cons]; show 4 + _ = _; omega
theorem ruCells_get (L : List Ru) (i j : Nat) (hj : j < 4) : (ruCells L)[i * 4 + j]? = (L[i]?).bind fun x => x.cs[j]? := by
  induction L generalizing i with
  | nil => simp [ruCells]
  | cons x L ih =>
    unfold ruCells at *
    rw [List.flatMap_cons]
    have hx : x.cs.length = 4 := rfl
    cases i with
    | zero => rw [List.getElem?_append_left (by rw [hx]; omega)]; simp
    | succ i =>
      rw [List.getElem?_append_right (by rw [hx]; omega), hx, show (i + 1) * 4 + j - 4 = i * 4 + j from by omega, ih i]
      simp
def RuOwn (w : World) (base : Nat) (v : Value) (L : List Ru) : Prop := w.ownsRow base 26 4 v L.length (ruCells L)
theorem RuOwn.form {w : World} {base : Nat} {v : Value} {L : List Ru} (h : RuOwn w base v L) : (L = [] ∧ v = .slice none 0 0) ∨ ∃ g cap, v = .slice (some ⟨g, 0, none⟩) L.length cap ∧ base ≤ g ∧ g < w.heap.size ∧ ∀ i x, L[i]? = some x → ∀ j, j < 4 → w.cell? ⟨g, i * 4 + j, none⟩ = x.cs[j]? := by
  obtain ⟨h1, h2⟩ := id h
  rcases h2 with ⟨rfl, h0⟩ | ⟨g, cap, cur, rfl, h4, h5, h6, h7, h8, h9⟩
  · exact .inl ⟨List.eq_nil_of_length_eq_zero h0, rfl⟩
  · refine .inr ⟨g, cap, rfl, h4, (Array.getElem?_eq_some_iff.1 h5).1, fun i x hi j hj => ?_⟩
    have hlt : i < L.length := (List.getElem?_eq_some_iff.1 hi).1
    have hg := ruCells_get L i j hj
    rw [hi] at hg
    rw [cell_of_row _ _ (i * 4 + j) _ _ (0, 0) h5]
    have h10 : cur.toList[i * 4 + j]? = (ruCells L)[i * 4 + j]? := by
      rw [← h9, List.getElem?_take, if_pos (by omega)]
    rw [hg] at h10
    simpa using h10
theorem RuOwn.at {w : World} {base : Nat} {v : Value} {L : List Ru} (h : RuOwn w base v L) : RuAt w v L := by
  rcases h.form with ⟨rfl, rfl⟩ | ⟨g, cap, rfl, h1, h2, h3⟩
  · exact ⟨none, 0, rfl, fun h => absurd rfl h⟩
  · refine ⟨_, cap, rfl, fun _ => ⟨g, 0, rfl, h2, fun i r hr => ?_⟩⟩
    simp only [Nat.zero_add]
    exact ⟨h3 i r hr 0 (by omega), h3 i r hr 1 (by omega), h3 i r hr 2 (by omega), h3 i r hr 3 (by omega)⟩
theorem RuOwn.slice {w : World} {base : Nat} {v : Value} {L : List Ru} (h : RuOwn w base v L) : ∃ a c, v = .slice a L.length c := by
  rcases h.form with ⟨rfl, rfl⟩ | ⟨g, cap, rfl, _⟩
  · exact ⟨none, 0, rfl⟩
  · exact ⟨_, cap, rfl⟩
theorem appendIn_ru {F : Fence} {n : Nat} (w : World) {ops : Array Oper} {rest : List Oper} {o : Oper} {a : Act} {Q : Exit → Act → World → Prop}
    (hg : o.guard = none) (s x : Operand) (hop : o.op = Op.call { callee := Callee.builtin Builtin.append, args := #[s, x], argTypes := #[22, 22] })
    (base : Nat) (v : Value) (L : List Ru) (p : Ru) (hs : a.eval s = v) (hown : RuOwn w base v L) (g c : Nat) (hx : a.eval x = .slice (some ⟨g, 0, none⟩) 1 c)
    (hc : ∀ j u, p.cs[j]? = some u → w.cell? ⟨g, j, none⟩ = some u) (hl : L.length ≤ 1000000) (b3 : base ≤ w.heap.size)
    (hK : ∀ v' w', RuOwn w' base v' (L ++ [p]) → w.grownBy w' v.ownBlock → (v'.ownBlock = v.ownBlock ∨ v'.ownBlock = some w.heap.size) → wpListIn F n Tryz.prog ops Q rest (a.put o.dst v') w') :
    wpListIn F n Tryz.prog ops Q (o :: rest) a w := by
  obtain ⟨i0, hi, hz0, hz1, hz2⟩ := info_parts Tryz.infoRu
  refine wpListIn_plain hg fun K hK' => ?_
  obtain ⟨v', w', hrun, r1, r2, r3, r4⟩ := run_append_own_at (P := Tryz.prog) w base 22 o.type 26 i0 _ 4 32 Tryz.underlying22 hi hz0 hz1 hz2 rfl (by decide) v L.length (ruCells L) hown ⟨g, 0, none⟩ 1 c p.cs rfl
    (by intro j u hj; have := hc j u hj; cases j <;> simpa [Addr.add] using this) (by intro u hu; simp [Ru.cs] at hu; rcases hu with rfl | rfl | rfl | rfl <;> rfl) (by unfold maxLen; omega) (by omega) b3
  unfold Oper.wpIn
  refine ⟨?_, ?_⟩
  · simp [Oper.about, hop, resolve, Target.leads, Sem.run_pure]
  · rw [Oper.semAt_plain F _ _ (by rw [hop]; intro c hc'; cases hc')]
    simp [execOp, hop, resolve, invoke, builtin, hs, hx, hrun, Result.andThen]
    refine hK' _ _ (hK v' w' ?_ r2 r4)
    show w'.ownsRow base 26 4 v' (L ++ [p]).length (ruCells (L ++ [p]))
    rw [List.length_append]
    have : ruCells (L ++ [p]) = ruCells L ++ p.cs := by simp [ruCells]
    rw [this]
    exact r1

/-! the rules of lines -/
def passed (p : L8) : Bool := decide (p = [] ∨ nb p 0 = 35)
/-- what the lines come to: those so far, or what is wrong first, and its number -/
def linesGo : List Ru → Nat → List L8 → List Ru × Int × Int
  | acc, _, [] => (acc, 0, 0)
  | acc, n, p :: ps =>
    if passed p = true then linesGo acc (n + 1) ps
    else if (parseR p).2 ≠ 0 then ([], (n : Int) + 1, (parseR p).2)
    else if acc.length = 64 then ([], (n : Int) + 1, 7)
    else linesGo (acc ++ [(parseR p).1]) (n + 1) ps
def linesR (l : L8) : List Ru × Int × Int := linesGo [] 0 (cutc 10 l)
end Go.Proofs.YtokocfoeohddfaaGreatDoor.Pa
namespace Go.Proofs.YtokocfoeohddfaaGreatDoor.Pa
open Go.RowKit Go.Shelf Go.Proofs.RangeCap Go.Proofs.YtokocfoeohddfaaGreatDoor.Me
set_option linter.unusedVariables false
set_option linter.unusedSimpArgs false
set_option maxRecDepth 1000000
attribute [local go_sem] Oper.semAt_some

/-- blocks of cells stay, but for one -/
def KeepX (tb : Nat) (W W' : World) : Prop := ∀ (k : Nat) (c : Array Value) (t : TypeId), k ≠ tb → W.heap[k]? = some (.cells c t) → W'.heap[k]? = some (.cells c t)
theorem KeepX.still {tb : Nat} {W W' : World} (h : Still tb W W') : KeepX tb W W' := fun k c t hk hc => h.2.2.2.2 k _ hc hk
theorem KeepX.below {tb : Nat} {W W' : World} (h : Below W.heap.size W W') : KeepX tb W W' := fun k c t hk hc => (h.block k (Array.getElem?_eq_some_iff.1 hc).1).trans hc
theorem KeepX.rec {tb : Nat} {W : World} {l : Nat} (o : Loop) (h : Rec W l) : KeepX tb W (W.putObj l (.loop o)) := by
  obtain ⟨r, hr⟩ := h
  intro k c t hk hc
  have hne : k ≠ l := by intro e; subst e; rw [hr] at hc; cases hc
  rw [World.putObj_heap_other hne]; exact hc
theorem KeepX.row {tb : Nat} {W W' : World} (h : KeepX tb W W') {base : Nat} {v : Value} {L : List Ru} (ho : RuOwn W base v L) (hb : tb < base) : RuOwn W' base v L := by
  obtain ⟨h1, h2⟩ := ho
  refine ⟨h1, ?_⟩
  rcases h2 with h2 | ⟨g, cap, cur, h3, h4, h5, h6⟩
  · exact .inl h2
  · exact .inr ⟨g, cap, cur, h3, h4, h _ _ _ (by omega) h5, h6⟩
/-- what holds between two lines: k of them are gone through -/
structure LJ (w : World) (acc : List Ru) (k : Nat) (W : World) : Prop where
  r0 : W.heap[w.heap.size]? = some (.cells #[.slice none 0 0] 22)
  r1 : W.heap[w.heap.size + 1]? = some (.cells #[.int .i64 0] 3)
  r2 : W.heap[w.heap.size + 2]? = some (.cells #[.int .i64 0] 31)
  out : ∃ v, W.heap[w.heap.size + 3]? = some (.cells #[v] 22) ∧ RuOwn W (w.heap.size + 8) v acc
  num : W.heap[w.heap.size + 4]? = some (.cells #[.int .i64 (k : Int)] 3)
  sep : W.heap[w.heap.size + 6]? = some (.cells #[.string ⟨#[10]⟩] 9)
  sav : W.heap[w.heap.size + 7]? = some (.cells #[.int .i64 0] 3)
  bel : Below w.heap.size w W
  big : w.heap.size + 8 ≤ W.heap.size
theorem LJ.keep {w W W' : World} {acc : List Ru} {k : Nat} (h : LJ w acc k W) (hk : KeepX (w.heap.size + 5) W W') (hb : Below w.heap.size W W') : LJ w acc k W' := by
  obtain ⟨v, h1, h2⟩ := h.out
  exact ⟨hk _ _ _ (by omega) h.r0, hk _ _ _ (by omega) h.r1, hk _ _ _ (by omega) h.r2, ⟨v, hk _ _ _ (by omega) h1, hk.row h2 (by omega)⟩, hk _ _ _ (by omega) h.num, hk _ _ _ (by omega) h.sep, hk _ _ _ (by omega) h.sav, h.bel.trans hb, Nat.le_trans h.big hb.size⟩
/-- what lies there where a line is wrong -/
structure LX (w : World) (n er : Int) (W : World) : Prop where
  r0 : W.heap[w.heap.size]? = some (.cells #[.slice none 0 0] 22)
  r1 : W.heap[w.heap.size + 1]? = some (.cells #[.int .i64 n] 3)
  r2 : W.heap[w.heap.size + 2]? = some (.cells #[.int .i64 er] 31)
  bel : Below w.heap.size w W
theorem LX.keep {w W W' : World} {n er : Int} (h : LX w n er W) (hk : KeepX (w.heap.size + 5) W W') (hb : Below w.heap.size W W') : LX w n er W' :=
  ⟨hk _ _ _ (by omega) h.r0, hk _ _ _ (by omega) h.r1, hk _ _ _ (by omega) h.r2, h.bel.trans hb⟩
/-- so much is gone through: what the rest comes to -/
def LG (l : L8) (acc : List Ru) (k : Nat) : Prop := linesR l = linesGo acc k ((cutc 10 l).drop k)
theorem cellOne {W : World} {g : Nat} {v : Value} {t : TypeId} (h : W.heap[g]? = some (.cells #[v] t)) : W.cell? ⟨g, 0, none⟩ = some v := by rw [cell_of_row _ _ 0 _ _ (0, 0) h]; rfl
theorem setOne {W : World} {g : Nat} {v u : Value} {t : TypeId} (h : W.heap[g]? = some (.cells #[v] t)) : (W.setCell ⟨g, 0, none⟩ u).heap[g]? = some (.cells #[u] t) := by simpa using row_set h 0 u
theorem setOther {W : World} {g k : Nat} (u : Value) (h : k ≠ g) : (W.setCell ⟨g, 0, none⟩ u).heap[k]? = W.heap[k]? := Below.heap_setCell W _ u k h
theorem LJ.count {w W : World} {acc : List Ru} {k : Nat} (h : LJ w acc k W) : LJ w acc (k + 1) (W.setCell ⟨w.heap.size + 4, 0, none⟩ (.int .i64 ((k : Int) + 1))) := by
  obtain ⟨v, h1, h2⟩ := h.out
  have hb : Below w.heap.size W (W.setCell ⟨w.heap.size + 4, 0, none⟩ (.int .i64 ((k : Int) + 1))) := (Below.refl _ _).setCell (by show w.heap.size ≤ w.heap.size + 4; omega) _
  refine ⟨(setOther _ (by omega)).trans h.r0, (setOther _ (by omega)).trans h.r1, (setOther _ (by omega)).trans h.r2, ⟨v, (setOther _ (by omega)).trans h1, ?_⟩, ?_, (setOther _ (by omega)).trans h.sep, (setOther _ (by omega)).trans h.sav, h.bel.trans hb, ?_⟩
  · obtain ⟨q1, q2⟩ := h2
    refine ⟨q1, ?_⟩
    rcases q2 with q2 | ⟨g, cap, cur, h3, h4, h5, h6⟩
    · exact .inl q2
    · exact .inr ⟨g, cap, cur, h3, h4, (setOther _ (by omega)).trans h5, h6⟩
  · rw [setOne h.num]; rfl
  · simpa using h.big
theorem LX.of {w W : World} {acc : List Ru} {k : Nat} (h : LJ w acc k W) (n er : Int) : LX w n er (((W.setCell ⟨w.heap.size, 0, none⟩ (.slice none 0 0)).setCell ⟨w.heap.size + 1, 0, none⟩ (.int .i64 n)).setCell ⟨w.heap.size + 2, 0, none⟩ (.int .i64 er)) := by
  refine ⟨?_, ?_, ?_, ?_⟩
  · rw [setOther _ (by omega), setOther _ (by omega)]; exact setOne h.r0
  · rw [setOther _ (by omega)]; exact setOne ((setOther _ (by omega)).trans h.r1)
  · exact setOne ((setOther _ (by omega)).trans ((setOther _ (by omega)).trans h.r2))
  · exact ((h.bel.setCell (Nat.le_refl _) _).setCell (by show _ ≤ w.heap.size + 1; omega) _).setCell (by show _ ≤ w.heap.size + 2; omega) _
theorem LJ.drew {w W : World} {acc : List Ru} {k : Nat} (h : LJ w acc k W) : LJ w acc k W.drew := h.keep (fun _ _ _ _ hc => hc) ((Below.refl _ _).drew)
theorem LJ.grow {w W w5 : World} {acc : List Ru} {k : Nat} {v v5 : Value} {ru : Ru} (h : LJ w acc k W) (ho : RuOwn W (w.heap.size + 8) v acc) (hn : RuOwn w5 (w.heap.size + 8) v5 (acc ++ [ru])) (hg : W.grownBy w5 v.ownBlock) :
    LJ w (acc ++ [ru]) k (w5.setCell ⟨w.heap.size + 3, 0, none⟩ v5) := by
  have hb : ∀ b, b < w.heap.size + 8 → w5.heap[b]? = W.heap[b]? := fun b hb => hg.block b (by have := h.big; omega) (fun e => by have := (World.ownsRow.lt ho b e.symm).1; omega)
  obtain ⟨v0, h3, -⟩ := h.out
  have h53 := (hb (w.heap.size + 3) (by omega)).trans h3
  refine ⟨?_, ?_, ?_, ⟨v5, setOne h53, ?_⟩, ?_, ?_, ?_, ?_, ?_⟩
  · rw [setOther _ (by omega), hb _ (by omega)]; exact h.r0
  · rw [setOther _ (by omega), hb _ (by omega)]; exact h.r1
  · rw [setOther _ (by omega), hb _ (by omega)]; exact h.r2
  · obtain ⟨q1, q2⟩ := hn
    refine ⟨q1, ?_⟩
    rcases q2 with q2 | ⟨g, cap, cur, e3, e4, e5, e6⟩
    · exact .inl q2
    · exact .inr ⟨g, cap, cur, e3, e4, (setOther _ (by omega)).trans e5, e6⟩
  · rw [setOther _ (by omega), hb _ (by omega)]; exact h.num
  · rw [setOther _ (by omega), hb _ (by omega)]; exact h.sep
  · rw [setOther _ (by omega), hb _ (by omega)]; exact h.sav
  · exact (Below.grown h.bel hg (by have := h.big; omega) (fun j hj => by have := (World.ownsRow.lt ho j hj).1; omega)).setCell (by show _ ≤ w.heap.size + 3; omega) _
  · have := h.big; have := hg.size; simp [World.setCell]; omega
theorem LG.next {l : L8} {acc : List Ru} {k : Nat} {p : L8} (h : LG l acc k) (hp : (cutc 10 l)[k]? = some p) : linesR l = linesGo acc k (p :: (cutc 10 l).drop (k + 1)) := by
  obtain ⟨h1, h2⟩ := List.getElem?_eq_some_iff.1 hp
  unfold LG at h
  rw [h, List.drop_eq_getElem_cons h1, h2]
theorem cutc_mem (c : UInt8) (l : L8) : ∀ p ∈ cutc c l, p.length ≤ l.length := by
  induction l with
  | nil => intro p hp; simp [cutc] at hp; subst hp; simp
  | cons x l ih =>
    intro p hp
    rw [cutc] at hp
    have hne := cutc_ne c l
    obtain ⟨a, b, hab⟩ := List.exists_cons_of_ne_nil hne
    rw [hab] at hp ih
    split at hp
    · rcases List.mem_cons.1 hp with h | h
      · subst h; simp
      · have := ih p h; rw [List.length_cons]; omega
    · rcases List.mem_cons.1 hp with h | h
      · subst h
        have := ih a (by simp)
        simp only [List.headD_cons, List.length_cons]; omega
      · have := ih p (by simp only [List.tail_cons] at h; exact List.mem_cons_of_mem _ h)
        rw [List.length_cons]; omega
set_option maxHeartbeats 16000000 in
theorem lines_any (l : L8) (w : World) (hl : l.length ≤ 1000000) :
    Calls Tryz.prog 15 #[.string (mk l)] w fun e w' => ∃ v, e = .returned (.tuple #[v, .int .i64 (linesR l).2.1, .int .i64 (linesR l).2.2]) ∧ RuOwn w' (w.heap.size + 8) v (linesR l).1 ∧ Below w.heap.size w w' := by
  obtain ⟨w5, hw5⟩ : ∃ w5, w5 = ((((w.alloc (.cells #[.slice none 0 0] 22)).alloc (.cells #[.int .i64 0] 3)).alloc (.cells #[.int .i64 0] 31)).alloc (.cells #[.slice none 0 0] 22)).alloc (.cells #[.int .i64 0] 3) := ⟨_, rfl⟩
  have hz5 : w5.heap.size = w.heap.size + 5 := by rw [hw5]; simp
  obtain ⟨w8, hw8⟩ : ∃ w8, w8 = ((w5.alloc (.cells #[.string (mk l)] 9)).alloc (.cells #[.string ⟨#[10]⟩] 9)).alloc (.cells #[.int .i64 0] 3) := ⟨_, rfl⟩
  have hz8 : w8.heap.size = w.heap.size + 8 := by rw [hw8]; simp [hz5]
  have HSP : Hid (Calls Tryz.prog 30 #[.string (mk l), .string { data := #[10] }] w5 fun e w' => e = .returned (.func (.func 55) #[] #[.pointer (some ⟨w.heap.size + 6, 0, none⟩), .pointer (some ⟨w.heap.size + 5, 0, none⟩), .pointer (some ⟨w.heap.size + 7, 0, none⟩)]) ∧ w8 = w') := by
    have h := split_any 10 l w5
    rw [← hw8, hz5] at h
    exact Calls.mono h (by rintro e w' ⟨h1, h2⟩; exact ⟨h1, h2.symm⟩)
  have hb8 : Below w.heap.size w w8 := by
    rw [hw8, hw5]
    exact ((((((((Below.refl _ _).alloc (Nat.le_refl _) _).alloc (by simp) _).alloc (by simp; omega) _).alloc (by simp; omega) _).alloc (by simp; omega) _).alloc (by simp; omega) _).alloc (by simp; omega) _).alloc (by simp; omega) _
  have hrows : w8.heap[w.heap.size]? = some (.cells #[.slice none 0 0] 22) ∧ w8.heap[w.heap.size + 1]? = some (.cells #[.int .i64 0] 3) ∧ w8.heap[w.heap.size + 2]? = some (.cells #[.int .i64 0] 31) ∧ w8.heap[w.heap.size + 3]? = some (.cells #[.slice none 0 0] 22) ∧ w8.heap[w.heap.size + 4]? = some (.cells #[.int .i64 0] 3) ∧ w8.heap[w.heap.size + 5]? = some (.cells #[.string (mk l)] 9) ∧ w8.heap[w.heap.size + 6]? = some (.cells #[.string ⟨#[10]⟩] 9) ∧ w8.heap[w.heap.size + 7]? = some (.cells #[.int .i64 0] 3) := by
    rw [hw8, hw5]
    have e8 : ∀ {W : World} {k : Nat} {x y : Obj}, W.heap[k]? = some x → (W.alloc y).heap[k]? = some x := fun {W k x y} h => (Below.heap_alloc _ _ _ (Array.getElem?_eq_some_iff.1 h).1).trans h
    have n8 : ∀ (W : World) (y : Obj) (k : Nat), k = W.heap.size → (W.alloc y).heap[k]? = some y := fun W y k h => by subst h; exact heap_new _ _
    refine ⟨?_, ?_, ?_, ?_, ?_, ?_, ?_, ?_⟩
    · exact e8 (e8 (e8 (e8 (e8 (e8 (e8 (n8 _ _ _ (by simp))))))))
    · exact e8 (e8 (e8 (e8 (e8 (e8 (n8 _ _ _ (by simp)))))))
    · exact e8 (e8 (e8 (e8 (e8 (n8 _ _ _ (by simp))))))
    · exact e8 (e8 (e8 (e8 (n8 _ _ _ (by simp)))))
    · exact e8 (e8 (e8 (n8 _ _ _ (by simp))))
    · exact e8 (e8 (n8 _ _ _ (by simp)))
    · exact e8 (n8 _ _ _ (by simp))
    · exact n8 _ _ _ (by simp)
  have HJ8 : Hid (LJ w [] 0 w8) := ⟨hrows.1, hrows.2.1, hrows.2.2.1, ⟨_, hrows.2.2.2.1, World.ownsRow_nil _ _ _ _⟩, hrows.2.2.2.2.1, hrows.2.2.2.2.2.2.1, hrows.2.2.2.2.2.2.2, hb8, by omega⟩
  have HT8 : Hid (SrcAt (w.heap.size + 5) l w8) := ⟨cellOne hrows.2.2.2.2.2.1, unfrozen hrows.2.2.2.2.2.1⟩
  have HG0 : Hid (LG l [] 0) := rfl
  have HW5 := Lib.hid hw5
  have HLL := Lib.hid hl
  rw [hw5] at HSP
  clear hw5 hw8 hb8 hrows hz5
  obtain ⟨R0, hR0⟩ : ∃ x, x = (linesR l).1 := ⟨_, rfl⟩
  obtain ⟨R1, hR1⟩ : ∃ x, x = (linesR l).2.1 := ⟨_, rfl⟩
  obtain ⟨R2, hR2⟩ : ∃ x, x = (linesR l).2.2 := ⟨_, rfl⟩
  rw [← hR0, ← hR1, ← hR2]
  have HRR : Hid (linesR l = (R0, R1, R2)) := by show _ = _; rw [hR0, hR1, hR2]
  clear hR0 hR1 hR2
  refine callsIn_wide (n := 5).1 ?_
  refine callsIn_of_wp_marks Tryz.func15 rfl trivial ?_ rfl
  simp only [Tryz.ntmps15, List.size_toArray, List.length_cons, List.length_nil, Nat.reduceAdd, Nat.reduceSub, Array.replicate_succ, Array.replicate_zero, List.push_toArray, List.append_toArray, List.nil_append, List.cons_append]
  gi_wp2_with (refine ⟨trivial, ?_⟩; gi_at_call 30; refine (callsIn_wide.2 HSP.out).mono ?_; rintro e w' ⟨rfl, hw'⟩; rw [← hw']; clear hw' w')
  clear HSP
  refine range_seen (gf := 55) (lb := #[.pointer (some ⟨w.heap.size + 6, 0, none⟩), .pointer (some ⟨w.heap.size + 5, 0, none⟩), .pointer (some ⟨w.heap.size + 7, 0, none⟩)]) rfl (enters_of Tryz.func55 (by kernel_rfl) rfl)
    (seq1_hands 4 10 l (w.heap.size + 5) (w.heap.size + 6) (w.heap.size + 7) w8 (by omega) (by omega) (by omega)) (Below.refl _ _) w.heap.size (by omega) (by omega)
    (fun k W => ∃ acc, LJ w acc k W ∧ LG l acc k ∧ acc.length ≤ 64) (fun c k W => c = .ret ∧ ∃ n er, LX w n er W ∧ linesR l = ([], n, er))
    ?hX ?hXp ?hJp ?hJxp ?hJs ?hC HT8.out ?hTb ?hJ0
    (fun k vs => { tmps := #[.string (mk l), undef, .pointer (some ⟨w.heap.size, 0, none⟩), .pointer (some ⟨w.heap.size + 1, 0, none⟩), .pointer (some ⟨w.heap.size + 1 + 1, 0, none⟩), .pointer (some ⟨w.heap.size + 1 + 1 + 1, 0, none⟩), .pointer (some ⟨w.heap.size + 1 + 1 + 1 + 1, 0, none⟩), vs.getD 0 undef, undef, undef, .string (mk l), .func (.func 55) #[] #[.pointer (some ⟨w.heap.size + 6, 0, none⟩), .pointer (some ⟨w.heap.size + 5, 0, none⟩), .pointer (some ⟨w.heap.size + 7, 0, none⟩)], vs.getD 0 undef, undef, undef, undef, undef, undef, undef, undef, undef, undef, undef, undef, undef, undef, undef, undef, undef, undef, undef, undef, undef, undef, undef, undef, undef, undef, undef, undef, undef, undef], defers := [] })
    ?assign ?body ?done ?stop
  case hX => rintro k vs W hv; unfold PieceC at hv; subst hv; rfl
  case hXp => rintro k vs W o hv hr; exact hv
  case hJp =>
    rintro k W o ⟨acc, h1, h2⟩ hr
    exact ⟨acc, h1.keep (KeepX.rec o hr) (below_put _ (by omega)), h2⟩
  case hJxp =>
    rintro c k W o ⟨h0, n, er, h1, h2⟩ hr
    exact ⟨h0, n, er, h1.keep (KeepX.rec o hr) (below_put _ (by omega)), h2⟩
  case hJs =>
    rintro k W W' ⟨acc, h1, h2⟩ hs hb
    exact ⟨acc, h1.keep (KeepX.still hs) hb, h2⟩
  case hC =>
    rintro k W ⟨acc, h1, h2⟩
    exact ⟨cellOne h1.sep, cellOne h1.sav⟩
  case hTb =>
    rintro W ⟨h1, h2⟩ hb
    exact ⟨by rw [hb.cell (p := ⟨w.heap.size + 5, 0, none⟩) (by show w.heap.size + 5 < _; omega)]; exact h1, by rw [hb.frozen (p := ⟨w.heap.size + 5, 0, none⟩) (by show w.heap.size + 5 < _; omega)]; exact h2⟩
  case hJ0 =>
    intro r
    have hbb : Below w8.heap.size w8 ((w8.alloc (.deferred (some []))).alloc (.loop r)) := ((Below.refl _ _).alloc (Nat.le_refl _) _).alloc (by simp) _
    exact ⟨[], HJ8.out.keep (KeepX.below hbb) (hbb.mono (by omega)), HG0.out, by simp⟩
  case assign =>
    rintro l' k vs W K hv hK
    unfold PieceC at hv
    subst hv
    gi_wp2
    exact hK
  case body =>
    rintro k vs W hk ⟨acc, h1, h2, h3⟩ hv hlt hrec hdf
    obtain ⟨p, hp⟩ : ∃ p, (cutc 10 l)[k]? = some p := ⟨_, List.getElem?_eq_getElem hk⟩
    unfold PieceC at hv
    rw [List.getD_eq_getElem?_getD, hp] at hv
    simp only [Option.getD_some] at hv
    subst hv
    have HNX := Lib.hid (h2.next hp)
    have hlen := cutc_len 10 l
    have hw1 : IntKind.i64.wrap ((k : Int) + 1) = (k : Int) + 1 := IntWalk.i64_in _ (by omega)
    have hpl := cutc_mem 10 l p (List.mem_of_getElem? hp)
    obtain ⟨W1, hW1⟩ : ∃ W1, W1 = W.setCell ⟨w.heap.size + 4, 0, none⟩ (.int .i64 ((k : Int) + 1)) := ⟨_, rfl⟩
    have HJ1 : Hid (LJ w acc (k + 1) W1) := by show LJ _ _ _ _; rw [hW1]; exact h1.count
    have HO1 : Hid (∀ b, b ≠ w.heap.size + 4 → W1.heap[b]? = W.heap[b]?) := fun b hb => by rw [hW1]; exact setOther _ hb
    have HS1 : Hid (W1.heap.size = W.heap.size) := by show _ = _; rw [hW1]; simp [World.setCell]
    have c4 : W.cell? ⟨w.heap.size + 1 + 1 + 1 + 1, 0, none⟩ = some (.int .i64 (k : Int)) := cellOne h1.num
    have f4 : W.frozen? ⟨w.heap.size + 1 + 1 + 1 + 1, 0, none⟩ = false := unfrozen h1.num
    have HW1 : Hid (W1 = W.setCell ⟨w.heap.size + 1 + 1 + 1 + 1, 0, none⟩ (.int .i64 ((k : Int) + 1))) := hW1
    have HL3 := Lib.hid h3
    have HBIG := Lib.hid h1.big
    have HREC := Lib.hid hrec
    have HDF := Lib.hid hdf
    clear h1 h2 h3 hW1 hlen hrec hdf hk
    by_cases hps : passed p = true
    · have HEND : Hid (LG l acc (k + 1)) := by
        show _ = _
        rw [HNX.out, linesGo, if_pos hps]
      have hor : p = [] ∨ (p ≠ [] ∧ nb p 0 = 35) := by
        by_cases e : p = []
        · exact .inl e
        · exact .inr ⟨e, (of_decide_eq_true hps).resolve_left e⟩
      clear hps HNX
      have fin : RangeCap.Left (w.heap.size + 5) (w8.heap.size + 1) w8.heap.size (fun k W => ∃ acc, LJ w acc k W ∧ LG l acc k ∧ acc.length ≤ 64) (fun c k W => c = Code.ret ∧ ∃ n er, LX w n er W ∧ linesR l = ([], n, er)) (k + 1) W .normal { tmps := #[], defers := [] } W1 :=
        ⟨⟨HO1.out _ (by omega), HO1.out _ (by omega)⟩, ⟨acc, HJ1.out, HEND.out, HL3.out⟩, HO1.out _ (by omega), Nat.le_of_eq HS1.out.symm⟩
      have FIN := Lib.hid fin
      clear fin
      rw [HW1.out] at FIN
      clear HJ1 HO1 HS1 HW1 HEND
      rcases hor with h | ⟨h, h35⟩
      · have he := emptyT h
        clear h
        generalize mk p = s at *
        gi_wp2
        exact FIN.out
      · have he := emptyF h
        have hx0 := run_at p 0 (by cases p with | nil => exact absurd rfl h | cons a b => simp)
        simp only [Int.cast_ofNat_Int] at hx0
        rw [bt_nb, h35] at hx0
        clear h h35
        generalize mk p = s at *
        gi_wp2
        exact FIN.out
    · have hnp : ¬ (p = [] ∨ nb p 0 = 35) := fun h => hps (decide_eq_true h)
      have hp0 : p ≠ [] := fun h => hnp (.inl h)
      have he := emptyF hp0
      have hx0 := run_at p 0 (by cases p with | nil => exact absurd rfl hp0 | cons a b => simp)
      simp only [Int.cast_ofNat_Int] at hx0
      rw [bt_nb] at hx0
      have hq : (((nb p 0 : Nat) : Int) == 35) = false := by
        have : ¬ ((nb p 0 : Int) = 35) := fun h => hnp (.inr (by omega))
        simpa using this
      have HPA : Hid (Calls Tryz.prog 14 #[.string (mk p)] W1 fun e w' => e = .returned (.tuple #[(parseR p).1.val, .int .i64 (parseR p).2]) ∧ Below W1.heap.size W1 w') := parse_ru p W1 (by have := HLL.out; omega)
      obtain ⟨er, her⟩ : ∃ er, er = (parseR p).2 := ⟨_, rfl⟩
      obtain ⟨ru, hru⟩ : ∃ ru, ru = (parseR p).1 := ⟨_, rfl⟩
      have HNX2 : Hid (linesR l = if er ≠ 0 then ([], (k : Int) + 1, er) else if acc.length = 64 then ([], (k : Int) + 1, 7) else linesGo (acc ++ [ru]) (k + 1) ((cutc 10 l).drop (k + 1))) := by
        show _ = _
        rw [HNX.out, linesGo, if_neg hps, ← her, ← hru]
      rw [← her, ← hru] at HPA
      obtain ⟨act, pat, di, an⟩ := ru
      unfold Ru.val at HPA
      simp only at HPA
      obtain ⟨v, hvr, hvo⟩ := HJ1.out.out
      obtain ⟨av, cv, ev⟩ := hvo.slice
      obtain ⟨na, hna⟩ : ∃ n, n = acc.length := ⟨_, rfl⟩
      rw [← hna] at ev
      subst ev
      have HVR := Lib.hid hvr
      have HVO := Lib.hid hvo
      have HNA := Lib.hid hna
      clear hps hnp hp0 her hru HNX hpl hvr hvo hna
      have pc : ∀ w2 : World, Below W1.heap.size W1 w2 → LJ w acc (k + 1) (w2.alloc (.cells #[.int .i64 act, .string (mk pat), .bool di, .bool an] 26)) ∧ Below W1.heap.size W1 (w2.alloc (.cells #[.int .i64 act, .string (mk pat), .bool di, .bool an] 26)) := by
        intro w2 hb
        have hb3 : Below W1.heap.size W1 (w2.alloc (.cells #[.int .i64 act, .string (mk pat), .bool di, .bool an] 26)) := hb.trans ((Below.refl _ _).alloc hb.size _)
        exact ⟨HJ1.out.keep (KeepX.below hb3) (hb3.mono (by have := HS1.out; omega)), hb3⟩
      have PC := Lib.hid pc
      have pv : ∀ w2 : World, Below W1.heap.size W1 w2 → (w2.alloc (.cells #[.int .i64 act, .string (mk pat), .bool di, .bool an] 26)).heap[w.heap.size + 3]? = some (.cells #[.slice av na cv] 22) := by
        intro w2 hb
        rw [(pc w2 hb).2.block _ (by have := HS1.out; omega)]; exact HVR.out
      have PV := Lib.hid pv
      have pr : ∀ w2 : World, Below W1.heap.size W1 w2 → ∀ n er : Int, linesR l = ([], n, er) → RangeCap.Left (w.heap.size + 5) (w8.heap.size + 1) w8.heap.size (fun k W => ∃ acc, LJ w acc k W ∧ LG l acc k ∧ acc.length ≤ 64) (fun c k W => c = Code.ret ∧ ∃ n er, LX w n er W ∧ linesR l = ([], n, er)) (k + 1) W .ret { tmps := #[], defers := [] } ((((w2.alloc (.cells #[.int .i64 act, .string (mk pat), .bool di, .bool an] 26)).drew.setCell ⟨w.heap.size, 0, none⟩ (.slice none 0 0)).setCell ⟨w.heap.size + 1, 0, none⟩ (.int .i64 n)).setCell ⟨w.heap.size + 2, 0, none⟩ (.int .i64 er)) := by
        intro w2 hb n er hh
        obtain ⟨q1, q2⟩ := pc w2 hb
        have hsz := HS1.out
        have q3 := q2.drew
        refine ⟨⟨?_, ?_⟩, rfl, n, er, LX.of q1.drew n er, hh⟩
        · rw [setOther _ (by omega), setOther _ (by omega), setOther _ (by omega), q3.block _ (by omega), HO1.out _ (by omega)]
        · rw [setOther _ (by omega), setOther _ (by omega), setOther _ (by omega), q3.block _ (by omega), HO1.out _ (by omega)]
      have PR := Lib.hid pr
      clear pc pv pr
      generalize hmp : mk p = s at *
      generalize hsp : mk pat = sp at *
      have HSP := Lib.hid hsp
      clear hmp hsp
      generalize nb p 0 = c0 at *
      rw [HW1.out] at HPA
      by_cases hz : er = 0
      · subst hz
        by_cases h64 : acc.length = 64
        · have hD : ((na : Int) == 64) = true := by have := HNA.out; simp; omega
          have HFN : Hid (linesR l = ([], (k : Int) + 1, 7)) := by show _ = _; rw [HNX2.out, if_neg (by simp), if_pos h64]
          clear h64 HNX2
          gi_wp2_with (refine ⟨trivial, ?_⟩; gi_at_call 14; refine (CallsIn.inRound _ (callsIn_wide.2 HPA.out)).mono ?_; rintro e w2 ⟨rfl, hb⟩; rw [← HW1.out] at hb; have HB := Lib.hid hb; clear hb; obtain ⟨a1, a2⟩ := PC.out w2 HB.out; have d4 : World.cell? _ ⟨w.heap.size + 1 + 1 + 1 + 1, 0, none⟩ = some (.int .i64 ((k : Int) + 1)) := cellOne a1.num; have d3 : World.cell? _ ⟨w.heap.size + 1 + 1 + 1, 0, none⟩ = _ := cellOne (PV.out w2 HB.out); have g0 := unfrozen (i := 0) a1.r0; have g1 : World.frozen? _ ⟨w.heap.size + 1, 0, none⟩ = false := unfrozen a1.r1; have g2 : World.frozen? _ ⟨w.heap.size + 1 + 1, 0, none⟩ = false := unfrozen a1.r2; have o0 := cellOne a1.r0; have o1 : World.cell? _ ⟨w.heap.size + 1, 0, none⟩ = _ := cellOne a1.r1; have o2 : World.cell? _ ⟨w.heap.size + 1 + 1, 0, none⟩ = _ := cellOne a1.r2; clear a1 a2)
          gi_region
          all_goals (first | exact PR.out _ HB.out _ _ HFN.out | (gi_wp2; exact PR.out _ HB.out _ _ HFN.out))
        · have hD : ((na : Int) == 64) = false := by
            have h1 : ¬ (na : Int) = 64 := by have := HNA.out; omega
            simpa using h1
          have HFN : Hid (LG l (acc ++ [⟨act, pat, di, an⟩]) (k + 1)) := by show linesR l = _; rw [HNX2.out, if_neg (by simp), if_neg h64]
          have HLT : Hid ((acc ++ [(⟨act, pat, di, an⟩ : Ru)]).length ≤ 64) := by show _ ≤ _; have := HL3.out; rw [List.length_append]; simp only [List.length_cons, List.length_nil]; omega
          have p4 : ∀ w2 : World, Below W1.heap.size W1 w2 → Below W1.heap.size W1 ((w2.alloc (.cells #[.int .i64 act, .string sp, .bool di, .bool an] 26)).alloc (.cells #[.int .i64 act, .string sp, .bool di, .bool an] 26)) :=
            fun w2 hb => (hb.trans ((Below.refl _ _).alloc hb.size _)).alloc (by rw [World.size_alloc]; have := hb.size; omega) _
          have P4 := Lib.hid p4
          have po : ∀ w2 : World, Below W1.heap.size W1 w2 → RuOwn ((w2.alloc (.cells #[.int .i64 act, .string sp, .bool di, .bool an] 26)).alloc (.cells #[.int .i64 act, .string sp, .bool di, .bool an] 26)) (w.heap.size + 8) (.slice av na cv) acc :=
            fun w2 hb => (KeepX.below (tb := w.heap.size + 5) (p4 w2 hb)).row HVO.out (by omega)
          have PO := Lib.hid po
          have pcs : ∀ (w2 : World) (j : Nat) (u : Value), (Ru.cs ⟨act, pat, di, an⟩)[j]? = some u → ((w2.alloc (.cells #[.int .i64 act, .string sp, .bool di, .bool an] 26)).alloc (.cells #[.int .i64 act, .string sp, .bool di, .bool an] 26)).cell? ⟨w2.heap.size + 1, j, none⟩ = some u := by
            intro w2 j u hj
            have hr := heap_new (w2.alloc (.cells #[.int .i64 act, .string sp, .bool di, .bool an] 26)) (.cells #[.int .i64 act, .string sp, .bool di, .bool an] 26)
            rw [World.size_alloc] at hr
            rw [cell_of_row _ _ j _ _ (0, 0) hr]
            unfold Ru.cs at hj
            rw [HSP.out] at hj
            simpa using hj
          have PCS := Lib.hid pcs
          clear h64 HNX2 p4 po pcs
          gi_wp2_with (first
            | (refine ⟨trivial, ?_⟩; gi_at_call 14; refine (CallsIn.inRound _ (callsIn_wide.2 HPA.out)).mono ?_; rintro e w2 ⟨rfl, hb⟩; rw [← HW1.out] at hb; have HB := Lib.hid hb; clear hb; obtain ⟨a1, a2⟩ := PC.out w2 HB.out; have d3 : World.cell? _ ⟨w.heap.size + 1 + 1 + 1, 0, none⟩ = _ := cellOne (PV.out w2 HB.out); clear a1 a2)
            | (gi_at_builtin; go_must (refine appendIn_ru _ rfl (.tmp 37) (.tmp 39) rfl (w.heap.size + 8) (.slice av na cv) acc ⟨act, pat, di, an⟩ rfl (PO.out _ HB.out) _ 1 rfl (PCS.out _) (by have := HL3.out; omega) (by have := (P4.out _ HB.out).size; have := HS1.out; have := HBIG.out; omega) ?_)))
          intro v5 w5 hown5 hg5 hblk5
          have hj5 : LJ w (acc ++ [⟨act, pat, di, an⟩]) (k + 1) (w5.setCell ⟨w.heap.size + 3, 0, none⟩ v5) := LJ.grow (HJ1.out.keep (KeepX.below (P4.out _ HB.out)) ((P4.out _ HB.out).mono (by have := HS1.out; have := HBIG.out; omega))) (PO.out _ HB.out) hown5 hg5
          have h5o : ∀ g, g < W.heap.size → (Value.slice av na cv).ownBlock ≠ some g → g ≠ w.heap.size + 4 → w5.heap[g]? = W.heap[g]? := by
            intro g hgl hne hn4
            have h1 := HS1.out
            rw [hg5.block g (by have := (P4.out _ HB.out).size; omega) (fun e => hne e.symm), (P4.out _ HB.out).block g (by omega), HO1.out g hn4]
          have hob : ∀ g, (Value.slice av na cv).ownBlock = some g → w.heap.size + 8 ≤ g ∧ ∃ cs t, W1.heap[g]? = some (.cells cs t) := by
            intro g hgo
            have h1 := HVO.out
            refine ⟨(World.ownsRow.lt h1 g hgo).1, ?_⟩
            obtain ⟨q1, q2⟩ := h1
            rcases q2 with ⟨q2, -⟩ | ⟨b, cap, cur, e3, e4, e5, e6⟩
            · rw [q2] at hgo; cases hgo
            · rw [e3] at hgo
              injection hgo with hgo
              subst hgo
              exact ⟨_, _, e5⟩
          have hd5 : w5.heap[w8.heap.size]? = W.heap[w8.heap.size]? := by
            refine h5o _ (by omega) (fun e => ?_) (by omega)
            obtain ⟨-, cs, t, h⟩ := hob _ e
            rw [HO1.out _ (by omega), HDF.out] at h; cases h
          have hl5 : w5.heap[w8.heap.size + 1]? = W.heap[w8.heap.size + 1]? := by
            refine h5o _ (by omega) (fun e => ?_) (by omega)
            obtain ⟨-, cs, t, h⟩ := hob _ e
            obtain ⟨r, hr⟩ := HREC.out
            rw [HO1.out _ (by omega), hr] at h; cases h
          have ht5 : w5.heap[w.heap.size + 5]? = W.heap[w.heap.size + 5]? := h5o _ (by omega) (fun e => by have := (hob _ e).1; omega) (by omega)
          have h35 : w5.heap[w.heap.size + 3]? = some (.cells #[.slice av na cv] 22) := by
            rw [h5o _ (by omega) (fun e => by have := (hob _ e).1; omega) (by omega), ← HO1.out _ (by omega)]; exact HVR.out
          have hs5 : W.heap.size ≤ w5.heap.size := by have h1 := hg5.size; have h2 := (P4.out _ HB.out).size; have := HS1.out; omega
          have fin : RangeCap.Left (w.heap.size + 5) (w8.heap.size + 1) w8.heap.size (fun k W => ∃ acc, LJ w acc k W ∧ LG l acc k ∧ acc.length ≤ 64) (fun c k W => c = Code.ret ∧ ∃ n er, LX w n er W ∧ linesR l = ([], n, er)) (k + 1) W .normal { tmps := #[], defers := [] } (w5.setCell ⟨w.heap.size + 3, 0, none⟩ v5) :=
            ⟨⟨(setOther _ (by omega)).trans hl5, (setOther _ (by omega)).trans hd5⟩, ⟨_, hj5, HFN.out, HLT.out⟩, (setOther _ (by omega)).trans ht5, by simp [World.setCell]; omega⟩
          have FIN := Lib.hid fin
          obtain ⟨a5, c5, e5⟩ := hown5.slice
          generalize (acc ++ [(⟨act, pat, di, an⟩ : Ru)]).length = n5 at e5
          have e3 : w5.cell? ⟨w.heap.size + 1 + 1 + 1, 0, none⟩ = _ := cellOne h35
          have e3f : w5.frozen? ⟨w.heap.size + 1 + 1 + 1, 0, none⟩ = false := unfrozen h35
          clear hj5 h5o hob hd5 hl5 ht5 h35 hs5 fin hown5 hg5 hblk5
          subst e5
          gi_wp2
          exact FIN.out
      · have hD : (er == 0) = false := by simpa using hz
        have HFN : Hid (linesR l = ([], (k : Int) + 1, er)) := by show _ = _; rw [HNX2.out, if_pos hz]
        clear hz HNX2
        gi_wp2_with (refine ⟨trivial, ?_⟩; gi_at_call 14; refine (CallsIn.inRound _ (callsIn_wide.2 HPA.out)).mono ?_; rintro e w2 ⟨rfl, hb⟩; rw [← HW1.out] at hb; have HB := Lib.hid hb; clear hb; obtain ⟨a1, a2⟩ := PC.out w2 HB.out; have d4 : World.cell? _ ⟨w.heap.size + 1 + 1 + 1 + 1, 0, none⟩ = some (.int .i64 ((k : Int) + 1)) := cellOne a1.num; have d3 : World.cell? _ ⟨w.heap.size + 1 + 1 + 1, 0, none⟩ = _ := cellOne (PV.out w2 HB.out); have g0 := unfrozen (i := 0) a1.r0; have g1 : World.frozen? _ ⟨w.heap.size + 1, 0, none⟩ = false := unfrozen a1.r1; have g2 : World.frozen? _ ⟨w.heap.size + 1 + 1, 0, none⟩ = false := unfrozen a1.r2; have o0 := cellOne a1.r0; have o1 : World.cell? _ ⟨w.heap.size + 1, 0, none⟩ = _ := cellOne a1.r1; have o2 : World.cell? _ ⟨w.heap.size + 1 + 1, 0, none⟩ = _ := cellOne a1.r2; clear a1 a2)
        gi_region
        all_goals (first | exact PR.out _ HB.out _ _ HFN.out | (gi_wp2; exact PR.out _ HB.out _ _ HFN.out))
  case done =>
    rintro W ⟨acc, h1, h2, h3⟩ hdf hlt
    have HLR : Hid (linesR l = (acc, 0, 0)) := by
      show _ = _
      unfold LG at h2
      rw [h2, List.drop_length]; rfl
    obtain ⟨v, h4, h5⟩ := h1.out
    obtain ⟨av, cv, ev⟩ := h5.slice
    generalize hna : acc.length = na at ev
    subst ev
    have c3 : W.cell? ⟨w.heap.size + 1 + 1 + 1, 0, none⟩ = some (.slice av na cv) := cellOne h4
    have f0 := unfrozen (i := 0) h1.r0
    have f1 : W.frozen? ⟨w.heap.size + 1, 0, none⟩ = false := unfrozen h1.r1
    have f2 : W.frozen? ⟨w.heap.size + 1 + 1, 0, none⟩ = false := unfrozen h1.r2
    obtain ⟨W3, hW3⟩ : ∃ W3, W3 = ((W.setCell ⟨w.heap.size, 0, none⟩ (.slice av na cv)).setCell ⟨w.heap.size + 1, 0, none⟩ (.int .i64 0)).setCell ⟨w.heap.size + 2, 0, none⟩ (.int .i64 0) := ⟨_, rfl⟩
    have x0 : W3.heap[w.heap.size]? = some (.cells #[.slice av na cv] 22) := by rw [hW3, setOther _ (by omega), setOther _ (by omega)]; exact setOne h1.r0
    have x1 : W3.heap[w.heap.size + 1]? = some (.cells #[.int .i64 0] 3) := by rw [hW3, setOther _ (by omega)]; exact setOne ((setOther _ (by omega)).trans h1.r1)
    have x2 : W3.heap[w.heap.size + 2]? = some (.cells #[.int .i64 0] 31) := by rw [hW3]; exact setOne ((setOther _ (by omega)).trans ((setOther _ (by omega)).trans h1.r2))
    have xo : ∀ g, w.heap.size + 3 ≤ g → W3.heap[g]? = W.heap[g]? := fun g hg => by rw [hW3, setOther _ (by omega), setOther _ (by omega), setOther _ (by omega)]
    have xb : Below w.heap.size w W3 := by rw [hW3]; exact ((h1.bel.setCell (Nat.le_refl _) _).setCell (by show _ ≤ w.heap.size + 1; omega) _).setCell (by show _ ≤ w.heap.size + 2; omega) _
    have xd : W3.heap[w8.heap.size]? = some (.deferred (some [])) := (xo _ (by omega)).trans hdf
    have xv : RuOwn (W3.putObj w8.heap.size (.deferred none)) (w.heap.size + 8) (.slice av na cv) acc := by
      obtain ⟨z1, z2⟩ := h5
      refine ⟨z1, ?_⟩
      rcases z2 with z2 | ⟨g, cp, cu, z3, z4, z5, z6⟩
      · exact .inl z2
      · refine .inr ⟨g, cp, cu, z3, z4, ?_, z6⟩
        have hne : g ≠ w8.heap.size := by intro e; subst e; rw [hdf] at z5; cases z5
        rw [World.putObj_heap_other hne, xo _ (by omega)]; exact z5
    have y0 : (W3.putObj w8.heap.size (.deferred none)).cell? ⟨w.heap.size, 0, none⟩ = some (.slice av na cv) := cellOne ((World.putObj_heap_other (by omega)).trans x0)
    have y1 : (W3.putObj w8.heap.size (.deferred none)).cell? ⟨w.heap.size + 1, 0, none⟩ = some (.int .i64 0) := cellOne ((World.putObj_heap_other (by omega)).trans x1)
    have y2 : (W3.putObj w8.heap.size (.deferred none)).cell? ⟨w.heap.size + 1 + 1, 0, none⟩ = some (.int .i64 0) := cellOne ((World.putObj_heap_other (by omega)).trans x2)
    have HB3 := Lib.hid xb
    have HXD := Lib.hid xd
    have HXV := Lib.hid xv
    have HY0 := Lib.hid y0
    have HY1 := Lib.hid y1
    have HY2 := Lib.hid y2
    have HW3 : Hid (W3 = ((W.setCell ⟨w.heap.size, 0, none⟩ (.slice av na cv)).setCell ⟨w.heap.size + 1, 0, none⟩ (.int .i64 0)).setCell ⟨w.heap.size + 1 + 1, 0, none⟩ (.int .i64 0)) := hW3
    have hRR := HRR.out
    rw [HLR.out] at hRR
    injection hRR with e0 hRR
    injection hRR with e1 e2
    have k0 := cellOne h1.r0
    have k1 : W.cell? ⟨w.heap.size + 1, 0, none⟩ = _ := cellOne h1.r1
    have k2 : W.cell? ⟨w.heap.size + 1 + 1, 0, none⟩ = _ := cellOne h1.r2
    clear h1 h2 h3 h4 h5 hdf hna hW3 x0 x1 x2 xo xb xd xv y0 y1 y2
    subst e0 e1 e2
    gi_wp2
    rw [← HW3.out]
    refine ⟨by simp, .inl ⟨_, _, rfl, run_takeDeferred HXD.out, ?_⟩⟩
    have y0 := HY0.out
    have y1 := HY1.out
    have y2 := HY2.out
    refine ⟨.tuple #[.slice av na cv, .int .i64 0, .int .i64 0], ?_, _, rfl, HXV.out, HB3.out.trans (below_put _ (by omega))⟩
    simp [results, loadVar, asAddr, go_sem, y0, y1, y2]
  case stop =>
    rintro c k W hk ⟨rfl, n, er, h1, h2⟩ hdf hlt
    have y0 : (W.putObj w8.heap.size (.deferred none)).cell? ⟨w.heap.size, 0, none⟩ = some (.slice none 0 0) := cellOne ((World.putObj_heap_other (by omega)).trans h1.r0)
    have y1 : (W.putObj w8.heap.size (.deferred none)).cell? ⟨w.heap.size + 1, 0, none⟩ = some (.int .i64 n) := cellOne ((World.putObj_heap_other (by omega)).trans h1.r1)
    have y2 : (W.putObj w8.heap.size (.deferred none)).cell? ⟨w.heap.size + 1 + 1, 0, none⟩ = some (.int .i64 er) := cellOne ((World.putObj_heap_other (by omega)).trans h1.r2)
    have HY0 := Lib.hid y0
    have HY1 := Lib.hid y1
    have HY2 := Lib.hid y2
    have HB3 := Lib.hid h1.bel
    have HXD := Lib.hid hdf
    have HLR := Lib.hid h2
    have hRR := HRR.out
    rw [HLR.out] at hRR
    injection hRR with e0 hRR
    injection hRR with e1 e2
    clear h1 h2 hdf y0 y1 y2
    subst e0 e1 e2
    gi_wp2
    refine ⟨by simp, .inl ⟨_, _, rfl, run_takeDeferred HXD.out, ?_⟩⟩
    have y0 := HY0.out
    have y1 := HY1.out
    have y2 := HY2.out
    refine ⟨.tuple #[.slice none 0 0, .int .i64 n, .int .i64 er], ?_, _, rfl, World.ownsRow_nil _ _ _ _, HB3.out.trans (below_put _ (by omega))⟩
    simp [results, loadVar, asAddr, go_sem, y0, y1, y2]
end Go.Proofs.YtokocfoeohddfaaGreatDoor.Pa
namespace Go.Proofs.YtokocfoeohddfaaGreatDoor.Pa
open Go.RowKit
set_option linter.unusedVariables false
set_option linter.unusedSimpArgs false
set_option maxRecDepth 1000000

def RA : Ru := ⟨2, [42, 46, 111], false, false⟩
def RB : Ru := ⟨2, [97], true, true⟩
def RL : List Ru := [⟨3, [107, 101, 101, 112], false, false⟩, ⟨2, [42], false, false⟩]
abbrev oA : Obj := .cells #[.int .i64 2, .string { data := #[42, 46, 111] }, .bool false, .bool false] 26
abbrev oB : Obj := .cells #[.int .i64 2, .string { data := #[97] }, .bool true, .bool true] 26
structure AW (w : World) (ga gb : Nat) (v : Value) (W : World) : Prop where
  ra : W.heap[ga]? = some oA
  rb : W.heap[gb]? = some oB
  rl : RuAt W v RL
  bel : Below w.heap.size w W
theorem AW.keep {w W W' : World} {ga gb : Nat} {v : Value} (h : AW w ga gb v W) (hb : Below W.heap.size W W') : AW w ga gb v W' :=
  ⟨(hb.block _ (Array.getElem?_eq_some_iff.1 h.ra).1).trans h.ra, (hb.block _ (Array.getElem?_eq_some_iff.1 h.rb).1).trans h.rb, h.rl.later hb, h.bel.trans (hb.mono h.bel.size)⟩
theorem AW.start {w w1 w2 w3 : World} {v : Value} (h1 : Below w.heap.size w w1) (h2 : Below (w1.alloc oA).heap.size (w1.alloc oA) w2) (h3 : Below (w2.alloc oB).heap.size (w2.alloc oB) w3) (hl : RuAt w3 v RL) : AW w w1.heap.size w2.heap.size v w3 := by
  have s1 : w1.heap.size < (w1.alloc oA).heap.size := by simp
  have s2 := h2.size
  have s3 : w2.heap.size < (w2.alloc oB).heap.size := by simp
  refine ⟨?_, ?_, hl, ?_⟩
  · rw [h3.block _ (by omega), Below.heap_alloc _ _ _ (by omega), h2.block _ s1]; exact heap_new _ _
  · rw [h3.block _ s3]; exact heap_new _ _
  · exact (((h1.trans ((Below.refl _ _).alloc h1.size _)).trans (h2.mono (by have := h1.size; omega))).trans ((Below.refl _ _).alloc (by have := h1.size; omega) _)).trans (h3.mono (by have := h1.size; omega))
theorem at_one {W : World} {act : Int} {pat : L8} {di an : Bool} {x : ByteArray} (hx : Pa.mk pat = x) : RuAt (W.alloc (.cells #[.int .i64 act, .string x, .bool di, .bool an] 26)) (.slice (some ⟨W.heap.size, 0, none⟩) 1 1) [⟨act, pat, di, an⟩] := by
  subst hx
  refine ⟨_, 1, rfl, fun _ => ⟨W.heap.size, 0, rfl, by simp, fun i r hr => ?_⟩⟩
  obtain ⟨⟨k0, k1, k2, k3⟩, -⟩ := cells4 (heap_new W (.cells #[.int .i64 act, .string (mk pat), .bool di, .bool an] 26))
  cases i with
  | zero =>
    injection hr with hr
    subst hr
    exact ⟨k0, k1, k2, k3⟩
  | succ i => simp at hr
theorem lightOf {L : List Ru} (h : L.length ≤ 1000) (h2 : ∀ r ∈ L, r.pat.length ≤ 1000) : LightR L := ⟨by omega, fun r hr => by have := h2 r hr; omega⟩
theorem hidA {w : World} (p : L8) (dir r : Bool) (h : hiddenB [RA] p dir = r) (hp : p.length ≤ 1000) (x : ByteArray) (hx : Pa.mk p = x) : ∀ ga gb v W, AW w ga gb v W → Calls Tryz.prog 10 #[.slice (some ⟨W.heap.size, 0, none⟩) 1 1, .string x, .bool dir] (W.alloc oA) fun e w' => e = .returned (.bool r) ∧ AW w ga gb v w' := by
  intro ga gb v W hw
  subst hx
  have hb : Below W.heap.size W (W.alloc oA) := (Below.refl _ _).alloc (Nat.le_refl _) _
  have := hidden_any [RA] _ p dir (W.alloc oA) (at_one rfl) (lightOf (by decide) (by decide)) (by omega)
  rw [h] at this
  exact this.mono fun e w' ⟨h1, h2⟩ => ⟨h1, hw.keep (hb.trans (h2.mono hb.size))⟩
theorem hidB {w : World} (p : L8) (dir r : Bool) (h : hiddenB [RB] p dir = r) (hp : p.length ≤ 1000) (x : ByteArray) (hx : Pa.mk p = x) : ∀ ga gb v W, AW w ga gb v W → Calls Tryz.prog 10 #[.slice (some ⟨W.heap.size, 0, none⟩) 1 1, .string x, .bool dir] (W.alloc oB) fun e w' => e = .returned (.bool r) ∧ AW w ga gb v w' := by
  intro ga gb v W hw
  subst hx
  have hb : Below W.heap.size W (W.alloc oB) := (Below.refl _ _).alloc (Nat.le_refl _) _
  have := hidden_any [RB] _ p dir (W.alloc oB) (at_one rfl) (lightOf (by decide) (by decide)) (by omega)
  rw [h] at this
  exact this.mono fun e w' ⟨h1, h2⟩ => ⟨h1, hw.keep (hb.trans (h2.mono hb.size))⟩
theorem k1 : parseR [45, 32, 42, 46, 111] = (RA, 0) := by kernel_rfl
theorem k2 : parseR [45, 32, 47, 97, 47] = (RB, 0) := by kernel_rfl
theorem k3 : linesR [80, 32, 107, 101, 101, 112, 10, 10, 35, 32, 115, 111, 10, 45, 32, 42, 10] = (RL, 0, 0) := by kernel_rfl
theorem k4 : hiddenB [RA] [97, 47, 120, 46, 111] false = true := by kernel_rfl
theorem k5 : hiddenB [RA] [120, 46, 111, 111] false = false := by kernel_rfl
theorem k6 : hiddenB [RB] [97, 47, 120] false = true := by kernel_rfl
theorem k7 : hiddenB [RB] [98, 47, 97] true = false := by kernel_rfl
theorem k8 : safeB RL [107, 101, 101, 112] false = true := by kernel_rfl
theorem k9 : hiddenB RL [107, 101, 101, 112] false = true := by kernel_rfl
theorem lightRL : LightR RL := lightOf (by decide) (by decide)
set_option maxHeartbeats 8000000 in
theorem awake_ru (w : World) : Calls Tryz.prog 5 #[] w fun e w' => e = .returned (.bool true) ∧ Below w.heap.size w w' := by
  have HP1 : Hid (∀ W, Calls Tryz.prog 14 #[.string { data := #[45, 32, 42, 46, 111] }] W fun e w' => e = .returned (.tuple #[.agg #[.int .i64 2, .string { data := #[42, 46, 111] }, .bool false, .bool false], .int .i64 0]) ∧ Below W.heap.size W w') := fun W => by
    have := parse_ru [45, 32, 42, 46, 111] W (by decide)
    rwa [k1] at this
  have HP2 : Hid (∀ W, Calls Tryz.prog 14 #[.string { data := #[45, 32, 47, 97, 47] }] W fun e w' => e = .returned (.tuple #[.agg #[.int .i64 2, .string { data := #[97] }, .bool true, .bool true], .int .i64 0]) ∧ Below W.heap.size W w') := fun W => by
    have := parse_ru [45, 32, 47, 97, 47] W (by decide)
    rwa [k2] at this
  have HLN : Hid (∀ W, Calls Tryz.prog 15 #[.string { data := #[80, 32, 107, 101, 101, 112, 10, 10, 35, 32, 115, 111, 10, 45, 32, 42, 10] }] W fun e w' => ∃ a c, e = .returned (.tuple #[.slice a 2 c, .int .i64 0, .int .i64 0]) ∧ RuAt w' (.slice a 2 c) RL ∧ Below W.heap.size W w') := fun W => by
    have := lines_any [80, 32, 107, 101, 101, 112, 10, 10, 35, 32, 115, 111, 10, 45, 32, 42, 10] W (by decide)
    rw [k3] at this
    refine Calls.mono this ?_
    rintro e w' ⟨v, h1, h2, h3⟩
    obtain ⟨a, c, rfl⟩ := h2.slice
    exact ⟨a, c, h1, h2.at, h3⟩
  have H1 := Lib.hid (hidA (w := w) _ _ _ k4 (by decide) { data := #[97, 47, 120, 46, 111] } rfl)
  have H2 := Lib.hid (hidA (w := w) _ _ _ k5 (by decide) { data := #[120, 46, 111, 111] } rfl)
  have H3 := Lib.hid (hidB (w := w) _ _ _ k6 (by decide) { data := #[97, 47, 120] } rfl)
  have H4 := Lib.hid (hidB (w := w) _ _ _ k7 (by decide) { data := #[98, 47, 97] } rfl)
  have H5 : Hid (∀ ga gb v W, AW w ga gb v W → Calls Tryz.prog 12 #[v, .string { data := #[107, 101, 101, 112] }, .bool false] W fun e w' => e = .returned (.bool true) ∧ AW w ga gb v w') := by
    intro ga gb v W hw
    have := safe_any RL v [107, 101, 101, 112] false W hw.rl lightRL (by decide)
    rw [k8] at this
    exact this.mono fun e w' ⟨h1, h2⟩ => ⟨h1, hw.keep h2⟩
  have H6 : Hid (∀ ga gb v W, AW w ga gb v W → Calls Tryz.prog 10 #[v, .string { data := #[107, 101, 101, 112] }, .bool false] W fun e w' => e = .returned (.bool true) ∧ AW w ga gb v w') := by
    intro ga gb v W hw
    have := hidden_any RL v [107, 101, 101, 112] false W hw.rl lightRL (by decide)
    rw [k9] at this
    exact this.mono fun e w' ⟨h1, h2⟩ => ⟨h1, hw.keep h2⟩
  go_enter Tryz.func5, Tryz.ntmps5
  go_wp2_with (first
    | (go_at_call 14; with_reducible refine (HP1.out _).mono ?_; rintro e w1 ⟨rfl, hb⟩; have HB1 := Lib.hid hb; clear hb HP1)
    | (go_at_call 14; with_reducible refine (HP2.out _).mono ?_; rintro e w2 ⟨rfl, hb⟩; have HB2 := Lib.hid hb; clear hb HP2)
    | (go_at_call 15; with_reducible refine (HLN.out _).mono ?_; rintro e w3 ⟨a, c, rfl, hl, hb⟩; have haw := AW.start HB1.out HB2.out hb hl; obtain ⟨⟨k0, k1, k2, k3⟩, -⟩ := cells4 haw.ra; obtain ⟨⟨j0, j1, j2, j3⟩, -⟩ := cells4 haw.rb; have HAW := Lib.hid haw; clear haw hb hl)
    | (go_at_call 10; with_reducible refine (H1.out _ _ _ _ HAW.out).mono ?_; rintro e w4 ⟨rfl, haw⟩; obtain ⟨⟨k0, k1, k2, k3⟩, -⟩ := cells4 haw.ra; obtain ⟨⟨j0, j1, j2, j3⟩, -⟩ := cells4 haw.rb; have HAW := Lib.hid haw; clear haw H1)
    | (go_at_call 10; with_reducible refine (H2.out _ _ _ _ HAW.out).mono ?_; rintro e w5 ⟨rfl, haw⟩; obtain ⟨⟨k0, k1, k2, k3⟩, -⟩ := cells4 haw.ra; obtain ⟨⟨j0, j1, j2, j3⟩, -⟩ := cells4 haw.rb; have HAW := Lib.hid haw; clear haw H2)
    | (go_at_call 10; with_reducible refine (H3.out _ _ _ _ HAW.out).mono ?_; rintro e w6 ⟨rfl, haw⟩; obtain ⟨⟨k0, k1, k2, k3⟩, -⟩ := cells4 haw.ra; obtain ⟨⟨j0, j1, j2, j3⟩, -⟩ := cells4 haw.rb; have HAW := Lib.hid haw; clear haw H3)
    | (go_at_call 10; with_reducible refine (H4.out _ _ _ _ HAW.out).mono ?_; rintro e w7 ⟨rfl, haw⟩; have HAW := Lib.hid haw; clear haw H4)
    | (go_at_call 12; with_reducible refine (H5.out _ _ _ _ HAW.out).mono ?_; rintro e w8 ⟨rfl, haw⟩; have HAW := Lib.hid haw; clear haw H5)
    | (go_at_call 10; with_reducible refine (H6.out _ _ _ _ HAW.out).mono ?_; rintro e w9 ⟨rfl, haw⟩; have HAW := Lib.hid haw; clear haw H6))
  go_ret
  exact ⟨rfl, HAW.out.bel⟩
end Go.Proofs.YtokocfoeohddfaaGreatDoor.Pa
namespace Go.Proofs.YtokocfoeohddfaaGreatDoor.Pa
open Go.RowKit
set_option linter.unusedVariables false
set_option linter.unusedSimpArgs false
set_option maxRecDepth 1000000

set_option maxHeartbeats 32000000 in
theorem rulesActs_walk (L : List Ru) (v : Value) (p : L8) (dir drop : Bool) (w : World) (hv : RuAt w v L) (hlp : p.length ≤ maxLen) :
    Calls Tryz.prog 3 #[v, .string (mk p), .bool dir, .bool drop] w fun e w' => e = .returned (.bool true) ∧ Below w.heap.size w w' := by
  unfold maxLen at hlp
  have HB : Hid (Below w.heap.size w w) := Below.refl _ _
  have HV : Hid (∀ W, Below w.heap.size w W → RuAt W v L) := fun W h => hv.later h
  have HAK : Hid (∀ W, Below w.heap.size w W → Calls Tryz.prog 5 #[] W fun e w' => e = .returned (.bool true) ∧ Below w.heap.size w w') := fun W hk => (awake_ru W).mono fun e w' ⟨h1, h2⟩ => ⟨h1, hk.trans (h2.mono hk.size)⟩
  have HLI : Hid (∀ W, Below w.heap.size w W → Calls Tryz.prog 4 #[v] W fun e w' => e = .returned (.bool (lightB L)) ∧ Below w.heap.size w w') := fun W hk => (light_any L v W (HV.out W hk)).mono fun e w' ⟨h1, h2⟩ => ⟨h1, hk.trans (h2.mono hk.size)⟩
  have hsz : (mk p).size = p.length := mk_size p
  cases hA : lightB L with
  | false =>
    obtain ⟨a, c, rfl, -⟩ := hv
    rw [hA] at HLI
    clear hA hsz hlp HV
    generalize L.length = nn at *
    generalize mk p = s at *
    go_enter Tryz.func3, Tryz.ntmps3
    go_wp2_with (first
      | (go_at_call 4; (with_reducible refine (HLI.out _ HB.out).mono ?_); rintro e w1 ⟨rfl, hb⟩; have HB := Lib.hid hb; clear hb)
      | (go_at_call 5; (with_reducible refine (HAK.out _ HB.out).mono ?_); rintro e w1 ⟨rfl, hb⟩; have HB := Lib.hid hb; clear hb))
    go_ret
    exact ⟨rfl, HB.out⟩
  | true =>
    rw [hA] at HLI
    have hll := lightB_of hA
    clear hA
    by_cases h3 : 300 < p.length
    · obtain ⟨a, c, rfl, -⟩ := hv
      have hD : (300 : Int) < ((mk p).size : Int) := by rw [hsz]; omega
      clear hsz hlp HV hll h3
      generalize L.length = nn at *
      generalize mk p = s at *
      go_enter Tryz.func3, Tryz.ntmps3
      go_wp2_with (first
        | (go_at_call 4; (with_reducible refine (HLI.out _ HB.out).mono ?_); rintro e w1 ⟨rfl, hb⟩; have HB := Lib.hid hb; clear hb)
        | (go_at_call 5; (with_reducible refine (HAK.out _ HB.out).mono ?_); rintro e w1 ⟨rfl, hb⟩; have HB := Lib.hid hb; clear hb))
      go_ret
      exact ⟨rfl, HB.out⟩
    · have hD : ¬ (300 : Int) < ((mk p).size : Int) := by rw [hsz]; omega
      have hR : L.length ≤ 1000000 ∧ ∀ r ∈ L, r.pat.length ≤ 1000000 := ⟨by omega, fun r hr => by have := hll.2 r hr; omega⟩
      have hLR : LightR L := ⟨by omega, fun r hr => by have := hll.2 r hr; omega⟩
      have HM1 : Hid (∀ r ∈ L, ∀ W, Calls Tryz.prog 6 #[.agg #[.int .i64 r.act, .string (mk r.pat), .bool r.dir, .bool r.anch], .string (mk p), .bool dir] W fun e w' => e = .returned (.bool (matchR r p dir)) ∧ Below W.heap.size W w') := fun r hr W => matches_any r p dir W (by have := hll.2 r hr; omega) (by omega)
      have HM2 : Hid (∀ r ∈ L, ∀ W, Calls Tryz.prog 7 #[.agg #[.int .i64 r.act, .string (mk r.pat), .bool r.dir, .bool r.anch], .string (mk p), .bool dir] W fun e w' => e = .returned (.bool (matchR r p dir)) ∧ Below W.heap.size W w') := fun r hr W => rmatches_any r p dir W (by have := hll.2 r hr; omega) (by omega)
      have HA1 : Hid (∀ W, Below w.heap.size w W → Calls Tryz.prog 8 #[v, .string (mk p), .bool dir, .bool drop] W fun e w' => e = .returned (.int .i64 (actR L p dir drop)) ∧ Below w.heap.size w w') := fun W hk => (act_any L v p dir drop W (HV.out W hk) hLR (by omega)).mono fun e w' ⟨h1, h2⟩ => ⟨h1, hk.trans (h2.mono hk.size)⟩
      have HA2 : Hid (∀ W, Below w.heap.size w W → Calls Tryz.prog 9 #[v, .string (mk p), .bool dir, .bool drop] W fun e w' => e = .returned (.int .i64 (actR L p dir drop)) ∧ Below w.heap.size w w') := fun W hk => (ract_any L v p dir drop W (HV.out W hk) hR (by omega)).mono fun e w' ⟨h1, h2⟩ => ⟨h1, hk.trans (h2.mono hk.size)⟩
      have HH1 : Hid (∀ W, Below w.heap.size w W → Calls Tryz.prog 10 #[v, .string (mk p), .bool dir] W fun e w' => e = .returned (.bool (hiddenB L p dir)) ∧ Below w.heap.size w w') := fun W hk => (hidden_any L v p dir W (HV.out W hk) hLR (by omega)).mono fun e w' ⟨h1, h2⟩ => ⟨h1, hk.trans (h2.mono hk.size)⟩
      have HH2 : Hid (∀ W, Below w.heap.size w W → Calls Tryz.prog 11 #[v, .string (mk p), .bool dir] W fun e w' => e = .returned (.bool (hiddenB L p dir)) ∧ Below w.heap.size w w') := fun W hk => (rhidden_any L v p dir W (HV.out W hk) hR (by omega)).mono fun e w' ⟨h1, h2⟩ => ⟨h1, hk.trans (h2.mono hk.size)⟩
      have HS1 : Hid (∀ W, Below w.heap.size w W → Calls Tryz.prog 12 #[v, .string (mk p), .bool dir] W fun e w' => e = .returned (.bool (safeB L p dir)) ∧ Below w.heap.size w w') := fun W hk => (safe_any L v p dir W (HV.out W hk) hLR (by omega)).mono fun e w' ⟨h1, h2⟩ => ⟨h1, hk.trans (h2.mono hk.size)⟩
      have HS2 : Hid (∀ W, Below w.heap.size w W → Calls Tryz.prog 13 #[v, .string (mk p), .bool dir] W fun e w' => e = .returned (.bool (safeB L p dir)) ∧ Below w.heap.size w w') := fun W hk => (rsafe_any L v p dir W (HV.out W hk) hR (by omega)).mono fun e w' ⟨h1, h2⟩ => ⟨h1, hk.trans (h2.mono hk.size)⟩
      have HLL := Lib.hid hll
      generalize actR L p dir drop = x1 at *
      generalize hiddenB L p dir = x2 at *
      generalize safeB L p dir = x3 at *
      clear hsz hlp h3 hll hR hLR
      obtain ⟨va, vc, rfl, -⟩ := hv
      generalize mk p = s at *
      go_enter Tryz.func3, Tryz.ntmps3
      go_wp2_with (go_at_call 4; (with_reducible refine (HLI.out _ HB.out).mono ?_); rintro e w1 ⟨rfl, hb⟩; have HB := Lib.hid hb; clear hb)
      go_loopw [22] (fun i wr => ∃ k : Nat, i = .int .i64 k ∧ Hid (k ≤ L.length) ∧ Hid (Below w.heap.size w wr)) (fun i _ => L.length - (intOf i).toNat)
      case atStart => exact ⟨0, rfl, Nat.zero_le _, HB⟩
      case round =>
        clear HB
        obtain ⟨k, rfl, HK, HB⟩ := hrel
        by_cases hk : k < L.length
        · have hIk : (k : Int) < (L.length : Int) := by omega
          obtain ⟨r, hr⟩ : ∃ r, L[k]? = some r := ⟨_, List.getElem?_eq_getElem hk⟩
          have hw1 : IntKind.i64.wrap ((k : Int) + 1) = (k : Int) + 1 := IntWalk.i64_in _ (by have := HLL.out.1; omega)
          obtain ⟨ga, gc, e4, hrow⟩ := HV.out _ HB.out
          simp only [Value.slice.injEq, true_and] at e4
          obtain ⟨rfl, rfl⟩ := e4
          obtain ⟨g, off, rfl, hg, hc⟩ := hrow (by intro e; rw [e] at hr; simp at hr)
          obtain ⟨k0, k1, k2, k3⟩ := hc k r hr
          have hrm := List.mem_of_getElem? hr
          have HN0 := Lib.hid (BoxW.new wr r.act (mk r.pat) r.dir r.anch)
          have HC1 : Hid (∀ W, BoxW wr r.act (mk r.pat) r.dir r.anch W → Calls Tryz.prog 6 #[.agg #[.int .i64 r.act, .string (mk r.pat), .bool r.dir, .bool r.anch], .string s, .bool dir] W fun e w' => e = .returned (.bool (matchR r p dir)) ∧ BoxW wr r.act (mk r.pat) r.dir r.anch w') := fun W h => (HM1.out r hrm W).mono fun e w' ⟨h1, h2⟩ => ⟨h1, h.keep h2⟩
          have HC2 : Hid (∀ W, BoxW wr r.act (mk r.pat) r.dir r.anch W → Calls Tryz.prog 7 #[.agg #[.int .i64 r.act, .string (mk r.pat), .bool r.dir, .bool r.anch], .string s, .bool dir] W fun e w' => e = .returned (.bool (matchR r p dir)) ∧ BoxW wr r.act (mk r.pat) r.dir r.anch w') := fun W h => (HM2.out r hrm W).mono fun e w' ⟨h1, h2⟩ => ⟨h1, h.keep h2⟩
          have HKL : Hid (k < L.length) := hk
          generalize matchR r p dir = fb at *
          obtain ⟨act, pat, rd, an⟩ := r
          simp only at k0 k1 k2 k3 HN0 HC1 HC2
          clear hk hr hrow hg hc hrm
          generalize mk pat = q at *
          have hs0 : BoxW wr act q rd an (wr.alloc (.cells #[.int .i64 act, .string q, .bool rd, .bool an] 26)) ∧ (wr.alloc (.cells #[.int .i64 act, .string q, .bool rd, .bool an] 26)).cell? ⟨wr.heap.size, 0, none⟩ = some (.int .i64 act) ∧ (wr.alloc (.cells #[.int .i64 act, .string q, .bool rd, .bool an] 26)).cell? ⟨wr.heap.size, 1, none⟩ = some (.string q) ∧ (wr.alloc (.cells #[.int .i64 act, .string q, .bool rd, .bool an] 26)).cell? ⟨wr.heap.size, 2, none⟩ = some (.bool rd) ∧ (wr.alloc (.cells #[.int .i64 act, .string q, .bool rd, .bool an] 26)).cell? ⟨wr.heap.size, 3, none⟩ = some (.bool an) := And.intro HN0.out (cells4 HN0.out.1).1
          have hs1 := And.intro HN0.out.drew hs0.2
          go_wp2_with fail
          go_region_held3 (fun W => BoxW wr act q rd an W ∧ W.cell? ⟨wr.heap.size, 0, none⟩ = some (.int .i64 act) ∧ W.cell? ⟨wr.heap.size, 1, none⟩ = some (.string q) ∧ W.cell? ⟨wr.heap.size, 2, none⟩ = some (.bool rd) ∧ W.cell? ⟨wr.heap.size, 3, none⟩ = some (.bool an)) (first | assumption | exact hs1 | exact hs0) (first
            | (go_at_call 6; (with_reducible refine (HC1.out _ ?_).mono ?_); (focus (first | exact hs6.1 | exact hs5.1 | exact hs1.1 | exact hs0.1)); rintro e w5 ⟨rfl, hk5⟩; have hs5 := And.intro hk5 (cells4 hk5.1).1)
            | (go_at_call 7; (with_reducible refine (HC2.out _ ?_).mono ?_); (focus (first | exact hs5.1 | exact hs6.1 | exact hs1.1 | exact hs0.1)); rintro e w6 ⟨rfl, hk6⟩; have hs6 := And.intro hk6 (cells4 hk6.1).1))
          have HB6 := Lib.hid (HB.out.trans (hs6.1.2.mono HB.out.size))
          clear hs0 hs1 hs5 hs6
          go_wp2
          go_roundw
          case rel => exact ⟨k + 1, by go_num, by show _ ≤ _; have := HKL.out; omega, HB6⟩
          case measure => have := HKL.out; simp [intOf]; omega
        · have hIk : ¬ (k : Int) < (L.length : Int) := by omega
          clear hk HM1 HM2
          go_wp2_with (first
            | (go_at_call 8; (with_reducible refine (HA1.out _ HB.out).mono ?_); rintro e w1 ⟨rfl, hb⟩; have HB := Lib.hid hb; clear hb)
            | (go_at_call 9; (with_reducible refine (HA2.out _ HB.out).mono ?_); rintro e w1 ⟨rfl, hb⟩; have HB := Lib.hid hb; clear hb)
            | (go_at_call 10; (with_reducible refine (HH1.out _ HB.out).mono ?_); rintro e w1 ⟨rfl, hb⟩; have HB := Lib.hid hb; clear hb)
            | (go_at_call 11; (with_reducible refine (HH2.out _ HB.out).mono ?_); rintro e w1 ⟨rfl, hb⟩; have HB := Lib.hid hb; clear hb)
            | (go_at_call 12; (with_reducible refine (HS1.out _ HB.out).mono ?_); rintro e w1 ⟨rfl, hb⟩; have HB := Lib.hid hb; clear hb)
            | (go_at_call 13; (with_reducible refine (HS2.out _ HB.out).mono ?_); rintro e w1 ⟨rfl, hb⟩; have HB := Lib.hid hb; clear hb)
            | (go_at_call 5; (with_reducible refine (HAK.out _ HB.out).mono ?_); rintro e w1 ⟨rfl, hb⟩; have HB := Lib.hid hb; clear hb))
          go_ret
          exact ⟨rfl, HB.out⟩
end Go.Proofs.YtokocfoeohddfaaGreatDoor.Pa
