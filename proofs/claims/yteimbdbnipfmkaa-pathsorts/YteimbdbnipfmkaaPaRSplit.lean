/- path: the document's Split and glue. (A template.) -/
import Derived.Test.YteimbdbnipfmkaaPaOrderM
import Derived.Lib.AppendStr
import Derived.Lib.UnsafeStr
namespace Go.Proofs.Yteimbdbnipfmkaa.Pa
open Go.RowKit
set_option linter.unusedVariables false
set_option linter.unusedSimpArgs false
set_option maxRecDepth 1000000

theorem append_str2 {w : World} {ops : Array Oper} {rest : List Oper} {o : Oper} {a : Act} {Q : Exit → Act → World → Prop}
    (hg : o.guard = none) (s x : Operand) (hop : o.op = Op.call { callee := Callee.builtin Builtin.append, args := #[s, x], argTypes := #[24, 24] })
    (base : Nat) (v : Value) (ps : List L8) (p : L8) (hs : a.eval s = v) (hown : SOwn w base v ps) (ad : Addr) (c : Nat) (hx : a.eval x = .slice (some ad) 1 c)
    (hc : w.cell? ad = some (.string (mk p))) (hl : ps.length ≤ 4398046511104) (b3 : base ≤ w.heap.size)
    (hK : ∀ v' w', Hid (SOwn w' base v' (ps ++ [p])) → Hid (w.grownBy w' v.ownBlock) → wpList Try.prog ops Q rest (a.put o.dst v') w') :
    wpList Try.prog ops Q (o :: rest) a w := by
  obtain ⟨i0, hi, hz0, hz1, hz2⟩ := info_parts Try.infoStr
  refine wpList_append_own w hg s x 24 hop base 9 i0 (.string ⟨#[]⟩) 1 16 Try.underlying24 hi hz0 hz1 hz2 rfl (by decide) v ps.length (strs ps) hs hown ad 1 c (strs [p]) hx rfl
    (by intro j u hj
        cases j with
        | zero => simp [strs] at hj; subst hj; simpa [Addr.add] using hc
        | succ j => simp [strs] at hj) (strs_one _) (by unfold maxLen; omega) (by omega) b3 ?_
  intro v' w' r1 r2 _
  refine hK v' w' ?_ r2
  show w'.ownsRow base 9 1 v' (ps ++ [p]).length (strs (ps ++ [p]))
  rw [strs_app, List.length_append]
  exact r1

/-- how far the text has been gone through: k parts, the next one begins at f, the place is i -/
def Walk (l : L8) (k f i : Nat) (out : List L8) : Prop := (i ≤ l.length ∧ At l k f ∧ Free l f i ∧ f ≤ i ∧ out = (cut l).take k) ∨ (i = l.length + 1 ∧ out = cut l)
set_option maxHeartbeats 8000000 in
theorem rsplit_any (l : L8) (w : World) (hl : l.length ≤ 4398046511100) :
    Calls Try.prog 14 #[.string (mk l)] w fun e w' => ∃ v, e = .returned v ∧ SOwn w' w.heap.size v (parts l) ∧ Below w.heap.size w w' := by
  have hs : (mk l).size = l.length := mk_size l
  by_cases hn : l = []
  · have he := emptyT hn
    have hp : parts l = [] := by unfold parts; rw [if_pos hn]
    rw [hp]
    clear hn hp hs
    go_enter Try.func14, Try.ntmps14
    go_wp2
    go_ret
    exact ⟨_, rfl, World.ownsRow_nil _ _ _ _, Below.refl _ _⟩
  · have he := emptyF hn
    have hp : parts l = cut l := by unfold parts; rw [if_neg hn]
    rw [hp]
    have hcl := cut_length l
    have hcc : l.count 47 ≤ l.length := List.count_le_length
    obtain ⟨n, hnn⟩ : ∃ n, n = (mk l).size := ⟨_, rfl⟩
    have HN : Hid (n = l.length) := by show _ = _; omega
    have hnb : n ≤ 4398046511100 := by omega
    have HCL : Hid ((cut l).length ≤ n + 1) := by show _ ≤ _; omega
    have HSZ := Lib.hid hnn
    clear hn hp hcl hcc
    go_enter Try.func14, Try.ntmps14
    go_wp2
    go_loopw [3, 4, 5] (fun v f c wr => ∃ (k fN i : Nat) (out : List L8), f = .int .i64 fN ∧ c = .int .i64 i ∧ i ≤ n + 1 ∧ fN ≤ n + 1 ∧ Hid (Walk l k fN i out) ∧ Hid (out.length ≤ n + 1) ∧ (∃ a cc, v = .slice a out.length cc) ∧ Hid (SOwn wr w.heap.size v out) ∧ Hid (Below w.heap.size w wr)) (fun _ _ c _ => n + 2 - (intOf c).toNat)
    case atStart =>
      exact ⟨0, 0, 0, [], rfl, rfl, by omega, by omega, .inl ⟨Nat.zero_le _, At.zero l, Free.empty l 0 0 (Nat.le_refl _), Nat.le_refl _, rfl⟩, by show _ ≤ _; simp, ⟨none, 0, rfl⟩, World.ownsRow_nil _ _ _ _, Below.refl _ _⟩
    case round =>
      clear he
      obtain ⟨k, fN, i, out, rfl, rfl, hi, hfn, HW, HOL, ⟨a3, c3, rfl⟩, HO, HB⟩ := hrel
      have hlen : ((mk l).size : Int) = (n : Int) := by rw [HSZ.out]
      by_cases hlt : i ≤ n
      · have hI : (i : Int) ≤ (n : Int) := by omega
        have hI2 : (i : Int) ≤ ((mk l).size : Int) := by omega
        have HW2 : Hid (At l k fN ∧ Free l fN i ∧ fN ≤ i ∧ out = (cut l).take k) := by
          rcases HW.out with ⟨_, h⟩ | ⟨h, _⟩
          · exact h
          · have := HN.out; omega
        -- a part ends here?
        by_cases hend : i = n ∨ l[i]? = some 47
        · obtain ⟨hA, hF, hfi, hout⟩ := HW2.out
          have hpart : ∃ p k' f', p = (l.drop fN).take (i - fN) ∧ Walk l k' f' (i + 1) (out ++ [p]) ∧ f' = i + 1 := by
            by_cases h47 : l[i]? = some 47
            · obtain ⟨q1, q2⟩ := hA.slash hF hfi h47
              refine ⟨_, k + 1, i + 1, rfl, .inl ⟨q2.1, q2, Free.empty l _ _ (Nat.le_refl _), Nat.le_refl _, ?_⟩, rfl⟩
              rw [take_part q1, hout]
            · have hin : i = l.length := by rcases hend with h | h; (have := HN.out; omega); exact absurd h h47
              have hF2 : Free l fN l.length := hin ▸ hF
              obtain ⟨q1, q2⟩ := hA.last hF2
              refine ⟨_, k, i + 1, rfl, .inr ⟨by omega, ?_⟩, rfl⟩
              have e : (l.drop fN).take (i - fN) = l.drop fN := List.take_of_length_le (by rw [List.length_drop]; omega)
              rw [e, hout, ← take_part q1, ← q2, List.take_of_length_le (Nat.le_refl _)]
          obtain ⟨p, k', f', hp, hW', rfl⟩ := hpart
          have hcut := run_sub l fN i hfi (by have := HN.out; omega)
          rw [← hp] at hcut
          have HPP := Lib.hid hp
          have HWN := Lib.hid hW'
          have HLO : Hid ((out ++ [p]).length ≤ n + 1) := by
            show _ ≤ _
            have := HCL.out
            rcases hW' with ⟨_, _, _, _, h⟩ | ⟨_, h⟩
            · rw [h, List.length_take]; omega
            · rw [h]; omega
          have hba : Below wr.heap.size wr (wr.alloc (.cells #[.string (mk p)] 9)) := (Below.refl _ _).alloc (Nat.le_refl _) _
          have HBA := Lib.hid hba
          obtain ⟨m, hm⟩ : ∃ m, m = out.length := ⟨_, rfl⟩
          have HOA : Hid (SOwn (wr.alloc (.cells #[.string (mk p)] 9)) w.heap.size (.slice a3 m c3) out) := by rw [hm]; exact (KeepCD.below hba).row HO.out
          have HCA : Hid ((wr.alloc (.cells #[.string (mk p)] 9)).cell? ⟨wr.heap.size, 0, none⟩ = some (.string (mk p))) := cell1 (heap_new _ _)
          have hsz := HB.out.size
          have HM := Lib.hid hm
          rw [← hm]
          have HFI := Lib.hid hfi
          clear hA hF hfi hout hp hW' hba hm
          by_cases hin : i = n
          · have hinS : i = (mk l).size := by rw [← HSZ.out]; exact hin
            have HIN := Lib.hid hin
            have hlen2 := Lib.hid hlen
            have hx : (mk l).extract fN (List.length l) = mk p := by rw [mk_extract, HPP.out, ← HN.out, ← hin]
            clear hin hend hI hlen HW HW2
            subst hinS
            clear HSZ
            go_wp2_with (at_builtin; go_must (refine append_str2 rfl (.tmp 24) (.tmp 29) rfl w.heap.size (.slice a3 m c3) out p rfl HOA.out ⟨wr.heap.size, 0, none⟩ 1 rfl HCA.out (by have := HOL.out; have := HM.out; omega) (by simp; omega) ?_))
            intro v5 w5 HO5 HG5
            have HB5 : Hid (Below w.heap.size w w5) := Below.grown (w := wr.alloc (.cells #[.string (mk p)] 9)) (HB.out.trans (HBA.out.mono hsz)) HG5.out (by simp; omega) (fun q hq => (HOA.out.base_le q hq).1)
            obtain ⟨a5, c5, e5⟩ := HO5.out.slice
            have hl5 : (out ++ [p]).length = m + 1 := by rw [List.length_append, ← HM.out]; rfl
            rw [hl5] at e5
            subst e5
            have HL5 := Lib.hid hl5
            clear hl5
            go_wp2
            go_roundw
            case rel => exact ⟨k', (mk l).size + 1, (mk l).size + 1, out ++ [p], by go_num, by go_num, by have := HIN.out; omega, by have := HIN.out; omega, HWN, HLO, ⟨a5, c5, by rw [HL5.out]⟩, HO5, HB5⟩
            case measure => simp [intOf]; have := HIN.out; omega
          · have h47 : l[i]? = some 47 := by rcases hend with h | h; exact absurd h hin; exact h
            have hil : i < l.length := by have := HN.out; omega
            have hidx := run_at l i hil
            rw [(bt_slash hil).2 h47] at hidx
            have hq : ((i : Int) == ((mk l).size : Int)) = false := by have : ¬ (i : Int) = ((mk l).size : Int) := by omega
                                                                       simpa using this
            have hq2 : ¬ i = (mk l).size := by omega
            have HIN : Hid (i < n) := by show i < n; omega
            clear hin hend h47 hil hI hlen HW HW2 HSZ
            go_wp2_with (at_builtin; go_must (refine append_str2 rfl (.tmp 24) (.tmp 29) rfl w.heap.size (.slice a3 m c3) out p rfl HOA.out ⟨wr.heap.size, 0, none⟩ 1 rfl HCA.out (by have := HOL.out; have := HM.out; omega) (by simp; omega) ?_))
            intro v5 w5 HO5 HG5
            have HB5 : Hid (Below w.heap.size w w5) := Below.grown (w := wr.alloc (.cells #[.string (mk p)] 9)) (HB.out.trans (HBA.out.mono hsz)) HG5.out (by simp; omega) (fun q hq => (HOA.out.base_le q hq).1)
            obtain ⟨a5, c5, e5⟩ := HO5.out.slice
            have hl5 : (out ++ [p]).length = m + 1 := by rw [List.length_append, ← HM.out]; rfl
            rw [hl5] at e5
            subst e5
            have HL5 := Lib.hid hl5
            clear hl5
            go_wp2
            go_roundw
            case rel => exact ⟨k', i + 1, i + 1, out ++ [p], by go_num, by go_num, by have := HIN.out; omega, by have := HIN.out; omega, HWN, HLO, ⟨a5, c5, by rw [HL5.out]⟩, HO5, HB5⟩
            case measure => simp [intOf]; have := HIN.out; omega
        · have hin : ¬ i = n := fun h => hend (.inl h)
          have h47 : l[i]? ≠ some 47 := fun h => hend (.inr h)
          have hil : i < l.length := by have := HN.out; omega
          have hidx := run_at l i hil
          have hb47 : ¬ bt l i = 47 := fun h => h47 ((bt_slash hil).1 h)
          have HWN : Hid (Walk l k fN (i + 1) out) := by
            obtain ⟨hA, hF, hfi, hout⟩ := HW2.out
            exact .inl ⟨by omega, hA, hF.step (fun x h1 h2 => by have : x = i := by omega
                                                                 subst this; exact h47), by omega, hout⟩
          have hq : ((i : Int) == ((mk l).size : Int)) = false := by have : ¬ (i : Int) = ((mk l).size : Int) := by omega
                                                                     simpa using this
          have hq2 : ¬ i = (mk l).size := by omega
          have hq3 : (bt l i == 47) = false := by simpa using hb47
          generalize bt l i = x at *
          have HIN : Hid (i < n) := by show i < n; omega
          clear hin hend h47 hil hI hlen HW HW2 HSZ
          go_wp2
          go_roundw
          case rel => exact ⟨k, fN, i + 1, out, rfl, by go_num, by have := HIN.out; omega, by omega, HWN, HOL, ⟨a3, c3, rfl⟩, HO, HB⟩
          case measure => simp [intOf]; have := HIN.out; omega
      · have hI2 : ¬ (i : Int) ≤ ((mk l).size : Int) := by omega
        have hout : out = cut l := by
          rcases HW.out with ⟨h, _⟩ | ⟨_, h⟩
          · have := HN.out; omega
          · exact h
        have HOUT := Lib.hid hout
        have HO2 : Hid (SOwn wr w.heap.size (.slice a3 out.length c3) (cut l)) := by show SOwn _ _ _ _; rw [← hout]; exact HO.out
        clear hout hlen HO
        generalize out.length = m at *
        go_wp2
        go_ret
        exact ⟨_, rfl, HO2.out, HB.out⟩
end Go.Proofs.Yteimbdbnipfmkaa.Pa
