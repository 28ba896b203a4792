/- The law PathClean. (A template.) -/
import Derived.Test.YteimbdbnipfmkaaPaFine
namespace Go.Proofs.Yteimbdbnipfmkaa.Pa
open Go.RowKit
set_option linter.unusedVariables false
set_option linter.unusedSimpArgs false
set_option maxRecDepth 1000000

theorem acc {f : FuncId} {args : Array Value} {R : Ending → Prop} {w : World} (h : ∀ W, Calls Try.prog f args W fun e w' => R e ∧ Below W.heap.size W w') : ∀ W, Below w.heap.size w W → Calls Try.prog f args W fun e w' => R e ∧ Below w.heap.size w w' :=
  fun W hW => (h W).mono fun e w' ⟨h1, h2⟩ => ⟨h1, hW.trans (h2.mono hW.size)⟩
set_option maxHeartbeats 16000000 in
theorem pathClean_walk (s : L8) (w : World) (hl : s.length ≤ 9223372036854775807) :
    Calls Try.prog 7 #[.string (mk s)] w fun e w' => e = .returned (.bool true) ∧ Below w.heap.size w w' := by
  have HA := Lib.hid (acc (w := w) awake_pa)
  have HB : Hid (Below w.heap.size w w) := Below.refl _ _
  have hs : (mk s).size = s.length := mk_size s
  by_cases hbig : 4000 < s.length
  · have hI : (4000 : Int) < ((mk s).size : Int) := by omega
    clear hs hbig
    go_enter Try.func7, Try.ntmps7
    go_wp2_with (go_at_call 21; refine (HA.out _ HB.out).mono ?_; rintro e w' ⟨rfl, hb⟩; have HB := Lib.hid hb; clear hb)
    go_ret
    exact ⟨rfl, HB.out⟩
  · have hI : ¬ (4000 : Int) < ((mk s).size : Int) := by omega
    have hsl : s.length ≤ 4000 := by omega
    have HC := Lib.hid (acc (w := w) (fun W => clean_any s W (by omega)))
    have HR := Lib.hid (acc (w := w) (fun W => right_any s W (by omega)))
    rcases cl_cases s with ⟨he, hp⟩ | ⟨hF, hp⟩
    · have hr : rightB s = false := decide_eq_false (fun h => he h.1)
      rw [hr] at HR
      rw [hp] at HC
      have hne : ((cl s).2 == 0) = false := by simpa using he
      have hE : (mk []).toList.isEmpty = true := emptyT rfl
      generalize (cl s).2 = q at *
      clear hs hbig hp hr he hl hsl
      go_enter Try.func7, Try.ntmps7
      go_wp2_with (first
        | (go_at_call 25; refine (HC.out _ HB.out).mono ?_; rintro e w1 ⟨rfl, hb⟩; have HB := Lib.hid hb; clear hb)
        | (go_at_call 10; refine (HR.out _ HB.out).mono ?_; rintro e w2 ⟨rfl, hb⟩; have HB := Lib.hid hb; clear hb)
        | (go_at_call 21; refine (HA.out _ HB.out).mono ?_; rintro e w3 ⟨rfl, hb⟩; have HB := Lib.hid hb; clear hb))
      go_ret
      exact ⟨rfl, HB.out⟩
    · rw [hp] at HC
      have hgl : (glue (good (parts s))).length ≤ 200 := hF.short
      obtain ⟨p, hpp⟩ : ∃ p, p = glue (good (parts s)) := ⟨_, rfl⟩
      rw [← hpp] at HC hgl
      have HC2 := Lib.hid (acc (w := w) (fun W => clean_any p W (by omega)))
      have HR2 := Lib.hid (fun W => right_any p W (by omega))
      have HD := Lib.hid (acc (w := w) (fun W => (depth_any p W (by omega)).mono fun e w' ⟨h1, h2⟩ => ⟨h1, h2 ▸ Below.refl _ _⟩))
      have hd : depth p = (good (parts s)).length := by rw [hpp]; unfold depth; rw [hF.parts]
      have hdl : depth p ≤ 12 := by rw [hd]; exact hF.few
      have hIl : ((depth p : Nat) : Int) ≤ 12 := by omega
      rw [hpp, hF.cl, ← hpp] at HC2
      rw [hpp, hF.right, ← hpp] at HR2
      generalize depth p = dd at *
      have hpw : parts p = good (parts s) := by rw [hpp]; exact hF.parts
      have HPW := Lib.hid hpw
      have HPP := Lib.hid hpp
      have HS1 := Lib.hid (fun W => split_any s W (by omega))
      have HS2 := Lib.hid (fun W => split_any p W (by omega))
      have HSL := Lib.hid hsl
      have heq : rightB s = true → ((mk p).toList == (mk s).toList) = true := by
        intro h
        have := of_decide_eq_true h
        rw [hp, ← hpp] at this
        exact eqTT this.2
      have hqq : ((mk p).toList == (mk p).toList) = true := eqTT rfl
      have hpl := parts_len s
      have hgl2 : (good (parts s)).length ≤ (parts s).length := List.length_filter_le ..
      have hpl2 : (parts p).length ≤ 4001 := by rw [hpw]; omega
      have HPL2 := Lib.hid hpl2
      have HTX : Hid (∀ W v9 v7, Txt W v9 (parts p) → Txt W v7 (parts p) → Calls Try.prog 12 #[v9, v7] W fun e w' => e = .returned (.bool true) ∧ Drew W w') := by
        intro W v9 v7 h9 h7
        have h := texts_any v9 v7 (parts p) (parts p) W h9 h7 (by omega) (by omega)
        rwa [decide_eq_true rfl] at h
      have hgt : ∀ k, (good ((parts s).take k)).length ≤ 4001 := fun k => by
        have h1 : (good ((parts s).take k)).length ≤ ((parts s).take k).length := List.length_filter_le ..
        rw [List.length_take] at h1; omega
      have HGT := Lib.hid hgt
      have HGOOD : Hid (good ((parts s).take (parts s).length) = good (parts s)) := by show _ = _; rw [List.take_of_length_le (Nat.le_refl _)]
      obtain ⟨n, hn⟩ : ∃ n, n = (parts s).length := ⟨_, rfl⟩
      have hnb : n ≤ 4001 := by omega
      rw [← hn] at HGOOD
      have HN := Lib.hid hn
      clear hs hbig hp hl hsl hd hdl hpw hpp hgl hpl hgl2 hpl2 hgt hn hF
      cases hb : rightB s
      all_goals
        rw [hb] at HR
        first
          | (have heq2 := heq hb; clear heq hb)
          | clear heq hb
        go_enter Try.func7, Try.ntmps7
        go_wp2_with (first
          | (go_at_call 25; with_reducible refine (HC.out _ HB.out).mono ?_; rintro e w1 ⟨rfl, hb⟩; have HB := Lib.hid hb; clear hb)
          | (go_at_call 25; with_reducible refine (HC2.out _ HB.out).mono ?_; rintro e w1 ⟨rfl, hb⟩; have HB := Lib.hid hb; clear hb)
          | (go_at_call 10; with_reducible refine (HR.out _ HB.out).mono ?_; rintro e w2 ⟨rfl, hb⟩; have HB := Lib.hid hb; clear hb)
          | (go_at_call 13; with_reducible refine (HS1.out _).mono ?_; rintro e w3 ⟨v8, rfl, hO, hb⟩; obtain ⟨a8, c8, e8⟩ := hO.slice; rw [← HN.out] at e8; have HT8 := Lib.hid hO.txt; have HB8 := Lib.hid hb; clear hb hO; subst e8))
        have HB3 : Hid (Below w.heap.size w w3) := HB.out.trans (HB8.out.mono HB.out.size)
        clear HC HC2 HR HS1
        go_loopw [7, 9] (fun v c wr => ∃ k : Nat, c = .int .i64 k ∧ k ≤ n ∧ (∃ a cc, v = .slice a (good ((parts s).take k)).length cc) ∧ Hid (SOwn wr w3.heap.size v (good ((parts s).take k))) ∧ Hid (Below w3.heap.size w3 wr)) (fun _ c _ => n - (intOf c).toNat)
        case atStart => exact ⟨0, rfl, Nat.zero_le _, ⟨none, 0, rfl⟩, World.ownsRow_nil _ _ _ _, Below.refl _ _⟩
        case round =>
          obtain ⟨k, rfl, hk, ⟨a7, c7, rfl⟩, HO7, HBW⟩ := hrel
          by_cases hlt : k < n
          · have hI2 : (k : Int) < (n : Int) := by omega
            obtain ⟨x, hx⟩ : ∃ x, (parts s)[k]? = some x := ⟨_, List.getElem?_eq_getElem (by rw [← HN.out]; exact hlt)⟩
            have HGK := Lib.hid (good_take hx)
            have ht := (HT8.out.later HBW.out)
            obtain ⟨a', c', e', ht⟩ := ht
            obtain ⟨g, off, ea, hcell⟩ := ht (by intro e; rw [e] at hx; simp at hx)
            rw [← HN.out] at e'
            simp only [Value.slice.injEq] at e'
            obtain ⟨rfl, -, rfl⟩ := e'
            subst ea
            have hcx := hcell k x hx
            clear hcell ht hx
            by_cases hsk : skip x = true
            · have HGE : Hid (good ((parts s).take (k + 1)) = good ((parts s).take k)) := by show _ = _; rw [HGK.out, if_pos hsk]
              have hor : x = [] ∨ x = [46] := of_decide_eq_true hsk
              clear hsk
              rcases hor with h | h
              · have he := emptyT h
                clear h
                go_wp2
                go_roundw
                case rel => exact ⟨k + 1, by go_num, by omega, ⟨a7, c7, by rw [HGE.out]⟩, by rw [HGE.out]; exact HO7, HBW⟩
                case measure => simp [intOf]; omega
              · have he := emptyX h
                have hd := dotT h
                clear h
                go_wp2
                go_roundw
                case rel => exact ⟨k + 1, by go_num, by omega, ⟨a7, c7, by rw [HGE.out]⟩, by rw [HGE.out]; exact HO7, HBW⟩
                case measure => simp [intOf]; omega
            · have HGE : Hid (good ((parts s).take (k + 1)) = good ((parts s).take k) ++ [x]) := by show _ = _; rw [HGK.out, if_neg hsk]
              have hno : ¬ (x = [] ∨ x = [46]) := fun h => hsk (decide_eq_true h)
              have he := emptyF (fun h => hno (.inl h))
              have hd := dotF (fun h => hno (.inr h))
              have hba : Below wr.heap.size wr (wr.alloc (.cells #[.string (mk x)] 9)) := (Below.refl _ _).alloc (Nat.le_refl _) _
              have HOA : Hid (SOwn (wr.alloc (.cells #[.string (mk x)] 9)) w3.heap.size (.slice a7 (good ((parts s).take k)).length c7) (good ((parts s).take k))) := (KeepCD.below hba).row HO7.out
              have HCA : Hid ((wr.alloc (.cells #[.string (mk x)] 9)).cell? ⟨wr.heap.size, 0, none⟩ = some (.string (mk x))) := cell1 (heap_new _ _)
              have HBA := Lib.hid hba
              have hsz := HBW.out.size
              have HL7 := HGT.out k
              obtain ⟨m, hm⟩ : ∃ m, m = (good ((parts s).take k)).length := ⟨_, rfl⟩
              rw [← hm] at HL7 HOA
              have HM := Lib.hid hm
              rw [← hm]
              clear hsk hno hba hm
              go_wp2_with (at_builtin; go_must (refine append_str rfl (.tmp 67) (.tmp 72) rfl w3.heap.size (.slice a7 m c7) (good ((parts s).take k)) x rfl HOA.out ⟨wr.heap.size, 0, none⟩ 1 rfl HCA.out (by rw [← HM.out]; omega) (by simp; omega) ?_))
              intro v5 w5 HO5 HG5
              have HB5 : Hid (Below w3.heap.size w3 w5) := Below.grown (w := wr.alloc (.cells #[.string (mk x)] 9)) (HBW.out.trans (HBA.out.mono hsz)) HG5.out (by simp; omega) (fun q hq => (HOA.out.base_le q hq).1)
              obtain ⟨a5, c5, e5⟩ := HO5.out.slice
              have hl5 : (good ((parts s).take k) ++ [x]).length = m + 1 := by rw [List.length_append, ← HM.out]; rfl
              rw [hl5] at e5
              subst e5
              have HL5 := Lib.hid hl5
              clear hl5
              go_wp2
              go_roundw
              case rel => exact ⟨k + 1, by go_num, by omega, ⟨a5, c5, by rw [HGE.out, HL5.out]⟩, by rw [HGE.out]; exact HO5, HB5⟩
              case measure => simp [intOf]; omega
          · have hI2 : ¬ (k : Int) < (n : Int) := by omega
            have hkn : k = n := by omega
            have HT7 : Hid (Txt wr (.slice a7 (good ((parts s).take k)).length c7) (parts p)) := by
              show Txt _ _ _
              rw [HPW.out, ← HGOOD.out, ← hkn]
              exact HO7.out.txt
            generalize (good ((parts s).take k)).length = m at *
            have HBR : Hid (Below w.heap.size w wr) := HB3.out.trans (HBW.out.mono HB3.out.size)
            clear HO7 hkn
            go_wp2_with (first
              | (go_at_call 10; refine (HR2.out _).mono ?_; rintro e w6 ⟨rfl, hb⟩; have HB6 := Lib.hid hb; clear hb)
              | (go_at_call 13; refine (HS2.out _).mono ?_; rintro e w7 ⟨v9, rfl, hO, hb⟩; obtain ⟨a9, c9, e9⟩ := hO.slice; have HT9 := Lib.hid hO.txt; have HB7 := Lib.hid hb; clear hb hO; subst e9)
              | (go_at_call 12; refine (HTX.out _ _ _ HT9.out (HT7.out.later (HB6.out.trans (HB7.out.mono HB6.out.size)))).mono ?_; rintro e w8 ⟨rfl, hd⟩; have HB9 : Hid (Below w.heap.size w w8) := HBR.out.trans ((HB6.out.trans ((HB7.out.trans (hd.below.mono HB7.out.size)).mono HB6.out.size)).mono HBR.out.size); clear hd)
              | (go_at_call 19; refine (HD.out _ HB9.out).mono ?_; rintro e wa ⟨rfl, hb⟩; have HB9 := Lib.hid hb; clear hb)
              | (go_at_call 21; refine (HA.out _ HB9.out).mono ?_; rintro e wb ⟨rfl, hb⟩; have HB9 := Lib.hid hb; clear hb))
            go_ret
            exact ⟨rfl, HB9.out⟩
end Go.Proofs.Yteimbdbnipfmkaa.Pa
