/- rules: TopSeen. (A template.) -/
import Derived.Test.YtalbmkkplphahabDoorRuAlive
import Derived.Test.YtalbmkkplphahabDoorRuCheck
import Derived.Test.YtalbmkkplphahabDoorRuBelowM
import Derived.Test.YtalbmkkplphahabDoorRuBackM
namespace Go.Proofs.YtalbmkkplphahabDoor.Pa
open Go.RowKit
set_option linter.unusedVariables false
set_option linter.unusedSimpArgs false
set_option maxRecDepth 1000000

def TW (w : World) (v : Value) (L : List Ru) (W : World) : Prop := RuAt W v L ∧ Below w.heap.size w W
theorem TW.keep {w W W' : World} {v : Value} {L : List Ru} (h : TW w v L W) (hb : Below W.heap.size W W') : TW w v L W' := ⟨h.1.later hb, h.2.trans (hb.mono h.2.size)⟩
theorem badE_all {L : List Ru} (h : badE L = 0) : ∀ r ∈ L, refE r.act r.pat = 0 := by
  induction L with
  | nil => simp
  | cons r L ih =>
    rw [badE] at h
    by_cases hz : refE r.act r.pat = 0
    · rw [if_neg (by simpa using hz)] at h
      intro x hx
      rcases List.mem_cons.1 hx with rfl | hx
      · exact hz
      · exact ih h x hx
    · rw [if_pos hz] at h; exact absurd h hz
theorem ref_short {r : Ru} (h : refE r.act r.pat = 0) : r.pat.length ≤ 100 := by
  unfold refE at h
  by_cases h1 : misE r.act r.pat = 0
  · rw [if_neg (by simpa using h1)] at h
    unfold readE at h
    by_cases h2 : r.pat.length ≤ 100
    · exact h2
    · rw [if_neg h2] at h; simp at h
  · rw [if_pos h1] at h; exact absurd h h1
theorem textGo_all (L : List Ru) (h : ∀ r ∈ L, refE r.act r.pat = 0) : ∀ acc : L8, (textGo acc L).2 = 0 ∧ (textGo acc L).1.length ≤ acc.length + L.length * 105 := by
  induction L with
  | nil => intro acc; rw [textGo]; simp
  | cons r L ih =>
    intro acc
    have hz := h r (by simp)
    rw [textGo, if_neg (by simpa using hz)]
    obtain ⟨h1, h2⟩ := ih (fun x hx => h x (by simp [hx])) (acc ++ lineOf r ++ [10])
    have h3 := lineOf_len r
    have h4 := ref_short hz
    refine ⟨h1, ?_⟩
    simp only [List.length_append, List.length_cons, List.length_nil] at h2 ⊢
    omega
theorem hid_none (p : L8) (dir : Bool) : hiddenB [] p dir = false := by
  have h : ∀ n p d, hidN [] n p d = false := by
    intro n
    induction n with
    | zero => intro p d; rfl
    | succ n ih =>
      intro p d
      rw [hidN_eq]
      split
      · rfl
      · rw [if_neg (by unfold firstR; simp), ih]
  unfold hiddenB
  rw [h, Bool.and_false]
set_option maxHeartbeats 16000000 in
theorem topSeen_walk (L : List Ru) (v : Value) (p : L8) (dir : Bool) (w : World) (hv : RuAt w v L) (hpl : ∀ r ∈ L, r.pat.length ≤ maxLen) (hl : p.length ≤ maxLen) :
    Calls Tryd.prog 8 #[v, .string (mk p), .bool dir] w fun e w' => e = .returned (.bool true) ∧ Below w.heap.size w w' := by
  unfold maxLen at hpl hl
  have HK : Hid (TW w v L w) := ⟨hv, Below.refl _ _⟩
  have HAL : Hid (∀ W, TW w v L W → Calls Tryd.prog 28 #[] W fun e w' => e = .returned (.bool true) ∧ TW w v L w') := fun W hk => (alive_any W).mono fun e w' ⟨h1, h2⟩ => ⟨h1, hk.keep h2⟩
  have hsp : (mk p).size = p.length := mk_size p
  obtain ⟨a, c, ea, -⟩ := hv
  subst ea
  by_cases hA : 12 < L.length
  · have hI : (12 : Int) < (L.length : Int) := by omega
    clear hA hsp hpl hl
    generalize mk p = s at *
    go_enter Tryd.func8, Tryd.ntmps8
    go_wp2_with (first
      | (go_at_call 28; (with_reducible refine (HAL.out _ HK.out).mono ?_); rintro e w1 ⟨rfl, hk⟩; have HK := Lib.hid hk; clear hk))
    go_ret
    exact ⟨rfl, HK.out.2⟩
  · have hI : ¬ (12 : Int) < (L.length : Int) := by omega
    by_cases hB : 250 < p.length
    · have hI2 : (250 : Int) < ((mk p).size : Int) := by omega
      clear hA hB hsp hpl hl
      generalize mk p = s at *
      go_enter Tryd.func8, Tryd.ntmps8
      go_wp2_with (first
        | (go_at_call 28; (with_reducible refine (HAL.out _ HK.out).mono ?_); rintro e w1 ⟨rfl, hk⟩; have HK := Lib.hid hk; clear hk))
      go_ret
      exact ⟨rfl, HK.out.2⟩
    · have hI2 : ¬ (250 : Int) < ((mk p).size : Int) := by omega
      have hp3 : p.length ≤ 250 := by omega
      have HCK : Hid (∀ W, TW w (.slice a L.length c) L W → Calls Tryd.prog 25 #[.slice a L.length c] W fun e w' => e = .returned (.int .i64 (checkE L)) ∧ TW w (.slice a L.length c) L w') := fun W hk => (check_rules L _ W hk.1 ⟨by omega, fun r hr => by have := hpl r hr; omega⟩).mono fun e w' ⟨h1, h2⟩ => ⟨h1, hk.keep h2⟩
      have HRT : Hid (∀ W, TW w (.slice a L.length c) L W → Calls Tryd.prog 19 #[.string (mk p)] W fun e w' => e = .returned (.bool (rightB p)) ∧ TW w (.slice a L.length c) L w') := fun W hk => (right_any p W (by omega)).mono fun e w' ⟨h1, h2⟩ => ⟨h1, hk.keep h2⟩
      have hl12 : L.length ≤ 12 := by omega
      clear hA hB hsp hpl hl
      by_cases hC : checkE L = 0
      · rw [hC] at HCK
        by_cases hR : rightB p = true
        · rw [hR] at HRT
          by_cases hp0 : p = []
          · have he := emptyT hp0
            clear hC hR hp0 hp3 hl12
            generalize mk p = s at *
            go_enter Tryd.func8, Tryd.ntmps8
            go_wp2_with (first
              | (go_at_call 25; (with_reducible refine (HCK.out _ HK.out).mono ?_); rintro e w1 ⟨rfl, hk⟩; have HK := Lib.hid hk; clear hk)
              | (go_at_call 19; (with_reducible refine (HRT.out _ HK.out).mono ?_); rintro e w1 ⟨rfl, hk⟩; have HK := Lib.hid hk; clear hk)
              | (go_at_call 28; (with_reducible refine (HAL.out _ HK.out).mono ?_); rintro e w1 ⟨rfl, hk⟩; have HK := Lib.hid hk; clear hk))
            go_ret
            exact ⟨rfl, HK.out.2⟩
          · have he := emptyF hp0
            obtain ⟨g, hg, rfl⟩ := right_fine hR
            have hg0 : g ≠ [] := fun e => hp0 (by rw [e]; rfl)
            have hall : ∀ r ∈ L, refE r.act r.pat = 0 := by
              unfold checkE at hC
              rw [if_neg (by omega)] at hC
              exact badE_all hC
            have hLR : LightR L := lightOf (by omega) (fun r hr => by have := ref_short (hall r hr); omega)
            obtain ⟨X, hX⟩ : ∃ X, X = (textR L).1 := ⟨_, rfl⟩
            have hTX : textR L = (X, 0) ∧ X.length ≤ 1000000 := by
              have h := textGo_all L hall []
              have e : textR L = textGo [] L := by unfold textR; rw [if_neg (by omega)]
              rw [hX, e]
              refine ⟨Prod.ext rfl h.1, ?_⟩
              have := h.2
              simp only [List.length_nil] at this
              omega
            have hLX := lines_text hTX.1
            obtain ⟨B, hB⟩ : ∃ B, B = hiddenB L (glue g) dir := ⟨_, rfl⟩
            obtain ⟨F, hF⟩ : ∃ F, F = safeB L (glue g) dir := ⟨_, rfl⟩
            have HTX : Hid (∀ W, TW w (.slice a L.length c) L W → Calls Tryd.prog 17 #[.slice a L.length c] W fun e w' => e = .returned (.tuple #[.string (mk X), .int .i64 0]) ∧ TW w (.slice a L.length c) L w') := fun W hk => by
              have h := text_any L (.slice a L.length c) W hk.1 (fun r hr => by have := ref_short (hall r hr); omega)
              rw [hTX.1] at h
              exact Calls.mono h fun e w' ⟨h1, h2⟩ => ⟨h1, hk.keep h2⟩
            have HLS : Hid (∀ W, TW w (.slice a L.length c) L W → Calls Tryd.prog 12 #[.string (mk X)] W fun e w' => ∃ a2 c2, e = .returned (.tuple #[.slice a2 L.length c2, .int .i64 0, .int .i64 0]) ∧ RuAt w' (.slice a2 L.length c2) L ∧ TW w (.slice a L.length c) L w') := fun W hk => by
              have h := lines_any X W hTX.2
              rw [hLX] at h
              refine Calls.mono h ?_
              rintro e w' ⟨v, h1, h2, h3⟩
              obtain ⟨a2, c2, rfl⟩ := h2.slice
              exact ⟨a2, c2, h1, h2.at, hk.keep h3⟩
            have HHB : Hid (∀ W, TW w (.slice a L.length c) L W → Calls Tryd.prog 20 #[.slice a L.length c, .string (mk (glue g)), .bool dir] W fun e w' => e = .returned (.bool B) ∧ TW w (.slice a L.length c) L w') := fun W hk => by
              have h := hidden_any L (.slice a L.length c) (glue g) dir W hk.1 hLR (by omega)
              rw [← hB] at h
              exact Calls.mono h fun e w' ⟨h1, h2⟩ => ⟨h1, hk.keep h2⟩
            have HM1 : Hid (∀ W v2, RuAt W v2 L ∧ TW w (.slice a L.length c) L W → Calls Tryd.prog 20 #[v2, .string (mk (glue g)), .bool dir] W fun e w' => e = .returned (.bool B) ∧ (RuAt w' v2 L ∧ TW w (.slice a L.length c) L w')) := fun W v2 hk => by
              have h := hidden_any L v2 (glue g) dir W hk.1 hLR (by omega)
              rw [← hB] at h
              exact Calls.mono h fun e w' ⟨h1, h2⟩ => ⟨h1, hk.1.later h2, hk.2.keep h2⟩
            have HM2 : Hid (∀ W v2, RuAt W v2 L ∧ TW w (.slice a L.length c) L W → Calls Tryd.prog 20 #[.slice a L.length c, .string (mk (glue g)), .bool dir] W fun e w' => e = .returned (.bool B) ∧ (RuAt w' v2 L ∧ TW w (.slice a L.length c) L w')) := fun W v2 hk => by
              have h := hidden_any L (.slice a L.length c) (glue g) dir W hk.2.1 hLR (by omega)
              rw [← hB] at h
              exact Calls.mono h fun e w' ⟨h1, h2⟩ => ⟨h1, hk.1.later h2, hk.2.keep h2⟩
            have HM3 : Hid (∀ W v2, RuAt W v2 L ∧ TW w (.slice a L.length c) L W → Calls Tryd.prog 24 #[v2, .string (mk (glue g)), .bool dir] W fun e w' => e = .returned (.bool F) ∧ (RuAt w' v2 L ∧ TW w (.slice a L.length c) L w')) := fun W v2 hk => by
              have h := safe_any L v2 (glue g) dir W hk.1 hLR (by omega)
              rw [← hF] at h
              exact Calls.mono h fun e w' ⟨h1, h2⟩ => ⟨h1, hk.1.later h2, hk.2.keep h2⟩
            have HM4 : Hid (∀ W v2, RuAt W v2 L ∧ TW w (.slice a L.length c) L W → Calls Tryd.prog 24 #[.slice a L.length c, .string (mk (glue g)), .bool dir] W fun e w' => e = .returned (.bool F) ∧ (RuAt w' v2 L ∧ TW w (.slice a L.length c) L w')) := fun W v2 hk => by
              have h := safe_any L (.slice a L.length c) (glue g) dir W hk.2.1 hLR (by omega)
              rw [← hF] at h
              exact Calls.mono h fun e w' ⟨h1, h2⟩ => ⟨h1, hk.1.later h2, hk.2.keep h2⟩
            have HM5 : Hid (∀ W v2, RuAt W v2 L ∧ TW w (.slice a L.length c) L W → Calls Tryd.prog 20 #[.slice none 0 0, .string (mk (glue g)), .bool dir] W fun e w' => e = .returned (.bool false) ∧ (RuAt w' v2 L ∧ TW w (.slice a L.length c) L w')) := fun W v2 hk => by
              have h := hidden_any [] (.slice none 0 0) (glue g) dir W ⟨none, 0, rfl, fun h => absurd rfl h⟩ ⟨by simp, by simp⟩ (by omega)
              rw [hid_none] at h
              exact Calls.mono h fun e w' ⟨h1, h2⟩ => ⟨h1, hk.1.later h2, hk.2.keep h2⟩
            have HM6 : Hid (∀ W v2, RuAt W v2 L ∧ TW w (.slice a L.length c) L W → Calls Tryd.prog 28 #[] W fun e w' => e = .returned (.bool true) ∧ (RuAt w' v2 L ∧ TW w (.slice a L.length c) L w')) := fun W v2 hk => (alive_any W).mono fun e w' ⟨h1, h2⟩ => ⟨h1, hk.1.later h2, hk.2.keep h2⟩
            have hd0 : depth (glue g) = g.length := by unfold depth; rw [hg.parts]
            have HDP : Hid (∀ W, TW w (.slice a L.length c) L W → Calls Tryd.prog 29 #[.string (mk (glue g))] W fun e w' => e = .returned (.int .i64 (g.length : Int)) ∧ TW w (.slice a L.length c) L w') := fun W hk => by
              have h := depth_any (glue g) W (by omega)
              rw [hd0] at h
              exact Calls.mono h fun e w' ⟨h1, h2⟩ => ⟨h1, h2 ▸ hk⟩
            have hgl : 0 < g.length := List.length_pos_iff.2 hg0
            have hu0 : parentL (glue g) = glue (g.take (g.length - 1)) := by
              have h := up_take hg (g.length - 1) (by omega)
              rw [Nat.sub_add_cancel hgl, List.take_length] at h
              exact h
            have HP0 : Hid (∀ W, TW w (.slice a L.length c) L W → Calls Tryd.prog 22 #[.string (mk (glue g))] W fun e w' => e = .returned (.string (mk (glue (g.take (g.length - 1))))) ∧ TW w (.slice a L.length c) L w') := fun W hk => by
              have h := parent_any (glue g) W (by omega)
              rw [hu0] at h
              exact Calls.mono h fun e w' ⟨h1, h2⟩ => ⟨h1, h2 ▸ hk⟩
            have HFI := Lib.hid hg
            have HLR := Lib.hid hLR
            have HGL := Lib.hid hgl
            have HBB := Lib.hid hB
            clear hC hR hp0 hp3 hl12 hg hg0 hall hLR hX hTX hLX hF hd0 hgl hu0 hB
            generalize hsg : mk (glue g) = s at *
            have HSG := Lib.hid hsg
            clear hsg
            go_enter Tryd.func8, Tryd.ntmps8
            go_wp2_with (first
              | (go_at_call 25; (with_reducible refine (HCK.out _ HK.out).mono ?_); rintro e w1 ⟨rfl, hk⟩; have HK := Lib.hid hk; clear hk)
              | (go_at_call 19; (with_reducible refine (HRT.out _ HK.out).mono ?_); rintro e w1 ⟨rfl, hk⟩; have HK := Lib.hid hk; clear hk)
              | (go_at_call 22; (with_reducible refine (HP0.out _ HK.out).mono ?_); rintro e w1 ⟨rfl, hk⟩; have HK := Lib.hid hk; clear hk))
            go_loopw [7] (fun x wr => ∃ j : Nat, x = .string (mk (glue (g.take j))) ∧ Hid (j < g.length) ∧ Hid (TW w (.slice a L.length c) L wr)) (fun x _ => match x with | .string s => s.size | _ => 0)
            case atStart => exact ⟨g.length - 1, rfl, by show _ < _; have := HGL.out; omega, HK⟩
            case round =>
              clear HK HP0 HCK HRT
              obtain ⟨j, rfl, HJ, HK⟩ := hrel
              cases j with
              | zero =>
                have hex : (mk (glue (g.take 0))).toList.isEmpty = true := emptyT (by simp [glue])
                clear HHB HDP
                generalize mk (glue (g.take 0)) = sx at *
                generalize mk X = st at *
                go_wp2_with (first
                  | (go_at_call 17; (with_reducible refine (HTX.out _ HK.out).mono ?_); rintro e w1 ⟨rfl, hk⟩; have HK := Lib.hid hk; clear hk)
                  | (go_at_call 12; (with_reducible refine (HLS.out _ HK.out).mono ?_); rintro e w2 ⟨a2, c2, rfl, hat, hk⟩; have HX := Lib.hid (And.intro hat hk); clear hk hat)
                  | (go_at_call 20; (with_reducible refine (HM1.out _ _ HX.out).mono ?_); rintro e w3 ⟨rfl, hk⟩; have HX := Lib.hid hk; clear hk HM1)
                  | (go_at_call 20; (with_reducible refine (HM2.out _ _ HX.out).mono ?_); rintro e w4 ⟨rfl, hk⟩; have HX := Lib.hid hk; clear hk HM2)
                  | (go_at_call 24; (with_reducible refine (HM3.out _ _ HX.out).mono ?_); rintro e w5 ⟨rfl, hk⟩; have HX := Lib.hid hk; clear hk HM3)
                  | (go_at_call 24; (with_reducible refine (HM4.out _ _ HX.out).mono ?_); rintro e w6 ⟨rfl, hk⟩; have HX := Lib.hid hk; clear hk HM4)
                  | (go_at_call 20; (with_reducible refine (HM5.out _ _ HX.out).mono ?_); rintro e w7 ⟨rfl, hk⟩; have HX := Lib.hid hk; clear hk HM5)
                  | (go_at_call 28; (with_reducible refine (HM6.out _ _ HX.out).mono ?_); rintro e w8 ⟨rfl, hk⟩; have HX := Lib.hid hk; clear hk))
                go_ret
                exact ⟨rfl, HX.out.2.2⟩
              | succ j =>
                have hfin := HFI.out
                have hjl := HJ.out
                have hne := glue_take_ne hfin j (by omega)
                have hup := up_take hfin j (by omega)
                have hlt := parentL_lt hne
                have hshort := (hfin.take (j + 1)).short
                have hex := emptyF hne
                have hbel : hiddenB L (glue (g.take (j + 1))) true = true → B = true := fun h => by
                  have h1 : Fine (g.take (j + 1) ++ g.drop (j + 1)) := by rw [List.take_append_drop]; exact hfin
                  have h2 := below_hidden L (hfin.take (j + 1)) h1 (fun e => hne (by rw [e]; rfl)) (fun e => by have := congrArg List.length e; rw [List.length_drop, List.length_nil] at this; omega) dir h
                  rw [List.take_append_drop] at h2
                  rw [HBB.out]; exact h2
                obtain ⟨H, hH⟩ : ∃ H, H = hiddenB L (glue (g.take (j + 1))) true := ⟨_, rfl⟩
                rw [← hH] at hbel
                have HHU : Hid (∀ W, TW w (.slice a L.length c) L W → Calls Tryd.prog 20 #[.slice a L.length c, .string (mk (glue (g.take (j + 1)))), .bool true] W fun e w' => e = .returned (.bool H) ∧ TW w (.slice a L.length c) L w') := fun W hk => by
                  have h := hidden_any L (.slice a L.length c) (glue (g.take (j + 1))) true W hk.1 HLR.out (by omega)
                  rw [← hH] at h
                  exact Calls.mono h fun e w' ⟨h1, h2⟩ => ⟨h1, hk.keep h2⟩
                have HDU : Hid (∀ W, TW w (.slice a L.length c) L W → Calls Tryd.prog 29 #[.string (mk (glue (g.take (j + 1))))] W fun e w' => e = .returned (.int .i64 ((j : Int) + 1)) ∧ TW w (.slice a L.length c) L w') := fun W hk => by
                  have h := depth_any (glue (g.take (j + 1))) W (by omega)
                  have e : (depth (glue (g.take (j + 1))) : Int) = (j : Int) + 1 := by unfold depth; rw [(hfin.take (j + 1)).parts, List.length_take]; omega
                  rw [e] at h
                  exact Calls.mono h fun e w' ⟨h1, h2⟩ => ⟨h1, h2 ▸ hk⟩
                have HUN : Hid (∀ W, TW w (.slice a L.length c) L W → Calls Tryd.prog 30 #[.string s, .string (mk (glue (g.take (j + 1))))] W fun e w' => e = .returned (.bool true) ∧ TW w (.slice a L.length c) L w') := fun W hk => by
                  have h := under_any (glue g) (glue (g.take (j + 1))) W
                  have e : underB (glue g) (glue (g.take (j + 1))) = true := (under_parts _ _).2 (by rw [(hfin.take (j + 1)).parts, hfin.parts]; exact List.take_prefix _ _)
                  rw [e, HSG.out] at h
                  exact Calls.mono h fun e w' ⟨h1, h2⟩ => ⟨h1, h2 ▸ hk⟩
                have HPA : Hid (∀ W, TW w (.slice a L.length c) L W → Calls Tryd.prog 22 #[.string (mk (glue (g.take (j + 1))))] W fun e w' => e = .returned (.string (mk (glue (g.take j)))) ∧ TW w (.slice a L.length c) L w') := fun W hk => by
                  have h := parent_any (glue (g.take (j + 1))) W (by omega)
                  rw [hup] at h
                  exact Calls.mono h fun e w' ⟨h1, h2⟩ => ⟨h1, h2 ▸ hk⟩
                have HSZ : Hid ((mk (glue (g.take j))).size < (mk (glue (g.take (j + 1)))).size) := by show _ < _; rw [mk_size, mk_size, ← hup]; exact hlt
                have hI5 : ¬ (g.length : Int) ≤ (j : Int) + 1 := by omega
                clear hfin hjl hne hup hlt hshort hH HM1 HM2 HM3 HM4 HM5 HM6 HTX HLS HBB HSG
                generalize mk (glue (g.take (j + 1))) = sx at *
                generalize hsy : mk (glue (g.take j)) = sy at *
                cases hHv : H with
                | false =>
                  subst hHv
                  clear hbel
                  go_wp2_with (first
                    | (go_at_call 20; (with_reducible refine (HHU.out _ HK.out).mono ?_); rintro e w1 ⟨rfl, hk⟩; have HK := Lib.hid hk; clear hk)
                    | (go_at_call 29; (with_reducible refine (HDU.out _ HK.out).mono ?_); rintro e w1 ⟨rfl, hk⟩; have HK := Lib.hid hk; clear hk)
                    | (go_at_call 29; (with_reducible refine (HDP.out _ HK.out).mono ?_); rintro e w1 ⟨rfl, hk⟩; have HK := Lib.hid hk; clear hk)
                    | (go_at_call 30; (with_reducible refine (HUN.out _ HK.out).mono ?_); rintro e w1 ⟨rfl, hk⟩; have HK := Lib.hid hk; clear hk)
                    | (go_at_call 22; (with_reducible refine (HPA.out _ HK.out).mono ?_); rintro e w1 ⟨rfl, hk⟩; have HK := Lib.hid hk; clear hk))
                  go_roundw
                  case rel => exact ⟨j, by rw [← hsy], by show _ < _; have := HJ.out; omega, HK⟩
                  case measure => exact HSZ.out
                | true =>
                  subst hHv
                  have hb := hbel rfl
                  subst hb
                  clear hbel
                  go_wp2_with (first
                    | (go_at_call 20; (with_reducible refine (HHU.out _ HK.out).mono ?_); rintro e w1 ⟨rfl, hk⟩; have HK := Lib.hid hk; clear hk)
                    | (go_at_call 20; (with_reducible refine (HHB.out _ HK.out).mono ?_); rintro e w1 ⟨rfl, hk⟩; have HK := Lib.hid hk; clear hk)
                    | (go_at_call 29; (with_reducible refine (HDU.out _ HK.out).mono ?_); rintro e w1 ⟨rfl, hk⟩; have HK := Lib.hid hk; clear hk)
                    | (go_at_call 29; (with_reducible refine (HDP.out _ HK.out).mono ?_); rintro e w1 ⟨rfl, hk⟩; have HK := Lib.hid hk; clear hk)
                    | (go_at_call 30; (with_reducible refine (HUN.out _ HK.out).mono ?_); rintro e w1 ⟨rfl, hk⟩; have HK := Lib.hid hk; clear hk)
                    | (go_at_call 22; (with_reducible refine (HPA.out _ HK.out).mono ?_); rintro e w1 ⟨rfl, hk⟩; have HK := Lib.hid hk; clear hk))
                  go_roundw
                  case rel => exact ⟨j, by rw [← hsy], by show _ < _; have := HJ.out; omega, HK⟩
                  case measure => exact HSZ.out
        · have hR2 : rightB p = false := by simpa using hR
          rw [hR2] at HRT
          clear hC hR hR2 hp3 hl12
          generalize mk p = s at *
          go_enter Tryd.func8, Tryd.ntmps8
          go_wp2_with (first
            | (go_at_call 25; (with_reducible refine (HCK.out _ HK.out).mono ?_); rintro e w1 ⟨rfl, hk⟩; have HK := Lib.hid hk; clear hk)
            | (go_at_call 19; (with_reducible refine (HRT.out _ HK.out).mono ?_); rintro e w1 ⟨rfl, hk⟩; have HK := Lib.hid hk; clear hk)
            | (go_at_call 28; (with_reducible refine (HAL.out _ HK.out).mono ?_); rintro e w1 ⟨rfl, hk⟩; have HK := Lib.hid hk; clear hk))
          go_ret
          exact ⟨rfl, HK.out.2⟩
      · have hC2 : (checkE L == 0) = false := by simpa using hC
        clear HRT hp3 hl12
        generalize checkE L = er at *
        generalize mk p = s at *
        go_enter Tryd.func8, Tryd.ntmps8
        go_wp2_with (first
          | (go_at_call 25; (with_reducible refine (HCK.out _ HK.out).mono ?_); rintro e w1 ⟨rfl, hk⟩; have HK := Lib.hid hk; clear hk)
          | (go_at_call 28; (with_reducible refine (HAL.out _ HK.out).mono ?_); rintro e w1 ⟨rfl, hk⟩; have HK := Lib.hid hk; clear hk))
        go_ret
        exact ⟨rfl, HK.out.2⟩
end Go.Proofs.YtalbmkkplphahabDoor.Pa
