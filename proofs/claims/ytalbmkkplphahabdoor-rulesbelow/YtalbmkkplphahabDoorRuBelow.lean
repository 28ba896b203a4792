/- rules: the law of what is below a hidden directory. (A template.) -/
import Derived.Test.YtalbmkkplphahabDoorRuAwake
import Derived.Test.YtalbmkkplphahabDoorRuLight
import Derived.Test.YtalbmkkplphahabDoorRuBelowM
namespace Go.Proofs.YtalbmkkplphahabDoor.Pa
open Go.RowKit
set_option linter.unusedVariables false
set_option linter.unusedSimpArgs false
set_option maxRecDepth 1000000

def BW (w : World) (v : Value) (L : List Ru) (W : World) : Prop := RuAt W v L ∧ Below w.heap.size w W
theorem BW.keep {w W W' : World} {v : Value} {L : List Ru} (h : BW w v L W) (hb : Below W.heap.size W W') : BW w v L W' := ⟨h.1.later hb, h.2.trans (hb.mono h.2.size)⟩
set_option maxHeartbeats 16000000 in
theorem rulesBelow_walk (L : List Ru) (v : Value) (p q : L8) (dir : Bool) (w : World) (hv : RuAt w v L) (hlp : p.length ≤ maxLen) (hlq : q.length ≤ maxLen) :
    Calls Tryd.prog 5 #[v, .string (mk p), .string (mk q), .bool dir] w fun e w' => e = .returned (.bool true) ∧ Below w.heap.size w w' := by
  unfold maxLen at hlp hlq
  have HK : Hid (BW w v L w) := ⟨hv, Below.refl _ _⟩
  have HAK : Hid (∀ W, BW w v L W → Calls Tryd.prog 9 #[] W fun e w' => e = .returned (.bool true) ∧ BW w v L w') := fun W hk => (awake_ru W).mono fun e w' ⟨h1, h2⟩ => ⟨h1, hk.keep h2⟩
  have HLI : Hid (∀ W, BW w v L W → Calls Tryd.prog 15 #[v] W fun e w' => e = .returned (.bool (lightB L)) ∧ BW w v L w') := fun W hk => (light_any L v W hk.1).mono fun e w' ⟨h1, h2⟩ => ⟨h1, hk.keep h2⟩
  have hsp : (mk p).size = p.length := mk_size p
  have hsq : (mk q).size = q.length := mk_size q
  clear hv
  by_cases hA : lightB L = true
  · rw [hA] at HLI
    have hll := lightB_of hA
    have hLR : LightR L := lightOf (by omega) (fun r hr => by have := hll.2 r hr; omega)
    clear hA hll
    by_cases hB : 300 < p.length
    · have hI : (300 : Int) < ((mk p).size : Int) := by omega
      clear hB hsp hsq hLR hlp hlq
      generalize mk p = s at *
      generalize mk q = s2 at *
      go_enter Tryd.func5, Tryd.ntmps5
      go_wp2_with (first
        | (go_at_call 15; (with_reducible refine (HLI.out _ HK.out).mono ?_); rintro e w1 ⟨rfl, hk⟩; have HK := Lib.hid hk; clear hk)
        | (go_at_call 9; (with_reducible refine (HAK.out _ HK.out).mono ?_); rintro e w1 ⟨rfl, hk⟩; have HK := Lib.hid hk; clear hk))
      go_ret
      exact ⟨rfl, HK.out.2⟩
    · have hI : ¬ (300 : Int) < ((mk p).size : Int) := by omega
      by_cases hC : 300 < q.length
      · have hI2 : (300 : Int) < ((mk q).size : Int) := by omega
        clear hB hC hsp hsq hLR hlp hlq
        generalize mk p = s at *
        generalize mk q = s2 at *
        go_enter Tryd.func5, Tryd.ntmps5
        go_wp2_with (first
          | (go_at_call 15; (with_reducible refine (HLI.out _ HK.out).mono ?_); rintro e w1 ⟨rfl, hk⟩; have HK := Lib.hid hk; clear hk)
          | (go_at_call 9; (with_reducible refine (HAK.out _ HK.out).mono ?_); rintro e w1 ⟨rfl, hk⟩; have HK := Lib.hid hk; clear hk))
        go_ret
        exact ⟨rfl, HK.out.2⟩
      · have hI2 : ¬ (300 : Int) < ((mk q).size : Int) := by omega
        have hp3 : p.length ≤ 300 := by omega
        have hq3 : q.length ≤ 300 := by omega
        have HJO : Hid (∀ W, BW w v L W → Calls Tryd.prog 18 #[.slice (some ⟨W.heap.size, 0, none⟩) 2 2] (W.alloc (.cells #[.string (mk p), .string (mk q)] 9)) fun e w' => e = .returned (.tuple #[.string (mk (jn [p, q]).1), .int .i64 (jn [p, q]).2]) ∧ BW w v L w') := by
          intro W hk
          have hb : Below W.heap.size W (W.alloc (.cells #[.string (mk p), .string (mk q)] 9)) := (Below.refl _ _).alloc (Nat.le_refl _) _
          have h := join_loop W.heap.size 0 2 2 [p, q] (W.alloc (.cells #[.string (mk p), .string (mk q)] 9)) rfl (by omega) (by simp)
            (by
              intro i s hs
              refine lit_cell W _ i _ ?_
              match i, hs with
              | 0, hs => simp at hs; subst hs; rfl
              | 1, hs => simp at hs; subst hs; rfl
              | i + 2, hs => simp at hs)
            (by intro s hs; simp at hs; rcases hs with rfl | rfl <;> omega)
            (by
              have e : allParts [p, q] = parts p ++ parts q := by simp [allParts]
              rw [e, List.length_append]
              have := parts_len p
              have := parts_len q
              omega)
          exact h.mono fun e w' ⟨h1, h2⟩ => ⟨h1, (hk.keep hb).keep h2⟩
        have HRT : Hid (∀ W, BW w v L W → Calls Tryd.prog 19 #[.string (mk p)] W fun e w' => e = .returned (.bool (rightB p)) ∧ BW w v L w') := fun W hk => (right_any p W (by omega)).mono fun e w' ⟨h1, h2⟩ => ⟨h1, hk.keep h2⟩
        clear hB hC hsp hsq hlp hlq
        by_cases hE : (jn [p, q]).2 = 0
        · rw [hE] at HJO
          by_cases hR : rightB p = true
          · rw [hR] at HRT
            by_cases hp0 : p = []
            · have he := emptyT hp0
              clear hE hR hp0 hLR hp3 hq3
              generalize mk (jn [p, q]).1 = sb at *
              generalize mk p = s at *
              generalize mk q = s2 at *
              go_enter Tryd.func5, Tryd.ntmps5
              go_wp2_with (first
                | (go_at_call 15; (with_reducible refine (HLI.out _ HK.out).mono ?_); rintro e w1 ⟨rfl, hk⟩; have HK := Lib.hid hk; clear hk)
                | (go_at_call 18; (with_reducible refine (HJO.out _ HK.out).mono ?_); rintro e w1 ⟨rfl, hk⟩; have HK := Lib.hid hk; clear hk)
                | (go_at_call 19; (with_reducible refine (HRT.out _ HK.out).mono ?_); rintro e w1 ⟨rfl, hk⟩; have HK := Lib.hid hk; clear hk)
                | (go_at_call 9; (with_reducible refine (HAK.out _ HK.out).mono ?_); rintro e w1 ⟨rfl, hk⟩; have HK := Lib.hid hk; clear hk))
              go_ret
              exact ⟨rfl, HK.out.2⟩
            · have he := emptyF hp0
              by_cases hbp : (jn [p, q]).1 = p
              · have hx : ((mk (jn [p, q]).1).toList == (mk p).toList) = true := eqTT hbp
                clear hE hR hp0 hLR hp3 hq3 hbp
                generalize mk (jn [p, q]).1 = sb at *
                generalize mk p = s at *
                generalize mk q = s2 at *
                go_enter Tryd.func5, Tryd.ntmps5
                go_wp2_with (first
                  | (go_at_call 15; (with_reducible refine (HLI.out _ HK.out).mono ?_); rintro e w1 ⟨rfl, hk⟩; have HK := Lib.hid hk; clear hk)
                  | (go_at_call 18; (with_reducible refine (HJO.out _ HK.out).mono ?_); rintro e w1 ⟨rfl, hk⟩; have HK := Lib.hid hk; clear hk)
                  | (go_at_call 19; (with_reducible refine (HRT.out _ HK.out).mono ?_); rintro e w1 ⟨rfl, hk⟩; have HK := Lib.hid hk; clear hk)
                  | (go_at_call 9; (with_reducible refine (HAK.out _ HK.out).mono ?_); rintro e w1 ⟨rfl, hk⟩; have HK := Lib.hid hk; clear hk))
                go_ret
                exact ⟨rfl, HK.out.2⟩
              · have hx : ((mk (jn [p, q]).1).toList == (mk p).toList) = false := eqFF hbp
                obtain ⟨g, t, hg, rfl, hgt, hj⟩ := join_two hR hE
                have hg0 : g ≠ [] := fun e => hp0 (by rw [e]; rfl)
                have ht0 : t ≠ [] := fun e => hbp (by rw [hj, e, List.append_nil])
                rw [hj] at hx HJO
                have hbel := below_hidden L hg hgt hg0 ht0 dir
                have hiff := hidden_iff L hgt (by simp [hg0]) dir
                have hG0 : g ++ t ≠ [] := by simp [hg0]
                obtain ⟨G, hG⟩ : ∃ G, G = g ++ t := ⟨_, rfl⟩
                rw [← hG] at hx HJO hbel hiff hgt hG0
                have hGl := hgt.short
                have HHP : Hid (∀ W, BW w v L W → Calls Tryd.prog 20 #[v, .string (mk (glue g)), .bool true] W fun e w' => e = .returned (.bool (hiddenB L (glue g) true)) ∧ BW w v L w') := fun W hk => (hidden_any L v (glue g) true W hk.1 hLR (by omega)).mono fun e w' ⟨h1, h2⟩ => ⟨h1, hk.keep h2⟩
                have HHB : Hid (∀ W, BW w v L W → Calls Tryd.prog 20 #[v, .string (mk (glue G)), .bool dir] W fun e w' => e = .returned (.bool (hiddenB L (glue G) dir)) ∧ BW w v L w') := fun W hk => (hidden_any L v (glue G) dir W hk.1 hLR (by omega)).mono fun e w' ⟨h1, h2⟩ => ⟨h1, hk.keep h2⟩
                have HFI := Lib.hid hgt
                have HLR := Lib.hid hLR
                clear hE hR hp0 hLR hp3 hq3 hbp hj hg hgt hg0 ht0
                cases h2 : hiddenB L (glue G) dir with
                | false =>
                  have h1 : hiddenB L (glue g) true = false := by
                    cases h : hiddenB L (glue g) true with
                    | false => rfl
                    | true => rw [hbel h] at h2; cases h2
                  rw [h1] at HHP
                  rw [h2] at HHB
                  clear h1 h2 hbel hiff hG hG0 hGl
                  generalize mk (glue G) = sb at *
                  generalize mk (glue g) = s at *
                  generalize mk q = s2 at *
                  go_enter Tryd.func5, Tryd.ntmps5
                  go_wp2_with (first
                    | (go_at_call 15; (with_reducible refine (HLI.out _ HK.out).mono ?_); rintro e w1 ⟨rfl, hk⟩; have HK := Lib.hid hk; clear hk)
                    | (go_at_call 18; (with_reducible refine (HJO.out _ HK.out).mono ?_); rintro e w1 ⟨rfl, hk⟩; have HK := Lib.hid hk; clear hk)
                    | (go_at_call 19; (with_reducible refine (HRT.out _ HK.out).mono ?_); rintro e w1 ⟨rfl, hk⟩; have HK := Lib.hid hk; clear hk)
                    | (go_at_call 20; (with_reducible refine (HHP.out _ HK.out).mono ?_); rintro e w1 ⟨rfl, hk⟩; have HK := Lib.hid hk; clear hk)
                    | (go_at_call 20; (with_reducible refine (HHB.out _ HK.out).mono ?_); rintro e w1 ⟨rfl, hk⟩; have HK := Lib.hid hk; clear hk)
                    | (go_at_call 9; (with_reducible refine (HAK.out _ HK.out).mono ?_); rintro e w1 ⟨rfl, hk⟩; have HK := Lib.hid hk; clear hk))
                  go_ret
                  exact ⟨rfl, HK.out.2⟩
                | true =>
                  obtain ⟨k0, hk0, hf0⟩ := hiff.1 h2
                  rw [h2] at HHB
                  clear h2 hbel hiff
                  have HFX : Hid (∃ k, k < G.length ∧ firstR L (glue (G.take (k + 1))) (dir || decide (k + 1 < G.length)) false = 2) := ⟨k0, hk0, hf0⟩
                  have HGP : Hid (0 < G.length) := List.length_pos_iff.2 hG0
                  clear hk0 hf0 hG hG0
                  have HGL := Lib.hid hGl
                  clear hGl
                  cases h1 : hiddenB L (glue g) true with
                  | false =>
                    rw [h1] at HHP
                    clear h1
                    generalize hsg : mk (glue g) = s at *
                    generalize mk q = s2 at *
                    clear hsg
                    go_enter Tryd.func5, Tryd.ntmps5
                    go_wp2_with (first
                      | (go_at_call 15; (with_reducible refine (HLI.out _ HK.out).mono ?_); rintro e w1 ⟨rfl, hk⟩; have HK := Lib.hid hk; clear hk)
                      | (go_at_call 18; (with_reducible refine (HJO.out _ HK.out).mono ?_); rintro e w1 ⟨rfl, hk⟩; have HK := Lib.hid hk; clear hk)
                      | (go_at_call 19; (with_reducible refine (HRT.out _ HK.out).mono ?_); rintro e w1 ⟨rfl, hk⟩; have HK := Lib.hid hk; clear hk)
                      | (go_at_call 20; (with_reducible refine (HHP.out _ HK.out).mono ?_); rintro e w1 ⟨rfl, hk⟩; have HK := Lib.hid hk; clear hk)
                      | (go_at_call 20; (with_reducible refine (HHB.out _ HK.out).mono ?_); rintro e w1 ⟨rfl, hk⟩; have HK := Lib.hid hk; clear hk))
                    go_loopw [11, 12] (fun x y wr => ∃ j : Nat, x = .string (mk (glue (G.take (j + 1)))) ∧ y = .bool (dir || decide (j + 1 < G.length)) ∧ Hid (j + 1 ≤ G.length) ∧ Hid (∃ k, k < j + 1 ∧ firstR L (glue (G.take (k + 1))) (dir || decide (k + 1 < G.length)) false = 2) ∧ Hid (BW w v L wr)) (fun x _ _ => match x with | .string s => s.size | _ => 0)
                    case atStart =>
                      have hp := HGP.out
                      refine ⟨G.length - 1, ?_, ?_, ?_, ?_, HK⟩
                      · rw [Nat.sub_add_cancel hp, List.take_length]
                      · rw [Nat.sub_add_cancel hp]; simp
                      · show _ ≤ _; omega
                      · rw [Nat.sub_add_cancel hp]; exact HFX
                    case round =>
                      clear HK HFX
                      obtain ⟨j, rfl, rfl, HJ, HX, HK⟩ := hrel
                      have hfin := HFI.out
                      have hne := glue_take_ne hfin j (by have := HJ.out; omega)
                      have hup := up_take hfin j (by have := HJ.out; omega)
                      have hlt := parentL_lt hne
                      have hrl := (hfin.take (j + 1)).ruled (fun e => hne (by rw [e]; rfl))
                      have hshort := (hfin.take (j + 1)).short
                      have hex := emptyF hne
                      obtain ⟨A, hA⟩ : ∃ A, A = firstR L (glue (G.take (j + 1))) (dir || decide (j + 1 < G.length)) false := ⟨_, rfl⟩
                      have HAC : Hid (∀ W, BW w v L W → Calls Tryd.prog 21 #[v, .string (mk (glue (G.take (j + 1)))), .bool (dir || decide (j + 1 < G.length)), .bool false] W fun e w' => e = .returned (.int .i64 A) ∧ BW w v L w') := fun W hk => by
                        have h := act_any L v (glue (G.take (j + 1))) (dir || decide (j + 1 < G.length)) false W hk.1 HLR.out (by omega)
                        have e : actR L (glue (G.take (j + 1))) (dir || decide (j + 1 < G.length)) false = A := by unfold actR; rw [if_pos hrl, hA]
                        rw [e] at h
                        exact Calls.mono h fun e w' ⟨h1, h2⟩ => ⟨h1, hk.keep h2⟩
                      by_cases hA2 : A = 2
                      · subst hA2
                        clear hA hne hup hlt hrl hshort hfin
                        generalize mk (glue (G.take (j + 1))) = sx at *
                        generalize (dir || decide (j + 1 < G.length)) = dx at *
                        go_wp2_with (first
                          | (go_at_call 21; (with_reducible refine (HAC.out _ HK.out).mono ?_); rintro e w1 ⟨rfl, hk⟩; have HK := Lib.hid hk; clear hk)
                          | (go_at_call 9; (with_reducible refine (HAK.out _ HK.out).mono ?_); rintro e w1 ⟨rfl, hk⟩; have HK := Lib.hid hk; clear hk))
                        go_ret
                        exact ⟨rfl, HK.out.2⟩
                      · have hne2 : (A == 2) = false := by simpa using hA2
                        obtain ⟨k, hk, hfk⟩ := HX.out
                        have hkj : k ≠ j := fun e => hA2 (by rw [hA, ← e]; exact hfk)
                        obtain ⟨j2, rfl⟩ : ∃ j2, j = j2 + 1 := ⟨j - 1, by omega⟩
                        have HJ2 : Hid (j2 + 1 ≤ G.length) := by show _ ≤ _; have := HJ.out; omega
                        have HX2 : Hid (∃ k, k < j2 + 1 ∧ firstR L (glue (G.take (k + 1))) (dir || decide (k + 1 < G.length)) false = 2) := ⟨k, by omega, hfk⟩
                        have HDR : Hid (true = (dir || decide (j2 + 1 < G.length))) := by show _ = _; rw [decide_eq_true (by have := HJ.out; omega), Bool.or_true]
                        have HPA : Hid (∀ W, BW w v L W → Calls Tryd.prog 22 #[.string (mk (glue (G.take (j2 + 1 + 1))))] W fun e w' => e = .returned (.string (mk (glue (G.take (j2 + 1))))) ∧ BW w v L w') := fun W hk => by
                          have h := parent_any (glue (G.take (j2 + 1 + 1))) W (by omega)
                          rw [hup] at h
                          exact h.mono fun e w' ⟨h1, h2⟩ => ⟨h1, h2 ▸ hk⟩
                        have HSZ : Hid ((mk (glue (G.take (j2 + 1)))).size < (mk (glue (G.take (j2 + 1 + 1)))).size) := by show _ < _; rw [mk_size, mk_size, ← hup]; exact hlt
                        clear hA hne hup hlt hrl hshort hfin hk hfk hkj HX hA2
                        generalize (dir || decide (j2 + 1 + 1 < G.length)) = dx at *
                        go_wp2_with (first
                          | (go_at_call 21; (with_reducible refine (HAC.out _ HK.out).mono ?_); rintro e w1 ⟨rfl, hk⟩; have HK := Lib.hid hk; clear hk)
                          | (go_at_call 22; (with_reducible refine (HPA.out _ HK.out).mono ?_); rintro e w1 ⟨rfl, hk⟩; have HK := Lib.hid hk; clear hk))
                        go_roundw
                        case rel => exact ⟨j2, rfl, by rw [← HDR.out], HJ2, HX2, HK⟩
                        case measure => exact HSZ.out
                  | true =>
                    rw [h1] at HHP
                    clear h1
                    generalize hsg : mk (glue g) = s at *
                    generalize mk q = s2 at *
                    clear hsg
                    go_enter Tryd.func5, Tryd.ntmps5
                    go_wp2_with (first
                      | (go_at_call 15; (with_reducible refine (HLI.out _ HK.out).mono ?_); rintro e w1 ⟨rfl, hk⟩; have HK := Lib.hid hk; clear hk)
                      | (go_at_call 18; (with_reducible refine (HJO.out _ HK.out).mono ?_); rintro e w1 ⟨rfl, hk⟩; have HK := Lib.hid hk; clear hk)
                      | (go_at_call 19; (with_reducible refine (HRT.out _ HK.out).mono ?_); rintro e w1 ⟨rfl, hk⟩; have HK := Lib.hid hk; clear hk)
                      | (go_at_call 20; (with_reducible refine (HHP.out _ HK.out).mono ?_); rintro e w1 ⟨rfl, hk⟩; have HK := Lib.hid hk; clear hk)
                      | (go_at_call 20; (with_reducible refine (HHB.out _ HK.out).mono ?_); rintro e w1 ⟨rfl, hk⟩; have HK := Lib.hid hk; clear hk))
                    go_loopw [11, 12] (fun x y wr => ∃ j : Nat, x = .string (mk (glue (G.take (j + 1)))) ∧ y = .bool (dir || decide (j + 1 < G.length)) ∧ Hid (j + 1 ≤ G.length) ∧ Hid (∃ k, k < j + 1 ∧ firstR L (glue (G.take (k + 1))) (dir || decide (k + 1 < G.length)) false = 2) ∧ Hid (BW w v L wr)) (fun x _ _ => match x with | .string s => s.size | _ => 0)
                    case atStart =>
                      have hp := HGP.out
                      refine ⟨G.length - 1, ?_, ?_, ?_, ?_, HK⟩
                      · rw [Nat.sub_add_cancel hp, List.take_length]
                      · rw [Nat.sub_add_cancel hp]; simp
                      · show _ ≤ _; omega
                      · rw [Nat.sub_add_cancel hp]; exact HFX
                    case round =>
                      clear HK HFX
                      obtain ⟨j, rfl, rfl, HJ, HX, HK⟩ := hrel
                      have hfin := HFI.out
                      have hne := glue_take_ne hfin j (by have := HJ.out; omega)
                      have hup := up_take hfin j (by have := HJ.out; omega)
                      have hlt := parentL_lt hne
                      have hrl := (hfin.take (j + 1)).ruled (fun e => hne (by rw [e]; rfl))
                      have hshort := (hfin.take (j + 1)).short
                      have hex := emptyF hne
                      obtain ⟨A, hA⟩ : ∃ A, A = firstR L (glue (G.take (j + 1))) (dir || decide (j + 1 < G.length)) false := ⟨_, rfl⟩
                      have HAC : Hid (∀ W, BW w v L W → Calls Tryd.prog 21 #[v, .string (mk (glue (G.take (j + 1)))), .bool (dir || decide (j + 1 < G.length)), .bool false] W fun e w' => e = .returned (.int .i64 A) ∧ BW w v L w') := fun W hk => by
                        have h := act_any L v (glue (G.take (j + 1))) (dir || decide (j + 1 < G.length)) false W hk.1 HLR.out (by omega)
                        have e : actR L (glue (G.take (j + 1))) (dir || decide (j + 1 < G.length)) false = A := by unfold actR; rw [if_pos hrl, hA]
                        rw [e] at h
                        exact Calls.mono h fun e w' ⟨h1, h2⟩ => ⟨h1, hk.keep h2⟩
                      by_cases hA2 : A = 2
                      · subst hA2
                        clear hA hne hup hlt hrl hshort hfin
                        generalize mk (glue (G.take (j + 1))) = sx at *
                        generalize (dir || decide (j + 1 < G.length)) = dx at *
                        go_wp2_with (first
                          | (go_at_call 21; (with_reducible refine (HAC.out _ HK.out).mono ?_); rintro e w1 ⟨rfl, hk⟩; have HK := Lib.hid hk; clear hk)
                          | (go_at_call 9; (with_reducible refine (HAK.out _ HK.out).mono ?_); rintro e w1 ⟨rfl, hk⟩; have HK := Lib.hid hk; clear hk))
                        go_ret
                        exact ⟨rfl, HK.out.2⟩
                      · have hne2 : (A == 2) = false := by simpa using hA2
                        obtain ⟨k, hk, hfk⟩ := HX.out
                        have hkj : k ≠ j := fun e => hA2 (by rw [hA, ← e]; exact hfk)
                        obtain ⟨j2, rfl⟩ : ∃ j2, j = j2 + 1 := ⟨j - 1, by omega⟩
                        have HJ2 : Hid (j2 + 1 ≤ G.length) := by show _ ≤ _; have := HJ.out; omega
                        have HX2 : Hid (∃ k, k < j2 + 1 ∧ firstR L (glue (G.take (k + 1))) (dir || decide (k + 1 < G.length)) false = 2) := ⟨k, by omega, hfk⟩
                        have HDR : Hid (true = (dir || decide (j2 + 1 < G.length))) := by show _ = _; rw [decide_eq_true (by have := HJ.out; omega), Bool.or_true]
                        have HPA : Hid (∀ W, BW w v L W → Calls Tryd.prog 22 #[.string (mk (glue (G.take (j2 + 1 + 1))))] W fun e w' => e = .returned (.string (mk (glue (G.take (j2 + 1))))) ∧ BW w v L w') := fun W hk => by
                          have h := parent_any (glue (G.take (j2 + 1 + 1))) W (by omega)
                          rw [hup] at h
                          exact h.mono fun e w' ⟨h1, h2⟩ => ⟨h1, h2 ▸ hk⟩
                        have HSZ : Hid ((mk (glue (G.take (j2 + 1)))).size < (mk (glue (G.take (j2 + 1 + 1)))).size) := by show _ < _; rw [mk_size, mk_size, ← hup]; exact hlt
                        clear hA hne hup hlt hrl hshort hfin hk hfk hkj HX hA2
                        generalize (dir || decide (j2 + 1 + 1 < G.length)) = dx at *
                        go_wp2_with (first
                          | (go_at_call 21; (with_reducible refine (HAC.out _ HK.out).mono ?_); rintro e w1 ⟨rfl, hk⟩; have HK := Lib.hid hk; clear hk)
                          | (go_at_call 22; (with_reducible refine (HPA.out _ HK.out).mono ?_); rintro e w1 ⟨rfl, hk⟩; have HK := Lib.hid hk; clear hk))
                        go_roundw
                        case rel => exact ⟨j2, rfl, by rw [← HDR.out], HJ2, HX2, HK⟩
                        case measure => exact HSZ.out
          · have hR2 : rightB p = false := by simpa using hR
            rw [hR2] at HRT
            clear hE hR hR2 hLR hp3 hq3
            generalize mk (jn [p, q]).1 = sb at *
            generalize mk p = s at *
            generalize mk q = s2 at *
            go_enter Tryd.func5, Tryd.ntmps5
            go_wp2_with (first
              | (go_at_call 15; (with_reducible refine (HLI.out _ HK.out).mono ?_); rintro e w1 ⟨rfl, hk⟩; have HK := Lib.hid hk; clear hk)
              | (go_at_call 18; (with_reducible refine (HJO.out _ HK.out).mono ?_); rintro e w1 ⟨rfl, hk⟩; have HK := Lib.hid hk; clear hk)
              | (go_at_call 19; (with_reducible refine (HRT.out _ HK.out).mono ?_); rintro e w1 ⟨rfl, hk⟩; have HK := Lib.hid hk; clear hk)
              | (go_at_call 9; (with_reducible refine (HAK.out _ HK.out).mono ?_); rintro e w1 ⟨rfl, hk⟩; have HK := Lib.hid hk; clear hk))
            go_ret
            exact ⟨rfl, HK.out.2⟩
        · have hE2 : ((jn [p, q]).2 == 0) = false := by simpa using hE
          generalize (jn [p, q]).2 = er at *
          clear hLR hp3 hq3 HRT
          generalize mk (jn [p, q]).1 = sb at *
          generalize mk p = s at *
          generalize mk q = s2 at *
          go_enter Tryd.func5, Tryd.ntmps5
          go_wp2_with (first
            | (go_at_call 15; (with_reducible refine (HLI.out _ HK.out).mono ?_); rintro e w1 ⟨rfl, hk⟩; have HK := Lib.hid hk; clear hk)
            | (go_at_call 18; (with_reducible refine (HJO.out _ HK.out).mono ?_); rintro e w1 ⟨rfl, hk⟩; have HK := Lib.hid hk; clear hk)
            | (go_at_call 9; (with_reducible refine (HAK.out _ HK.out).mono ?_); rintro e w1 ⟨rfl, hk⟩; have HK := Lib.hid hk; clear hk))
          go_ret
          exact ⟨rfl, HK.out.2⟩
  · have hA2 : lightB L = false := by simpa using hA
    rw [hA2] at HLI
    clear hA hA2 hsp hsq hlp hlq
    generalize mk p = s at *
    generalize mk q = s2 at *
    go_enter Tryd.func5, Tryd.ntmps5
    go_wp2_with (first
      | (go_at_call 15; (with_reducible refine (HLI.out _ HK.out).mono ?_); rintro e w1 ⟨rfl, hk⟩; have HK := Lib.hid hk; clear hk)
      | (go_at_call 9; (with_reducible refine (HAK.out _ HK.out).mono ?_); rintro e w1 ⟨rfl, hk⟩; have HK := Lib.hid hk; clear hk))
    go_ret
    exact ⟨rfl, HK.out.2⟩
end Go.Proofs.YtalbmkkplphahabDoor.Pa
