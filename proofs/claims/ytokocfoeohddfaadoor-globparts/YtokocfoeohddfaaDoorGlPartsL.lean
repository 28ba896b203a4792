/- The law GlobParts. (A template.) -/
import Derived.Test.YtokocfoeohddfaaDoorGlAwake
import Derived.Test.YtokocfoeohddfaaDoorGlPartsM
import Derived.Lib.Strings
import Derived.Laws.Concat
namespace Go.Proofs.YtokocfoeohddfaaDoor.Pa
open Go.RowKit
set_option linter.unusedVariables false
set_option linter.unusedSimpArgs false
set_option maxRecDepth 1000000

theorem mk_app2 (a b : L8) : mk a ++ mk b = mk (a ++ b) := by
  apply ByteArray.ext
  simp [mk, ByteArray.data_append]
theorem cat_any (a b : L8) (ha : a.length ≤ 100000) (hb : b.length ≤ 100000) (W : World) : (Op.stringOp .add (mk a) (mk b)).run Tryd.prog W = .ok (.string (mk (a ++ b))) W := by
  rw [run_string_add_sum W _ _ (by rw [mk_size, mk_size]; omega), mk_app2]
set_option maxHeartbeats 32000000 in
theorem globParts_walk (p s : L8) (w : World) (hlp : p.length ≤ 9223372036854775807) (hls : s.length ≤ 9223372036854775807) :
    Calls Tryd.prog 6 #[.string (mk p), .string (mk s)] w fun e w' => e = .returned (.bool true) ∧ Below w.heap.size w w' := by
  have HA := Lib.hid (acc (w := w) awake_gl)
  have HB : Hid (Below w.heap.size w w) := Below.refl _ _
  have hzp : (mk p).size = p.length := mk_size p
  have hzs : (mk s).size = s.length := mk_size s
  by_cases hb1 : 100 < p.length
  · have hI : (100 : Int) < ((mk p).size : Int) := by omega
    have hD : decide ((100 : Int) < ((mk p).size : Int)) = true := decide_eq_true hI
    clear hzp hzs hb1 hlp hls
    go_enter Tryd.func6, Tryd.ntmps6
    go_wp2_with (go_at_call 10; (with_reducible refine (HA.out _ HB.out).mono ?_); rintro e w' ⟨rfl, hb⟩; have HB := Lib.hid hb; clear hb)
    go_ret
    exact ⟨rfl, HB.out⟩
  · have hI : ¬ (100 : Int) < ((mk p).size : Int) := by omega
    have hD : decide ((100 : Int) < ((mk p).size : Int)) = false := decide_eq_false hI
    by_cases hb2 : 400 < s.length
    · have hI2 : (400 : Int) < ((mk s).size : Int) := by omega
      have hD2 : decide ((400 : Int) < ((mk s).size : Int)) = true := decide_eq_true hI2
      clear hzp hzs hb1 hb2 hlp hls
      go_enter Tryd.func6, Tryd.ntmps6
      go_wp2_with (go_at_call 10; (with_reducible refine (HA.out _ HB.out).mono ?_); rintro e w' ⟨rfl, hb⟩; have HB := Lib.hid hb; clear hb)
      go_ret
      exact ⟨rfl, HB.out⟩
    · have hI2 : ¬ (400 : Int) < ((mk s).size : Int) := by omega
      have hD2 : decide ((400 : Int) < ((mk s).size : Int)) = false := decide_eq_false hI2
      have HM := Lib.hid (acc (w := w) (fun W => gmatch_any p s W (by omega) (by omega)))
      cases hm : matchP p s with
      | false =>
        rw [hm] at HM
        clear hzp hzs hb1 hb2 hlp hls hm
        go_enter Tryd.func6, Tryd.ntmps6
        go_wp2_with (first
          | (go_at_call 10; (with_reducible refine (HA.out _ HB.out).mono ?_); rintro e w' ⟨rfl, hb⟩; have HB := Lib.hid hb; clear hb)
          | (go_at_call 13; (with_reducible refine (HM.out _ HB.out).mono ?_); rintro e w' ⟨rfl, hb⟩; have HB := Lib.hid hb; clear hb))
        go_ret
        exact ⟨rfl, HB.out⟩
      | true =>
        rw [hm] at HM
        rcases read_ways p with ⟨h1, h2⟩ | ⟨h1, hl, L, hR, hP, hLl, hF⟩
        · exfalso
          unfold matchP at hm
          rw [h2] at hm; cases hm
        · have HSG : Hid (∀ W, Below w.heap.size w W → Calls Tryd.prog 21 #[.string (mk p)] W fun e w' => ∃ u, e = .returned (.tuple #[u, .bool true]) ∧ RgAt w' u L ∧ Below w.heap.size w w') := by
            intro W hW
            refine (rsigns_any p W hl).mono ?_
            rintro e w' ⟨v, rfl, hv, hb⟩
            obtain ⟨u, rfl, ha⟩ := rdr_at hR _ _ _ hv
            exact ⟨u, rfl, ha, hW.trans (hb.mono hW.size)⟩
          have HLL : Hid (L.length ≤ 100) := by show _ ≤ _; omega
          have HSL : Hid (s.length ≤ 400) := by show _ ≤ _; omega
          have HZS : Hid ((mk s).size = s.length) := hzs
          have HSLASH := Lib.hid (parts_slash hl hR hm)
          have HPM : Hid ((∀ x ∈ L, x.kind ≠ 4) → (toks L).length ≤ 100 → matchP (toks L) s = true) := fun a b => parts_match hl hR hm a b
          have HKK := Lib.hid (sgnsR_kind _ _ _ hR)
          clear hzp hzs hb1 hb2 hlp hls hm h1 hl hR hP hLl hF
          go_enter Tryd.func6, Tryd.ntmps6
          go_wp2_with (first
            | (go_at_call 13; (with_reducible refine (HM.out _ HB.out).mono ?_); rintro e w' ⟨rfl, hb⟩; have HB := Lib.hid hb; clear hb)
            | (go_at_call 21; refine (HSG.out _ HB.out).mono ?_; rintro e w2 ⟨u, rfl, ha, hb⟩; have HA2 := Lib.hid ha; have HB2 := Lib.hid hb; obtain ⟨sa, sc, rfl, hrow⟩ := ha; have HROW := Lib.hid hrow; clear hb hrow))
          clear hI hI2 hD hD2
          go_loopw [7, 8, 10] (fun mv bv iv wr => ∃ k : Nat, iv = .int .i64 k ∧ mv = .int .i64 (slN (L.take k) : Int) ∧ bv = .bool (has3 (L.take k)) ∧ Hid (k ≤ L.length) ∧ w2 = wr) (fun _ _ iv _ => L.length - (intOf iv).toNat)
          case atStart => exact ⟨0, rfl, rfl, rfl, Nat.zero_le _, rfl⟩
          case round =>
            obtain ⟨k, rfl, rfl, rfl, HKL, rfl⟩ := hrel
            have hLL := HLL.out
            by_cases hk : k < L.length
            · have hIk : (k : Int) < (L.length : Int) := by omega
              obtain ⟨x, hx⟩ : ∃ x, L[k]? = some x := ⟨_, List.getElem?_eq_getElem hk⟩
              have hw1 : IntKind.i64.wrap ((k : Int) + 1) = (k : Int) + 1 := IntWalk.i64_in _ (by omega)
              obtain ⟨gg, rfl, hgl, hr4⟩ := HROW.out (by intro e; rw [e] at hk; simp at hk)
              have c0 := range_kind (hr4 k x hx)
              have c1 := range_byte (hr4 k x hx)
              have HS1 := Lib.hid (slN_snoc hx)
              have HT1 := Lib.hid (has3_snoc hx)
              have hsl := slN_le (L.take k)
              rw [List.length_take] at hsl
              have HKN := Lib.hid hk
              obtain ⟨m, hm⟩ : ∃ m, m = slN (L.take k) := ⟨_, rfl⟩
              obtain ⟨b, hb⟩ : ∃ b, b = has3 (L.take k) := ⟨_, rfl⟩
              rw [← hm, ← hb]
              rw [← hm] at HS1 hsl
              rw [← hb] at HT1
              have hwm : IntKind.i64.wrap ((m : Int) + 1) = (m : Int) + 1 := IntWalk.i64_in _ (by omega)
              obtain ⟨kd, cc, nt, S⟩ := x
              simp only at c0 c1
              unfold isSl at HS1
              simp only at HS1 HT1
              clear hk hx hr4 hgl hsl hm hb hLL
              by_cases h0 : kd = 0
              · subst h0
                by_cases h47 : cc = 47
                · subst h47
                  have HE1 : Hid (slN (L.take (k + 1)) = m + 1) := by show _ = _; rw [HS1.out]; rfl
                  cases b
                  all_goals
                    have HE2 := HT1.out
                    have HE2 := Lib.hid HE2
                    go_wp2
                    go_roundw
                    case rel => exact ⟨k + 1, by go_num, by rw [HE1.out]; go_num, by rw [HE2.out]; rfl, by show _ ≤ _; have := HKN.out; omega, trivial⟩
                    case measure => have := HKN.out; simp [intOf]; omega
                · have hq : ((cc : Int) == 47) = false := by simpa using fun e => h47 (by omega)
                  have HE1 : Hid (slN (L.take (k + 1)) = m) := by show _ = _; rw [HS1.out, decide_eq_false h47]; simp
                  clear h47
                  cases b
                  all_goals
                    have HE2 := HT1.out
                    have HE2 := Lib.hid HE2
                    go_wp2
                    go_roundw
                    case rel => exact ⟨k + 1, by go_num, by rw [HE1.out], by rw [HE2.out]; rfl, by show _ ≤ _; have := HKN.out; omega, trivial⟩
                    case measure => have := HKN.out; simp [intOf]; omega
              · have hq0 : ((kd : Int) == 0) = false := by simpa using fun e => h0 (by omega)
                have HE1 : Hid (slN (L.take (k + 1)) = m) := by show _ = _; rw [HS1.out, decide_eq_false h0]; simp
                by_cases h3 : kd = 3
                · subst h3
                  clear h0
                  cases b
                  all_goals
                    have HE2 := HT1.out
                    have HE2 := Lib.hid HE2
                    go_wp2
                    go_roundw
                    case rel => exact ⟨k + 1, by go_num, by rw [HE1.out], by rw [HE2.out]; rfl, by show _ ≤ _; have := HKN.out; omega, trivial⟩
                    case measure => have := HKN.out; simp [intOf]; omega
                · have hq3 : ((kd : Int) == 3) = false := by simpa using fun e => h3 (by omega)
                  have hd3 : decide (kd = 3) = false := decide_eq_false h3
                  rw [hd3] at HT1
                  clear h0 h3 hd3
                  cases b
                  all_goals
                    have HE2 := HT1.out
                    have HE2 := Lib.hid HE2
                    go_wp2
                    go_roundw
                    case rel => exact ⟨k + 1, by go_num, by rw [HE1.out], by rw [HE2.out]; rfl, by show _ ≤ _; have := HKN.out; omega, trivial⟩
                    case measure => have := HKN.out; simp [intOf]; omega
            · have hIk : ¬ (k : Int) < (L.length : Int) := by omega
              have hke : k = L.length := by have := HKL.out; omega
              rw [hke, List.take_length]
              obtain ⟨m, hm⟩ : ∃ m, m = slN L := ⟨_, rfl⟩
              obtain ⟨B, hBB⟩ : ∃ b, b = has3 L := ⟨_, rfl⟩
              have hsl := slN_le L
              rw [← hm, ← hBB]
              rw [← hm, ← hBB] at HSLASH
              rw [← hm] at hsl
              have HML : Hid (m ≤ 100) := by show _ ≤ _; omega
              rw [hke] at hIk
              clear hk hke hsl hm hBB HKL hLL
              go_wp2
              go_loopw [7, 11] (fun mv iv wr => ∃ j : Nat, iv = .int .i64 j ∧ mv = .int .i64 ((m : Int) - (slS (s.take j) : Int)) ∧ Hid (j ≤ s.length) ∧ w2 = wr) (fun _ iv _ => s.length - (intOf iv).toNat)
              case atStart => exact ⟨0, rfl, by simp [slS], Nat.zero_le _, rfl⟩
              case round =>
                obtain ⟨j, rfl, rfl, HJL, rfl⟩ := hrel
                by_cases hj : j < s.length
                · have hIj : (j : Int) < ((mk s).size : Int) := by rw [HZS.out]; omega
                  have hxj := run_at s j hj
                  rw [bt_nb] at hxj
                  have HS1 := Lib.hid (slS_snoc hj)
                  have hsl := slS_le (s.take j)
                  rw [List.length_take] at hsl
                  have HJN := Lib.hid hj
                  have hSL := HSL.out
                  have hML := HML.out
                  obtain ⟨q, hq⟩ : ∃ q, q = slS (s.take j) := ⟨_, rfl⟩
                  rw [← hq]
                  rw [← hq] at HS1 hsl
                  have hw1 : IntKind.i64.wrap ((j : Int) + 1) = (j : Int) + 1 := IntWalk.i64_in _ (by omega)
                  have hw2 : IntKind.i64.wrap ((m : Int) - (q : Int) - 1) = (m : Int) - ((q + 1 : Nat) : Int) := by rw [IntWalk.i64_in _ (by omega)]; omega
                  by_cases h47 : nb s j = 47
                  · have HE1 : Hid (slS (s.take (j + 1)) = q + 1) := by show _ = _; rw [HS1.out, if_pos h47]
                    rw [h47] at hxj
                    clear h47 hsl hq hj hSL hML
                    go_wp2
                    go_roundw
                    case rel => exact ⟨j + 1, by go_num, by rw [HE1.out]; first | rfl | (congr 1; omega), by show _ ≤ _; have := HJN.out; omega, trivial⟩
                    case measure => have := HJN.out; simp [intOf]; omega
                  · have HE1 : Hid (slS (s.take (j + 1)) = q) := by show _ = _; rw [HS1.out, if_neg h47]; rfl
                    have hq47 : ((nb s j : Int) == 47) = false := by simpa using fun e => h47 (by omega)
                    generalize nb s j = cj at *
                    clear h47 hsl hq hj hSL hML
                    go_wp2
                    go_roundw
                    case rel => exact ⟨j + 1, by go_num, by rw [HE1.out], by show _ ≤ _; have := HJN.out; omega, trivial⟩
                    case measure => have := HJN.out; simp [intOf]; omega
                · have hIj : ¬ (j : Int) < ((mk s).size : Int) := by rw [HZS.out]; omega
                  have hje : j = s.length := by have := HJL.out; omega
                  rw [hje, List.take_length]
                  obtain ⟨M, hM⟩ : ∃ M : Int, M = (m : Int) - (slS s : Int) := ⟨_, rfl⟩
                  have HMB : Hid (B = true ∨ M = 0) := by
                    rcases HSLASH.out with h | h
                    · exact .inl h
                    · right; rw [hM, h]; omega
                  rw [← hM]
                  rw [hje] at hIj
                  clear hj hje hM HSLASH HJL HML
                  go_wp2
                  go_loopw [9, 12] (fun qv iv wr => ∃ k : Nat, iv = .int .i64 k ∧ qv = .string (mk (toks (L.take k))) ∧ Hid (k ≤ L.length) ∧ Hid (∀ i x, i < k → L[i]? = some x → x.kind ≠ 4) ∧ Hid (Below w2.heap.size w2 wr)) (fun _ iv _ => L.length - (intOf iv).toNat)
                  case atStart => exact ⟨0, rfl, rfl, Nat.zero_le _, (by intro i x hi; omega), Below.refl _ _⟩
                  case round =>
                    obtain ⟨k, rfl, rfl, HKL, HN4, HBR⟩ := hrel
                    have HB : Hid (Below w.heap.size w wr) := HB2.out.trans (HBR.out.mono HB2.out.size)
                    have hLL := HLL.out
                    by_cases hk : k < L.length
                    · have hIk2 : (k : Int) < (L.length : Int) := by omega
                      obtain ⟨x, hx⟩ : ∃ x, L[k]? = some x := ⟨_, List.getElem?_eq_getElem hk⟩
                      have hw1 : IntKind.i64.wrap ((k : Int) + 1) = (k : Int) + 1 := IntWalk.i64_in _ (by omega)
                      obtain ⟨sa', sc', e3, hr3⟩ := HA2.out.later HBR.out
                      simp only [Value.slice.injEq, true_and] at e3
                      obtain ⟨rfl, rfl⟩ := e3
                      obtain ⟨gg, rfl, hgl, hr4⟩ := hr3 (by intro e; rw [e] at hk; simp at hk)
                      have c0 := range_kind (hr4 k x hx)
                      have c1 := range_byte (hr4 k x hx)
                      have HKN := Lib.hid hk
                      have HTS := Lib.hid (toks_snoc hx)
                      have htl := toks_len (L.take k)
                      rw [List.length_take] at htl
                      have hcat : ∀ W, (Op.stringOp .add (mk (toks (L.take k))) (mk (tok x))).run Tryd.prog W = .ok (.string (mk (toks (L.take (k + 1))))) W := fun W => by
                        have := tok_len x
                        rw [cat_any _ _ (by omega) (by omega), HTS.out]
                      have HN5 : Hid (x.kind ≠ 4 → ∀ i y, i < k + 1 → L[i]? = some y → y.kind ≠ 4) := by
                        intro h i y hi hy
                        rcases Nat.lt_or_ge i k with hlt | hge
                        · exact HN4.out i y hlt hy
                        · have : i = k := by omega
                          subst this; rw [hx] at hy; injection hy with hy; rw [← hy]; exact h
                      have hkk := HKK.out x (List.mem_of_getElem? hx)
                      obtain ⟨tn, htn⟩ : ∃ tn, tn = toks (L.take (k + 1)) := ⟨_, rfl⟩
                      have HTN := Lib.hid htn
                      rw [← htn] at hcat
                      clear htn
                      by_cases h4 : x.kind = 4
                      · rw [h4] at c0
                        clear hk hx hr4 hgl htl hcat hkk h4 hr3 hLL c1
                        rcases HMB.out with hBT | hM0
                        · rw [hBT]
                          go_wp2_with (go_at_call 10; (with_reducible refine (HA.out _ HB.out).mono ?_); rintro e w' ⟨rfl, hb⟩; have HB := Lib.hid hb; clear hb)
                          go_ret
                          exact ⟨rfl, HB.out⟩
                        · rw [hM0]
                          cases B
                          all_goals
                            go_wp2_with (go_at_call 10; (with_reducible refine (HA.out _ HB.out).mono ?_); rintro e w' ⟨rfl, hb⟩; have HB := Lib.hid hb; clear hb)
                            go_ret
                            exact ⟨rfl, HB.out⟩
                      · have hn4 : ((x.kind : Int) == 4) = false := by simpa using fun e => h4 (by omega)
                        have HNN := Lib.hid (HN5.out h4)
                        by_cases h0 : x.kind = 0
                        · have hc8 := hkk.2 h0
                          obtain ⟨b8, hb8⟩ : ∃ b8, b8 = UInt8.ofNat x.c := ⟨_, rfl⟩
                          have hib : ints [b8] = [(x.c : Int)] := by rw [hb8]; unfold ints; simp; omega
                          have htk : tok x = escB [b8] := by unfold tok; rw [if_pos h0, ← hb8]; simp [escB]
                          rw [htk] at hcat
                          obtain ⟨a', c', e', hby, hnil, hcap⟩ := one_sl wr (x.c : Int) (by omega) (by omega)
                          simp only [Value.slice.injEq] at e'
                          obtain ⟨rfl, -, rfl⟩ := e'
                          rw [← hib] at hby
                          have hstr := run_str hby 1 1 (by rw [hib]; rfl)
                          rw [ints_str] at hstr
                          have hbA : Below wr.heap.size wr (wr.alloc (.cells #[.int .u8 (x.c : Int)] 5)) := (Below.refl _ _).alloc (Nat.le_refl _) _
                          have HES : Hid (Calls Tryd.prog 19 #[.string (mk [b8])] (wr.alloc (.cells #[.int .u8 (x.c : Int)] 5)) fun e w' => e = .returned (.string (mk (escB [b8]))) ∧ Below w2.heap.size w2 w') := by
                            refine (escape_any [b8] _ (by simp)).mono ?_
                            rintro e w' ⟨h1, h2⟩
                            exact ⟨h1, (HBR.out.trans (hbA.mono HBR.out.size)).trans (h2.mono (Nat.le_trans HBR.out.size hbA.size))⟩
                          have h0c := h0
                          rw [h0] at c0 hn4
                          generalize mk (escB [b8]) = tb at *
                          clear hk hx hr4 hgl htl hkk h4 hr3 hLL h0 h0c hc8 hb8 htk hby hnil hcap hbA
                          go_wp2_with (go_at_call 19; refine HES.out.mono ?_; rintro e w5 ⟨rfl, hb⟩; have HB5 := Lib.hid hb; clear hb)
                          go_roundw
                          case rel => exact ⟨k + 1, by go_num, by rw [HTN.out], by show _ ≤ _; have := HKN.out; omega, HNN, HB5⟩
                          case measure => have := HKN.out; simp [intOf]; omega
                        · have hn0 : ((x.kind : Int) == 0) = false := by simpa using fun e => h0 (by omega)
                          by_cases h1 : x.kind = 1
                          · have htk : tok x = [63] := by unfold tok; rw [if_neg h0, if_pos h1]
                            rw [htk] at hcat
                            have e63 : (mk [63]) = { data := #[63] } := rfl
                            rw [e63] at hcat
                            rw [h1] at c0
                            clear hk hx hr4 hgl htl hkk h4 hr3 hLL h0 h1 htk c1 hn4 hn0
                            go_wp2
                            go_roundw
                            case rel => exact ⟨k + 1, by go_num, by rw [HTN.out], by show _ ≤ _; have := HKN.out; omega, HNN, HBR⟩
                            case measure => have := HKN.out; simp [intOf]; omega
                          · have htk : tok x = [42, 42] := by unfold tok; rw [if_neg h0, if_neg h1]
                            have hn1 : ((x.kind : Int) == 1) = false := by simpa using fun e => h1 (by omega)
                            rw [htk] at hcat
                            have e42 : (mk [42, 42]) = { data := #[42, 42] } := rfl
                            rw [e42] at hcat
                            clear hk hx hr4 hgl htl hkk h4 hr3 hLL h0 h1 htk c1
                            go_wp2
                            go_roundw
                            case rel => exact ⟨k + 1, by go_num, by rw [HTN.out], by show _ ≤ _; have := HKN.out; omega, HNN, HBR⟩
                            case measure => have := HKN.out; simp [intOf]; omega
                    · have hIk2 : ¬ (k : Int) < (L.length : Int) := by omega
                      have hke : k = L.length := by have := HKL.out; omega
                      rw [hke, List.take_length]
                      rw [hke] at hIk2
                      have hzt : (mk (toks L)).size = (toks L).length := mk_size _
                      have HALL : Hid (∀ x ∈ L, x.kind ≠ 4) := by
                        intro x hx
                        obtain ⟨i, hi⟩ := List.getElem?_of_mem hx
                        exact HN4.out i x (by rw [hke]; exact (List.getElem?_eq_some_iff.1 hi).1) hi
                      have htl := toks_len L
                      by_cases hq : 100 < (toks L).length
                      · have hIq : (100 : Int) < ((mk (toks L)).size : Int) := by omega
                        have hDq : decide ((100 : Int) < ((mk (toks L)).size : Int)) = true := decide_eq_true hIq
                        generalize mk (toks L) = Q at *
                        clear hk hke hzt htl hq hLL
                        rcases HMB.out with hBT | hM0
                        · rw [hBT]
                          go_wp2_with (go_at_call 10; (with_reducible refine (HA.out _ HB.out).mono ?_); rintro e w' ⟨rfl, hb⟩; have HB := Lib.hid hb; clear hb)
                          go_ret
                          exact ⟨rfl, HB.out⟩
                        · rw [hM0]
                          cases B
                          all_goals
                            go_wp2_with (go_at_call 10; (with_reducible refine (HA.out _ HB.out).mono ?_); rintro e w' ⟨rfl, hb⟩; have HB := Lib.hid hb; clear hb)
                            go_ret
                            exact ⟨rfl, HB.out⟩
                      · have hIq : ¬ (100 : Int) < ((mk (toks L)).size : Int) := by omega
                        have hDq : decide ((100 : Int) < ((mk (toks L)).size : Int)) = false := decide_eq_false hIq
                        have HM2 := acc (w := w) (fun W => gmatch_any (toks L) s W (by omega) (by have := HSL.out; omega))
                        rw [HPM.out HALL.out (by omega)] at HM2
                        have HM2 := Lib.hid HM2
                        generalize mk (toks L) = Q at *
                        clear hk hke hzt htl hq hLL
                        rcases HMB.out with hBT | hM0
                        · rw [hBT]
                          go_wp2_with (first
                            | (go_at_call 10; (with_reducible refine (HA.out _ HB.out).mono ?_); rintro e w' ⟨rfl, hb⟩; have HB := Lib.hid hb; clear hb)
                            | (go_at_call 13; (with_reducible refine (HM2.out _ HB.out).mono ?_); rintro e w' ⟨rfl, hb⟩; have HB := Lib.hid hb; clear hb))
                          go_ret
                          exact ⟨rfl, HB.out⟩
                        · rw [hM0]
                          cases B
                          all_goals
                            go_wp2_with (first
                              | (go_at_call 10; (with_reducible refine (HA.out _ HB.out).mono ?_); rintro e w' ⟨rfl, hb⟩; have HB := Lib.hid hb; clear hb)
                              | (go_at_call 13; (with_reducible refine (HM2.out _ HB.out).mono ?_); rintro e w' ⟨rfl, hb⟩; have HB := Lib.hid hb; clear hb))
                            go_ret
                            exact ⟨rfl, HB.out⟩
end Go.Proofs.YtokocfoeohddfaaDoor.Pa
