/- rules: the law of a rule's parts. (A template.) -/
import Derived.Test.YtalbmkkplphahabDoorRuAwake
import Derived.Test.YtalbmkkplphahabDoorRuCheck
namespace Go.Proofs.YtalbmkkplphahabDoor.Pa
open Go.RowKit
set_option linter.unusedVariables false
set_option linter.unusedSimpArgs false
set_option maxRecDepth 1000000

abbrev oR (act : Int) (q : ByteArray) (di an : Bool) : Obj := .cells #[.int .i64 act, .string q, .bool di, .bool an] 24
structure KW (w : World) (act : Int) (q : ByteArray) (di an : Bool) (W : World) : Prop where
  row : W.heap[w.heap.size]? = some (oR act q di an)
  bel : Below w.heap.size w W
theorem KW.keep {w W W' : World} {act : Int} {q : ByteArray} {di an : Bool} (h : KW w act q di an W) (hb : Below W.heap.size W W') : KW w act q di an W' :=
  ⟨(hb.block _ (Array.getElem?_eq_some_iff.1 h.row).1).trans h.row, h.bel.trans (hb.mono h.bel.size)⟩
theorem KW.start (w : World) (act : Int) (q : ByteArray) (di an : Bool) : KW w act q di an (w.alloc (oR act q di an)) := ⟨heap_new _ _, (Below.refl _ _).alloc (Nat.le_refl _) _⟩
theorem KW.drew {w W : World} {act : Int} {q : ByteArray} {di an : Bool} (h : KW w act q di an W) : KW w act q di an W.drew := ⟨h.row, h.bel.drew⟩
theorem take_slash (l : L8) (k : Nat) (h : k < l.length) : ((47 : UInt8) ∈ l.take (k + 1)) ↔ ((47 : UInt8) ∈ l.take k ∨ nb l k = 47) := by
  rw [List.take_succ_eq_append_getElem h, List.mem_append]
  have : nb l k = (l[k]).toNat := by unfold nb; rw [List.getD_eq_getElem?_getD, List.getElem?_eq_getElem h]; rfl
  rw [this]
  constructor
  · rintro (h | h)
    · exact .inl h
    · right
      simp at h
      rw [← h]; rfl
  · rintro (h | h)
    · exact .inl h
    · right
      simp
      apply UInt8.toNat_inj.1
      rw [h]; rfl
theorem matches_nil (act : Int) (q : ByteArray) (di an : Bool) (dir : Bool) (w : World) :
    Calls Tryd.prog 23 #[ruV act q di an, .string { data := #[] }, .bool dir] w fun e w' => e = .returned (.bool false) ∧ Below w.heap.size w w' := by
  obtain ⟨w1, hw1⟩ : ∃ w1, w1 = w.alloc (oR act q di an) := ⟨_, rfl⟩
  have hb1 : Below w.heap.size w w1 := by rw [hw1]; exact (Below.refl _ _).alloc (Nat.le_refl _) _
  have HRU : Hid (Calls Tryd.prog 45 #[.string { data := #[] }] w1 fun e w' => e = .returned (.bool false) ∧ Below w.heap.size w w') :=
    (ruled_any [] w1 (by simp)).mono fun e w' ⟨h1, h2⟩ => ⟨h1, hb1.trans (h2.mono hb1.size)⟩
  rw [hw1] at HRU
  clear hw1 hb1
  go_enter Tryd.func23, Tryd.ntmps23
  go_wp2_with (go_at_call 45; refine HRU.out.mono ?_; rintro e w2 ⟨rfl, hb⟩; have HB := Lib.hid hb; clear hb)
  go_ret
  exact ⟨rfl, HB.out⟩
set_option maxHeartbeats 16000000 in
theorem rulesParts_walk (act : Int) (pat p : L8) (di an dir : Bool) (w : World) (hpat : pat.length ≤ maxLen) (hp : p.length ≤ maxLen) :
    Calls Tryd.prog 7 #[ruV act (mk pat) di an, .string (mk p), .bool dir] w fun e w' => e = .returned (.bool true) ∧ Below w.heap.size w w' := by
  unfold maxLen at hpat hp
  have HAK : Hid (∀ W, KW w act (mk pat) di an W → Calls Tryd.prog 9 #[] W fun e w' => e = .returned (.bool true) ∧ KW w act (mk pat) di an w') := fun W hk => (awake_ru W).mono fun e w' ⟨h1, h2⟩ => ⟨h1, hk.keep h2⟩
  have HM0 : Hid (∀ W, KW w act (mk pat) di an W → Calls Tryd.prog 23 #[ruV act (mk pat) di an, .string { data := #[] }, .bool dir] W fun e w' => e = .returned (.bool false) ∧ KW w act (mk pat) di an w') := fun W hk => (matches_nil act (mk pat) di an dir W).mono fun e w' ⟨h1, h2⟩ => ⟨h1, hk.keep h2⟩
  have HK0 : Hid (KW w act (mk pat) di an (w.alloc (oR act (mk pat) di an))) := KW.start _ _ _ _ _
  have hsp : (mk pat).size = pat.length := mk_size pat
  have hsq : (mk p).size = p.length := mk_size p
  have HLP := Lib.hid hpat
  have HLQ := Lib.hid hp
  clear hpat hp
  by_cases hA : 200 < pat.length
  · have hI : (200 : Int) < ((mk pat).size : Int) := by omega
    clear hA hsp hsq
    generalize mk pat = q at *
    generalize mk p = s at *
    go_enter Tryd.func7, Tryd.ntmps7
    go_wp2_with (first
      | (go_at_call 23; refine (HM0.out _ HK0.out).mono ?_; rintro e w1 ⟨rfl, hk⟩; have HK := Lib.hid hk; clear hk)
      | (go_at_call 9; refine (HAK.out _ HK.out).mono ?_; rintro e w1 ⟨rfl, hk⟩; have HK := Lib.hid hk; clear hk))
    go_ret
    exact ⟨rfl, HK.out.bel⟩
  · have hI : ¬ (200 : Int) < ((mk pat).size : Int) := by omega
    by_cases hB : 300 < p.length
    · have hI2 : (300 : Int) < ((mk p).size : Int) := by omega
      clear hA hB hsp hsq
      generalize mk pat = q at *
      generalize mk p = s at *
      go_enter Tryd.func7, Tryd.ntmps7
      go_wp2_with (first
        | (go_at_call 23; refine (HM0.out _ HK0.out).mono ?_; rintro e w1 ⟨rfl, hk⟩; have HK := Lib.hid hk; clear hk)
        | (go_at_call 9; refine (HAK.out _ HK.out).mono ?_; rintro e w1 ⟨rfl, hk⟩; have HK := Lib.hid hk; clear hk))
      go_ret
      exact ⟨rfl, HK.out.bel⟩
    · have hI2 : ¬ (300 : Int) < ((mk p).size : Int) := by omega
      have hlp : pat.length ≤ 200 := by omega
      have hlq : p.length ≤ 300 := by omega
      have HPL := Lib.hid hlp
      have HQL := Lib.hid hlq
      have HCK : Hid (Calls Tryd.prog 25 #[.slice (some ⟨w.heap.size + 1, 0, none⟩) 1 1] ((w.alloc (oR act (mk pat) di an)).alloc (oR act (mk pat) di an)) fun e w' => e = .returned (.int .i64 (checkE [⟨act, pat, di, an⟩])) ∧ KW w act (mk pat) di an w') := by
        have hat := at_one (W := w.alloc (oR act (mk pat) di an)) (act := act) (di := di) (an := an) (pat := pat) rfl
        rw [World.size_alloc] at hat
        have hb : Below (w.alloc (oR act (mk pat) di an)).heap.size (w.alloc (oR act (mk pat) di an)) ((w.alloc (oR act (mk pat) di an)).alloc (oR act (mk pat) di an)) := (Below.refl _ _).alloc (Nat.le_refl _) _
        refine (check_rules [⟨act, pat, di, an⟩] _ _ hat ⟨by simp, fun r hr => ?_⟩).mono fun e w' ⟨h1, h2⟩ => ⟨h1, ((KW.start w act (mk pat) di an).keep hb).keep h2⟩
        simp at hr
        subst hr
        show pat.length ≤ _
        omega
      have HRT : Hid (∀ W, KW w act (mk pat) di an W → Calls Tryd.prog 19 #[.string (mk p)] W fun e w' => e = .returned (.bool (rightB p)) ∧ KW w act (mk pat) di an w') := fun W hk => (right_any p W (by omega)).mono fun e w' ⟨h1, h2⟩ => ⟨h1, hk.keep h2⟩
      clear hlp
      clear hA hB hsq
      by_cases hC : checkE [⟨act, pat, di, an⟩] = 0
      · rw [hC] at HCK
        by_cases hD : rightB p = true
        · rw [hD] at HRT
          by_cases hE : p = []
          · have he := emptyT hE
            clear hC hD hE hsp
            generalize mk pat = q at *
            generalize mk p = s at *
            go_enter Tryd.func7, Tryd.ntmps7
            go_wp2_with (first
              | (go_at_call 25; refine HCK.out.mono ?_; rintro e w1 ⟨rfl, hk⟩; obtain ⟨⟨k0, k1, k2, k3⟩, -⟩ := cells4 hk.row; have HK := Lib.hid hk; clear hk)
              | (go_at_call 19; refine (HRT.out _ HK.out).mono ?_; rintro e w2 ⟨rfl, hk⟩; obtain ⟨⟨k0, k1, k2, k3⟩, -⟩ := cells4 hk.row; have HK := Lib.hid hk; clear hk)
              | (go_at_call 23; refine (HM0.out _ HK.out).mono ?_; rintro e w3 ⟨rfl, hk⟩; have HK := Lib.hid hk; clear hk)
              | (go_at_call 9; refine (HAK.out _ HK.out).mono ?_; rintro e w4 ⟨rfl, hk⟩; have HK := Lib.hid hk; clear hk))
            go_ret
            exact ⟨rfl, HK.out.bel⟩
          · have he : (mk p).toList.isEmpty = false := emptyF hE
            obtain ⟨M1, hM1⟩ : ∃ x, x = matchP pat (baseL p) := ⟨_, rfl⟩
            obtain ⟨M2, hM2⟩ : ∃ x, x = matchP pat p := ⟨_, rfl⟩
            obtain ⟨R, hR⟩ : ∃ x, x = matchR ⟨act, pat, di, an⟩ p dir := ⟨_, rfl⟩
            have hmis : misE act pat = 0 := by
              unfold checkE badE at hC
              simp only [List.length_cons, List.length_nil] at hC
              rw [if_neg (by omega)] at hC
              by_cases hz : refE act pat = 0
              · unfold refE at hz
                by_cases hm : misE act pat = 0
                · exact hm
                · rw [if_pos hm] at hz; exact absurd hz hm
              · rw [if_pos hz] at hC; exact absurd hC hz
            have HRR : Hid (R = (!(di && !dir) && if an = false ∧ (47 : UInt8) ∉ pat then M1 else M2)) := by
              show _ = _
              rw [hR, hM1, hM2]
              unfold matchR ruledB fitsB fitsP
              rw [hD, decide_eq_true hE]
              simp only [hmis]
              by_cases hq : an = false ∧ (47 : UInt8) ∉ pat
              · simp [hq]
              · simp only [if_neg hq]; simp
            have HBS : Hid (∀ W, Calls Tryd.prog 27 #[.string (mk p)] W fun e w' => e = .returned (.string (mk (baseL p))) ∧ W = w') := fun W => base_any p W (by have := HQL.out; omega)
            have HG1 : Hid (∀ W, KW w act (mk pat) di an W ∧ W.cell? ⟨w.heap.size, 1, none⟩ = some (.string (mk pat)) → Calls Tryd.prog 26 #[.string (mk pat), .string (mk (baseL p))] W fun e w' => e = .returned (.bool M1) ∧ KW w act (mk pat) di an w') := fun W hk => by
              have h := gmatch_any pat (baseL p) W (by have := HPL.out; omega) (by have := baseL_len p; have := HQL.out; omega)
              rw [← hM1] at h
              exact Calls.mono h fun e w' ⟨h1, h2⟩ => ⟨h1, hk.1.keep h2⟩
            have HG2 : Hid (∀ W, KW w act (mk pat) di an W → Calls Tryd.prog 26 #[.string (mk pat), .string (mk p)] W fun e w' => e = .returned (.bool M2) ∧ KW w act (mk pat) di an w') := fun W hk => by
              have h := gmatch_any pat p W (by have := HPL.out; omega) (by have := HQL.out; omega)
              rw [← hM2] at h
              exact Calls.mono h fun e w' ⟨h1, h2⟩ => ⟨h1, hk.keep h2⟩
            have HMA : Hid (∀ W, KW w act (mk pat) di an W → Calls Tryd.prog 23 #[ruV act (mk pat) di an, .string (mk p), .bool dir] W fun e w' => e = .returned (.bool R) ∧ KW w act (mk pat) di an w') := fun W hk => by
              have h := matches_any ⟨act, pat, di, an⟩ p dir W (by show pat.length ≤ _; have := HPL.out; omega) (by have := HQL.out; omega)
              rw [← hR] at h
              exact Calls.mono h fun e w' ⟨h1, h2⟩ => ⟨h1, hk.keep h2⟩
            clear hM1 hM2 hR hmis hC hD hE HM0
            have HSP := Lib.hid hsp
            clear hsp
            generalize mk (baseL p) = sb at *
            generalize mk p = s at *
            go_enter Tryd.func7, Tryd.ntmps7
            go_wp2_with (first
              | (go_at_call 25; refine HCK.out.mono ?_; rintro e w1 ⟨rfl, hk⟩; obtain ⟨⟨k0, k1, k2, k3⟩, -⟩ := cells4 hk.row; have HK := Lib.hid hk; clear hk)
              | (go_at_call 19; refine (HRT.out _ HK.out).mono ?_; rintro e w2 ⟨rfl, hk⟩; obtain ⟨⟨k0, k1, k2, k3⟩, -⟩ := cells4 hk.row; have HK := Lib.hid hk; clear hk))
            go_loopw [7, 44] (fun x y wr => ∃ k : Nat, x = .bool (decide ((47 : UInt8) ∈ pat.take k)) ∧ y = .int .i64 k ∧ Hid (k ≤ pat.length) ∧ Hid (KW w act (mk pat) di an wr)) (fun _ y _ => pat.length - (intOf y).toNat)
            case atStart => exact ⟨0, by simp, rfl, Nat.zero_le _, HK⟩
            case round =>
              clear HK HCK HRT k0 k1 k2 k3
              obtain ⟨k, rfl, rfl, HKL, HK⟩ := hrel
              obtain ⟨⟨k0, k1, k2, k3⟩, -⟩ := cells4 HK.out.row
              have hss := HSP.out
              by_cases hk : k < pat.length
              · have hIk : (k : Int) < ((mk pat).size : Int) := by omega
                have hw1 : IntKind.i64.wrap ((k : Int) + 1) = (k : Int) + 1 := IntWalk.i64_in _ (by have := HPL.out; omega)
                have HKK := Lib.hid hk
                have HTS := Lib.hid (take_slash pat k hk)
                by_cases hsl : (47 : UInt8) ∈ pat.take k
                · have hDs : decide ((47 : UInt8) ∈ pat.take k) = true := decide_eq_true hsl
                  have HNX : Hid (decide ((47 : UInt8) ∈ pat.take (k + 1)) = true) := decide_eq_true (HTS.out.2 (.inl hsl))
                  rw [hDs]
                  clear hsl hDs hss hk HTS
                  generalize mk pat = q at *
                  go_wp2
                  go_roundw
                  case rel => exact ⟨k + 1, by rw [HNX.out], rfl, HKK.out, HK⟩
                  case measure => have := HKK.out; simp [intOf]; omega
                · have hDs : decide ((47 : UInt8) ∈ pat.take k) = false := decide_eq_false hsl
                  have hx := run_at pat k hk
                  rw [bt_nb] at hx
                  obtain ⟨c, hc⟩ : ∃ c, c = nb pat k := ⟨_, rfl⟩
                  rw [← hc] at hx HTS
                  have HNX : Hid (decide ((47 : UInt8) ∈ pat.take (k + 1)) = ((c : Int) == 47)) := by
                    show _ = _
                    by_cases h47 : c = 47
                    · rw [decide_eq_true (HTS.out.2 (.inr h47)), h47]; rfl
                    · rw [decide_eq_false (fun h => by rcases HTS.out.1 h with h | h; exact hsl h; exact h47 h)]
                      have : ¬ ((c : Int) = 47) := by omega
                      symm; simpa using this
                  rw [hDs]
                  clear hsl hDs hss hk HTS hc
                  generalize mk pat = q at *
                  go_wp2
                  go_roundw
                  case rel => exact ⟨k + 1, by rw [HNX.out], rfl, HKK.out, HK⟩
                  case measure => have := HKK.out; simp [intOf]; omega
              · have hIk : ¬ (k : Int) < ((mk pat).size : Int) := by omega
                have htk : pat.take k = pat := List.take_of_length_le (by omega)
                rw [htk]
                obtain ⟨S, hS⟩ : ∃ S, S = decide ((47 : UInt8) ∈ pat) := ⟨_, rfl⟩
                rw [← hS]
                have hrr : R = (!(di && !dir) && if an = false ∧ S = false then M1 else M2) := by
                  rw [HRR.out, hS]
                  by_cases h47 : (47 : UInt8) ∈ pat
                  · simp [h47]
                  · simp [h47]
                have HR2 := Lib.hid hrr
                clear hrr hS htk hk hss HRR
                generalize mk pat = q at *
                have hs0 : KW w act q di an wr ∧ wr.cell? ⟨w.heap.size, 1, none⟩ = some (.string q) := ⟨HK.out, k1⟩
                have hs1 : KW w act q di an wr.drew ∧ wr.drew.cell? ⟨w.heap.size, 1, none⟩ = some (.string q) := ⟨HK.out.drew, k1⟩
                go_wp2_with fail
                go_region_held3 (fun W => KW w act q di an W ∧ W.cell? ⟨w.heap.size, 1, none⟩ = some (.string q)) (first | assumption | exact hs1 | exact hs0) (first
                  | (go_at_call 27; (with_reducible refine (HBS.out _).mono ?_); rintro e w' ⟨rfl, rfl⟩)
                  | (go_at_call 26; (with_reducible refine (HG1.out _ ?_).mono ?_); (focus (first | assumption | exact hs1 | exact hs0)); rintro e w5 ⟨rfl, hk5⟩; have hs5 : KW w act q di an w5 ∧ w5.cell? ⟨w.heap.size, 1, none⟩ = some (.string q) := ⟨hk5, (cells4 hk5.row).1.2.1⟩))
                obtain ⟨⟨k0, k1, k2, k3⟩, -⟩ := cells4 hs5.1.row
                have HK := Lib.hid hs5.1
                clear hs5 hs0 hs1 HG1 HBS
                cases S with
                | true =>
                  cases M2 with
                  | false =>
                    have hr : R = false := by rw [HR2.out]; simp
                    subst hr
                    clear HR2
                    go_wp2_with (first
                        | (go_at_call 26; (with_reducible refine (HG2.out _ HK.out).mono ?_); rintro e w6 ⟨rfl, hk⟩; obtain ⟨⟨k0, k1, k2, k3⟩, -⟩ := cells4 hk.row; have HK := Lib.hid hk; clear hk)
                        | (go_at_call 23; refine (HMA.out _ HK.out).mono ?_; rintro e w7 ⟨rfl, hk⟩; obtain ⟨⟨k0, k1, k2, k3⟩, -⟩ := cells4 hk.row; have HK := Lib.hid hk; clear hk)
                        | (go_at_call 9; refine (HAK.out _ HK.out).mono ?_; rintro e w8 ⟨rfl, hk⟩; have HK := Lib.hid hk; clear hk))
                    go_ret
                    exact ⟨rfl, HK.out.bel⟩
                  | true =>
                    cases dir with
                    | true =>
                      have hr : R = true := by rw [HR2.out]; simp
                      subst hr
                      clear HR2
                      go_wp2_with (first
                          | (go_at_call 26; (with_reducible refine (HG2.out _ HK.out).mono ?_); rintro e w6 ⟨rfl, hk⟩; obtain ⟨⟨k0, k1, k2, k3⟩, -⟩ := cells4 hk.row; have HK := Lib.hid hk; clear hk)
                          | (go_at_call 23; refine (HMA.out _ HK.out).mono ?_; rintro e w7 ⟨rfl, hk⟩; obtain ⟨⟨k0, k1, k2, k3⟩, -⟩ := cells4 hk.row; have HK := Lib.hid hk; clear hk)
                          | (go_at_call 9; refine (HAK.out _ HK.out).mono ?_; rintro e w8 ⟨rfl, hk⟩; have HK := Lib.hid hk; clear hk))
                      go_ret
                      exact ⟨rfl, HK.out.bel⟩
                    | false =>
                      cases di with
                      | true =>
                        have hr : R = false := by rw [HR2.out]; simp
                        subst hr
                        clear HR2
                        go_wp2_with (first
                            | (go_at_call 26; (with_reducible refine (HG2.out _ HK.out).mono ?_); rintro e w6 ⟨rfl, hk⟩; obtain ⟨⟨k0, k1, k2, k3⟩, -⟩ := cells4 hk.row; have HK := Lib.hid hk; clear hk)
                            | (go_at_call 23; refine (HMA.out _ HK.out).mono ?_; rintro e w7 ⟨rfl, hk⟩; obtain ⟨⟨k0, k1, k2, k3⟩, -⟩ := cells4 hk.row; have HK := Lib.hid hk; clear hk)
                            | (go_at_call 9; refine (HAK.out _ HK.out).mono ?_; rintro e w8 ⟨rfl, hk⟩; have HK := Lib.hid hk; clear hk))
                        go_ret
                        exact ⟨rfl, HK.out.bel⟩
                      | false =>
                        have hr : R = true := by rw [HR2.out]; simp
                        subst hr
                        clear HR2
                        go_wp2_with (first
                            | (go_at_call 26; (with_reducible refine (HG2.out _ HK.out).mono ?_); rintro e w6 ⟨rfl, hk⟩; obtain ⟨⟨k0, k1, k2, k3⟩, -⟩ := cells4 hk.row; have HK := Lib.hid hk; clear hk)
                            | (go_at_call 23; refine (HMA.out _ HK.out).mono ?_; rintro e w7 ⟨rfl, hk⟩; obtain ⟨⟨k0, k1, k2, k3⟩, -⟩ := cells4 hk.row; have HK := Lib.hid hk; clear hk)
                            | (go_at_call 9; refine (HAK.out _ HK.out).mono ?_; rintro e w8 ⟨rfl, hk⟩; have HK := Lib.hid hk; clear hk))
                        go_ret
                        exact ⟨rfl, HK.out.bel⟩
                | false =>
                  cases an with
                  | true =>
                    cases M2 with
                    | false =>
                      have hr : R = false := by rw [HR2.out]; simp
                      subst hr
                      clear HR2
                      go_wp2_with (first
                          | (go_at_call 26; (with_reducible refine (HG2.out _ HK.out).mono ?_); rintro e w6 ⟨rfl, hk⟩; obtain ⟨⟨k0, k1, k2, k3⟩, -⟩ := cells4 hk.row; have HK := Lib.hid hk; clear hk)
                          | (go_at_call 23; refine (HMA.out _ HK.out).mono ?_; rintro e w7 ⟨rfl, hk⟩; obtain ⟨⟨k0, k1, k2, k3⟩, -⟩ := cells4 hk.row; have HK := Lib.hid hk; clear hk)
                          | (go_at_call 9; refine (HAK.out _ HK.out).mono ?_; rintro e w8 ⟨rfl, hk⟩; have HK := Lib.hid hk; clear hk))
                      go_ret
                      exact ⟨rfl, HK.out.bel⟩
                    | true =>
                      cases dir with
                      | true =>
                        have hr : R = true := by rw [HR2.out]; simp
                        subst hr
                        clear HR2
                        go_wp2_with (first
                            | (go_at_call 26; (with_reducible refine (HG2.out _ HK.out).mono ?_); rintro e w6 ⟨rfl, hk⟩; obtain ⟨⟨k0, k1, k2, k3⟩, -⟩ := cells4 hk.row; have HK := Lib.hid hk; clear hk)
                            | (go_at_call 23; refine (HMA.out _ HK.out).mono ?_; rintro e w7 ⟨rfl, hk⟩; obtain ⟨⟨k0, k1, k2, k3⟩, -⟩ := cells4 hk.row; have HK := Lib.hid hk; clear hk)
                            | (go_at_call 9; refine (HAK.out _ HK.out).mono ?_; rintro e w8 ⟨rfl, hk⟩; have HK := Lib.hid hk; clear hk))
                        go_ret
                        exact ⟨rfl, HK.out.bel⟩
                      | false =>
                        cases di with
                        | true =>
                          have hr : R = false := by rw [HR2.out]; simp
                          subst hr
                          clear HR2
                          go_wp2_with (first
                              | (go_at_call 26; (with_reducible refine (HG2.out _ HK.out).mono ?_); rintro e w6 ⟨rfl, hk⟩; obtain ⟨⟨k0, k1, k2, k3⟩, -⟩ := cells4 hk.row; have HK := Lib.hid hk; clear hk)
                              | (go_at_call 23; refine (HMA.out _ HK.out).mono ?_; rintro e w7 ⟨rfl, hk⟩; obtain ⟨⟨k0, k1, k2, k3⟩, -⟩ := cells4 hk.row; have HK := Lib.hid hk; clear hk)
                              | (go_at_call 9; refine (HAK.out _ HK.out).mono ?_; rintro e w8 ⟨rfl, hk⟩; have HK := Lib.hid hk; clear hk))
                          go_ret
                          exact ⟨rfl, HK.out.bel⟩
                        | false =>
                          have hr : R = true := by rw [HR2.out]; simp
                          subst hr
                          clear HR2
                          go_wp2_with (first
                              | (go_at_call 26; (with_reducible refine (HG2.out _ HK.out).mono ?_); rintro e w6 ⟨rfl, hk⟩; obtain ⟨⟨k0, k1, k2, k3⟩, -⟩ := cells4 hk.row; have HK := Lib.hid hk; clear hk)
                              | (go_at_call 23; refine (HMA.out _ HK.out).mono ?_; rintro e w7 ⟨rfl, hk⟩; obtain ⟨⟨k0, k1, k2, k3⟩, -⟩ := cells4 hk.row; have HK := Lib.hid hk; clear hk)
                              | (go_at_call 9; refine (HAK.out _ HK.out).mono ?_; rintro e w8 ⟨rfl, hk⟩; have HK := Lib.hid hk; clear hk))
                          go_ret
                          exact ⟨rfl, HK.out.bel⟩
                  | false =>
                    cases M1 with
                    | false =>
                      have hr : R = false := by rw [HR2.out]; simp
                      subst hr
                      clear HR2
                      go_wp2_with (first
                          | (go_at_call 26; (with_reducible refine (HG2.out _ HK.out).mono ?_); rintro e w6 ⟨rfl, hk⟩; obtain ⟨⟨k0, k1, k2, k3⟩, -⟩ := cells4 hk.row; have HK := Lib.hid hk; clear hk)
                          | (go_at_call 23; refine (HMA.out _ HK.out).mono ?_; rintro e w7 ⟨rfl, hk⟩; obtain ⟨⟨k0, k1, k2, k3⟩, -⟩ := cells4 hk.row; have HK := Lib.hid hk; clear hk)
                          | (go_at_call 9; refine (HAK.out _ HK.out).mono ?_; rintro e w8 ⟨rfl, hk⟩; have HK := Lib.hid hk; clear hk))
                      go_ret
                      exact ⟨rfl, HK.out.bel⟩
                    | true =>
                      cases dir with
                      | true =>
                        have hr : R = true := by rw [HR2.out]; simp
                        subst hr
                        clear HR2
                        go_wp2_with (first
                            | (go_at_call 26; (with_reducible refine (HG2.out _ HK.out).mono ?_); rintro e w6 ⟨rfl, hk⟩; obtain ⟨⟨k0, k1, k2, k3⟩, -⟩ := cells4 hk.row; have HK := Lib.hid hk; clear hk)
                            | (go_at_call 23; refine (HMA.out _ HK.out).mono ?_; rintro e w7 ⟨rfl, hk⟩; obtain ⟨⟨k0, k1, k2, k3⟩, -⟩ := cells4 hk.row; have HK := Lib.hid hk; clear hk)
                            | (go_at_call 9; refine (HAK.out _ HK.out).mono ?_; rintro e w8 ⟨rfl, hk⟩; have HK := Lib.hid hk; clear hk))
                        go_ret
                        exact ⟨rfl, HK.out.bel⟩
                      | false =>
                        cases di with
                        | true =>
                          have hr : R = false := by rw [HR2.out]; simp
                          subst hr
                          clear HR2
                          go_wp2_with (first
                              | (go_at_call 26; (with_reducible refine (HG2.out _ HK.out).mono ?_); rintro e w6 ⟨rfl, hk⟩; obtain ⟨⟨k0, k1, k2, k3⟩, -⟩ := cells4 hk.row; have HK := Lib.hid hk; clear hk)
                              | (go_at_call 23; refine (HMA.out _ HK.out).mono ?_; rintro e w7 ⟨rfl, hk⟩; obtain ⟨⟨k0, k1, k2, k3⟩, -⟩ := cells4 hk.row; have HK := Lib.hid hk; clear hk)
                              | (go_at_call 9; refine (HAK.out _ HK.out).mono ?_; rintro e w8 ⟨rfl, hk⟩; have HK := Lib.hid hk; clear hk))
                          go_ret
                          exact ⟨rfl, HK.out.bel⟩
                        | false =>
                          have hr : R = true := by rw [HR2.out]; simp
                          subst hr
                          clear HR2
                          go_wp2_with (first
                              | (go_at_call 26; (with_reducible refine (HG2.out _ HK.out).mono ?_); rintro e w6 ⟨rfl, hk⟩; obtain ⟨⟨k0, k1, k2, k3⟩, -⟩ := cells4 hk.row; have HK := Lib.hid hk; clear hk)
                              | (go_at_call 23; refine (HMA.out _ HK.out).mono ?_; rintro e w7 ⟨rfl, hk⟩; obtain ⟨⟨k0, k1, k2, k3⟩, -⟩ := cells4 hk.row; have HK := Lib.hid hk; clear hk)
                              | (go_at_call 9; refine (HAK.out _ HK.out).mono ?_; rintro e w8 ⟨rfl, hk⟩; have HK := Lib.hid hk; clear hk))
                          go_ret
                          exact ⟨rfl, HK.out.bel⟩
        · have hD2 : rightB p = false := by simpa using hD
          rw [hD2] at HRT
          clear hC hD hD2 hsp
          generalize mk pat = q at *
          generalize mk p = s at *
          go_enter Tryd.func7, Tryd.ntmps7
          go_wp2_with (first
            | (go_at_call 25; refine HCK.out.mono ?_; rintro e w1 ⟨rfl, hk⟩; obtain ⟨⟨k0, k1, k2, k3⟩, -⟩ := cells4 hk.row; have HK := Lib.hid hk; clear hk)
            | (go_at_call 19; refine (HRT.out _ HK.out).mono ?_; rintro e w2 ⟨rfl, hk⟩; obtain ⟨⟨k0, k1, k2, k3⟩, -⟩ := cells4 hk.row; have HK := Lib.hid hk; clear hk)
            | (go_at_call 23; refine (HM0.out _ HK.out).mono ?_; rintro e w3 ⟨rfl, hk⟩; have HK := Lib.hid hk; clear hk)
            | (go_at_call 9; refine (HAK.out _ HK.out).mono ?_; rintro e w4 ⟨rfl, hk⟩; have HK := Lib.hid hk; clear hk))
          go_ret
          exact ⟨rfl, HK.out.bel⟩
      · have hC2 : (checkE [⟨act, pat, di, an⟩] == 0) = false := by simpa using hC
        generalize checkE [⟨act, pat, di, an⟩] = er at *
        clear hsp HRT
        generalize mk pat = q at *
        generalize mk p = s at *
        go_enter Tryd.func7, Tryd.ntmps7
        go_wp2_with (first
          | (go_at_call 25; refine HCK.out.mono ?_; rintro e w1 ⟨rfl, hk⟩; obtain ⟨⟨k0, k1, k2, k3⟩, -⟩ := cells4 hk.row; have HK := Lib.hid hk; clear hk)
          | (go_at_call 23; refine (HM0.out _ HK.out).mono ?_; rintro e w3 ⟨rfl, hk⟩; have HK := Lib.hid hk; clear hk)
          | (go_at_call 9; refine (HAK.out _ HK.out).mono ?_; rintro e w4 ⟨rfl, hk⟩; have HK := Lib.hid hk; clear hk))
        go_ret
        exact ⟨rfl, HK.out.bel⟩
end Go.Proofs.YtalbmkkplphahabDoor.Pa
