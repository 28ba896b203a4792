/- squash: the document's Check, Unpack; the law SquashUnpacks. (A template: seatgen.py fills it.) -/
import Derived.Test.YtboienpdnfcooaaSqRText
import Derived.Test.YtboienpdnfcooaaSqAwake
namespace Go.Proofs.Ytboienpdnfcooaa.Sq
open Go.RowKit Go.Proofs.NumMath Go.Maps
open Num (trip)
set_option linter.unusedVariables false
set_option linter.unusedSimpArgs false
set_option maxRecDepth 1000000

theorem sl_nil0 (w : World) : Sl w (.slice none 0 0) [] := ⟨none, 0, rfl, ⟨(by intro x hx; cases hx), fun h => absurd rfl h⟩, fun _ => rfl, by simp⟩
def ue (r : Except Int (List Int)) (most : Int) : List Int × Int :=
  match r with
  | .error er => ([], er)
  | .ok t => if max most 0 < (t.length : Int) then ([], 7) else (t, 0)
theorem UE.form {r : Except Int (List Int)} {most : Int} {e : Ending} {w' : World} (h : UE r most e w') : ∃ v, e = .returned (.tuple #[v, .int .i64 (ue r most).2]) ∧ Sl w' v (ue r most).1 := by
  cases r with
  | error er => exact ⟨_, h, sl_nil0 _⟩
  | ok t =>
    unfold UE at h
    unfold ue
    simp only at h ⊢
    split at h
    · next hc => rw [if_pos hc]; exact ⟨_, h, sl_nil0 _⟩
    · next hc => rw [if_neg hc]; exact h
def ce (r : Except Int (List Int)) : Int × Int :=
  match r with
  | .error er => (0, er)
  | .ok t => ((t.length : Nat), 0)
theorem EP_ce (r : Except Int (List Int)) : EP r = .returned (.tuple #[.int .i64 (ce r).1, .int .i64 (ce r).2]) := by cases r <;> rfl

theorem rcheck10_any (u : Value) (l : List Int) (w : World) (hS : Sl w u l) (hl : l.length ≤ 140737488355328) :
    Calls Try.prog 18 #[u] w fun e w' => e = EP (un l 0 [] false) ∧ Below w.heap.size w w' := by
  have HC := Lib.hid (rtext_any u l w hS hl)
  have HBAD := Lib.hid (un_bad l (sl_oct hS) hl l.length 0 [] false)
  obtain ⟨a, c, rfl⟩ := sl_form' hS
  clear hS
  generalize un l 0 [] false = r at *
  cases r with
  | error er =>
    have her : er ≠ 0 := HBAD.out er (by omega) (by simp) rfl
    have herb : (er == 0) = false := by simpa using her
    clear HBAD
    go_enter Try.func18, Try.ntmps18
    go_wp2_with fail
    refine HC.out.mono ?_
    rintro e w2 ⟨⟨v, t', rfl, hv⟩, hb⟩
    obtain ⟨va, vc, rfl⟩ := sl_form' hv
    go_wp2
    refine bodyPost_ret (v := .tuple #[.int .i64 0, .int .i64 er]) (by simp [results, go_sem]) rfl ⟨rfl, hb⟩
  | ok t =>
    clear HBAD
    go_enter Try.func18, Try.ntmps18
    go_wp2_with fail
    refine HC.out.mono ?_
    rintro e w2 ⟨⟨v, rfl, hv⟩, hb⟩
    obtain ⟨va, vc, rfl⟩ := sl_form' hv
    go_wp2
    refine bodyPost_ret (v := .tuple #[.int .i64 (t.length : Nat), .int .i64 0]) (by simp [results, go_sem]) rfl ⟨rfl, hb⟩

theorem runpack10_any (u : Value) (l : List Int) (most : Int) (w : World) (hS : Sl w u l) (hl : l.length ≤ 140737488355328) :
    Calls Try.prog 16 #[u, .int .i64 most] w fun e w' => UE (un l 0 [] false) most e w' ∧ Below w.heap.size w w' := by
  have HC := Lib.hid (rtext_any u l w hS hl)
  have HBAD := Lib.hid (un_bad l (sl_oct hS) hl l.length 0 [] false)
  obtain ⟨a, c, rfl⟩ := sl_form' hS
  clear hS
  generalize un l 0 [] false = r at *
  cases r with
  | error er =>
    have her : er ≠ 0 := HBAD.out er (by omega) (by simp) rfl
    have herb : (er == 0) = false := by simpa using her
    clear HBAD
    go_enter Try.func16, Try.ntmps16
    go_wp2_with fail
    refine HC.out.mono ?_
    rintro e w2 ⟨⟨v, t', rfl, hv⟩, hb⟩
    obtain ⟨va, vc, rfl⟩ := sl_form' hv
    go_wp2
    refine bodyPost_ret (v := .tuple #[.slice none 0 0, .int .i64 er]) (by simp [results, go_sem]) rfl ⟨rfl, hb⟩
  | ok t =>
    clear HBAD
    obtain ⟨T, hT⟩ : ∃ T, T = t.length := ⟨_, rfl⟩
    have HT := Lib.hid hT
    clear hT
    by_cases h1 : most < (T : Int)
    · by_cases h2 : (0 : Int) < (T : Int)
      · have h2n : 0 < T := by omega
        have HX : Hid (max most 0 < (t.length : Int)) := by show _ < _; rw [← HT.out]; omega
        go_enter Try.func16, Try.ntmps16
        go_wp2_with fail
        refine HC.out.mono ?_
        rintro e w2 ⟨⟨v, rfl, hv⟩, hb⟩
        obtain ⟨va, vc, ev⟩ := sl_form' hv
        rw [← HT.out] at ev
        subst ev
        clear hv
        go_wp2
        refine bodyPost_ret (v := .tuple #[.slice none 0 0, .int .i64 7]) (by simp [results, go_sem]) rfl ⟨?_, hb⟩
        show if _ then _ else _
        rw [if_pos (by have := HX.out; omega)]
      · have h2n : ¬ 0 < T := by omega
        have h2z : T = 0 := by omega
        subst h2z
        have HX : Hid (¬ max most 0 < (t.length : Int)) := by have h9 := HT.out; show ¬ _; omega
        go_enter Try.func16, Try.ntmps16
        go_wp2_with fail
        refine HC.out.mono ?_
        rintro e w2 ⟨⟨v, rfl, hv⟩, hb⟩
        obtain ⟨va, vc, ev⟩ := sl_form' hv
        rw [← HT.out] at ev
        subst ev
        have HV := Lib.hid hv
        clear hv
        go_wp2
        refine bodyPost_ret (v := .tuple #[.slice va 0 vc, .int .i64 0]) (by simp [results, go_sem]) rfl ⟨?_, hb⟩
        show if _ then _ else _
        rw [if_neg (by have := HX.out; omega)]
        exact ⟨_, rfl, HV.out⟩
    · have HX : Hid (¬ max most 0 < (t.length : Int)) := by show ¬ _; rw [← HT.out]; omega
      go_enter Try.func16, Try.ntmps16
      go_wp2_with fail
      refine HC.out.mono ?_
      rintro e w2 ⟨⟨v, rfl, hv⟩, hb⟩
      obtain ⟨va, vc, ev⟩ := sl_form' hv
      rw [← HT.out] at ev
      subst ev
      have HV := Lib.hid hv
      clear hv
      go_wp2
      refine bodyPost_ret (v := .tuple #[.slice va T vc, .int .i64 0]) (by simp [results, go_sem]) rfl ⟨?_, hb⟩
      show if _ then _ else _
      rw [if_neg (by have := HX.out; omega)]
      exact ⟨_, rfl, HV.out⟩

set_option maxHeartbeats 4000000 in
theorem squashUnpacks_walk (a : Option Addr) (n cap : Nat) (most : Int) (l : List Int) (w : World) (hS : Sl w (.slice a n cap) l) (hn : n = l.length) :
    Calls Try.prog 4 #[.slice a n cap, .int .i64 most] w fun e w' => e = .returned (.bool true) ∧ Below w.heap.size w w' := by
  have hA := Lib.hid (fun W => awake_sq W)
  by_cases hbig : n ≤ 5000
  · have hI : ¬ (5000 : Int) < (n : Int) := by omega
    have hl : l.length ≤ 140737488355328 := by omega
    have HS := Lib.hid hS
    have HU := Lib.hid (fun W (hb : Below w.heap.size w W) => unpack_any _ l most W (hS.later hb) hl)
    have HR := Lib.hid (fun W (hb : Below w.heap.size w W) => runpack10_any _ l most W (hS.later hb) hl)
    have HC := Lib.hid (fun W (hb : Below w.heap.size w W) => check_any _ l W (hS.later hb) hl)
    have HD := Lib.hid (fun W (hb : Below w.heap.size w W) => rcheck10_any _ l W (hS.later hb) hl)
    rw [EP_ce] at HC HD
    clear hS hn hl
    generalize un l 0 [] false = r at *
    go_enter Try.func4, Try.ntmps4
    go_wp2_with fail
    refine (HU.out w (Below.refl _ _)).mono ?_
    rintro e w2 ⟨hu, hb2⟩
    obtain ⟨v2, rfl, hv2⟩ := hu.form
    obtain ⟨a2, c2, e2⟩ := sl_form' hv2
    have HV2 := Lib.hid hv2
    have HB2 := Lib.hid hb2
    clear hu hv2 hb2 HU
    generalize (ue r most).1.length = n2 at e2
    subst e2
    go_wp2_with fail
    refine (HR.out w2 HB2.out).mono ?_
    rintro e w3 ⟨hu, hb3⟩
    obtain ⟨v3, rfl, hv3⟩ := hu.form
    obtain ⟨a3, c3, e3⟩ := sl_form' hv3
    have HV3 := Lib.hid hv3
    have HV23 := Lib.hid (HV2.out.later hb3)
    have HB3 : Hid (Below w.heap.size w w3) := HB2.out.trans (hb3.mono HB2.out.size)
    clear hu hv3 hb3 HR HV2
    generalize (ue r most).1.length = n3 at e3
    subst e3
    go_wp2_with fail
    refine (HC.out w3 HB3.out).mono ?_
    rintro e w4 ⟨rfl, hb4⟩
    have HV24 := Lib.hid (HV23.out.later hb4)
    have HV34 := Lib.hid (HV3.out.later hb4)
    have HB4 : Hid (Below w.heap.size w w4) := HB3.out.trans (hb4.mono HB3.out.size)
    clear hb4 HC HV23 HV3
    go_wp2_with fail
    refine (HD.out w4 HB4.out).mono ?_
    rintro e w5 ⟨rfl, hb5⟩
    have HSM := Lib.hid (same10 _ _ _ w5 (HV24.out.later hb5) (HV34.out.later hb5))
    have HB5 : Hid (Below w.heap.size w w5) := HB4.out.trans (hb5.mono HB4.out.size)
    clear hb5 HD HV24 HV34
    generalize (ue r most).2 = x at *
    generalize (ce r).1 = y at *
    generalize (ce r).2 = z at *
    go_wp2_with fail
    refine HSM.out.mono ?_
    rintro e w6 ⟨rfl, rfl⟩
    go_wp2_with fail
    refine (hA.out _).mono ?_
    rintro e w9 ⟨rfl, hb9⟩
    go_wp2
    go_ret
    exact ⟨rfl, HB5.out.trans (hb9.mono HB5.out.size)⟩
  · have hI : (5000 : Int) < (n : Int) := by omega
    clear hS hn
    go_enter Try.func4, Try.ntmps4
    go_wp2_with fail
    refine (hA.out _).mono ?_
    rintro e w9 ⟨rfl, hb9⟩
    go_wp2
    go_ret
    exact ⟨rfl, hb9⟩
end Go.Proofs.Ytboienpdnfcooaa.Sq
