/- gear: the document's Cuts; rows of places compared. (A template: seatgen.py fills it.) -/
import Derived.Test.YtheklipnnflnaaaDoorGrCuts
namespace Go.Proofs.YtheklipnnflnaaaDoor.Gear
open Go.RowKit Go.Proofs.GearMath
set_option linter.unusedVariables false
set_option maxRecDepth 1000000

theorem rcuts_no (a : Option Addr) (n cap : Nat) (L M B : Int) (w : World) (hn : n ≤ 9223372036854775807) (h : mc L M B n ≠ 0) :
    Calls Tryd.prog 19 #[.slice a n cap, P3 L M B] w fun e w' => e = .returned (.tuple #[.slice none 0 0, .int .i64 (mc L M B n)]) ∧ Below w.heap.size w w' := by
  have HC := Lib.hid (fun W => rcheck_any L M B W)
  obtain ⟨w1, hw1⟩ : ∃ w1, w1 = w.alloc (Obj.cells #[.int .i64 L, .int .i64 M, .int .i64 B] 23) := ⟨_, rfl⟩
  obtain ⟨f0, f1, f2⟩ := three_at hw1
  have HB1 : Hid (Below w.heap.size w w1) := by rw [hw1]; exact (Below.refl _ _).alloc (Nat.le_refl _) _
  by_cases hok : ok L M B
  · have hc : chk L M B = 0 := if_pos hok
    have hn2 : ¬ n ≤ 65536 := by intro h2; apply h; unfold mc; rw [if_pos hok, if_pos h2]
    have hm : mc L M B n = 7 := by unfold mc; rw [if_pos hok, if_neg hn2]
    have hI : (65536 : Int) < (n : Int) := by omega
    rw [hm]
    rw [hc] at HC
    clear h hm hok hc
    unfold P3 at *
    go_enter Tryd.func19, Tryd.ntmps19
    go_wp2_with fail
    rw [← hw1]
    clear hw1
    refine (HC.out _).mono ?_
    rintro e w2 ⟨rfl, hb2⟩
    go_wp2
    refine bodyPost_ret (v := .tuple #[.slice none 0 0, .int .i64 7]) (by simp [results, go_sem]) rfl ⟨rfl, HB1.out.trans (hb2.mono HB1.out.size)⟩
  · have hc : chk L M B = 2 := if_neg hok
    have hm : mc L M B n = 2 := by unfold mc; rw [if_neg hok]
    rw [hm]
    rw [hc] at HC
    clear h hm hok hc
    unfold P3 at *
    go_enter Tryd.func19, Tryd.ntmps19
    go_wp2_with fail
    rw [← hw1]
    clear hw1
    refine (HC.out _).mono ?_
    rintro e w2 ⟨rfl, hb2⟩
    go_wp2
    refine bodyPost_ret (v := .tuple #[.slice none 0 0, .int .i64 2]) (by simp [results, go_sem]) rfl ⟨rfl, HB1.out.trans (hb2.mono HB1.out.size)⟩

set_option maxHeartbeats 4000000 in
theorem rcuts_yes (u : Value) (l : List Int) (L M B : Int) (w : World) (hS : Sl w u l) (ho : Oct l) (h : mc L M B l.length = 0) :
    Calls Tryd.prog 19 #[u, P3 L M B] w fun e w' => ∃ v, e = .returned (.tuple #[v, .int .i64 0]) ∧ IOwn w' w.heap.size v (cuts L M B l 0) ∧ Below w.heap.size w w' := by
  obtain ⟨hok, hl⟩ := mc_zero h
  obtain ⟨a, cap, rfl, hB, hnil, hcap⟩ := hS
  have HC := Lib.hid (fun W => rcheck_any L M B W)
  rw [show chk L M B = 0 from if_pos hok] at HC
  obtain ⟨w1, hw1⟩ : ∃ w1, w1 = w.alloc (Obj.cells #[.int .i64 L, .int .i64 M, .int .i64 B] 23) := ⟨_, rfl⟩
  obtain ⟨f0, f1, f2⟩ := three_at hw1
  have HB1 : Hid (Below w.heap.size w w1) := by rw [hw1]; exact (Below.refl _ _).alloc (Nat.le_refl _) _
  have HO := Lib.hid ho
  have HB := Lib.hid hB
  have HOK := Lib.hid hok
  have HNIL := Lib.hid hnil
  have hM : 1 ≤ M := by unfold ok at hok; omega
  have HM := Lib.hid hM
  obtain ⟨N, hN⟩ : ∃ N, N = l.length := ⟨_, rfl⟩
  have HN := Lib.hid hN
  have HFE : Hid (∀ W u' q, Below w.heap.size w W → q < N → Sl W u' (l.drop q) → Calls Tryd.prog 17 #[u', P3 L M B] W fun e w' => e = .returned (.int .i64 (fe L M B (l.drop q) : Nat)) ∧ Below W.heap.size W w') := fun W u' q hb hq hs => (by have h := rnext_any u' (l.drop q) L M B W hs (HO.out.drop q) (by rw [List.length_drop]; omega); rw [show nxt L M B (l.drop q) = fe L M B (l.drop q) from if_pos HOK.out] at h; exact h)
  rw [← hN] at hcap hl ⊢
  have hnb : ¬ (65536 : Int) < (N : Int) := by omega
  clear ho hB hok hnil hN h hM
  unfold P3 at *
  go_enter Tryd.func19, Tryd.ntmps19
  go_wp2_with fail
  rw [← hw1]
  clear hw1
  refine (HC.out _).mono ?_
  rintro e w2 ⟨rfl, hb2⟩
  have HB2 : Hid (Below w.heap.size w w2) := HB1.out.trans (hb2.mono HB1.out.size)
  have HBX := Lib.hid hb2
  clear hb2 HC
  go_wp2
  obtain ⟨s1, hs1⟩ : ∃ s1, s1 = w1.heap.size := ⟨_, rfl⟩
  have HB12 : Hid (Below s1 w1 w2) := by rw [hs1]; exact HBX.out
  have HS1 := Lib.hid hs1
  have HF0 := Lib.hid f0
  have HF1 := Lib.hid f1
  have HF2 := Lib.hid f2
  clear f0 f1 f2
  go_loopw [7, 8] (fun vo vp wr => ∃ (p : Nat) (out : List Nat), vp = .int .i64 p ∧ p ≤ N ∧ Hid (IOwn wr s1 vo out) ∧ out.length ≤ p ∧ Hid (out ++ cuts L M B l p = cuts L M B l 0) ∧ Hid (Below s1 w1 wr)) (fun _ vp _ => N - (intOf vp).toNat)
  case atStart => exact ⟨0, [], rfl, by omega, (show IOwn _ _ _ _ from IOwn.nil _ _), by simp, (show _ = _ from rfl), HB12⟩
  case round =>
    obtain ⟨p, out, rfl, hpN, HV, hout, HK, HBR⟩ := hrel
    have hb1r : Below w1.heap.size w1 wr := by rw [← HS1.out]; exact HBR.out
    have hbel : Below w.heap.size w wr := HB1.out.trans (hb1r.mono HB1.out.size)
    have HBEL := Lib.hid hbel
    have q0 := cell_later hb1r HF0.out
    have q1 := cell_later hb1r HF1.out
    have q2 := cell_later hb1r HF2.out
    clear hb1r
    by_cases hlt : p < N
    · have hltI : (p : Int) < (N : Int) := by omega
      obtain ⟨a', hrs, hsl⟩ := run_from (HB.out.later hbel) cap N HN.out hcap HNIL.out p (N - p) p rfl (by omega)
      have hcm := cuts_more L M B l p HM.out (by rw [← HN.out]; exact hlt)
      have hin := fe_in L M B l p (by rw [← HN.out]; omega)
      have hps := fe_pos L M B (l.drop p) HM.out (by rw [List.length_drop, ← HN.out]; omega)
      rw [← HN.out] at hin
      have hF : ∀ W, (Below wr.heap.size wr W ∧ W.cell? ⟨w.heap.size, 0, none⟩ = some (.int .i64 L) ∧ W.cell? ⟨w.heap.size, 1, none⟩ = some (.int .i64 M) ∧ W.cell? ⟨w.heap.size, 2, none⟩ = some (.int .i64 B)) → Calls Tryd.prog 17 #[.slice a' (N - p) (cap - p), .agg #[.int .i64 L, .int .i64 M, .int .i64 B]] W fun e w' => e = .returned (.int .i64 (fe L M B (l.drop p) : Nat)) ∧ (Below wr.heap.size wr w' ∧ w'.cell? ⟨w.heap.size, 0, none⟩ = some (.int .i64 L) ∧ w'.cell? ⟨w.heap.size, 1, none⟩ = some (.int .i64 M) ∧ w'.cell? ⟨w.heap.size, 2, none⟩ = some (.int .i64 B)) := by
        rintro W ⟨hb, d0, d1, d2⟩
        refine (HFE.out W _ p (HBEL.out.trans (hb.mono HBEL.out.size)) hlt (hsl.later hb)).mono ?_
        rintro e w' ⟨rfl, h⟩
        exact ⟨rfl, hb.trans (h.mono hb.size), cell_later h d0, cell_later h d1, cell_later h d2⟩
      have HF := Lib.hid hF
      have HCM := Lib.hid hcm
      generalize fe L M B (l.drop p) = f at *
      obtain ⟨E, hE⟩ : ∃ E, E = p + f := ⟨_, rfl⟩
      have HEI : Hid ((p : Int) + (f : Int) = (E : Int)) := by show _ = _; omega
      have hEw : IntKind.i64.wrap ((p : Int) + (f : Int)) = (p : Int) + (f : Int) := by apply IntWalk.i64_in; omega
      have HEN : Hid (E ≤ N ∧ p < E) := by refine ⟨?_, ?_⟩ <;> omega
      have hS0 : Below wr.heap.size wr wr ∧ wr.cell? ⟨w.heap.size, 0, none⟩ = some (.int .i64 L) ∧ wr.cell? ⟨w.heap.size, 1, none⟩ = some (.int .i64 M) ∧ wr.cell? ⟨w.heap.size, 2, none⟩ = some (.int .i64 B) := ⟨Below.refl _ _, q0, q1, q2⟩
      have hS1 : Below wr.heap.size wr wr.drew ∧ wr.drew.cell? ⟨w.heap.size, 0, none⟩ = some (.int .i64 L) ∧ wr.drew.cell? ⟨w.heap.size, 1, none⟩ = some (.int .i64 M) ∧ wr.drew.cell? ⟨w.heap.size, 2, none⟩ = some (.int .i64 B) := ⟨Below.drew (Below.refl _ _), q0, q1, q2⟩
      rw [← hE] at HCM
      clear hF hcm hsl hbel HFE q0 q1 q2 hE hin hps
      go_wp2_with fail
      go_region_held3 (fun W => Below wr.heap.size wr W ∧ W.cell? ⟨w.heap.size, 0, none⟩ = some (.int .i64 L) ∧ W.cell? ⟨w.heap.size, 1, none⟩ = some (.int .i64 M) ∧ W.cell? ⟨w.heap.size, 2, none⟩ = some (.int .i64 B)) (first | assumption | exact hS0 | exact hS1) (first
        | (go_at_call 17; (with_reducible refine (HF.out _ ?_).mono ?_); (focus (first | assumption | exact hS0 | exact hS1)); rintro e w9 ⟨rfl, hb9⟩))
      rw [HEI.out]
      clear hEw
      obtain ⟨hb9, d0, d1, d2⟩ := hb9
      have hba : Below w9.heap.size w9 (w9.alloc (.cells #[.int .i64 ((E : Nat) : Int)] 3)) := (Below.refl _ _).alloc (Nat.le_refl _) _
      have hbwa : Below wr.heap.size wr (w9.alloc (.cells #[.int .i64 ((E : Nat) : Int)] 3)) := hb9.trans (hba.mono hb9.size)
      have HVA : Hid (IOwn (w9.alloc (.cells #[.int .i64 ((E : Nat) : Int)] 3)) s1 _ out) := HV.out.below hbwa
      have hsr : s1 ≤ wr.heap.size := by rw [HS1.out]; have := HBR.out.size; exact this
      have HBA : Hid (Below s1 w1 (w9.alloc (.cells #[.int .i64 ((E : Nat) : Int)] 3))) := HBR.out.trans (hbwa.mono hsr)
      have HSA : Hid (s1 ≤ (w9.alloc (.cells #[.int .i64 ((E : Nat) : Int)] 3)).heap.size) := Nat.le_trans hsr hbwa.size
      have HON := Lib.hid (one_at w9 (.int .i64 ((E : Nat) : Int)) 3)
      have HLO : Hid (out.length ≤ 200000) := by show _ ≤ _; omega
      clear hb9 hba hbwa d0 d1 d2 hS0 hS1 HF hrs hsr
      go_wp2_with (at_builtin; refine append_int rfl (.tmp 28) (.tmp 30) rfl s1 w9.heap.size _ out E rfl HVA.out rfl HON.out HLO.out HSA.out ?_; intro v3 w3 HV3 hb3)
      refine ⟨⟨E, out ++ [E], rfl, HEN.out.1, HV3, ?_, ?_, HBA.out.trans hb3⟩, ?_⟩
      · have := HEN.out.2; rw [List.length_append, List.length_singleton]; omega
      · show _ = _
        rw [List.append_assoc, ← HK.out, HCM.out]; rfl
      · have := HEN.out; simp [intOf]; omega
    · have hltI : ¬ (p : Int) < (N : Int) := by omega
      have hce := cuts_end L M B l p (by rw [← HN.out]; omega)
      have hk := HK.out
      rw [hce, List.append_nil] at hk
      rw [hk] at HV
      have HVL : Hid (IOwn wr w.heap.size _ (cuts L M B l 0)) := HV.out.lower (by rw [HS1.out]; exact HB1.out.size)
      clear hk hce
      go_wp2
      refine bodyPost_ret (v := .tuple #[_, .int .i64 0]) (by simp [results, go_sem]) rfl ⟨_, rfl, HVL.out, hbel⟩

theorem below_dN {b : Nat} {w W : World} (h : Below b w W) (n : Nat) : Below b w (W.drewN n) := ⟨h.os, h.tape, h.output, h.size, h.block⟩
theorem isame_any (u v : Value) (l : List Nat) (w : World) (hu : ISl w u l) (hv : ISl w v l) (hl : l.length ≤ 9223372036854775807) :
    Calls Tryd.prog 21 #[u, v] w fun e w' => e = .returned (.bool true) ∧ Below w.heap.size w w' := by
  obtain ⟨a, cap, rfl, h1⟩ := hu
  obtain ⟨a', cap', rfl, h2⟩ := hv
  obtain ⟨N, hN⟩ : ∃ N, N = l.length := ⟨_, rfl⟩
  have H1 := Lib.hid h1
  have H2 := Lib.hid h2
  have HN := Lib.hid hN
  rw [← hN] at hl ⊢
  clear h1 h2 hN
  go_enter Tryd.func21, Tryd.ntmps21
  go_wp2
  go_loopw [5] (fun c wr => ∃ i : Nat, c = .int .i64 i ∧ i ≤ N ∧ Hid (Below w.heap.size w wr)) (fun c _ => N - (intOf c).toNat)
  case atStart => exact ⟨0, rfl, by omega, Below.refl _ _⟩
  case round =>
    obtain ⟨i, rfl, hi, HB⟩ := hrel
    by_cases hlt : i < N
    · have hne : l ≠ [] := by intro e; have := HN.out; rw [e] at this; simp at this; omega
      obtain ⟨b, off, e1, c1⟩ := H1.out hne
      obtain ⟨b', off', e2, c2⟩ := H2.out hne
      subst e1 e2
      have d1 := cell_later HB.out (c1 i (by rw [← HN.out]; exact hlt))
      have d2 := cell_later HB.out (c2 i (by rw [← HN.out]; exact hlt))
      generalize (l.getD i 0) = x at d1 d2
      have hI : (i : Int) < (N : Int) := by omega
      have hi0 : (0 : Int) ≤ (i : Int) := by omega
      clear c1 c2 hne
      go_wp2
      go_quiet (fail)
      go_wp2
      go_roundw
      case rel => exact ⟨i + 1, by go_num, by omega, below_dN HB.out _⟩
      case measure => simp [intOf]; omega
    · have hI : ¬ (i : Int) < (N : Int) := by omega
      go_wp2
      go_ret
      exact ⟨rfl, HB.out⟩
end Go.Proofs.YtheklipnnflnaaaDoor.Gear
