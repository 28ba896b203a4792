/- gear: each piece's end; the law GearWhole. (A template: seatgen.py fills it.) -/
import Derived.Test.YtheklipnnflnaaaDoorGrLaws2
namespace Go.Proofs.GearMath
def gk (l : List Int) : Nat → Int
  | 0 => 0
  | k + 1 => gs (gk l k) (l.getD k 0)
theorem gk_bd (l : List Int) (k : Nat) : 0 ≤ gk l k ∧ gk l k ≤ 18446744073709551615 := by
  rcases k with _ | k
  · simp [gk]
  · exact gs_bd _ _
theorem scan_spec (L B : Int) (l : List Int) (d : Nat) : ∀ k, (∀ j, k ≤ j → j + 1 < scan L B l d k (gk l k) → ¬ hit L B (j + 1) (gk l (j + 1))) ∧ (scan L B l d k (gk l k) = k + d ∨ hit L B (scan L B l d k (gk l k)) (gk l (scan L B l d k (gk l k)))) := by
  induction d with
  | zero => intro k; exact ⟨fun j h1 h2 => by rw [scan] at h2; omega, .inl rfl⟩
  | succ d ih =>
    intro k
    by_cases hy : hit L B (k + 1) (gs (gk l k) (l.getD k 0))
    · rw [scan_yes _ _ _ _ _ _ (by omega) hy]
      exact ⟨fun j h1 h2 => by omega, .inr hy⟩
    · rw [scan_no _ _ _ _ _ _ (by omega) hy]
      have h := ih (k + 1)
      have e : gs (gk l k) (l.getD k 0) = gk l (k + 1) := rfl
      rw [e, show d + 1 - 1 = d from rfl]
      refine ⟨fun j h1 h2 => ?_, ?_⟩
      · by_cases hj : j = k
        · subst hj; exact hy
        · exact h.1 j (by omega) h2
      · rcases h.2 with h2 | h2
        · left; omega
        · exact .inr h2
theorem fe_spec (L M B : Int) (l : List Int) : (∀ j, j + 1 < fe L M B l → ¬ hit L B (j + 1) (gk l (j + 1))) ∧ (fe L M B l = min M.toNat l.length ∨ hit L B (fe L M B l) (gk l (fe L M B l))) := by
  have h := scan_spec L B l (min M.toNat l.length) 0
  refine ⟨fun j hj => h.1 j (by omega) hj, ?_⟩
  rcases h.2 with h2 | h2
  · left; unfold fe; show scan L B l _ 0 (gk l 0) = _; omega
  · exact .inr h2
theorem whole_facts (L M B : Int) (l : List Int) (i : Nat) (hok : ok L M B) (hi : i < (cuts L M B l 0).length) :
    1 ≤ fe L M B (l.drop (atp (cuts L M B l 0) i)) ∧ ((fe L M B (l.drop (atp (cuts L M B l 0) i)) : Nat) : Int) ≤ M ∧ atp (cuts L M B l 0) i + fe L M B (l.drop (atp (cuts L M B l 0) i)) ≤ l.length ∧
    (i + 1 < (cuts L M B l 0).length → L ≤ ((fe L M B (l.drop (atp (cuts L M B l 0) i)) : Nat) : Int)) ∧
    (¬ hit L B (fe L M B (l.drop (atp (cuts L M B l 0) i))) (gk (l.drop (atp (cuts L M B l 0) i)) (fe L M B (l.drop (atp (cuts L M B l 0) i)))) → ((fe L M B (l.drop (atp (cuts L M B l 0) i)) : Nat) : Int) < M → ¬ i + 1 < (cuts L M B l 0).length) := by
  obtain ⟨k1, k2, k3, k4, k5⟩ := hok
  have hM : 1 ≤ M := by omega
  have ⟨g1, g2⟩ := cuts_get L M B l hM i hi
  have hnext : i + 1 < (cuts L M B l 0).length → atp (cuts L M B l 0) i + fe L M B (l.drop (atp (cuts L M B l 0) i)) < l.length := by
    intro h
    have ⟨n1, _⟩ := cuts_get L M B l hM (i + 1) h
    have e : atp (cuts L M B l 0) (i + 1) = (cuts L M B l 0).getD i 0 := by unfold atp; rw [if_neg (by omega)]; rfl
    rw [e, g2] at n1
    exact n1
  have hs := (fe_spec L M B (l.drop (atp (cuts L M B l 0) i))).2
  have hp := fe_pos L M B (l.drop (atp (cuts L M B l 0) i)) hM (by rw [List.length_drop]; omega)
  have hmo := fe_most L M B (l.drop (atp (cuts L M B l 0) i))
  have hin := fe_in L M B l (atp (cuts L M B l 0) i) (by omega)
  have hdl : (l.drop (atp (cuts L M B l 0) i)).length = l.length - atp (cuts L M B l 0) i := List.length_drop
  generalize atp (cuts L M B l 0) i = p at *
  generalize l.drop p = q at *
  generalize fe L M B q = n at *
  refine ⟨hp, by omega, hin, fun h => ?_, fun h1 h2 h3 => ?_⟩
  · have := hnext h
    rcases hs with hs | hs
    · omega
    · exact hs.1
  · have := hnext h3
    rcases hs with hs | hs
    · omega
    · exact h1 hs
end Go.Proofs.GearMath

namespace Go.Proofs.YtheklipnnflnaaaDoor.Gear
open Go.RowKit Go.Proofs.GearMath
open GRows (MadeR madeR_none append_made clone_any run_cut2 made_row cell_new1)
set_option linter.unusedVariables false
set_option maxRecDepth 1000000

set_option maxHeartbeats 16000000 in
theorem gearWhole_yes (a : Option Addr) (n cap : Nat) (l : List Int) (L M B : Int) (w : World) (hT : Tab w) (hB : Bytes w a l) (hnil : a = none → cap = 0) (hcap : n ≤ cap) (hn : n = l.length) (hbig : n ≤ 2000) (hok : ok L M B) :
    Calls Tryd.prog 7 #[.slice a n cap, P3 L M B] w fun e w' => e = .returned (.bool true) ∧ Below w.heap.size w w' := by
  obtain ⟨w1, hw1⟩ : ∃ w1, w1 = w.alloc (Obj.cells #[.int .i64 L, .int .i64 M, .int .i64 B] 23) := ⟨_, rfl⟩
  obtain ⟨f0, f1, f2⟩ := three_at hw1
  have hb1 : Below w.heap.size w w1 := by rw [hw1]; exact (Below.refl _ _).alloc (Nat.le_refl _) _
  have hS : Sl w (.slice a n cap) l := ⟨a, cap, by rw [hn], hB, hnil, by rw [← hn]; exact hcap⟩
  have ho := hB.1
  have hm : mc L M B l.length = 0 := by unfold mc; rw [if_pos hok, if_pos (by omega)]
  have hM : 1 ≤ M := by unfold ok at hok; omega
  have HOF := Lib.hid (fun W => of_any L M B W)
  have HRK := Lib.hid (fun W => rcheck_any L M B W)
  rw [show chk L M B = 0 from if_pos hok] at HRK
  have HPI := Lib.hid (fun W (hb : Below w.heap.size w W) => pieces_yes _ l L M B W (hT.later hb) (hS.later hb) ho hm)
  have HAW := Lib.hid (fun W (hb : Below w.heap.size w W) => awake_any W (hT.later hb))
  have HTA := Lib.hid (fun c W (hb : Below w.heap.size w W) (h0 : 0 ≤ c) (h1 : c ≤ 255) => table_any c W (hT.later hb) h0 h1)
  have HGET := Lib.hid (cuts_get L M B l hM)
  have HWF := Lib.hid (fun i => whole_facts L M B l i hok)
  have HLA := Lib.hid (cuts_last L M B l hM)
  have hcl := cuts_length L M B l hM l.length 0 (by omega)
  have HOC := Lib.hid (pcs_oct l (cuts L M B l 0) ho)
  obtain ⟨k1, k2, k3, k4, k5⟩ := hok
  generalize cuts L M B l 0 = cs at *
  obtain ⟨N, hN⟩ : ∃ N, N = cs.length := ⟨_, rfl⟩
  have HB := Lib.hid hB
  have HNIL := Lib.hid hnil
  have HN := Lib.hid hN
  have HL := Lib.hid hn
  have HO := Lib.hid ho
  have HB1 := Lib.hid hb1
  rw [← hN] at hcl
  rw [← hn] at hcl
  have hI : ¬ (2000 : Int) < (n : Int) := by omega
  clear hT hS ho hm hM hB hnil hb1 hN hn
  unfold P3 at *
  go_enter Tryd.func7, Tryd.ntmps7
  go_wp2_with fail
  rw [← hw1]
  clear hw1
  refine (HOF.out _).mono ?_
  rintro e w2 ⟨rfl, hb2⟩
  have HB2 : Hid (Below w.heap.size w w2) := HB1.out.trans (hb2.mono HB1.out.size)
  have g0 := cell_later hb2 f0
  have g1 := cell_later hb2 f1
  have g2 := cell_later hb2 f2
  clear hb2 f0 f1 f2
  go_wp2_with fail
  refine (HPI.out _ HB2.out).mono ?_
  rintro e w3 ⟨v3, rfl, hv3, hb3⟩
  obtain ⟨a3, c3, e3⟩ := hv3.form
  rw [pcs_length, ← HN.out] at e3
  subst e3
  have HV3 := Lib.hid hv3
  have HB3 : Hid (Below w.heap.size w w3) := HB2.out.trans (hb3.mono HB2.out.size)
  have f0 := cell_later hb3 g0
  have f1 := cell_later hb3 g1
  have f2 := cell_later hb3 g2
  clear hb3 g0 g1 g2 hv3 HPI
  go_wp2_with fail
  refine (HRK.out _).mono ?_
  rintro e w4 ⟨rfl, hb4⟩
  have HB4 : Hid (Below w.heap.size w w4) := HB3.out.trans (hb4.mono HB3.out.size)
  have HV4 := Lib.hid (HV3.out.below hb4)
  have HF : Hid (w4.cell? ⟨w.heap.size, 0, none⟩ = some (.int .i64 L) ∧ w4.cell? ⟨w.heap.size, 1, none⟩ = some (.int .i64 M) ∧ w4.cell? ⟨w.heap.size, 2, none⟩ = some (.int .i64 B)) := ⟨cell_later hb4 f0, cell_later hb4 f1, cell_later hb4 f2⟩
  clear hb4 f0 f1 f2 HV3 HRK HOF
  go_wp2
  go_loopw [7, 8] (fun vp vi wr => ∃ i p : Nat, vp = .int .i64 p ∧ vi = .int .i64 i ∧ i ≤ N ∧ Hid (p = atp cs i) ∧ Hid (Below w4.heap.size w4 wr)) (fun _ vi _ => N - (intOf vi).toNat)
  case atStart => exact ⟨0, 0, rfl, rfl, by omega, (show _ = _ from rfl), Below.refl _ _⟩
  case round =>
    obtain ⟨i, p, rfl, rfl, hi, HP, HBR⟩ := hrel
    obtain ⟨wo, ewo⟩ : ∃ wo, wo = wr := ⟨_, rfl⟩
    subst ewo
    have hbw : Below w.heap.size w wo := HB4.out.trans (HBR.out.mono HB4.out.size)
    have HBW := Lib.hid hbw
    by_cases hlt : i < N
    · have hltI : (i : Int) < (N : Int) := by omega
      have hic : i < cs.length := by rw [← HN.out]; exact hlt
      have ⟨s1, s2, s3, s4, s5⟩ := HWF.out i hic
      have hge := (HGET.out i hic).2
      have hpg := pcs_get l cs i hic
      have ⟨t1, t2⟩ := fe_spec L M B (l.drop (atp cs i))
      have HE : Hid (cs.getD i 0 = atp cs (i + 1)) := by show _ = _; unfold atp; rw [if_neg (by omega)]; rfl
      rw [← HP.out] at s1 s2 s3 s4 s5 hge hpg t1
      rw [← HN.out] at s4 s5
      rw [← HL.out] at s3
      obtain ⟨pl, hpl⟩ : ∃ pl, pl = fe L M B (l.drop p) := ⟨_, rfl⟩
      rw [← hpl] at s1 s2 s3 s4 s5 hge t1
      rw [hge, Nat.add_sub_cancel_left] at hpg
      have HE : Hid (p + pl = atp cs (i + 1)) := by show _ = _; rw [← hge]; exact HE.out
      obtain ⟨g, pa, pc, ea, hcp, hsp⟩ := (HV4.out.below HBR.out).at HOC.out i (by rw [pcs_length]; exact hic)
      subst ea
      rw [hpg] at hcp hsp
      have hlen : ((l.drop p).take pl).length = pl := by rw [List.length_take, List.length_drop, ← HL.out]; omega
      rw [hlen] at hcp hsp
      obtain ⟨a', hrs, hsl⟩ := run_cut (HB.out.later hbw) cap n HL.out hcap HNIL.out p pl s3
      obtain ⟨y1, y2, ey, hy, -, -⟩ := hsp
      rw [hlen] at ey
      simp only [Value.slice.injEq] at ey
      obtain ⟨rfl, -, rfl⟩ := ey
      obtain ⟨z1, z2, ez, hz, -, -⟩ := hsl
      rw [hlen] at ez
      simp only [Value.slice.injEq] at ez
      obtain ⟨rfl, -, rfl⟩ := ez
      have r1 : ∀ q, (convert 33 9 (.slice pa pl pc)).run Tryd.prog (wo.drewN q) = .ok (.string (strOfNums ((l.drop p).take pl))) (wo.drewN q) := fun q => run_str (w := wo.drewN q) hy pl pc hlen.symm
      have r2 : ∀ q, (convert 33 9 (.slice a' pl (cap - p))).run Tryd.prog (wo.drewN q) = .ok (.string (strOfNums ((l.drop p).take pl))) (wo.drewN q) := fun q => run_str (w := wo.drewN q) hz pl (cap - p) hlen.symm
      generalize strOfNums ((l.drop p).take pl) = S at r1 r2
      obtain ⟨bb, oo, epa, hbc⟩ := hy.2 (by intro e; rw [e] at hlen; simp at hlen; omega)
      subst epa
      have HBC : Hid (∀ k, k < pl → wo.cell? ⟨bb, oo + k, none⟩ = some (.int .u8 ((l.drop p).getD k 0))) := by
        intro k hk
        have h := hbc k (by rw [hlen]; exact hk)
        rw [List.getD_eq_getElem?_getD, List.getElem?_take, if_pos hk, ← List.getD_eq_getElem?_getD] at h
        exact h
      have HQO : Hid (Oct (l.drop p)) := HO.out.drop p
      have HT1 := Lib.hid t1
      have HS5 := Lib.hid s5
      have f0 := cell_later HBR.out HF.out.1
      have f1 := cell_later HBR.out HF.out.2.1
      have f2 := cell_later HBR.out HF.out.2.2
      have HFR : Hid (wo.cell? ⟨w.heap.size, 0, none⟩ = some (.int .i64 L) ∧ wo.cell? ⟨w.heap.size, 1, none⟩ = some (.int .i64 M) ∧ wo.cell? ⟨w.heap.size, 2, none⟩ = some (.int .i64 B)) := ⟨f0, f1, f2⟩
      have HCP := Lib.hid hcp
      have hi0 : (0 : Int) ≤ (i : Int) := by omega
      have d1 : decide ((pl : Int) < 1) = false := decide_eq_false (by omega)
      have d1n : decide (pl < 1) = false := decide_eq_false (by omega)
      have d2 : decide (M < (pl : Int)) = false := decide_eq_false (by omega)
      have d3 : decide ((n : Int) < (p : Int) + (pl : Int)) = false := decide_eq_false (by omega)
      have d3n : decide (n < p + pl) = false := decide_eq_false (by omega)
      have w1' : IntKind.i64.wrap ((i : Int) + 1) = (i : Int) + 1 := by rw [IntKind.wrap_i64]; omega
      have w2' : IntKind.i64.wrap ((p : Int) + (pl : Int)) = (p : Int) + (pl : Int) := by rw [IntKind.wrap_i64]; omega
      generalize l.drop p = q at *
      clear hbw hy hz hlen hbc hpg hge t1 t2 s5 HP hpl
      have hreg : ((i + 1 < N ∧ decide ((i : Int) + 1 < (N : Int)) = true ∧ decide (i + 1 < N) = true ∧ decide ((pl : Int) < L) = false) ∨ (¬ i + 1 < N ∧ decide ((i : Int) + 1 < (N : Int)) = false ∧ decide (i + 1 < N) = false)) := by
        by_cases h : i + 1 < N
        · exact .inl ⟨h, decide_eq_true (by omega), decide_eq_true h, decide_eq_false (by have := s4 h; omega)⟩
        · exact .inr ⟨h, decide_eq_false (by omega), decide_eq_false h⟩
      go_wp2
      have hgo : ∀ {K : Prop}, (i + 1 < N → decide ((i : Int) + 1 < (N : Int)) = true → decide (i + 1 < N) = true → decide ((pl : Int) < L) = false → K) → (¬ i + 1 < N → decide ((i : Int) + 1 < (N : Int)) = false → decide (i + 1 < N) = false → K) → K := by
        intro K h1 h2
        rcases hreg with ⟨x1, x2, x3, x4⟩ | ⟨x1, x2, x3⟩
        · exact h1 x1 x2 x3 x4
        · exact h2 x1 x2 x3
      clear hreg s4
      refine hgo (fun d4 d5 d6 d7 => ?_) (fun d4 d5 d6 => ?_)
      all_goals
        clear hgo
        go_big_quiet (fail)
        clear r1 r2 hrs d1 d1n d3 d3n d5 d6 w1'
        try clear d7
        go_wp2
        go_loopw [10, 11] (fun vg vk wz => ∃ (k : Nat) (g : Int), vk = .int .i64 k ∧ vg = .int .u64 g ∧ k ≤ pl ∧ Hid (g = gk q k) ∧ Hid (Below wo.heap.size wo wz)) (fun _ vk _ => pl - (intOf vk).toNat)
        case atStart => exact ⟨0, 0, rfl, rfl, by omega, (show _ = _ from rfl), below_dN (Below.refl _ _) _⟩
        case round =>
          obtain ⟨k, g0, rfl, rfl, hk, HG, HBZ⟩ := hrel
          by_cases hkl : k < pl
          · have hklI : (k : Int) < (pl : Int) := by omega
            have hk0 : (0 : Int) ≤ (k : Int) := by omega
            have hbz : Below w.heap.size w _ := HBW.out.trans (HBZ.out.mono HBW.out.size)
            have hrow := cell_later HBZ.out HCP.out
            have hck := cell_later HBZ.out (HBC.out k hkl)
            have ⟨hc0, hc1⟩ := HQO.out.getD k
            have HTC := Lib.hid (HTA.out _ _ hbz hc0 hc1)
            have hgb := gs_bd g0 (q.getD k 0)
            have hg0 := gk_bd q k
            rw [← HG.out] at hg0
            have hgt := gs_two g0 (q.getD k 0)
            have hgt' := gt_bd (q.getD k 0) hc0 hc1
            have HGK : Hid (gs g0 (q.getD k 0) = gk q (k + 1)) := by show _ = _; rw [HG.out]; rfl
            generalize gs g0 (q.getD k 0) = g' at *
            generalize q.getD k 0 = ck at *
            generalize gt ck = t at *
            have hwr : IntKind.u64.wrap (IntKind.u64.wrap (2 * g0) + t) = g' := by rw [IntKind.wrap_u64, IntKind.wrap_u64]; exact hgt
            clear hgt
            obtain ⟨ht0, ht1⟩ := hgt'
            obtain ⟨hg2, hg3⟩ := hgb
            obtain ⟨hg4, hg5⟩ := hg0
            clear hbz
            go_wp2_with fail
            refine HTC.out.mono ?_
            rintro e w2 ⟨rfl, hb2⟩
            have HBZ2 : Hid (Below wo.heap.size wo w2) := HBZ.out.trans (hb2.mono HBZ.out.size)
            have q0 := cell_later HBZ2.out HFR.out.1
            have q1 := cell_later HBZ2.out HFR.out.2.1
            have q2 := cell_later HBZ2.out HFR.out.2.2
            clear hb2 HTC hck hrow
            have hD0 : 0 ≤ 64 - B := by omega
            have hD1 : 64 - B ≤ 64 := by omega
            have HD2 : Hid (hit L B (k + 1) g' → k + 1 < pl → False) := fun h1 h2 => HT1.out k h2 (by rw [← HGK.out]; exact h1)
            have HD3 : Hid (¬ hit L B (k + 1) g' → k + 1 = pl → (pl : Int) < M → i + 1 < N → False) := fun h1 h2 h3 h4 => HS5.out (by rw [← h2, ← HGK.out]; exact h1) h3 h4
            have hwk : IntKind.i64.wrap ((k : Int) + 1) = (k : Int) + 1 := by rw [IntKind.wrap_i64]; omega
            have hwi : IntKind.i64.wrap ((i : Int) + 1) = (i : Int) + 1 := by rw [IntKind.wrap_i64]; omega
            by_cases hL : L ≤ (k : Int) + 1 <;> by_cases hz : g' / 2 ^ (64 - B).toNat = 0 <;> by_cases hkn : (k : Int) + 1 < (pl : Int) <;> by_cases hMm : (pl : Int) < M
            all_goals first
              | (exfalso; omega)
              | (exfalso; exact HD2.out ⟨by omega, hz⟩ (by omega))
              | (exfalso; exact HD3.out (fun h => hz h.2) (by omega) hMm (by omega))
              | (exfalso; exact HD3.out (fun h => hL (by have := h.1; omega)) (by omega) hMm (by omega))
              | (have e4 : (i : Int) + 1 < (N : Int) := by omega
                 first
                   | (have hzb : (g' / 2 ^ (64 - B).toNat == 0) = true := by simpa using hz)
                   | (have hzb : (g' / 2 ^ (64 - B).toNat == 0) = false := by simpa using hz)
                 first
                   | (have hkb : ((k : Int) + 1 == (pl : Int)) = true := by (have : (k : Int) + 1 = (pl : Int) := by omega); simpa using this)
                   | (have hkb : ((k : Int) + 1 == (pl : Int)) = false := by (have : ¬ (k : Int) + 1 = (pl : Int) := by omega); simpa using this)
                 clear HD2 HD3 d2
                 go_wp2
                 go_roundw
                 case rel => exact ⟨k + 1, g', by go_num, rfl, by omega, HGK, HBZ2⟩
                 case measure => (simp [intOf]; omega))
              | (have e4 : ¬ (i : Int) + 1 < (N : Int) := by omega
                 first
                   | (have hzb : (g' / 2 ^ (64 - B).toNat == 0) = true := by simpa using hz)
                   | (have hzb : (g' / 2 ^ (64 - B).toNat == 0) = false := by simpa using hz)
                 first
                   | (have hkb : ((k : Int) + 1 == (pl : Int)) = true := by (have : (k : Int) + 1 = (pl : Int) := by omega); simpa using this)
                   | (have hkb : ((k : Int) + 1 == (pl : Int)) = false := by (have : ¬ (k : Int) + 1 = (pl : Int) := by omega); simpa using this)
                 clear HD2 HD3 d2
                 go_wp2
                 go_roundw
                 case rel => exact ⟨k + 1, g', by go_num, rfl, by omega, HGK, HBZ2⟩
                 case measure => (simp [intOf]; omega))
          · have hklI : ¬ (k : Int) < (pl : Int) := by omega
            clear d2
            go_wp2
            go_roundw
            case rel => exact ⟨i + 1, p + pl, by go_num, by go_num, by omega, HE, HBR.out.trans (HBZ.out.mono HBR.out.size)⟩
            case measure => (simp [intOf]; omega)
    · have hltI : ¬ (i : Int) < (N : Int) := by omega
      have ei : i = N := by omega
      have hpn : p = n := by rw [HP.out, ei, HN.out, HLA.out, HL.out]
      subst hpn
      clear hbw ei
      go_wp2_with fail
      refine (HAW.out _ HBW.out).mono ?_
      rintro e w9 ⟨rfl, hb9⟩
      go_wp2
      go_ret
      exact ⟨rfl, HBW.out.trans (hb9.mono HBW.out.size)⟩

set_option maxHeartbeats 4000000 in
theorem gearWhole_walk (a : Option Addr) (n cap : Nat) (l : List Int) (L M B : Int) (w : World) (hT : Tab w) (hB : Bytes w a l) (hnil : a = none → cap = 0) (hcap : n ≤ cap) (hn : n = l.length) :
    Calls Tryd.prog 7 #[.slice a n cap, P3 L M B] w fun e w' => e = .returned (.bool true) ∧ Below w.heap.size w w' := by
  by_cases hbig : n ≤ 2000
  · by_cases hok : ok L M B
    · exact gearWhole_yes a n cap l L M B w hT hB hnil hcap hn hbig hok
    · have hI : ¬ (2000 : Int) < (n : Int) := by omega
      obtain ⟨w1, hw1⟩ : ∃ w1, w1 = w.alloc (Obj.cells #[.int .i64 L, .int .i64 M, .int .i64 B] 23) := ⟨_, rfl⟩
      obtain ⟨f0, f1, f2⟩ := three_at hw1
      have hb1 : Below w.heap.size w w1 := by rw [hw1]; exact (Below.refl _ _).alloc (Nat.le_refl _) _
      have hm : mc L M B n = 2 := by unfold mc; rw [if_neg hok]
      have HOF := Lib.hid (fun W => of_any L M B W)
      have HRK := Lib.hid (fun W => rcheck_any L M B W)
      rw [show chk L M B = 2 from if_neg hok] at HRK
      have HPI := Lib.hid (fun W => pieces_no a n cap L M B W (by omega) (by rw [hm]; decide))
      rw [hm] at HPI
      have HAW := Lib.hid (fun W (hb : Below w.heap.size w W) => awake_any W (hT.later hb))
      have HB1 := Lib.hid hb1
      clear hT hB hnil hcap hn hb1 hok hm
      unfold P3 at *
      go_enter Tryd.func7, Tryd.ntmps7
      go_wp2_with fail
      rw [← hw1]
      clear hw1
      refine (HOF.out _).mono ?_
      rintro e w2 ⟨rfl, hb2⟩
      have HB2 : Hid (Below w.heap.size w w2) := HB1.out.trans (hb2.mono HB1.out.size)
      have g0 := cell_later hb2 f0
      have g1 := cell_later hb2 f1
      have g2 := cell_later hb2 f2
      clear hb2 f0 f1 f2
      go_wp2_with fail
      refine (HPI.out _).mono ?_
      rintro e w3 ⟨rfl, hb3⟩
      have HB3 : Hid (Below w.heap.size w w3) := HB2.out.trans (hb3.mono HB2.out.size)
      have f0 := cell_later hb3 g0
      have f1 := cell_later hb3 g1
      have f2 := cell_later hb3 g2
      clear hb3 g0 g1 g2
      go_wp2_with fail
      refine (HRK.out _).mono ?_
      rintro e w4 ⟨rfl, hb4⟩
      have HB4 : Hid (Below w.heap.size w w4) := HB3.out.trans (hb4.mono HB3.out.size)
      clear hb4
      go_wp2_with fail
      refine (HAW.out _ HB4.out).mono ?_
      rintro e w9 ⟨rfl, hb9⟩
      go_wp2
      go_ret
      exact ⟨rfl, HB4.out.trans (hb9.mono HB4.out.size)⟩
  · have hI : (2000 : Int) < (n : Int) := by omega
    obtain ⟨w1, hw1⟩ : ∃ w1, w1 = w.alloc (Obj.cells #[.int .i64 L, .int .i64 M, .int .i64 B] 23) := ⟨_, rfl⟩
    have hb1 : Below w.heap.size w w1 := by rw [hw1]; exact (Below.refl _ _).alloc (Nat.le_refl _) _
    have H6 := Lib.hid (awake_any w1 (hT.later hb1))
    have HB1 := Lib.hid hb1
    clear hT hb1 hB hnil hcap hn
    unfold P3 at *
    go_enter Tryd.func7, Tryd.ntmps7
    go_wp2_with fail
    rw [← hw1]
    clear hw1
    refine H6.out.mono ?_
    rintro e w9 ⟨rfl, hb9⟩
    go_wp2
    go_ret
    exact ⟨rfl, HB1.out.trans (hb9.mono HB1.out.size)⟩
end Go.Proofs.YtheklipnnflnaaaDoor.Gear
