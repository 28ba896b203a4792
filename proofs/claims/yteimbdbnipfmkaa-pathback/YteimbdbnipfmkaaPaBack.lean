/- The law PathBack. (A template.) -/
import Derived.Test.YteimbdbnipfmkaaPaBackM
import Derived.Test.YteimbdbnipfmkaaPaClean
namespace Go.Proofs.Yteimbdbnipfmkaa.Pa
open Go.RowKit
set_option linter.unusedVariables false
set_option linter.unusedSimpArgs false
set_option maxRecDepth 1000000

theorem Fine.pre {g d : List L8} (h : Fine g) (hd : d <+: g) : Fine d := by
  obtain ⟨m, rfl⟩ := hd
  refine ⟨fun p hp => h.may p (by simp [hp]), ?_, ?_⟩
  · have := h.few; simp at this; omega
  · have hs := h.short
    by_cases hd : d = []
    · subst hd; simp [glue]
    · by_cases hm : m = []
      · subst hm; simpa using hs
      · rw [glue_app hd hm] at hs; simp at hs; omega
theorem Fine.suf {g d m : List L8} (h : Fine g) (hd : g = d ++ m) : Fine m := by
  subst hd
  refine ⟨fun p hp => h.may p (by simp [hp]), ?_, ?_⟩
  · have := h.few; simp at this; omega
  · have hs := h.short
    by_cases hm : m = []
    · subst hm; simp [glue]
    · by_cases hd : d = []
      · subst hd; simpa using hs
      · rw [glue_app hd hm] at hs; simp at hs; omega
theorem join2_any (l m : L8) (w : World) (hl : l.length ≤ 140737488355328) (hm : m.length ≤ 140737488355328) :
    Calls Try.prog 23 #[.slice (some ⟨w.heap.size, 0, none⟩) 2 2] (w.alloc (.cells #[.string (mk l), .string (mk m)] 9)) fun e w' => e = .returned (.tuple #[.string (mk (jn [l, m]).1), .int .i64 (jn [l, m]).2]) ∧ Below w.heap.size w w' := by
  have hb : Below w.heap.size w (w.alloc (.cells #[.string (mk l), .string (mk m)] 9)) := (Below.refl _ _).alloc (Nat.le_refl _) _
  have h := join_loop w.heap.size 0 2 2 [l, m] (w.alloc (.cells #[.string (mk l), .string (mk m)] 9)) rfl (by omega) (by simp)
    (by
      intro i s hs
      refine lit_cell w _ i _ ?_
      rcases i with _ | _ | i
      · simp at hs; subst hs; rfl
      · simp at hs; subst hs; rfl
      · simp at hs)
    (by intro s hs; simp at hs; rcases hs with rfl | rfl <;> assumption) (by have h1 := parts_len l; have h2 := parts_len m; simp [allParts]; omega)
  exact h.mono fun e w' ⟨h1, h2⟩ => ⟨h1, hb.trans (h2.mono hb.size)⟩

set_option maxHeartbeats 16000000 in
theorem pathBack_walk (p q : L8) (w : World) (hp : p.length ≤ 140737488355328) (hq : q.length ≤ 140737488355328) :
    Calls Try.prog 9 #[.string (mk p), .string (mk q)] w fun e w' => e = .returned (.bool true) ∧ Below w.heap.size w w' := by
  have HA := Lib.hid (acc (w := w) awake_pa)
  have HB : Hid (Below w.heap.size w w) := Below.refl _ _
  have HR1 := Lib.hid (acc (w := w) (fun W => right_any p W hp))
  have HR2 := Lib.hid (acc (w := w) (fun W => right_any q W hq))
  by_cases h1 : rightB p = true
  · by_cases h2 : rightB q = true
    · obtain ⟨g, hg, rfl⟩ := right_fine h1
      obtain ⟨h, hh, rfl⟩ := right_fine h2
      rw [h1] at HR1
      rw [h2] at HR2
      obtain ⟨c, hc⟩ : ∃ c, c = cp g h := ⟨_, rfl⟩
      have hcg : c <+: g := hc ▸ (cp_pre g h).1
      have hch : c <+: h := hc ▸ (cp_pre g h).2
      have hcF := hg.pre hcg
      obtain ⟨m, hm⟩ := hcg
      have hmF := hg.suf hm.symm
      -- what is asked for, by parts
      have ktop : commonL (glue g) (glue h) = glue c := by rw [common_parts, hg.parts, hh.parts, ← hc]
      have ktop2 : commonL (glue h) (glue g) = glue c := by rw [common_parts, hg.parts, hh.parts, cp_comm, ← hc]
      have kund : underB (glue g) (glue c) = true := (under_parts _ _).2 (by rw [hg.parts, hcF.parts]; exact ⟨m, hm⟩)
      have kundq : underB (glue h) (glue c) = true := (under_parts _ _).2 (by rw [hh.parts, hcF.parts]; exact hch)
      have krel : relL (glue g) (glue c) = glue m := by rw [rel_parts kund, hg.parts, hcF.parts, ← hm, List.drop_left]
      have kj1 : jn [glue c, glue m] = (glue g, 0) := hg.jn (by simp [allParts, hcF.parts, hmF.parts, hm])
      have kright : rightB (glue c) = true := hcF.right
      obtain ⟨d, hd⟩ : ∃ d, d = g.dropLast := ⟨_, rfl⟩
      have hdg : d <+: g := hd ▸ List.dropLast_prefix g
      have hdF := hg.pre hdg
      have kpar : parentL (glue g) = glue d := by
        by_cases h0 : g = []
        · subst h0; subst hd
          rw [(parent_cut _).1]; rfl
        · rw [(parent_cut _).1, hg.cut h0, hd]
      obtain ⟨bs, hbs⟩ : ∃ bs, bs = baseL (glue g) := ⟨_, rfl⟩
      have hbl : bs.length ≤ 140737488355328 := by rw [hbs]; unfold baseL; rw [List.length_drop]; omega
      have kj2 : jn [glue d, bs] = (glue g, 0) := by
        refine hg.jn ?_
        by_cases h0 : g = []
        · subst h0; subst hd
          have : bs = [] := by rw [hbs]; have := (parent_cut (glue [])).2; simp [glue, cut] at this; simpa [glue] using this.symm
          subst this
          rfl
        · have e := (parent_cut (glue g)).2
          rw [hg.cut h0, ← hd, ← hbs] at e
          have hbF : Fine [bs] := hg.suf e
          have : parts bs = [bs] := by have := hbF.parts; simpa [glue] using this
          simp [allParts, hdF.parts, this]
          exact e.symm
      have hup : underB (glue c) (glue d) = underB (glue h) (glue d) := by
        rw [Bool.eq_iff_iff, under_parts, under_parts, hcF.parts, hdF.parts, hh.parts]
        constructor
        · intro x; exact x.trans hch
        · intro x; rw [hc]; exact pre_cp hdg x
      have kdep1 : depth (glue d) = g.length - 1 := by unfold depth; rw [hdF.parts, hd, List.length_dropLast]
      have kdep2 : depth (glue g) = g.length := by unfold depth; rw [hg.parts]
      have hgl := hg.few
      have hcs := hcF.short
      have hms := hmF.short
      have hds := hdF.short
      have HC1 := Lib.hid (fun W => common_any (glue g) (glue h) W hp hq)
      have HC2 := Lib.hid (fun W => common_any (glue h) (glue g) W hq hp)
      rw [ktop] at HC1
      rw [ktop2] at HC2
      have HCC : Hid (∀ W a b, ((a = glue g ∧ b = glue h) ∨ (a = glue h ∧ b = glue g)) → Calls Try.prog 33 #[.string (mk a), .string (mk b)] W fun e w' => e = .returned (.string (mk (glue c))) ∧ Drew W w') := by
        rintro W a b (⟨rfl, rfl⟩ | ⟨rfl, rfl⟩)
        · exact HC1.out W
        · exact HC2.out W
      have HREL := Lib.hid (fun W => rel_any (glue g) (glue c) W)
      rw [krel, kund] at HREL
      have HJ1 := Lib.hid (fun W => join2_any (glue c) (glue m) W (by omega) (by omega))
      rw [kj1] at HJ1
      have HJ2 := Lib.hid (fun W => join2_any (glue d) bs W (by omega) hbl)
      rw [kj2] at HJ2
      have HJJ : Hid (∀ W a b, ((a = glue c ∧ b = glue m) ∨ (a = glue d ∧ b = bs)) → Calls Try.prog 23 #[.slice (some ⟨W.heap.size, 0, none⟩) 2 2] (W.alloc (.cells #[.string (mk a), .string (mk b)] 9)) fun e w' => e = .returned (.tuple #[.string (mk (glue g)), .int .i64 0]) ∧ Below W.heap.size W w') := by
        rintro W a b (⟨rfl, rfl⟩ | ⟨rfl, rfl⟩)
        · exact HJ1.out W
        · exact HJ2.out W
      have HPA := Lib.hid (fun W => parent_any (glue g) W hp)
      rw [kpar] at HPA
      have HBA := Lib.hid (fun W => base_any (glue g) W hp)
      rw [← hbs] at HBA
      have HR3 := Lib.hid (acc (w := w) (fun W => right_any (glue c) W (by omega)))
      rw [kright] at HR3
      have HUQ := Lib.hid (fun W => under_any (glue h) (glue c) W)
      rw [kundq] at HUQ
      obtain ⟨ub, hub⟩ : ∃ ub, ub = underB (glue h) (glue d) := ⟨_, rfl⟩
      have HU1 := Lib.hid (fun W => under_any (glue c) (glue d) W)
      rw [hup, ← hub] at HU1
      have HU2 := Lib.hid (fun W => under_any (glue h) (glue d) W)
      rw [← hub] at HU2
      have HD1 := Lib.hid (fun W => depth_any (glue d) W (by omega))
      have HD2 := Lib.hid (fun W => depth_any (glue g) W hp)
      rw [kdep1] at HD1
      rw [kdep2] at HD2
      obtain ⟨n, hn⟩ : ∃ n, n = g.length := ⟨_, rfl⟩
      rw [← hn] at HD1 HD2 hgl
      have hmax : ∀ W, (Builtin.max_ #[3, 3] 3 #[.int .i64 0, .int .i64 ((n : Int) - 1)]).run Try.prog W = .ok (.int .i64 ((n - 1 : Nat) : Int)) W := by
        intro W
        by_cases hx : n = 0
        · subst hx
          simp [Builtin.max_, Builtin.max2]
        · have e : ((n - 1 : Nat) : Int) = (n : Int) - 1 := by omega
          rw [e]
          simp [Builtin.max_, Builtin.max2]
          try omega
      have q1 : ((mk (glue g)).toList == (mk (glue g)).toList) = true := eqTT rfl
      have q2 : ((mk (glue c)).toList == (mk (glue c)).toList) = true := eqTT rfl
      have hqb : (ub == ub) = true := by simp
      clear HC1 HC2 HJ1 HJ2
      generalize glue g = P at *
      generalize glue h = Q at *
      generalize glue c = C at *
      generalize glue m = M at *
      generalize glue d = D at *
      clear hm hg hh hc hch hcF hmF ktop ktop2 kund kundq krel kj1 kright hd hdg hdF kpar hbs hbl kj2 hup kdep1 kdep2 hcs hms hds hub hn h1 h2
      go_enter Try.func9, Try.ntmps9
      go_wp2_with (first
        | (go_at_call 10; with_reducible refine (HR1.out _ HB.out).mono ?_; rintro e w1 ⟨rfl, hb⟩; have HB := Lib.hid hb; clear hb)
        | (go_at_call 10; with_reducible refine (HR2.out _ HB.out).mono ?_; rintro e w1 ⟨rfl, hb⟩; have HB := Lib.hid hb; clear hb)
        | (go_at_call 10; with_reducible refine (HR3.out _ HB.out).mono ?_; rintro e w1 ⟨rfl, hb⟩; have HB := Lib.hid hb; clear hb)
        | (go_at_call 33; refine (HCC.out _ _ _ (by first | exact .inl ⟨rfl, rfl⟩ | exact .inr ⟨rfl, rfl⟩)).mono ?_; rintro e w2 ⟨rfl, hd⟩; have HB : Hid (Below w.heap.size w w2) := HB.out.trans (hd.below.mono HB.out.size); clear hd)
        | (go_at_call 27; with_reducible refine (HREL.out _).mono ?_; rintro e w3 ⟨rfl, hw⟩; have hw2 := hw.symm; clear hw; subst hw2)
        | (go_at_call 23; refine (HJJ.out _ _ _ (by first | exact .inl ⟨rfl, rfl⟩ | exact .inr ⟨rfl, rfl⟩)).mono ?_; rintro e w4 ⟨rfl, hb⟩; have HB : Hid (Below w.heap.size w w4) := HB.out.trans (hb.mono HB.out.size); clear hb)
        | (go_at_call 17; with_reducible refine (HPA.out _).mono ?_; rintro e w5 ⟨rfl, rfl⟩)
        | (go_at_call 15; with_reducible refine (HBA.out _).mono ?_; rintro e w5 ⟨rfl, rfl⟩)
        | (go_at_call 31; with_reducible refine (HUQ.out _).mono ?_; rintro e w6 ⟨rfl, hw⟩; have hw2 := hw.symm; clear hw; subst hw2)
        | (go_at_call 31; with_reducible refine (HU1.out _).mono ?_; rintro e w6 ⟨rfl, hw⟩; have hw2 := hw.symm; clear hw; subst hw2)
        | (go_at_call 31; with_reducible refine (HU2.out _).mono ?_; rintro e w6 ⟨rfl, hw⟩; have hw2 := hw.symm; clear hw; subst hw2)
        | (go_at_call 19; with_reducible refine (HD1.out _).mono ?_; rintro e w7 ⟨rfl, rfl⟩)
        | (go_at_call 19; with_reducible refine (HD2.out _).mono ?_; rintro e w7 ⟨rfl, rfl⟩)
        | (go_at_call 21; refine (HA.out _ HB.out).mono ?_; rintro e w8 ⟨rfl, hb⟩; have HB := Lib.hid hb; clear hb))
      go_ret
      exact ⟨rfl, HB.out⟩
    · rw [h1] at HR1
      rw [Bool.not_eq_true] at h2
      rw [h2] at HR2
      clear h1 h2
      go_enter Try.func9, Try.ntmps9
      go_wp2_with (first
        | (go_at_call 10; with_reducible refine (HR1.out _ HB.out).mono ?_; rintro e w1 ⟨rfl, hb⟩; have HB := Lib.hid hb; clear hb)
        | (go_at_call 10; with_reducible refine (HR2.out _ HB.out).mono ?_; rintro e w1 ⟨rfl, hb⟩; have HB := Lib.hid hb; clear hb)
        | (go_at_call 21; refine (HA.out _ HB.out).mono ?_; rintro e w8 ⟨rfl, hb⟩; have HB := Lib.hid hb; clear hb))
      go_ret
      exact ⟨rfl, HB.out⟩
  · rw [Bool.not_eq_true] at h1
    rw [h1] at HR1
    clear h1
    go_enter Try.func9, Try.ntmps9
    go_wp2_with (first
      | (go_at_call 10; with_reducible refine (HR1.out _ HB.out).mono ?_; rintro e w1 ⟨rfl, hb⟩; have HB := Lib.hid hb; clear hb)
      | (go_at_call 21; refine (HA.out _ HB.out).mono ?_; rintro e w8 ⟨rfl, hb⟩; have HB := Lib.hid hb; clear hb))
    go_ret
    exact ⟨rfl, HB.out⟩
end Go.Proofs.Yteimbdbnipfmkaa.Pa
