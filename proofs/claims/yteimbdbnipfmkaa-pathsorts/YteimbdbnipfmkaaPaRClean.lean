/- path: the document's clean, Clean, Join; the law's great. (A template.) -/
import Derived.Test.YteimbdbnipfmkaaPaClean
import Derived.Test.YteimbdbnipfmkaaPaRParts
namespace Go.Proofs.Yteimbdbnipfmkaa.Pa
open Go.RowKit
set_option linter.unusedVariables false
set_option linter.unusedSimpArgs false
set_option maxRecDepth 1000000

def jc (ps : List L8) : L8 × Int :=
  if firstBad ps ≠ 0 then ([], firstBad ps) else if 12 < (good ps).length ∨ 200 < (glue (good ps)).length then ([], 7) else (glue (good ps), 0)
theorem jn_jc (ss : List L8) : jn ss = jc (allParts ss) := rfl
theorem fb_at {ps : List L8} {k : Nat} {x : L8} (h : ps[k]? = some x) (h0 : firstBad (ps.take k) = 0) (hs : skip x = false) (hr : refV x ≠ 0) : firstBad ps = refV x := by
  have e : ps = ps.take k ++ x :: ps.drop (k + 1) := by
    obtain ⟨h1, h2⟩ := List.getElem?_eq_some_iff.1 h
    rw [← h2, ← List.drop_eq_getElem_cons h1, List.take_append_drop]
  conv => lhs; rw [e]
  exact fb_bad hs hr h0
set_option maxHeartbeats 16000000 in
theorem rclean_any (v : Value) (ps : List L8) (w : World) (h : Txt w v ps) (hn : ps.length ≤ 4000000) (hp : ∀ p ∈ ps, p.length ≤ 1048576) :
    Calls Try.prog 44 #[v] w fun e w' => e = .returned (.tuple #[.string (mk (jc ps).1), .int .i64 (jc ps).2]) ∧ Below w.heap.size w w' := by
  obtain ⟨R1, hR1⟩ : ∃ R1, R1 = (jc ps).1 := ⟨_, rfl⟩
  obtain ⟨R2, hR2⟩ : ∃ R2, R2 = (jc ps).2 := ⟨_, rfl⟩
  rw [← hR1, ← hR2]
  have HR1 := Lib.hid hR1
  have HR2 := Lib.hid hR2
  obtain ⟨a, c, rfl, hT⟩ := h
  obtain ⟨n, hnn⟩ : ∃ n, n = ps.length := ⟨_, rfl⟩
  rw [← hnn] at hn ⊢
  have HN := Lib.hid hnn
  have HT := Lib.hid hT
  have HP := Lib.hid hp
  have HB0 : Hid (Below w.heap.size w w) := Below.refl _ _
  clear hR1 hR2 hT hp hnn
  go_enter Try.func44, Try.ntmps44
  go_wp2
  go_loopw [4, 5] (fun v c wr => ∃ (k m : Nat) (G : List L8), c = .int .i64 k ∧ k ≤ n ∧ (∃ a cc, v = .slice a m cc) ∧ Hid (m = G.length) ∧ Hid (G = good (ps.take k)) ∧ Hid (firstBad (ps.take k) = 0) ∧ Hid (SOwn wr w.heap.size v G) ∧ Hid (Below w.heap.size w wr)) (fun _ c _ => n - (intOf c).toNat)
  case atStart => exact ⟨0, 0, [], rfl, Nat.zero_le _, ⟨none, 0, rfl⟩, rfl, rfl, rfl, World.ownsRow_nil _ _ _ _, Below.refl _ _⟩
  case round =>
    obtain ⟨k, m, G, rfl, hk, ⟨a4, c4, rfl⟩, HM, HG, HFB, HO, HB⟩ := hrel
    have hsz := HB.out.size
    have HGL : Hid (G.length ≤ 4000000) := by
      show _ ≤ _
      have h1 : (good (ps.take k)).length ≤ (ps.take k).length := List.length_filter_le ..
      rw [List.length_take] at h1
      rw [HG.out]; have := HN.out; omega
    by_cases hlt : k < n
    · have hI : (k : Int) < (n : Int) := by omega
      obtain ⟨x, hx⟩ : ∃ x, ps[k]? = some x := ⟨_, List.getElem?_eq_getElem (by have := HN.out; omega)⟩
      obtain ⟨g, off, ea, hcell⟩ := HT.out (by intro e; rw [e] at hx; simp at hx)
      subst ea
      have hcx := cell_later HB.out (hcell k x hx)
      have hxb := HP.out x (List.mem_of_getElem? hx)
      have hxs : (mk x).size = x.length := mk_size x
      have HNO := Lib.hid (fun W => nought_any x W (by omega))
      have HX := Lib.hid hx
      have HGT := Lib.hid (good_take hx)
      have HTK := Lib.hid (take_part hx)
      clear hcell hx
      by_cases hsk : skip x = true
      · have HG2 : Hid (G = good (ps.take (k + 1))) := by show _ = _; rw [HGT.out, if_pos hsk]; exact HG.out
        have HFB2 : Hid (firstBad (ps.take (k + 1)) = 0) := by show _ = _; rw [HTK.out]; exact fb_skip hsk HFB.out
        have hor : x = [] ∨ x = [46] := of_decide_eq_true hsk
        clear hsk hxs hxb
        rcases hor with h | h
        · have he := emptyT h
          clear h
          go_wp2
          go_roundw
          case rel => exact ⟨k + 1, m, G, by go_num, by omega, ⟨a4, c4, rfl⟩, HM, HG2, HFB2, HO, HB⟩
          case measure => simp [intOf]; omega
        · have he := emptyX h
          have hd := dotT h
          clear h
          go_wp2
          go_roundw
          case rel => exact ⟨k + 1, m, G, by go_num, by omega, ⟨a4, c4, rfl⟩, HM, HG2, HFB2, HO, HB⟩
          case measure => simp [intOf]; omega
      · rw [Bool.not_eq_true] at hsk
        have HSK := Lib.hid hsk
        have hno : ¬ (x = [] ∨ x = [46]) := of_decide_eq_false hsk
        have he := emptyF (fun h => hno (.inl h))
        have hd := dotF (fun h => hno (.inr h))
        have HBAD : Hid (refV x ≠ 0 → R1 = [] ∧ R2 = refV x) := by
          intro hr
          have e := fb_at HX.out HFB.out HSK.out hr
          have hj : jc ps = ([], refV x) := by unfold jc; rw [e, if_pos hr]
          exact ⟨by rw [HR1.out, hj], by rw [HR2.out, hj]⟩
        clear hsk hno
        by_cases b3 : x = [46, 46]
        · have e3 := dotsT b3
          have hrv : refV x = 16 := if_pos b3
          obtain ⟨g1, g2⟩ := HBAD.out (by rw [hrv]; decide)
          rw [hrv] at g2
          have HE1 := Lib.hid g1
          have HE2 := Lib.hid g2
          clear b3 hrv g1 g2 hxs hxb
          go_wp2
          go_ret2
          exact ⟨by rw [HE1.out, HE2.out]; rfl, HB.out⟩
        · have e3 := dotsF b3
          by_cases b5 : (0 : UInt8) ∈ x
          · have hrv : refV x = 9 := by unfold refV; rw [if_neg b3, if_pos b5]
            obtain ⟨g1, g2⟩ := HBAD.out (by rw [hrv]; decide)
            rw [hrv] at g2
            have HE1 := Lib.hid g1
            have HE2 := Lib.hid g2
            rw [decide_eq_true b5] at HNO
            clear b3 b5 hrv g1 g2 hxs hxb
            go_wp2_with (go_at_call 37; refine (HNO.out _).mono ?_; rintro e w2 ⟨rfl, rfl⟩)
            go_ret2
            exact ⟨by rw [HE1.out, HE2.out]; rfl, HB.out⟩
          · rw [decide_eq_false b5] at HNO
            by_cases b4 : 48 < x.length
            · have e4 : (48 : Int) < ((mk x).size : Int) := by omega
              have hrv : refV x = 7 := by unfold refV; rw [if_neg b3, if_neg b5, if_pos b4]
              obtain ⟨g1, g2⟩ := HBAD.out (by rw [hrv]; decide)
              rw [hrv] at g2
              have HE1 := Lib.hid g1
              have HE2 := Lib.hid g2
              clear b3 b4 b5 hrv g1 g2 hxs hxb
              go_wp2_with (go_at_call 37; refine (HNO.out _).mono ?_; rintro e w2 ⟨rfl, rfl⟩)
              go_ret2
              exact ⟨by rw [HE1.out, HE2.out]; rfl, HB.out⟩
            · have e4 : ¬ (48 : Int) < ((mk x).size : Int) := by omega
              have hrv : refV x = 0 := by unfold refV; rw [if_neg b3, if_neg b5, if_neg b4]
              have HG2 : Hid (good (ps.take (k + 1)) = G ++ [x]) := by show _ = _; rw [HGT.out, if_neg (by rw [HSK.out]; simp), ← HG.out]
              have HFB2 : Hid (firstBad (ps.take (k + 1)) = 0) := by show _ = _; rw [HTK.out]; exact fb_ok hrv HFB.out
              have hba : Below wr.heap.size wr (wr.alloc (.cells #[.string (mk x)] 9)) := (Below.refl _ _).alloc (Nat.le_refl _) _
              have HBA := Lib.hid hba
              have HOA : Hid (SOwn (wr.alloc (.cells #[.string (mk x)] 9)) w.heap.size (.slice a4 m c4) G) := (KeepCD.below hba).row HO.out
              have HCA : Hid ((wr.alloc (.cells #[.string (mk x)] 9)).cell? ⟨wr.heap.size, 0, none⟩ = some (.string (mk x))) := cell1 (heap_new _ _)
              clear b3 b4 b5 hrv hba hxs hxb
              go_wp2_with (first
                | (go_at_call 37; refine (HNO.out _).mono ?_; rintro e w2 ⟨rfl, rfl⟩)
                | (at_builtin; go_must (refine append_str2 rfl (.tmp 40) (.tmp 45) rfl w.heap.size (.slice a4 m c4) G x rfl HOA.out ⟨wr.heap.size, 0, none⟩ 1 rfl HCA.out (by have := HGL.out; omega) (by simp; omega) ?_)))
              intro v5 w5 HO5 HG5
              have HB5 : Hid (Below w.heap.size w w5) := Below.grown (w := wr.alloc (.cells #[.string (mk x)] 9)) (HB.out.trans (HBA.out.mono hsz)) HG5.out (by simp; omega) (fun q hq => (HOA.out.base_le q hq).1)
              obtain ⟨a5, c5, e5⟩ := HO5.out.slice
              have hl5 : (G ++ [x]).length = m + 1 := by rw [List.length_append, ← HM.out]; rfl
              rw [hl5] at e5
              subst e5
              have HL5 := Lib.hid hl5
              clear hl5
              go_wp2
              go_roundw
              case rel => exact ⟨k + 1, m + 1, G ++ [x], by go_num, by omega, ⟨a5, c5, rfl⟩, HL5.out.symm, HG2.out.symm, HFB2, HO5, HB5⟩
              case measure => simp [intOf]; omega
    · have hI : ¬ (k : Int) < (n : Int) := by omega
      have htk : ps.take k = ps := List.take_of_length_le (by have := HN.out; omega)
      have hg : G = good ps := by rw [HG.out, htk]
      have hf : firstBad ps = 0 := by have := HFB.out; rwa [htk] at this
      have hj : jc ps = if 12 < G.length ∨ 200 < (glue G).length then ([], 7) else (glue G, 0) := by
        unfold jc; rw [if_neg (by rw [hf]; simp), ← hg]
      have hsm : ∀ p ∈ G, p.length ≤ 48 := by rw [hg]; exact good_small hf
      have HJ := Lib.hid hj
      have HSM := Lib.hid hsm
      clear htk hg hf hj hsm
      by_cases h12 : 12 < m
      · have hI12 : (12 : Int) < (m : Int) := by omega
        have hj := HJ.out
        rw [if_pos (.inl (by have := HM.out; omega))] at hj
        have HE1 : Hid (R1 = []) := by show _ = _; rw [HR1.out, hj]
        have HE2 : Hid (R2 = 7) := by show _ = _; rw [HR2.out, hj]
        clear hj h12
        go_wp2
        go_ret2
        exact ⟨by rw [HE1.out, HE2.out]; rfl, HB.out⟩
      · have hI12 : ¬ (12 : Int) < (m : Int) := by omega
        have hgl := glue_len HSM.out
        have hm := HM.out
        have HGLU : Hid (∀ W, Below w.heap.size w W → Txt W (.slice a4 m c4) G → Calls Try.prog 40 #[.slice a4 m c4] W fun e w' => e = .returned (.string (mk (glue G))) ∧ Below W.heap.size W w') := by
          intro W _ ht
          refine glue_any _ G W ht (fun q => ?_) (by omega) (fun p hp => by have := HSM.out p hp; omega)
          have := glue_sub (List.take_prefix q G)
          omega
        have hTG := HO.out.txt
        have HTG := Lib.hid hTG
        have hgs : (mk (glue G)).size = (glue G).length := mk_size _
        obtain ⟨gl, hgle⟩ : ∃ gl, gl = glue G := ⟨_, rfl⟩
        rw [← hgle] at HGLU hgs
        have HJ2 : Hid (jc ps = if 12 < G.length ∨ 200 < gl.length then ([], 7) else (gl, 0)) := by rw [hgle]; exact HJ
        clear hTG hgl hgle
        by_cases h200 : 200 < gl.length
        · have hI200 : (200 : Int) < ((mk gl).size : Int) := by omega
          have hj := HJ2.out
          rw [if_pos (.inr h200)] at hj
          have HE1 : Hid (R1 = []) := by show _ = _; rw [HR1.out, hj]
          have HE2 : Hid (R2 = 7) := by show _ = _; rw [HR2.out, hj]
          clear hj h12 h200 hgs hm
          go_wp2_with (go_at_call 40; refine (HGLU.out _ HB.out HTG.out).mono ?_; rintro e w6 ⟨rfl, hb⟩; have HB6 := Lib.hid hb; clear hb)
          go_ret2
          exact ⟨by rw [HE1.out, HE2.out]; rfl, HB.out.trans (HB6.out.mono hsz)⟩
        · have hI200 : ¬ (200 : Int) < ((mk gl).size : Int) := by omega
          have hj := HJ2.out
          rw [if_neg (by omega)] at hj
          have HE1 : Hid (R1 = gl) := by show _ = _; rw [HR1.out, hj]
          have HE2 : Hid (R2 = 0) := by show _ = _; rw [HR2.out, hj]
          clear hj h12 h200 hgs hm
          go_wp2_with (go_at_call 40; refine (HGLU.out _ (by first | exact HB6.out | exact HB.out) (by first | exact HT6.out | exact HTG.out)).mono ?_; rintro e w6 ⟨rfl, hb⟩; have HT6 : Hid (Txt w6 (.slice a4 m c4) G) := (by first | exact HT6.out.later hb | exact HTG.out.later hb); have HB6 : Hid (Below w.heap.size w w6) := (by first | exact HB6.out.trans (hb.mono HB6.out.size) | exact HB.out.trans (hb.mono hsz)); clear hb)
          go_ret2
          exact ⟨by rw [HE1.out, HE2.out]; rfl, HB6.out⟩
theorem rcl_any (l : L8) (w : World) (hl : l.length ≤ 1048576) :
    Calls Try.prog 26 #[.string (mk l)] w fun e w' => e = .returned (.tuple #[.string (mk (cl l).1), .int .i64 (cl l).2]) ∧ Below w.heap.size w w' := by
  have hpl := parts_len l
  have HS := Lib.hid (rsplit_any l w (by omega))
  have hcl : cl l = jc (parts l) := by unfold cl; rw [jn_jc, all_one]
  have HC : Hid (∀ W v, Txt W v (parts l) → Calls Try.prog 44 #[v] W fun e w' => e = .returned (.tuple #[.string (mk (cl l).1), .int .i64 (cl l).2]) ∧ Below W.heap.size W w') := by
    intro W v h
    rw [hcl]
    exact rclean_any v _ W h (by omega) (fun p hp => by have := part_len l p hp; omega)
  clear hcl hpl
  generalize (cl l).1 = r1 at *
  generalize (cl l).2 = r2 at *
  go_enter Try.func26, Try.ntmps26
  go_wp2_with (first
    | (go_at_call 14; refine HS.out.mono ?_; rintro e w1 ⟨v1, rfl, hO, hb⟩; obtain ⟨a1, c1, e1⟩ := hO.slice; have HT := Lib.hid hO.txt; have HB1 := Lib.hid hb; clear hO hb; subst e1)
    | (go_at_call 44; refine (HC.out _ _ HT.out).mono ?_; rintro e w2 ⟨rfl, hb⟩; have HB2 := Lib.hid hb; clear hb))
  go_ret2
  exact ⟨rfl, HB1.out.trans (HB2.out.mono HB1.out.size)⟩
end Go.Proofs.Yteimbdbnipfmkaa.Pa
