/- path: Clean, Right, Rel, Common; the law's texts, and its small case. (A template.) -/
import Derived.Test.YteimbdbnipfmkaaPaSplit
namespace Go.Proofs.Yteimbdbnipfmkaa.Pa
open Go.RowKit
set_option linter.unusedVariables false
set_option linter.unusedSimpArgs false
set_option maxRecDepth 1000000

theorem parts_len (l : L8) : (parts l).length ≤ l.length + 1 := by
  have h := depth_eq l
  have h2 : l.count 47 ≤ l.length := List.count_le_length
  unfold depth at h
  rw [h]; split <;> omega
theorem all_one (l : L8) : allParts [l] = parts l := by simp [allParts]
def cl (l : L8) : L8 × Int := jn [l]
theorem lit_cell (w : World) (xs : Array Value) (j : Nat) (v : Value) (h : xs[j]? = some v) : (w.alloc (.cells xs 9)).cell? ⟨w.heap.size, 0 + j, none⟩ = some v := by
  rw [Nat.zero_add, cell_of_row _ w.heap.size j _ _ (0, 0) (heap_new _ _)]; exact h
theorem clean_any (l : L8) (w : World) (hl : l.length ≤ 140737488355328) :
    Calls Try.prog 25 #[.string (mk l)] w fun e w' => e = .returned (.tuple #[.string (mk (cl l).1), .int .i64 (cl l).2]) ∧ Below w.heap.size w w' := by
  have hb : Below w.heap.size w (w.alloc (.cells #[.string (mk l)] 9)) := (Below.refl _ _).alloc (Nat.le_refl _) _
  have h := join_loop w.heap.size 0 1 1 [l] (w.alloc (.cells #[.string (mk l)] 9)) rfl (by omega) (by simp)
    (by
      intro i s hs
      refine lit_cell w _ i _ ?_
      cases i with
      | zero => simp at hs; subst hs; rfl
      | succ i => simp at hs)
    (by intro s hs; simp at hs; subst hs; exact hl) (by rw [all_one]; have := parts_len l; omega)
  have HJ := Lib.hid h
  have HB := Lib.hid hb
  clear h hb
  show Calls _ _ _ _ fun e w' => e = .returned (.tuple #[.string (mk (jn [l]).1), .int .i64 (jn [l]).2]) ∧ Below w.heap.size w w'
  generalize (jn [l]).1 = r at *
  generalize (jn [l]).2 = q at *
  go_enter Try.func25, Try.ntmps25
  go_wp2_with (go_at_call 23; refine HJ.out.mono ?_; rintro e w' ⟨rfl, hb'⟩; have HB' := Lib.hid hb'; clear hb')
  go_ret2
  exact ⟨rfl, HB.out.trans (HB'.out.mono HB.out.size)⟩
theorem eqTT {a b : L8} (h : a = b) : ((mk a).toList == (mk b).toList) = true := by subst h; simp
theorem eqFF {a b : L8} (h : a ≠ b) : ((mk a).toList == (mk b).toList) = false := by rw [mk_toList, mk_toList]; simpa using h
def rightB (l : L8) : Bool := decide ((cl l).2 = 0 ∧ (cl l).1 = l)
theorem right_any (l : L8) (w : World) (hl : l.length ≤ 140737488355328) :
    Calls Try.prog 10 #[.string (mk l)] w fun e w' => e = .returned (.bool (rightB l)) ∧ Below w.heap.size w w' := by
  have HC := Lib.hid (clean_any l w hl)
  obtain ⟨R, hR⟩ : ∃ R, R = rightB l := ⟨_, rfl⟩
  rw [← hR]
  unfold rightB at hR
  generalize (cl l).1 = r at *
  generalize (cl l).2 = q at *
  by_cases hq : q = 0
  · by_cases hr : r = l
    · have e := eqTT hr
      have HR : Hid (R = true) := by show _ = _; rw [hR]; exact decide_eq_true ⟨hq, hr⟩
      subst hq
      clear hR hr
      go_enter Try.func10, Try.ntmps10
      go_wp2_with (go_at_call 25; refine HC.out.mono ?_; rintro e w' ⟨rfl, hb'⟩; have HB' := Lib.hid hb'; clear hb')
      go_ret
      exact ⟨by rw [HR.out]; rfl, HB'.out⟩
    · have e := eqFF hr
      have HR : Hid (R = false) := by show _ = _; rw [hR]; exact decide_eq_false (fun h => hr h.2)
      subst hq
      clear hR hr
      go_enter Try.func10, Try.ntmps10
      go_wp2_with (go_at_call 25; refine HC.out.mono ?_; rintro e w' ⟨rfl, hb'⟩; have HB' := Lib.hid hb'; clear hb')
      go_ret
      exact ⟨by rw [HR.out]; rfl, HB'.out⟩
  · have HR : Hid (R = false) := by show _ = _; rw [hR]; exact decide_eq_false (fun h => hq h.1)
    have hq2 : (q == 0) = false := by simpa using hq
    clear hR
    go_enter Try.func10, Try.ntmps10
    go_wp2_with (go_at_call 25; refine HC.out.mono ?_; rintro e w' ⟨rfl, hb'⟩; have HB' := Lib.hid hb'; clear hb')
    go_ret
    exact ⟨by rw [HR.out]; simp [hq2], HB'.out⟩

def commonL (a b : L8) : L8 := if endsB a (alikeN a b) = true ∧ endsB b (alikeN a b) = true then a.take (alikeN a b) else parentL (a.take (alikeN a b))
set_option maxHeartbeats 1000000 in
theorem common_any (a b : L8) (w : World) (ha : a.length ≤ 140737488355328) (hb : b.length ≤ 140737488355328) :
    Calls Try.prog 33 #[.string (mk a), .string (mk b)] w fun e w' => e = .returned (.string (mk (commonL a b))) ∧ Drew w w' := by
  have h1 := alikeN_le a b
  have HA := Lib.hid (alike_any a b w ha hb)
  have HE1 := Lib.hid (fun W => ends_any a (alikeN a b) W h1.1)
  have HE2 := Lib.hid (fun W => ends_any b (alikeN a b) W h1.2)
  have hcut := run_hd a (alikeN a b) h1.1
  have HP := Lib.hid (fun W => parent_any (a.take (alikeN a b)) W (by rw [List.length_take]; omega))
  obtain ⟨R, hR⟩ : ∃ R, R = commonL a b := ⟨_, rfl⟩
  rw [← hR]
  unfold commonL at hR
  generalize alikeN a b = n at *
  cases e1 : endsB a n <;> cases e2 : endsB b n
  all_goals
    rw [e1, e2] at hR
    rw [e1] at HE1
    rw [e2] at HE2
    have HR := Lib.hid hR
    clear hR h1 e1 e2
    go_enter Try.func33, Try.ntmps33
    go_wp2_with (first
      | (go_at_call 49; refine HA.out.mono ?_; rintro e w' ⟨rfl, hd⟩; have HD := Lib.hid hd; clear hd)
      | (go_at_call 48; with_reducible refine (HE1.out _).mono ?_; rintro e w' ⟨rfl, rfl⟩)
      | (go_at_call 48; with_reducible refine (HE2.out _).mono ?_; rintro e w' ⟨rfl, rfl⟩)
      | (go_at_call 17; refine (HP.out _).mono ?_; rintro e w' ⟨rfl, rfl⟩))
    go_ret
    exact ⟨by rw [HR.out]; rfl, HD.out⟩

def relL (p top : L8) : L8 := if underB p top = true then (if top = [] then p else Lib.trimPrefix (p.drop top.length) [47]) else []
theorem tp_any (a : L8) (w : World) : Calls Try.prog 45 #[.string (mk a), .string { data := #[47] }] w fun e w' => e = .returned (.string (mk (Lib.trimPrefix a [47]))) ∧ w' = w := by
  have h := Try.strings_TrimPrefix (mk a) { data := #[47] } w
  rw [mk_list] at h
  exact h
theorem rel_any (p top : L8) (w : World) :
    Calls Try.prog 27 #[.string (mk p), .string (mk top)] w fun e w' => e = .returned (.tuple #[.string (mk (relL p top)), .bool (underB p top)]) ∧ w' = w := by
  have HU := Lib.hid (fun W => under_any p top W)
  obtain ⟨R, hR⟩ : ∃ R, R = relL p top := ⟨_, rfl⟩
  rw [← hR]
  unfold relL at hR
  cases eu : underB p top
  · rw [eu] at HU hR
    have HR := Lib.hid hR
    clear hR eu
    go_enter Try.func27, Try.ntmps27
    go_wp2_with (go_at_call 31; refine (HU.out _).mono ?_; rintro e w' ⟨rfl, rfl⟩)
    go_ret2
    exact ⟨by rw [HR.out]; rfl, rfl⟩
  · by_cases h0 : top = []
    · rw [eu, if_pos rfl, if_pos h0] at hR
      rw [eu] at HU
      have he := emptyT h0
      have HR := Lib.hid hR
      clear hR eu h0
      go_enter Try.func27, Try.ntmps27
      go_wp2_with (go_at_call 31; refine (HU.out _).mono ?_; rintro e w' ⟨rfl, rfl⟩)
      go_ret2
      exact ⟨by rw [HR.out]; rfl, rfl⟩
    · rw [eu, if_pos rfl, if_neg h0] at hR
      have hlen : top.length ≤ p.length := by
        unfold underB at eu
        have := of_decide_eq_true eu
        rcases this with h | h
        · exact absurd h h0
        · exact prefix_len h.1
      have hcut := run_tl p top.length hlen
      have hs : (mk top).size = top.length := mk_size top
      rw [← hs] at hcut
      rw [eu] at HU
      have HT := Lib.hid (tp_any (p.drop top.length))
      rw [← hs] at HT hR
      have he := emptyF h0
      have HR := Lib.hid hR
      clear hR eu h0 hs hlen
      go_enter Try.func27, Try.ntmps27
      go_wp2_with (first
        | (go_at_call 31; refine (HU.out _).mono ?_; rintro e w' ⟨rfl, rfl⟩)
        | (go_at_call 45; refine (HT.out _).mono ?_; rintro e w' ⟨rfl, rfl⟩))
      go_ret2
      exact ⟨by rw [HR.out]; rfl, rfl⟩

/-- a row that reads as these texts -/
def Txt (w : World) (v : Value) (ps : List L8) : Prop :=
  ∃ a c, v = .slice a ps.length c ∧ (ps ≠ [] → ∃ g off, a = some ⟨g, off, none⟩ ∧ ∀ (j : Nat) (x : L8), ps[j]? = some x → w.cell? ⟨g, off + j, none⟩ = some (.string (mk x)))
theorem SOwn.txt {w : World} {base : Nat} {v : Value} {ps : List L8} (h : SOwn w base v ps) : Txt w v ps := by
  rcases h.form with ⟨rfl, rfl⟩ | ⟨g, cap, rfl, _, _, _, _, hc⟩
  · exact ⟨none, 0, rfl, fun h => absurd rfl h⟩
  · exact ⟨_, cap, rfl, fun _ => ⟨g, 0, rfl, hc⟩⟩
theorem Txt.later {w w' : World} {v : Value} {ps : List L8} (h : Txt w v ps) (hb : Below w.heap.size w w') : Txt w' v ps := by
  obtain ⟨a, c, e, hc⟩ := h
  exact ⟨a, c, e, fun hn => by
    obtain ⟨g, off, ea, hx⟩ := hc hn
    exact ⟨g, off, ea, fun j x hj => cell_later hb (hx j x hj)⟩⟩
set_option maxHeartbeats 4000000 in
theorem texts_any (v1 v2 : Value) (xs ys : List L8) (w : World) (h1 : Txt w v1 xs) (h2 : Txt w v2 ys) (hx : xs.length ≤ 4611686018427387904) (hy : ys.length ≤ 4611686018427387904) :
    Calls Try.prog 12 #[v1, v2] w fun e w' => e = .returned (.bool (decide (xs = ys))) ∧ Drew w w' := by
  obtain ⟨a1, c1, rfl, q1⟩ := h1
  obtain ⟨a2, c2, rfl, q2⟩ := h2
  obtain ⟨R, hR⟩ : ∃ R, R = decide (xs = ys) := ⟨_, rfl⟩
  rw [← hR]
  have HR := Lib.hid hR
  clear hR
  obtain ⟨n, hn⟩ : ∃ n, n = xs.length := ⟨_, rfl⟩
  obtain ⟨m, hm⟩ : ∃ m, m = ys.length := ⟨_, rfl⟩
  have HN := Lib.hid hn
  have HM := Lib.hid hm
  rw [← hn] at hx ⊢
  rw [← hm] at hy ⊢
  have Q1 := Lib.hid q1
  have Q2 := Lib.hid q2
  clear q1 q2 hn hm
  by_cases hnm : n = m
  · have HNM := Lib.hid hnm
    subst hnm
    go_enter Try.func12, Try.ntmps12
    go_wp2
    go_loopw [5] (fun c wr => ∃ k : Nat, c = .int .i64 k ∧ k ≤ n ∧ Hid (∀ j, j < k → xs[j]? = ys[j]?) ∧ Hid (Drew w wr)) (fun c _ => n - (intOf c).toNat)
    case atStart => exact ⟨0, rfl, Nat.zero_le _, (fun j hj => by omega), Drew.refl _⟩
    case round =>
      obtain ⟨k, rfl, hk, HS, HD⟩ := hrel
      by_cases hlt : k < n
      · have hI : (k : Int) < (n : Int) := by omega
        obtain ⟨x, hx'⟩ : ∃ x, xs[k]? = some x := ⟨_, List.getElem?_eq_getElem (by have := HN.out; omega)⟩
        obtain ⟨y, hy'⟩ : ∃ y, ys[k]? = some y := ⟨_, List.getElem?_eq_getElem (by have := HM.out; omega)⟩
        obtain ⟨g1, o1, e1, z1⟩ := Q1.out (by intro e; rw [e] at hx'; simp at hx')
        obtain ⟨g2, o2, e2, z2⟩ := Q2.out (by intro e; rw [e] at hy'; simp at hy')
        have d1 := cell_later HD.out.below (z1 k x hx')
        have d2 := cell_later HD.out.below (z2 k y hy')
        have HX := Lib.hid hx'
        have HY := Lib.hid hy'
        clear z1 z2 hx' hy'
        subst e1 e2
        by_cases hxy : x = y
        · have hq := eqTT hxy
          have HS2 : Hid (∀ j, j < k + 1 → xs[j]? = ys[j]?) := by
            intro j hj
            rcases Nat.lt_or_ge j k with h | h
            · exact HS.out j h
            · have : j = k := by omega
              subst this; rw [HX.out, HY.out, hxy]
          clear hxy
          go_wp2
          go_quiet (fail)
          go_wp2
          go_roundw
          case rel => exact ⟨k + 1, by go_num, by omega, HS2, HD.out.more _⟩
          case measure => simp [intOf]; omega
        · have hq := eqFF hxy
          have HF : Hid (R = false) := by
            show _ = _
            rw [HR.out]
            exact decide_eq_false (fun e => hxy (by have := HX.out; rw [e, HY.out] at this; injection this with this; exact this.symm))
          clear hxy
          go_wp2
          go_quiet (fail)
          go_wp2
          go_ret
          exact ⟨by rw [HF.out]; rfl, HD.out.more _⟩
      · have hI : ¬ (k : Int) < (n : Int) := by omega
        have HF : Hid (R = true) := by
          show _ = _
          rw [HR.out]
          refine decide_eq_true (List.ext_getElem? (fun j => ?_))
          rcases Nat.lt_or_ge j k with h | h
          · exact HS.out j h
          · rw [List.getElem?_eq_none (by have := HN.out; omega), List.getElem?_eq_none (by have := HM.out; omega)]
        go_wp2
        go_ret
        exact ⟨by rw [HF.out]; rfl, HD.out⟩
  · have HF : Hid (R = false) := by
      show _ = _
      rw [HR.out]
      exact decide_eq_false (fun e => hnm (by rw [HN.out, HM.out, e]))
    have hI : ((n : Int) == (m : Int)) = false := by simpa using fun h : (n : Int) = m => hnm (by omega)
    go_enter Try.func12, Try.ntmps12
    go_wp2
    go_ret
    exact ⟨by rw [HF.out]; rfl, Drew.refl _⟩
end Go.Proofs.Yteimbdbnipfmkaa.Pa
