/- The document's Join; the law PathCleans. (A template.) -/
import Derived.Test.YteimbdbnipfmkaaPaRClean
import Derived.Test.YteimbdbnipfmkaaPaJoinG
namespace Go.Proofs.Yteimbdbnipfmkaa.Pa
open Go.RowKit
set_option linter.unusedVariables false
set_option linter.unusedSimpArgs false
set_option maxRecDepth 1000000

theorem cell_lt {W : World} {b o : Nat} {v : Value} (h : W.cell? ⟨b, o, none⟩ = some v) : b < W.heap.size := by
  rcases Nat.lt_or_ge b W.heap.size with g | g
  · exact g
  · simp [World.cell?, Array.getElem?_eq_none g] at h
/-- an append of a row of texts to a row of one's own -/
theorem append_rows {w : World} {ops : Array Oper} {rest : List Oper} {o : Oper} {a : Act} {Q : Exit → Act → World → Prop}
    (hg : o.guard = none) (s x : Operand) (hop : o.op = Op.call { callee := Callee.builtin Builtin.append, args := #[s, x], argTypes := #[24, 24] })
    (base base2 : Nat) (v u : Value) (ps qs : List L8) (hs : a.eval s = v) (hown : SOwn w base v ps) (hx : a.eval x = u) (hu : SOwn w base2 u qs)
    (hl : ps.length + qs.length ≤ 4398046511104) (b3 : base ≤ w.heap.size)
    (hK : ∀ v' w', Hid (SOwn w' base v' (ps ++ qs)) → Hid (Below base w w') → wpList Try.prog ops Q rest (a.put o.dst v') w') :
    wpList Try.prog ops Q (o :: rest) a w := by
  obtain ⟨i0, hi, hz0, hz1, hz2⟩ := info_parts Try.infoStr
  rcases hu.form with ⟨rfl, rfl⟩ | ⟨g, cap, rfl, _, _, _, _, hcell⟩
  · refine wpList_append_own_none hg s x 24 hop base 9 i0 1 Try.underlying24 hi v _ _ hs hown hx (hK v w ?_ (Below.refl _ _))
    rw [List.append_nil]; exact hown
  · refine wpList_append_own w hg s x 24 hop base 9 i0 (.string ⟨#[]⟩) 1 16 Try.underlying24 hi hz0 hz1 hz2 rfl (by decide) v ps.length (strs ps) hs hown ⟨g, 0, none⟩ qs.length cap (strs qs) hx (by rw [strs_length]; omega)
      (by intro j y hj
          unfold strs at hj
          rw [List.getElem?_map] at hj
          cases hq : qs[j]? with
          | none => rw [hq] at hj; cases hj
          | some z =>
            rw [hq] at hj
            injection hj with hj
            subst hj
            have := hcell j z hq
            rw [Nat.zero_add] at this
            by_cases h0 : j = 0
            · subst h0; simpa [Addr.add] using this
            · simpa [Addr.add, h0] using this) (strs_one _) (by unfold maxLen; omega) (by omega) b3 ?_
    intro v' w' r1 r2 _
    refine hK v' w' ?_ ((Below.refl _ _).grown r2 b3 (fun j hj => (SOwn.base_le hown j hj).1))
    show w'.ownsRow base 9 1 v' (ps ++ qs).length (strs (ps ++ qs))
    rw [strs_app, List.length_append]
    exact r1
theorem all_len (ss : List L8) (h : ∀ s ∈ ss, s.length ≤ 4000) : (allParts ss).length ≤ 4001 * ss.length := by
  induction ss with
  | nil => simp [allParts]
  | cons s r ih =>
    have h1 := parts_len s
    have h2 := h s (by simp)
    have h3 := ih (fun x hx => h x (by simp [hx]))
    unfold allParts at h3 ⊢
    simp at h3 ⊢
    omega
theorem all_mem {ss : List L8} (h : ∀ s ∈ ss, s.length ≤ 4000) : ∀ p ∈ allParts ss, p.length ≤ 4000 := by
  intro p hp
  unfold allParts at hp
  obtain ⟨l, hl, hp⟩ := List.mem_flatten.1 hp
  obtain ⟨s, hs, rfl⟩ := List.mem_map.1 hl
  have := part_len s p hp
  have := h s hs
  omega
set_option maxHeartbeats 8000000 in
theorem rjoin_any (v : Value) (ss : List L8) (w : World) (h : Txt w v ss) (hn : ss.length ≤ 300) (hs : ∀ s ∈ ss, s.length ≤ 4000) :
    Calls Try.prog 24 #[v] w fun e w' => e = .returned (.tuple #[.string (mk (jn ss).1), .int .i64 (jn ss).2]) ∧ Below w.heap.size w w' := by
  rw [jn_jc]
  have hal := all_len ss hs
  have HC : Hid (∀ W v, Txt W v (allParts ss) → Calls Try.prog 44 #[v] W fun e w' => e = .returned (.tuple #[.string (mk (jc (allParts ss)).1), .int .i64 (jc (allParts ss)).2]) ∧ Below W.heap.size W w') :=
    fun W v h => rclean_any v _ W h (by omega) (fun p hp => by have := all_mem hs p hp; omega)
  have HTK : Hid (∀ k, (allParts (ss.take k)).length ≤ 1200300) := by
    intro k
    have h1 := all_len (ss.take k) (fun s hs' => hs s (List.mem_of_mem_take hs'))
    have h2 : (ss.take k).length ≤ 300 := by rw [List.length_take]; omega
    omega
  obtain ⟨a, c, rfl, hT⟩ := h
  obtain ⟨n, hnn⟩ : ∃ n, n = ss.length := ⟨_, rfl⟩
  rw [← hnn] at hn ⊢
  have HN := Lib.hid hnn
  have HT := Lib.hid hT
  have HP := Lib.hid hs
  clear hT hs hnn hal
  generalize (jc (allParts ss)).1 = r1 at *
  generalize (jc (allParts ss)).2 = r2 at *
  go_enter Try.func24, Try.ntmps24
  go_wp2
  go_loopw [4, 5] (fun v c wr => ∃ (k m : Nat) (G : List L8), c = .int .i64 k ∧ k ≤ n ∧ (∃ a cc, v = .slice a m cc) ∧ Hid (m = G.length) ∧ Hid (G = allParts (ss.take k)) ∧ Hid (SOwn wr w.heap.size v G) ∧ Hid (Below w.heap.size w wr)) (fun _ c _ => n - (intOf c).toNat)
  case atStart => exact ⟨0, 0, [], rfl, Nat.zero_le _, ⟨none, 0, rfl⟩, rfl, rfl, World.ownsRow_nil _ _ _ _, Below.refl _ _⟩
  case round =>
    obtain ⟨k, m, G, rfl, hk, ⟨a4, c4, rfl⟩, HM, HG, HO, HB⟩ := hrel
    have hsz := HB.out.size
    by_cases hlt : k < n
    · have hI : (k : Int) < (n : Int) := by omega
      obtain ⟨x, hx⟩ : ∃ x, ss[k]? = some x := ⟨_, List.getElem?_eq_getElem (by have := HN.out; omega)⟩
      obtain ⟨g, off, ea, hcell⟩ := HT.out (by intro e; rw [e] at hx; simp at hx)
      subst ea
      have hcx := cell_later HB.out (hcell k x hx)
      have hxb := HP.out x (List.mem_of_getElem? hx)
      have HSP := Lib.hid (rsplit_any x wr (by omega))
      have HAT := Lib.hid (all_take hx)
      have hpl := parts_len x
      have hGl : G.length ≤ 1200300 := by rw [HG.out]; exact HTK.out k
      clear hcell hx
      go_wp2_with (first
        | (go_at_call 14; refine HSP.out.mono ?_; rintro e w1 ⟨v1, rfl, hO, hb⟩; obtain ⟨a1, c1, e1⟩ := hO.slice; have HO1 := Lib.hid hO; have HB1 : Hid (Below w.heap.size w w1) := HB.out.trans (hb.mono hsz); have HO4 : Hid (SOwn w1 w.heap.size (.slice a4 m c4) G) := (KeepCD.below hb).row HO.out; have hsz1 := HB1.out.size; clear hO hb; subst e1)
        | (at_builtin; go_must (refine append_rows rfl (.tmp 12) (.tmp 17) rfl w.heap.size wr.heap.size (.slice a4 m c4) (.slice a1 (parts x).length c1) G (parts x) rfl HO4.out rfl HO1.out (by omega) hsz1 ?_)))
      intro v5 w5 HO5 HB5
      obtain ⟨a5, c5, e5⟩ := HO5.out.slice
      obtain ⟨m5, hm5⟩ : ∃ m5, m5 = (G ++ parts x).length := ⟨_, rfl⟩
      rw [← hm5] at e5
      subst e5
      have HM5 := Lib.hid hm5
      have HG5 : Hid (G ++ parts x = allParts (ss.take (k + 1))) := by show _ = _; rw [HAT.out, ← HG.out]
      have HBN : Hid (Below w.heap.size w w5) := HB1.out.trans HB5.out
      clear hm5
      go_wp2
      go_roundw
      case rel => exact ⟨k + 1, m5, G ++ parts x, by go_num, by omega, ⟨a5, c5, rfl⟩, HM5, HG5, HO5, HBN⟩
      case measure => simp [intOf]; omega
    · have hI : ¬ (k : Int) < (n : Int) := by omega
      have hg : G = allParts ss := by rw [HG.out, List.take_of_length_le (by have := HN.out; omega)]
      have HTG : Hid (Txt wr (.slice a4 m c4) (allParts ss)) := by rw [← hg]; exact HO.out.txt
      clear hg
      go_wp2_with (go_at_call 44; refine (HC.out _ _ HTG.out).mono ?_; rintro e w6 ⟨rfl, hb⟩; have HB6 := Lib.hid hb; clear hb)
      go_ret2
      exact ⟨rfl, HB.out.trans (HB6.out.mono hsz)⟩

def greatB (ss : List L8) : Bool := decide ((∃ s, s ∈ ss ∧ 4000 < s.length) ∨ 300 < ss.length)
set_option maxHeartbeats 4000000 in
theorem great_any (a : Option Addr) (n c : Nat) (ss : List L8) (w : World) (h : Txt w (.slice a n c) ss) (hn : n = ss.length) (hb : n ≤ 9223372036854775807) (hs : ∀ s ∈ ss, s.length ≤ 9223372036854775807) :
    Calls Try.prog 22 #[.slice a n c] w fun e w' => e = .returned (.bool (greatB ss)) ∧ w = w' := by
  obtain ⟨R, hR⟩ : ∃ R, R = greatB ss := ⟨_, rfl⟩
  rw [← hR]
  have HR := Lib.hid hR
  clear hR
  obtain ⟨a', c', e, hT⟩ := h
  simp only [Value.slice.injEq] at e
  obtain ⟨rfl, -, rfl⟩ := e
  have HN := Lib.hid hn
  have HT := Lib.hid hT
  clear hT hn
  go_enter Try.func22, Try.ntmps22
  go_wp2
  go_loopw [3] (fun v wr => ∃ (k : Nat), v = .int .i64 k ∧ k ≤ n ∧ Hid (∀ j s, j < k → ss[j]? = some s → s.length ≤ 4000) ∧ w = wr) (fun v _ => n - (intOf v).toNat)
  case atStart => exact ⟨0, rfl, Nat.zero_le _, (fun j s hj => by omega), rfl⟩
  case round =>
    obtain ⟨k, rfl, hk, HS, rfl⟩ := hrel
    by_cases hlt : k < n
    · have hI : (k : Int) < (n : Int) := by omega
      obtain ⟨x, hx⟩ : ∃ x, ss[k]? = some x := ⟨_, List.getElem?_eq_getElem (by have := HN.out; omega)⟩
      obtain ⟨g, off, ea, hcell⟩ := HT.out (by intro e; rw [e] at hx; simp at hx)
      subst ea
      have hcx := hcell k x hx
      have hxs : (mk x).size = x.length := mk_size x
      have HX := Lib.hid hx
      clear hcell hx
      by_cases h4 : 4000 < x.length
      · have hI4 : (4000 : Int) < ((mk x).size : Int) := by omega
        have HF : Hid (R = true) := by show _ = _; rw [HR.out]; exact decide_eq_true (.inl ⟨x, List.mem_of_getElem? HX.out, h4⟩)
        clear hxs h4
        go_wp2
        go_ret
        exact ⟨by rw [HF.out]; rfl, rfl⟩
      · have hI4 : ¬ (4000 : Int) < ((mk x).size : Int) := by omega
        have HS2 : Hid (∀ j s, j < k + 1 → ss[j]? = some s → s.length ≤ 4000) := by
          intro j s hj hjs
          rcases Nat.lt_or_ge j k with h | h
          · exact HS.out j s h hjs
          · have : j = k := by omega
            subst this
            rw [HX.out] at hjs
            injection hjs with hjs
            subst hjs; omega
        clear hxs h4
        go_wp2
        go_roundw
        case rel => exact ⟨k + 1, by go_num, by omega, HS2, trivial⟩
        case measure => simp [intOf]; omega
    · have hI : ¬ (k : Int) < (n : Int) := by omega
      have HALL : Hid (∀ s ∈ ss, s.length ≤ 4000) := by
        intro s hs
        obtain ⟨j, hj, e⟩ := List.getElem_of_mem hs
        exact HS.out j s (by have := HN.out; omega) (by rw [List.getElem?_eq_getElem hj, e])
      by_cases h3 : 300 < n
      · have hI3 : (300 : Int) < (n : Int) := by omega
        have HF : Hid (R = true) := by show _ = _; rw [HR.out]; exact decide_eq_true (.inr (by have := HN.out; omega))
        go_wp2
        go_ret
        exact ⟨by rw [HF.out]; simp [hI3], rfl⟩
      · have hI3 : ¬ (300 : Int) < (n : Int) := by omega
        have HF : Hid (R = false) := by
          show _ = _
          rw [HR.out]
          refine decide_eq_false (fun h => ?_)
          rcases h with ⟨s, h1, h2⟩ | h
          · have := HALL.out s h1; omega
          · have := HN.out; omega
        go_wp2
        go_ret
        exact ⟨by rw [HF.out]; first | (simp; done) | (simp; omega), rfl⟩

set_option maxHeartbeats 16000000 in
theorem pathCleans_walk (a : Option Addr) (n c : Nat) (ss : List L8) (w : World) (h : Txt w (.slice a n c) ss) (hn : n = ss.length) (hb : n ≤ 9223372036854775807) (hs : ∀ s ∈ ss, s.length ≤ 9223372036854775807) :
    Calls Try.prog 4 #[.slice a n c] w fun e w' => e = .returned (.bool true) ∧ Below w.heap.size w w' := by
  have HA := Lib.hid (acc (w := w) awake_pa)
  have HB : Hid (Below w.heap.size w w) := Below.refl _ _
  have HGR := Lib.hid (great_any a n c ss w h hn hb hs)
  cases hgr : greatB ss
  · have hgd := of_decide_eq_false hgr
    have g1 : ∀ s ∈ ss, s.length ≤ 4000 := fun s hs' => by
      rcases Nat.lt_or_ge 4000 s.length with h | h
      · exact absurd (.inl ⟨s, hs', h⟩) hgd
      · exact h
    have g2 : n ≤ 300 := by
      rcases Nat.lt_or_ge 300 n with h | h
      · exact absurd (.inr (by omega)) hgd
      · exact h
    rw [hgr] at HGR
    have hal := all_len ss g1
    obtain ⟨a', c', e, hT⟩ := id h
    simp only [Value.slice.injEq] at e
    obtain ⟨rfl, -, rfl⟩ := e
    have HJ : Hid (∀ W, Below w.heap.size w W → Calls Try.prog 23 #[.slice a n c] W fun e w' => e = .returned (.tuple #[.string (mk (jn ss).1), .int .i64 (jn ss).2]) ∧ Below w.heap.size w w') := by
      intro W hW
      refine (join_gen a c n ss W hn (by omega) ?_ (fun s hs' => by have := g1 s hs'; omega) (by omega)).mono fun e w' ⟨h1, h2⟩ => ⟨h1, hW.trans (h2.mono hW.size)⟩
      intro i s his
      obtain ⟨g, off, ea, hcell⟩ := hT (by intro e; rw [e] at his; simp at his)
      have hc := cell_later hW (hcell i s his)
      exact ⟨g, off, ea, cell_lt hc, hc⟩
    have HRJ : Hid (∀ W, Below w.heap.size w W → Calls Try.prog 24 #[.slice a n c] W fun e w' => e = .returned (.tuple #[.string (mk (jn ss).1), .int .i64 (jn ss).2]) ∧ Below w.heap.size w w') := by
      intro W hW
      exact (rjoin_any _ ss W (h.later hW) (by omega) g1).mono fun e w' ⟨h1, h2⟩ => ⟨h1, hW.trans (h2.mono hW.size)⟩
    have HC : Hid (∀ x W, x.length ≤ 4000 → Below w.heap.size w W → Calls Try.prog 25 #[.string (mk x)] W fun e w' => e = .returned (.tuple #[.string (mk (cl x).1), .int .i64 (cl x).2]) ∧ Below w.heap.size w w') := fun x W hx hW =>
      (clean_any x W (by omega)).mono fun e w' ⟨h1, h2⟩ => ⟨h1, hW.trans (h2.mono hW.size)⟩
    have HRC : Hid (∀ x W, x.length ≤ 4000 → Below w.heap.size w W → Calls Try.prog 26 #[.string (mk x)] W fun e w' => e = .returned (.tuple #[.string (mk (cl x).1), .int .i64 (cl x).2]) ∧ Below w.heap.size w w') := fun x W hx hW =>
      (rcl_any x W (by omega)).mono fun e w' ⟨h1, h2⟩ => ⟨h1, hW.trans (h2.mono hW.size)⟩
    have q1 : ((mk (jn ss).1).toList == (mk (jn ss).1).toList) = true := eqTT rfl
    generalize (jn ss).1 = j1 at *
    generalize (jn ss).2 = j2 at *
    have HG1 := Lib.hid g1
    have HN := Lib.hid hn
    have HT := Lib.hid hT
    clear hal g1 hn hT h hgr hgd
    go_enter Try.func4, Try.ntmps4
    go_wp2_with (first
      | (go_at_call 22; refine HGR.out.mono ?_; rintro e w0 ⟨rfl, rfl⟩)
      | (go_at_call 23; refine (HJ.out _ HB.out).mono ?_; rintro e w1 ⟨rfl, hb⟩; have HB := Lib.hid hb; clear hb)
      | (go_at_call 24; refine (HRJ.out _ HB.out).mono ?_; rintro e w2 ⟨rfl, hb⟩; have HB := Lib.hid hb; clear hb))
    go_loopw [7] (fun v wr => ∃ (k : Nat), v = .int .i64 k ∧ k ≤ n ∧ Hid (Below w.heap.size w wr)) (fun v _ => n - (intOf v).toNat)
    case atStart => exact ⟨0, rfl, Nat.zero_le _, HB⟩
    case round =>
      obtain ⟨k, rfl, hk, HBR⟩ := hrel
      by_cases hlt : k < n
      · have hI : (k : Int) < (n : Int) := by omega
        obtain ⟨x, hx⟩ : ∃ x, ss[k]? = some x := ⟨_, List.getElem?_eq_getElem (by have := HN.out; omega)⟩
        obtain ⟨g, off, ea, hcell⟩ := HT.out (by intro e; rw [e] at hx; simp at hx)
        subst ea
        have HCELL := Lib.hid (hcell k x hx)
        have hcx := cell_later HBR.out (hcell k x hx)
        have hxb := HG1.out x (List.mem_of_getElem? hx)
        have HC1 := Lib.hid (fun W hW => HC.out x W hxb hW)
        have HC2 := Lib.hid (fun W hW => HRC.out x W hxb hW)
        have q2 : ((mk (cl x).1).toList == (mk (cl x).1).toList) = true := eqTT rfl
        generalize (cl x).1 = x1 at *
        generalize (cl x).2 = x2 at *
        clear hcell hx
        go_wp2_with (first
          | (go_at_call 25; refine (HC1.out _ HBR.out).mono ?_; rintro e w3 ⟨rfl, hb⟩; have HBR := Lib.hid hb; have hcx3 := cell_later hb HCELL.out; clear hb)
          | (go_at_call 26; refine (HC2.out _ HBR.out).mono ?_; rintro e w4 ⟨rfl, hb⟩; have HBR := Lib.hid hb; clear hb))
        go_roundw
        case rel => exact ⟨k + 1, by go_num, by omega, HBR⟩
        case measure => simp [intOf]; omega
      · have hI : ¬ (k : Int) < (n : Int) := by omega
        go_wp2_with (go_at_call 21; refine (HA.out _ HBR.out).mono ?_; rintro e w5 ⟨rfl, hb⟩; have HBX := Lib.hid hb; clear hb)
        go_ret
        exact ⟨rfl, HBX.out⟩
  · rw [hgr] at HGR
    clear hgr h hn hs
    go_enter Try.func4, Try.ntmps4
    go_wp2_with (first
      | (go_at_call 22; refine HGR.out.mono ?_; rintro e w0 ⟨rfl, rfl⟩)
      | (go_at_call 21; refine (HA.out _ HB.out).mono ?_; rintro e w5 ⟨rfl, hb⟩; have HBX := Lib.hid hb; clear hb))
    go_ret
    exact ⟨rfl, HBX.out⟩
end Go.Proofs.Yteimbdbnipfmkaa.Pa
