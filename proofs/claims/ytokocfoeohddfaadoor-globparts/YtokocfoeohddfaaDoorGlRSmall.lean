/- glob: the document's Check, Head, Plain. (A template.) -/
import Derived.Test.YtokocfoeohddfaaDoorGlRSigns
import Derived.Test.YtokocfoeohddfaaDoorGlRDp
namespace Go.Proofs.YtokocfoeohddfaaDoor.Pa
open Go.RowKit
set_option linter.unusedVariables false
set_option linter.unusedSimpArgs false
set_option maxRecDepth 1000000

/-- a row of signs that is handed on -/
def RgAt (w : World) (v : Value) (L : List Rg) : Prop := ∃ a c, v = .slice a L.length c ∧ (L ≠ [] → ∃ g, a = some ⟨g, 0, none⟩ ∧ g < w.heap.size ∧ ∀ i x, L[i]? = some x → w.rangeAt g (i * 259) x.cs)
theorem RgOwn.at {w : World} {base : Nat} {v : Value} {L : List Rg} (h : RgOwn w base v L) : RgAt w v L := by
  rcases h.form with ⟨rfl, rfl⟩ | ⟨g, cap, rfl, h1, h2, h3, h4⟩
  · exact ⟨Option.none, 0, rfl, fun h => absurd rfl h⟩
  · refine ⟨_, cap, rfl, fun _ => ⟨g, rfl, h2, fun i x hi j v hv => ?_⟩⟩
    have hj : j < 259 := by rw [← Rg.cs_length x]; exact (List.getElem?_eq_some_iff.1 hv).1
    rw [h4 i x hi j hj]; exact hv
theorem RgAt.later {w w' : World} {v : Value} {L : List Rg} (h : RgAt w v L) (hb : Below w.heap.size w w') : RgAt w' v L := by
  obtain ⟨a, c, e, h⟩ := h
  refine ⟨a, c, e, fun hn => ?_⟩
  obtain ⟨g, e2, hg, hc⟩ := h hn
  refine ⟨g, e2, Nat.lt_of_lt_of_le hg hb.size, fun i x hi j v hv => ?_⟩
  rw [hb.cell (p := ⟨g, i * 259 + j, none⟩) hg]
  exact hc i x hi j v hv
theorem range_kind {w : World} {g i : Nat} {x : Rg} (h : w.rangeAt g (i * 259) x.cs) : w.cell? ⟨g, i * 259, none⟩ = some (.int .i64 (x.kind : Int)) := by
  have := h 0 _ (by unfold Rg.cs sgC; rfl)
  simpa using this
theorem range_byte {w : World} {g i : Nat} {x : Rg} (h : w.rangeAt g (i * 259) x.cs) : w.cell? ⟨g, i * 259 + 1, none⟩ = some (.int .u8 (x.c : Int)) := h 1 _ (by unfold Rg.cs sgC; rfl)
theorem sgnsR_len {l : L8} : ∀ n a L, sgnsR l n a = some L → a ≤ l.length → L.length + a ≤ l.length := by
  intro n a L h ha
  have h2 : sgns l n a = some (L.map Rg.sg) := by rw [sgnsR_sg, h]; rfl
  have := sgns_len _ _ _ h2 ha
  simpa using this
/-- Signs in two cases -/
theorem rdr_cases (l : L8) : (readR l = none ∧ ∀ base v w, RDR l base v w → v = .tuple #[.slice none 0 0, .bool false]) ∨ (∃ L, readR l = some L ∧ L.length ≤ l.length ∧ ∀ base v w, RDR l base v w → ∃ u, v = .tuple #[u, .bool true] ∧ RgAt w u L) := by
  unfold RDR
  cases h : readR l with
  | none => left; exact ⟨rfl, fun base v w h => h⟩
  | some L =>
    right
    refine ⟨L, rfl, by have := sgnsR_len _ _ _ h (Nat.zero_le _); simpa using this, fun base v w h => ?_⟩
    obtain ⟨a, c, e, ho⟩ := h
    exact ⟨_, e, ho.at⟩
theorem rcheck_any (l : L8) (w : World) (hl : l.length ≤ 4611686018427387904) :
    Calls Tryd.prog 12 #[.string (mk l)] w fun e w' => e = .returned (.int .i64 (readE l)) ∧ Below w.heap.size w w' := by
  have hs : (mk l).size = l.length := mk_size l
  by_cases h1 : l.length ≤ 100
  · have hI : ¬ ((mk l).size : Int) > 100 := by rw [hs]; omega
    have HR := Lib.hid (rsigns_any l w h1)
    rcases rdr_cases l with ⟨h, hv⟩ | ⟨L, h, -, hv⟩
    · have H := Lib.hid hv
      have he : readE l = 5 := by rw [readE_R, if_pos h1, h]; rfl
      rw [he]
      clear hv h h1 he hs
      go_enter Tryd.func12, Tryd.ntmps12
      go_wp2_with (go_at_call 21; refine HR.out.mono ?_; rintro e w' ⟨v, rfl, hv, hb⟩; have e := H.out _ _ _ hv; subst e; have HB := Lib.hid hb; clear hb hv)
      go_ret
      exact ⟨rfl, HB.out⟩
    · have H := Lib.hid hv
      have he : readE l = 0 := by rw [readE_R, if_pos h1, h]; rfl
      rw [he]
      clear hv h h1 he hs
      go_enter Tryd.func12, Tryd.ntmps12
      go_wp2_with (go_at_call 21; refine HR.out.mono ?_; rintro e w' ⟨v, rfl, hv, hb⟩; obtain ⟨u, e, -⟩ := H.out _ _ _ hv; subst e; have HB := Lib.hid hb; clear hb hv)
      go_ret
      exact ⟨rfl, HB.out⟩
  · have hI : ((mk l).size : Int) > 100 := by rw [hs]; omega
    have he : readE l = 7 := by rw [readE_R, if_neg h1]
    rw [he]
    clear h1 he hs
    go_enter Tryd.func12, Tryd.ntmps12
    go_wp2
    go_ret
    exact ⟨rfl, Below.refl _ _⟩
/-- is it a pattern? the three ways -/
theorem read_ways (l : L8) : (readE l ≠ 0 ∧ readP l = none) ∨ (readE l = 0 ∧ l.length ≤ 100 ∧ ∃ L, readR l = some L ∧ readP l = some (L.map Rg.sg) ∧ L.length ≤ l.length ∧ Fits (L.map Rg.sg)) := by
  by_cases h1 : l.length ≤ 100
  · cases h : readR l with
    | none => left; exact ⟨by rw [readE_R, if_pos h1, h]; simp, by rw [readP_R, if_pos h1, h]; rfl⟩
    | some L =>
      right
      have hp : readP l = some (L.map Rg.sg) := by rw [readP_R, if_pos h1, h]; rfl
      refine ⟨by rw [readE_R, if_pos h1, h]; rfl, h1, L, rfl, hp, by have := sgnsR_len _ _ _ h (Nat.zero_le _); simpa using this, ?_⟩
      unfold readP at hp
      rw [if_pos h1] at hp
      exact sgns_fits _ _ _ hp
  · left; exact ⟨by rw [readE_R, if_neg h1]; omega, by rw [readP_R, if_neg h1]⟩
theorem rdr_at {l : L8} {L : List Rg} (h : readR l = some L) : ∀ base v w, RDR l base v w → ∃ u, v = .tuple #[u, .bool true] ∧ RgAt w u L := by
  intro base v w hv
  unfold RDR at hv
  rw [h] at hv
  obtain ⟨a, c, e, ho⟩ := hv
  exact ⟨_, e, ho.at⟩
theorem sg_itself (x : Rg) : x.sg.itself = decide (x.kind = 0) := by
  unfold Rg.sg
  by_cases h : x.kind = 0
  · rw [if_pos h, decide_eq_true h]
  · rw [if_neg h, decide_eq_false h]
    split
    · rfl
    · split <;> rfl
theorem sg_byte {x : Rg} (h : x.kind = 0) : x.sg.c = x.c := by unfold Rg.sg; rw [if_pos h]
theorem map_get {L : List Rg} {k : Nat} {x : Rg} (h : L[k]? = some x) : (L.map Rg.sg)[k]? = some x.sg := by rw [List.getElem?_map, h]; rfl
set_option maxHeartbeats 8000000 in
theorem rhead_any (p : L8) (w : World) (hp : p.length ≤ 4611686018427387904) :
    Calls Tryd.prog 18 #[.string (mk p)] w fun e w' => e = .returned (.string (mk (headP p))) ∧ Below w.heap.size w w' := by
  have HC := Lib.hid (rcheck_any p w hp)
  rcases read_ways p with ⟨h1, h2⟩ | ⟨h1, hl, L, hR, hP, hLl, hF⟩
  · have hm : headP p = [] := by unfold headP; rw [h2]
    have hne : (readE p == 0) = false := by simpa using h1
    rw [hm]
    generalize readE p = r at *
    clear hp h1 h2 hm
    go_enter Tryd.func18, Tryd.ntmps18
    go_wp2_with (go_at_call 12; refine HC.out.mono ?_; rintro e w' ⟨rfl, hb⟩; have HB := Lib.hid hb; clear hb)
    go_ret
    exact ⟨rfl, HB.out⟩
  · have hm : headP p = headL (L.map Rg.sg) := by unfold headP; rw [hP]
    rw [hm]
    rw [h1] at HC
    have HSG : Hid (∀ W, Below w.heap.size w W → Calls Tryd.prog 21 #[.string (mk p)] W fun e w' => ∃ u, e = .returned (.tuple #[u, .bool true]) ∧ RgAt w' u L ∧ Below w.heap.size w w') := by
      intro W hW
      refine (rsigns_any p W hl).mono ?_
      rintro e w' ⟨v, rfl, hv, hb⟩
      obtain ⟨u, rfl, ha⟩ := rdr_at hR _ _ _ hv
      exact ⟨u, rfl, ha, hW.trans (hb.mono hW.size)⟩
    have HLL : Hid (L.length ≤ 100) := by show _ ≤ _; omega
    have HFF := Lib.hid hF
    obtain ⟨M, hM⟩ : ∃ M, M = L.map Rg.sg := ⟨_, rfl⟩
    have HM := Lib.hid hM
    have HML : Hid (M.length = L.length) := by show _ = _; rw [hM]; simp
    rw [← hM]
    rw [← hM] at HFF
    clear hp h1 hl hR hP hLl hF hm hM
    go_enter Tryd.func18, Tryd.ntmps18
    go_wp2_with (first
      | (go_at_call 12; refine HC.out.mono ?_; rintro e w1 ⟨rfl, hb⟩; have HB1 := Lib.hid hb; clear hb)
      | (go_at_call 21; refine (HSG.out _ HB1.out).mono ?_; rintro e w2 ⟨u, rfl, ha, hb⟩; have HA2 := Lib.hid ha; have HB2 := Lib.hid hb; obtain ⟨sa, sc, rfl, hrow⟩ := ha; have HROW := Lib.hid hrow; clear hb hrow))
    go_loopw [5, 6] (fun v i wr => ∃ (k : Nat) (b : L8), i = .int .i64 k ∧ (∃ a cc, v = .slice a k cc) ∧ Hid (Gone M k b) ∧ Hid (Own wr w2.heap.size v (ints b)) ∧ Hid (Below w2.heap.size w2 wr)) (fun _ i _ => L.length - (intOf i).toNat)
    case atStart => exact ⟨0, [], rfl, ⟨none, 0, rfl⟩, ⟨Nat.zero_le _, rfl, rfl⟩, Own.nil _ _, Below.refl _ _⟩
    case round =>
      obtain ⟨k, b, rfl, ⟨a3, c3, rfl⟩, HGo, HO, HBR⟩ := hrel
      have hsl := HO.out.sl (ints_oct b)
      obtain ⟨a', c', e', hby, hnil, hcap⟩ := hsl
      have hbk : b.length = k := HGo.out.2.1
      have hib : (ints b).length = k := by unfold ints; rw [List.length_map]; exact hbk
      rw [hib] at e'
      simp only [Value.slice.injEq, true_and] at e'
      obtain ⟨rfl, rfl⟩ := e'
      have hstr : (convert 36 9 (.slice a3 k c3)).run Tryd.prog wr = .ok (.string (mk b)) wr := by
        rw [← ints_str b]
        exact run_str hby k c3 hib.symm
      have HB : Hid (Below w.heap.size w wr) := HB2.out.trans (HBR.out.mono HB2.out.size)
      by_cases hk : k < L.length
      · have hIk : (k : Int) < (L.length : Int) := by omega
        obtain ⟨x, hx⟩ : ∃ x, L[k]? = some x := ⟨_, List.getElem?_eq_getElem hk⟩
        have hxM : M[k]? = some x.sg := by rw [HM.out]; exact map_get hx
        have hLL := HLL.out
        have hw1 : IntKind.i64.wrap ((k : Int) + 1) = (k : Int) + 1 := IntWalk.i64_in _ (by omega)
        have hRG := HA2.out.later HBR.out
        obtain ⟨sa', sc', e3, hr3⟩ := hRG
        simp only [Value.slice.injEq, true_and] at e3
        obtain ⟨rfl, rfl⟩ := e3
        obtain ⟨gg, rfl, hgl, hr4⟩ := hr3 (by intro e; rw [e] at hk; simp at hk)
        have c0 := range_kind (hr4 k x hx)
        have c1 := range_byte (hr4 k x hx)
        have HKL := Lib.hid hk
        have hxf : x.kind = 0 → x.c < 256 := fun h => by have := HFF.out _ (List.mem_of_getElem? hxM); rw [sg_byte h] at this; exact this
        by_cases hit : x.kind = 0
        · have HNG : Hid (Gone M (k + 1) (b ++ [sgByte x.sg])) := HGo.out.next hxM (by rw [sg_itself, decide_eq_true hit])
          have hxi : ints [sgByte x.sg] = [(x.c : Int)] := by
            unfold ints sgByte; rw [sg_byte hit]; have := hxf hit; simp; omega
          have hxf := hxf hit
          have HIA : Hid (ints (b ++ [sgByte x.sg]) = ints b ++ [(x.c : Int)]) := by show _ = _; rw [← hxi]; simp [ints]
          rw [hit] at c0
          have hb3 : Below wr.heap.size wr (wr.alloc (.cells #[.int .u8 (x.c : Int)] 5)) := (Below.refl _ _).alloc (Nat.le_refl _) _
          have HO3 := Lib.hid (HO.out.below hb3)
          have HBR3 := Lib.hid (HBR.out.trans (hb3.mono HBR.out.size))
          have HSL := Lib.hid (one_sl wr (x.c : Int) (by omega) (by omega))
          have HSZ2 : Hid (w2.heap.size ≤ (wr.alloc (.cells #[.int .u8 (x.c : Int)] 5)).heap.size) := HBR3.out.size
          have HLN : Hid ((ints b).length + [(x.c : Int)].length ≤ 140737488355328) := by show _ ≤ _; rw [hib]; simp; omega
          have HBI := Lib.hid hib
          clear hk hx hLL hstr hby hnil hcap hbk hib hit hxf hxi hb3 hxM hr4 HB hr3
          go_wp2_with (at_builtin; go_must (refine append_sl rfl (.tmp 29) (.tmp 35) rfl w2.heap.size (.slice a3 k c3) (.slice (some ⟨wr.heap.size, 0, none⟩) 1 1) (ints b) [(x.c : Int)] rfl HO3.out rfl HSL.out HLN.out HSZ2.out ?_); intro v5 w5 HO5 hb5; have HB5 := Lib.hid (HBR3.out.trans hb5); clear hb5)
          obtain ⟨a5, c5, rfl⟩ : ∃ a cc, v5 = .slice a (k + 1) cc := by
            obtain ⟨a, cc, h⟩ := own_form HO5.out
            rw [List.length_append, HBI.out] at h
            exact ⟨a, cc, h⟩
          go_roundw
          case rel => exact ⟨k + 1, b ++ [sgByte x.sg], by go_num, ⟨_, _, rfl⟩, HNG, by rw [HIA.out]; exact HO5, HB5⟩
          case measure => have := HKL.out; simp [intOf]; omega
        · have HE : Hid (headL M = b) := HGo.out.stop hxM (by rw [sg_itself, decide_eq_false hit])
          have hkn : ((x.kind : Int) == 0) = false := by simpa using fun e => hit (by omega)
          clear hk hx hLL hby hnil hcap hbk hib hit hxf hxM hr4 hr3
          go_wp2
          go_ret
          exact ⟨by rw [HE.out]; rfl, HB.out⟩
      · have hIk : ¬ (k : Int) < (L.length : Int) := by omega
        have HE : Hid (headL M = b) := HGo.out.all (by rw [HML.out]; exact hk)
        clear hk hby hnil hcap hbk hib
        go_wp2
        go_ret
        exact ⟨by rw [HE.out]; rfl, HB.out⟩
theorem headL_some {M : List Sg} {k : Nat} {x : Sg} (h : M[k]? = some x) (hi : x.itself = false) : (headL M).length < M.length := by
  induction M generalizing k with
  | nil => simp at h
  | cons y M ih =>
    rw [headL_cons]
    split
    · next hy =>
      cases k with
      | zero => simp at h; rw [← h] at hi; rw [hi] at hy; cases hy
      | succ k => have := ih (by simpa using h); simp; omega
    · simp
theorem headL_every {M : List Sg} (h : ∀ (k : Nat) (x : Sg), M[k]? = some x → x.itself = true) : ¬ (headL M).length < M.length := by
  induction M with
  | nil => simp
  | cons y M ih =>
    rw [headL_cons, if_pos (h 0 y (by simp))]
    have := ih (fun k x hx => h (k + 1) x (by simpa using hx))
    simp; omega
set_option maxHeartbeats 8000000 in
theorem rplain_any (p : L8) (w : World) (hp : p.length ≤ 4611686018427387904) :
    Calls Tryd.prog 16 #[.string (mk p)] w fun e w' => e = .returned (.tuple #[.string (mk (plainP p).1), .bool (plainP p).2]) ∧ Below w.heap.size w w' := by
  have HC := Lib.hid (rcheck_any p w hp)
  rcases read_ways p with ⟨h1, h2⟩ | ⟨h1, hl, L, hR, hP, hLl, hF⟩
  · have hm : plainP p = ([], false) := by unfold plainP; rw [h2]
    have hne : (readE p == 0) = false := by simpa using h1
    rw [hm]
    generalize readE p = r at *
    clear hp h1 h2 hm
    go_enter Tryd.func16, Tryd.ntmps16
    go_wp2_with (go_at_call 12; refine HC.out.mono ?_; rintro e w' ⟨rfl, hb⟩; have HB := Lib.hid hb; clear hb)
    go_ret2
    exact ⟨rfl, HB.out⟩
  · have hm : plainP p = (if (headL (L.map Rg.sg)).length < (L.map Rg.sg).length then ([], false) else (headL (L.map Rg.sg), true)) := by unfold plainP; rw [hP]
    have hm2 : headP p = headL (L.map Rg.sg) := by unfold headP; rw [hP]
    have HHD : Hid (∀ W, Below w.heap.size w W → Calls Tryd.prog 18 #[.string (mk p)] W fun e w' => e = .returned (.string (mk (headL (L.map Rg.sg)))) ∧ Below w.heap.size w w') := by
      intro W hW
      rw [← hm2]
      exact (rhead_any p W hp).mono fun e w' ⟨h1, h2⟩ => ⟨h1, hW.trans (h2.mono hW.size)⟩
    rw [hm]
    rw [h1] at HC
    have HSG : Hid (∀ W, Below w.heap.size w W → Calls Tryd.prog 21 #[.string (mk p)] W fun e w' => ∃ u, e = .returned (.tuple #[u, .bool true]) ∧ RgAt w' u L ∧ Below w.heap.size w w') := by
      intro W hW
      refine (rsigns_any p W hl).mono ?_
      rintro e w' ⟨v, rfl, hv, hb⟩
      obtain ⟨u, rfl, ha⟩ := rdr_at hR _ _ _ hv
      exact ⟨u, rfl, ha, hW.trans (hb.mono hW.size)⟩
    have HLL : Hid (L.length ≤ 100) := by show _ ≤ _; omega
    obtain ⟨M, hM⟩ : ∃ M, M = L.map Rg.sg := ⟨_, rfl⟩
    have HM := Lib.hid hM
    have HML : Hid (M.length = L.length) := by show _ = _; rw [hM]; simp
    rw [← hM] at HHD ⊢
    obtain ⟨Q, hQ⟩ : ∃ Q, Q = (if (headL M).length < M.length then (([] : L8), false) else (headL M, true)) := ⟨_, rfl⟩
    have HQ := Lib.hid hQ
    rw [← hQ]
    clear hp h1 hl hR hP hLl hF hm hm2 hM hQ
    go_enter Tryd.func16, Tryd.ntmps16
    go_wp2_with (first
      | (go_at_call 12; refine HC.out.mono ?_; rintro e w1 ⟨rfl, hb⟩; have HB1 := Lib.hid hb; clear hb)
      | (go_at_call 21; refine (HSG.out _ HB1.out).mono ?_; rintro e w2 ⟨u, rfl, ha, hb⟩; have HA2 := Lib.hid ha; have HB2 := Lib.hid hb; obtain ⟨sa, sc, rfl, hrow⟩ := ha; have HROW := Lib.hid hrow; clear hb hrow))
    go_loopw [6] (fun i wr => ∃ k : Nat, i = .int .i64 k ∧ Hid (k ≤ L.length) ∧ Hid (∀ j x, j < k → L[j]? = some x → x.kind = 0) ∧ w2 = wr) (fun i _ => L.length - (intOf i).toNat)
    case atStart => exact ⟨0, rfl, Nat.zero_le _, (by intro j x hj; omega), rfl⟩
    case round =>
      obtain ⟨k, rfl, HKL0, HALL, rfl⟩ := hrel
      by_cases hk : k < L.length
      · have hIk : (k : Int) < (L.length : Int) := by omega
        obtain ⟨x, hx⟩ : ∃ x, L[k]? = some x := ⟨_, List.getElem?_eq_getElem hk⟩
        have hLL := HLL.out
        have hw1 : IntKind.i64.wrap ((k : Int) + 1) = (k : Int) + 1 := IntWalk.i64_in _ (by omega)
        obtain ⟨gg, rfl, hgl, hr4⟩ := HROW.out (by intro e; rw [e] at hk; simp at hk)
        have c0 := range_kind (hr4 k x hx)
        have HKL := Lib.hid hk
        by_cases hit : x.kind = 0
        · rw [hit] at c0
          have HAN : Hid (∀ j x, j < k + 1 → L[j]? = some x → x.kind = 0) := by
            intro j y hj hy
            rcases Nat.lt_or_ge j k with h | h
            · exact HALL.out j y h hy
            · have : j = k := by omega
              subst this; rw [hx] at hy; injection hy with hy; rw [← hy]; exact hit
          clear hk hx hLL hit hr4
          go_wp2
          go_roundw
          case rel => exact ⟨k + 1, by go_num, by show _ ≤ _; have := HKL.out; omega, HAN, trivial⟩
          case measure => have := HKL.out; simp [intOf]; omega
        · have HE : Hid (Q = ([], false)) := by
            show _ = _; rw [HQ.out, if_pos (headL_some (by rw [HM.out]; exact map_get hx) (by rw [sg_itself, decide_eq_false hit]))]
          have hkn : ((x.kind : Int) == 0) = false := by simpa using fun e => hit (by omega)
          clear hk hx hLL hit hr4
          go_wp2
          go_ret2
          exact ⟨by rw [HE.out]; rfl, HB2.out⟩
      · have hIk : ¬ (k : Int) < (L.length : Int) := by omega
        have HE : Hid (Q = (headL M, true)) := by
          show _ = _; rw [HQ.out, if_neg (headL_every (fun j y hy => by
            rw [HM.out, List.getElem?_map] at hy
            cases hl : L[j]? with
            | none => rw [hl] at hy; simp at hy
            | some z =>
              rw [hl] at hy; simp at hy; rw [← hy, sg_itself]
              exact decide_eq_true (HALL.out j z (by have := (List.getElem?_eq_some_iff.1 hl).1; omega) hl)))]
        clear hk
        go_wp2_with (go_at_call 18; refine (HHD.out _ HB2.out).mono ?_; rintro e w3 ⟨rfl, hb⟩; have HB3 := Lib.hid hb; clear hb)
        go_ret2
        exact ⟨by rw [HE.out]; rfl, HB3.out⟩
end Go.Proofs.YtokocfoeohddfaaDoor.Pa
