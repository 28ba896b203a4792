/- P3.4: in whatever pieces. -/
import Derived.Test.YtbkdimdnpekgpaaDoorSCopies
import Derived.Deep.Matrix
import Derived.SizedLaws
namespace Go.Proofs.YtbkdimdnpekgpaaDoor
open Go.ChangeShapes Go.WideShapes Go.ChangeAt Go.RowKit Go.Proofs.ShaMath Go.Proofs.CopyW
set_option linter.unusedVariables false

/-- a slice of slices of bytes that came in -/
def IsRows (w : World) (a : Option Addr) (len cap : Nat) (ps : List (List Int)) : Prop :=
  ps.length = len ∧ len ≤ 9223372036854775807 ∧ (len ≠ 0 → ∃ b off, a = some ⟨b, off, none⟩ ∧ ∀ k, k < len → ∃ a' c', w.cell? ⟨b, off + k, none⟩ = some (.slice a' (ps.getD k []).length c') ∧ Bytes w a' (ps.getD k []) ∧ (a' = none → c' = 0) ∧ (ps.getD k []).length ≤ c' ∧ c' ≤ 9223372036854775807 ∧ (ps.getD k []).length ≤ 140737488351232)

theorem rows_none (w : World) : IsRows w none 0 0 [] := ⟨rfl, by omega, fun h => absurd rfl h⟩

theorem bytes_at {w : World} {x : Addr} {len cap : Nat} {zs : List Int} (hl : len ≤ cap) (hz : zs.length = cap) (hcell : ∀ i, i < zs.length → w.cell? (x.add i) = some (.int .u8 (zs.getD i 0))) (hwz : ∀ n ∈ zs, (Lit.int .u8 n).wf = true) :
    Bytes w (some x) (zs.take len) := by
  have hlen : (zs.take len).length = len := by rw [List.length_take]; omega
  refine ⟨fun c hc => ?_, fun hne => ?_⟩
  · have hb := bounds_u8 (hwz c (List.mem_of_mem_take hc)); exact ⟨hb.1, hb.2⟩
  · have hpos : 0 < len := by
      rcases Nat.eq_zero_or_pos len with h | h
      · subst h; simp at hne
      · exact h
    obtain ⟨b, off, spot⟩ := x
    have hc := hcell 0 (by omega)
    have hspot : spot = none := by simpa [Addr.add] using World.cell?_spot hc
    subst hspot
    refine ⟨b, off, rfl, fun i hi => ?_⟩
    rw [hlen] at hi
    have hci := hcell i (by omega)
    rw [List.getD_eq_getElem?_getD, List.getElem?_take, if_pos hi, ← List.getD_eq_getElem?_getD]
    by_cases h0 : i = 0
    · subst h0; simpa [Addr.add] using hci
    · simpa [Addr.add, h0] using hci

theorem mem_weightsAll {H : Type} {P : Program} {e : TypeId} {n : Nat} : ∀ {l : List (DataW H)} {d : DataW H}, d ∈ l → n ∈ d.weights P e → n ∈ DataW.weightsAll P e l
  | [], d, h, _ => by cases h
  | x :: l, d, h, hn => by
    rw [DataW.weightsAll]
    rcases List.mem_cons.1 h with rfl | h'
    · exact List.mem_append.2 (.inl hn)
    · exact List.mem_append.2 (.inr (mem_weightsAll h' hn))

/-- what the reach says of the rows of a slice of slices -/
theorem sized_rows {H : Type} {P : Program} {ts : List TypeId} {ds : List (DataW H)} (h : (DataW.weightsEach P ts ds).all (· ≤ reachBytes) = true) {j : Nat} {t e q : TypeId} {len : Nat} {A : Nat → Option Addr} {L C : Nat → Nat} {Z : Nat → List Int} {spare : List (DataW H)} (ht : ts[j]? = some t)
    (hd : ds[j]? = some (.slice ((List.range len).map fun r => Deep.intRow .u8 (A r) (L r) (Z r)) spare)) (hu : P.underlying t = some (.slice e)) (hv : P.underlying e = some (.slice q)) (hq : P.bytesOf q = 1)
    (hz : ∀ r, r < len → L r ≤ C r ∧ (Z r).length = C r ∧ (A r = none → C r = 0)) : ∀ r, r < len → L r ≤ 140737488351232 := by
  intro r hr
  obtain ⟨h1, h2, h3⟩ := hz r hr
  rcases hA : A r with _ | a
  · have := h3 hA; omega
  · have hm : (Z r).length ∈ (DataW.slice ((List.range len).map fun r => Deep.intRow .u8 (A r) (L r) (Z r)) spare : DataW H).weights P t := by
      rw [DataW.weights, hu]
      refine List.mem_cons.2 (.inr (List.mem_append.2 (.inl (mem_weightsAll (d := Deep.intRow .u8 (A r) (L r) (Z r)) (List.mem_map.2 ⟨r, by simpa using hr, rfl⟩) ?_))))
      rw [hA]
      simp only [Deep.intRow, DataW.weights, hv, hq, lits, List.length_map, List.length_take, List.length_drop, Nat.mul_one]
      refine List.mem_cons.2 (.inl ?_)
      omega
    have hle : (Z r).length ≤ reachBytes := by simpa using List.all_eq_true.1 h _ (DataW.weights_mem_each ht hd _ hm)
    unfold reachBytes at hle
    omega

theorem rows_some {w : World} {a : Addr} {len cap : Nat} {A : Nat → Option Addr} {L C : Nat → Nat} {Z : Nat → List Int} (hl : len ≤ cap) (hm : cap ≤ maxLen) (hbd : ∀ r, r < len → L r ≤ 140737488351232)
    (h : ∀ r, r < cap → w.cell? (a.add r) = some (.slice (A r) (L r) (C r)) ∧ L r ≤ C r ∧ C r ≤ maxLen ∧ (Z r).length = C r ∧ (∀ n ∈ Z r, (Lit.int .u8 n).wf = true) ∧ (A r = none → C r = 0) ∧
        ∀ a', A r = some a' → 0 ≤ a'.block ∧ ∀ c, c < C r → w.cell? (a'.add c) = some (.int .u8 ((Z r).getD c 0))) :
    IsRows w (some a) len cap ((List.range len).map fun r => (Z r).take (L r)) := by
  unfold maxLen at *
  have hg : ∀ r, r < len → ((List.range len).map fun r => (Z r).take (L r)).getD r [] = (Z r).take (L r) := fun r hr => by
    rw [List.getD_eq_getElem?_getD]; simp [hr]
  have hB : ∀ r, r < len → Bytes w (A r) ((Z r).take (L r)) := fun r hr => by
    obtain ⟨_, h2, h3, h4, h5, h6, h7⟩ := h r (by omega)
    rcases hA : A r with _ | a'
    · have := h6 hA
      have e : (Z r).take (L r) = [] := by rw [show L r = 0 from by omega]; simp
      rw [e]
      exact ⟨fun c hc => by simp at hc, fun h => absurd rfl h⟩
    · exact bytes_at h2 h4 (fun i hi => (h7 a' hA).2 i (by omega)) h5
  refine ⟨by simp, by omega, fun hne => ?_⟩
  obtain ⟨b, off, spot⟩ := a
  have hc := (h 0 (by omega)).1
  have hspot : spot = none := by simpa [Addr.add] using World.cell?_spot hc
  subst hspot
  refine ⟨b, off, rfl, fun k hk => ?_⟩
  obtain ⟨h1, h2, h3, h4, h5, h6, h7⟩ := h k (by omega)
  have e : ((Z k).take (L k)).length = L k := by rw [List.length_take]; omega
  refine ⟨A k, C k, ?_, by rw [hg k hk]; exact hB k hk, h6, by rw [hg k hk, e]; exact h2, h3, by rw [hg k hk, e]; exact hbd k hk⟩
  rw [hg k hk, e]
  by_cases h0 : k = 0
  · subst h0; simpa [Addr.add] using h1
  · simpa [Addr.add, h0] using h1

theorem own_ne {w : World} {base : Nat} {v : Value} {l : List Int} {g : Nat} {S : St} {R : List Int} {n : Nat} (h : Own w base v l) (hC : StC w g S R n) : v.ownBlock ≠ some g := by
  intro e
  obtain ⟨_, h2⟩ := h
  rcases h2 with ⟨rfl, _⟩ | ⟨g', cap, cur, rfl, _, h5, _⟩
  · simp [Value.ownBlock] at e
  · simp only [Value.ownBlock, Option.some.injEq] at e
    subst e
    unfold StC at hC
    rw [hC] at h5
    simp at h5
theorem Own.but {w w' : World} {base g : Nat} {v : Value} {l : List Int} (h : Own w base v l) (hb : But w w' g) (hne : v.ownBlock ≠ some g) : Own w' base v l := by
  obtain ⟨h1, h2⟩ := h
  refine ⟨h1, ?_⟩
  rcases h2 with h2 | ⟨g', cap, cur, rfl, h4, h5, h6, h7, h8, h9⟩
  · exact .inl h2
  · refine .inr ⟨g', cap, cur, rfl, h4, ?_, h6, h7, h8, h9⟩
    rw [hb.2.2.2.2 g' (heap_lt h5) (by intro e; subst e; exact hne rfl)]; exact h5
theorem Wrote.grown {w w' : World} {g : Nat} {K l : List Int} {row : Option Nat} (h : Wrote w g K l) (hg : w.grownBy w' row) (hne : row ≠ some g) : Wrote w' g K l := by
  obtain ⟨R, h1, h2, h3, h4⟩ := h
  refine ⟨R, h1, h2, h3, ?_⟩
  unfold StC
  rw [hg.block g h4.lt (fun e => hne e.symm)]; exact h4

/-- an append to what is owned, and what it leaves as it was -/
theorem append_gr {w : World} {ops : Array Oper} {rest : List Oper} {o : Oper} {a : Act} {Q : Exit → Act → World → Prop} (hgd : o.guard = none)
    (s x : Operand) (ho : o.op = Op.call { callee := Callee.builtin Builtin.append, args := #[s, x], argTypes := #[22, 22] }) (base : Nat) (v u : Value) (l m : List Int) (hs : a.eval s = v) (hown : Own w base v l)
    (hx : a.eval x = u) (hS : Sl w u m) (hlen : l.length + m.length ≤ 140737488355328) (hbase : base ≤ w.heap.size)
    (h : ∀ (v' : Value) (w' : World), Hid (Own w' base v' (l ++ m)) → Hid (w.grownBy w' v.ownBlock) → wpList Tryd.prog ops Q rest (a.put o.dst v') w') : wpList Tryd.prog ops Q (o :: rest) a w := by
  obtain ⟨i0, hi, hz0, hz1, hz2⟩ := info_parts Tryd.info5
  obtain ⟨ad, cap, rfl, hB, hnil, hcap⟩ := hS
  rcases ad with _ | ad
  · have hc := hnil rfl
    subst hc
    have e2 : m = [] := List.eq_nil_of_length_eq_zero (by omega)
    subst e2
    refine wpList_append_own_none hgd s x 22 ho base 5 i0 1 Tryd.underlying22 hi v _ _ hs hown hx (h v w ?_ (World.grownBy.refl _ _))
    rw [List.append_nil]; exact hown
  · refine wpList_append_own w hgd s x 22 ho base 5 i0 (.int .u8 0) 1 1 Tryd.underlying22 hi hz0 hz1 hz2 rfl (by decide) v _ _ hs hown ad m.length cap (m.map (Value.int .u8)) hx (by simp) (Bytes.src hB) (oneCells m) (by unfold maxLen; omega) (by omega) hbase ?_
    intro v' w' hown' hg _
    have r := own_more (m := m) hown hbase hown' hg
    exact h v' w' r.1 hg

theorem flat_snoc (ps : List (List Int)) (k : Nat) (h : k < ps.length) : (ps.take (k + 1)).flatten = (ps.take k).flatten ++ ps.getD k [] := by
  rw [List.take_succ_eq_append_getElem h, List.flatten_append, List.getD_eq_getElem?_getD, List.getElem?_eq_getElem h]; simp

set_option maxHeartbeats 8000000 in
set_option maxRecDepth 1000000 in
theorem pieces_walk (a0 : Option Addr) (len cap : Nat) (ps : List (List Int)) (w : World) (hT0 : Tab w 0 Ks) (hT1 : Tab w 1 Ks) (hP : IsRows w a0 len cap ps) :
    Calls Tryd.prog 6 #[.slice a0 len cap] w fun e w' => e = .returned (.bool true) ∧ Below w.heap.size w w' := by
  obtain ⟨hpl, hl63, hrows⟩ := hP
  have hbE : Below w.heap.size w (w.alloc (.cells #[] 5)) := (Below.refl _ _).alloc (Nat.le_refl _) _
  have hOE := empty_own w
  obtain ⟨wE, hwE⟩ : ∃ wE, wE = w.alloc (.cells #[] 5) := ⟨_, rfl⟩
  rw [← hwE] at hbE hOE
  obtain ⟨g, hg⟩ : ∃ g, g = wE.heap.size := ⟨_, rfl⟩
  have hgw : w.heap.size ≤ g := by have := hbE.size; omega
  have hbN : Below wE.heap.size wE (wE.alloc (.cells (stc init (List.replicate 64 0) 0).toArray 55)) := (Below.refl _ _).alloc (Nat.le_refl _) _
  have HNW : Hid (Calls Tryd.prog 18 #[] (w.alloc (.cells #[] 5)) fun e w' => e = .returned (.pointer (some ⟨g, 0, none⟩)) ∧ wE.alloc (.cells (stc init (List.replicate 64 0) 0).toArray 55) = w') := by
    have h := new_walk wE; rw [← hg] at h; rw [← hwE]; exact h
  have hW0 : Wrote (wE.alloc (.cells (stc init (List.replicate 64 0) 0).toArray 55)) g Ks [] := by rw [hg]; exact new_wrote wE Ks
  have HO0 := Lib.hid (hOE.below hbN)
  have HB0 := Lib.hid (hbE.trans (hbN.mono hbE.size))
  have HW0 := Lib.hid hW0
  generalize wE.alloc (.cells (stc init (List.replicate 64 0) 0).toArray 55) = w1 at HNW HW0 HO0 HB0 hW0 hbN
  have HPL := Lib.hid hpl
  have HR := Lib.hid hrows
  have HT := Lib.hid hT1
  have HT2 := Lib.hid hT0
  clear hpl hrows hT0 hT1 hOE hbE hwE hg hbN hW0
  go_enter Tryd.func6, Tryd.ntmps6
  go_wp2_with fail
  refine HNW.out.mono ?_
  rintro e w' ⟨rfl, rfl⟩
  clear HNW
  go_wp2
  go_loopw [3, 5] (fun v i wr => ∃ (k : Nat) (a : Option Addr) (n cp : Nat) (L : List Int), v = .slice a n cp ∧ i = .int .i64 k ∧ k ≤ len ∧ k ≤ 40 ∧ n ≤ 4000 ∧ Hid (n = L.length) ∧ Hid (L = (ps.take k).flatten) ∧ Hid (Oct L) ∧ Hid (Own wr w.heap.size (.slice a n cp) L) ∧ Hid (Wrote wr g Ks L) ∧ Hid (Below w.heap.size w wr)) (fun _ i _ => len - (intOf i).toNat)
  case atStart => exact ⟨0, _, 0, 0, [], rfl, rfl, by omega, by omega, by omega, rfl, by show [] = _; simp, (by intro c hc; simp at hc), HO0, HW0, HB0⟩
  case round =>
    clear HO0 HB0 HW0
    obtain ⟨k, av, n, cp, L, rfl, rfl, hk, hk40, hn, HN, HL, HO, HV, HW, HB⟩ := hrel
    have hz := HB.out.size
    by_cases hgo : k < len ∧ k < 40
    · obtain ⟨hk1, hk2⟩ := hgo
      obtain ⟨b, off, rfl, hc⟩ := HR.out (by omega)
      obtain ⟨a', c', hcell, hBy, hnil', hle', hcb', hbd⟩ := hc k hk1
      obtain ⟨P, hP⟩ : ∃ P, P = ps.getD k [] := ⟨_, rfl⟩
      rw [← hP] at hcell hBy hle'
      obtain ⟨p, hp⟩ : ∃ p, p = P.length := ⟨_, rfl⟩
      rw [← hP, ← hp] at hbd
      rw [← hp] at hcell hle'
      have hcw := cell_later HB.out hcell
      have p0 : (0 : Int) ≤ (k : Int) := by omega
      have p1 : (k : Int) < (len : Int) := by omega
      have p2 : (k : Int) < 40 := by omega
      by_cases hbig : (4000 : Int) < (n : Int) + (p : Int)
      · have HAW := Lib.hid (awake_any wr (HT.out.later HB.out))
        clear hc hcell hBy hnil' hle' hcb' hP hp
        go_wp2_with (go_at_call 9; refine HAW.out.mono ?_; rintro e w' ⟨rfl, hb⟩)
        go_ret
        exact ⟨rfl, HB.out.trans (hb.mono hz)⟩
      · have HWR := Lib.hid (write_in a' p c' g L P w wr hp hBy hnil' hle' hcb' HB.out hgw HT.out (by have := HN.out; omega) HW.out)
        have hne : Value.ownBlock (.slice av n cp) ≠ some g := by
          obtain ⟨R, _, _, _, hC⟩ := HW.out
          exact own_ne HV.out hC
        have HNE := Lib.hid hne
        have HSP : Hid (∀ W, Below w.heap.size w W → Sl W (.slice a' p c') P) := fun W hb => ⟨a', c', by rw [hp], hBy.later hb, hnil', by omega⟩
        have HFL : Hid ((ps.take (k + 1)).flatten = L ++ P) := by show _ = _; rw [flat_snoc ps k (by have := HPL.out; omega), ← HL.out, hP]
        have HOP : Hid (Oct (L ++ P)) := HO.out.append hBy.1
        have HLP : Hid ((L ++ P).length = n + p) := by show _ = _; rw [List.length_append, ← HN.out, ← hp]
        have HLLEN : Hid (L.length + P.length ≤ 4000) := by show _ ≤ _; rw [← HN.out, ← hp]; omega
        have HC0 : Hid (∀ W, Below w.heap.size w W → W.cell? ⟨b, off + k, none⟩ = some (.slice a' p c')) := fun W hb => cell_later hb hcell
        clear hc hcell hBy hnil' hle' hP hp hne
        go_wp2_with fail
        refine HWR.out.mono ?_
        rintro e w2 ⟨rfl, hw2, hq2, hb2⟩
        have HV2 := Lib.hid (HV.out.but hq2 HNE.out)
        have HW2 := Lib.hid hw2
        have HB2 := Lib.hid hb2
        have hc2 := HC0.out w2 hb2
        have HS2 := Lib.hid (HSP.out w2 hb2)
        have hz2 := hb2.size
        clear hw2 hq2 hb2 HWR HV HW hcw
        go_wp2_with (at_builtin; go_must (refine append_gr rfl (.tmp 34) (.tmp 38) rfl w.heap.size _ _ L P rfl HV2.out rfl HS2.out (by have := HLLEN.out; omega) hz2 ?_))
        intro v3 w3 HV3 HG3
        have HW3 := Lib.hid (HW2.out.grown HG3.out HNE.out)
        have HB3 : Hid (Below w.heap.size w w3) := HB2.out.grown HG3.out hz2 (fun j hj => HV2.out.base_le j hj)
        obtain ⟨a3, cp3, ev3⟩ := own_form HV3.out
        rw [HLP.out] at ev3
        subst ev3
        have HSM := Lib.hid (sum_walk g Ks (L ++ P) w3 HW3.out (HT.out.later HB3.out) (by rw [HLP.out]; omega))
        have HRS : Hid (∀ W, Below w3.heap.size w3 W → Calls Tryd.prog 13 #[.slice a3 (n + p) cp3] W fun e w' => e = .returned (.string (strOfNums (sumB Ks (L ++ P)))) ∧ Below W.heap.size W w') :=
          fun W hb => rsum_walk _ (L ++ P) Ks W ((HV3.out.sl HOP.out).later hb) HOP.out (by rw [HLP.out]; omega) (HT2.out.later (HB3.out.trans (hb.mono HB3.out.size)))
        have HLN : Hid (∀ W, Below w3.heap.size w3 W → Calls Tryd.prog 21 #[.pointer (some ⟨g, 0, none⟩)] W fun e w' => e = .returned (.int .i64 ((n : Int) + (p : Int))) ∧ W = w') := by
          intro W hb
          have h := len_walk g Ks (L ++ P) W (HW3.out.later hb)
          rw [HLP.out] at h
          simpa using h
        generalize strOfNums (sumB Ks (L ++ P)) = A at HSM HRS
        clear HG3 HV2 HW2 HB2 hc2 HS2 hz2
        go_wp2_with fail
        refine HSM.out.mono ?_
        rintro e w4 ⟨rfl, hb4⟩
        have B4 := Lib.hid hb4
        clear hb4
        go_wp2_with fail
        refine (HRS.out _ B4.out).mono ?_
        rintro e w5 ⟨rfl, hb5⟩
        have B5 := Lib.hid (B4.out.trans (hb5.mono B4.out.size))
        have HV5 := Lib.hid (HV3.out.below B5.out)
        have HW5 := Lib.hid (HW3.out.later B5.out)
        have HB5 := Lib.hid (HB3.out.trans (B5.out.mono HB3.out.size))
        have HLN5 := Lib.hid (HLN.out w5 B5.out)
        clear hb5 HV3 HW3 HB3 HSM HRS HLN B4 B5
        go_wp2_with (go_at_call 21; refine HLN5.out.mono ?_; rintro e w' ⟨rfl, rfl⟩)
        go_roundw
        case rel => exact ⟨k + 1, a3, n + p, cp3, L ++ P, rfl, by go_num, by omega, by omega, by omega, HLP.out.symm, HFL.out.symm, HOP, HV5, HW5, HB5⟩
        case measure => simp [intOf]; omega
    · have HSM := Lib.hid (sum_walk g Ks L wr HW.out (HT.out.later HB.out) (by have := HN.out; omega))
      obtain ⟨o1, o2, o3, o4⟩ := own_src (g := 0) HV.out HO.out (by have := HT.out.1; omega)
      have HSO : Hid (∀ W, Below wr.heap.size wr W → Calls Tryd.prog 12 #[.slice av n cp] W fun e w' => e = .returned (.string (strOfNums (sumB Ks L))) ∧ Below W.heap.size W w') := by
        intro W hb
        have h := sumof_walk av cp Ks L W (o1.bytes.later hb) (HT.out.later (HB.out.trans (hb.mono hz))) o2 o3 o4 (by have := HN.out; omega)
        rw [← HN.out] at h
        exact h
      generalize strOfNums (sumB Ks L) = A at HSM HSO
      have HAW : Hid (∀ W, Below wr.heap.size wr W → Calls Tryd.prog 9 #[] W fun e w' => e = .returned (.bool true) ∧ Below W.heap.size W w') := fun W hb => awake_any W (HT.out.later (HB.out.trans (hb.mono hz)))
      have hgg : ((k : Int) < (len : Int) ∧ ¬ (k : Int) < 40) ∨ ¬ (k : Int) < (len : Int) := by omega
      clear hgo o1 o2 o3 o4
      rcases hgg with ⟨g1, g2⟩ | g1
      all_goals
        go_wp2_with fail
        refine HSM.out.mono ?_
        rintro e w4 ⟨rfl, hb4⟩
        have B4 := Lib.hid hb4
        clear hb4
        go_wp2_with fail
        refine (HSO.out _ B4.out).mono ?_
        rintro e w5 ⟨rfl, hb5⟩
        have B5 := Lib.hid (B4.out.trans (hb5.mono B4.out.size))
        clear hb5
        go_wp2_with fail
        refine (HAW.out _ B5.out).mono ?_
        rintro e w6 ⟨rfl, hb6⟩
        go_wp2
        go_ret
        exact ⟨rfl, HB.out.trans ((B5.out.trans (hb6.mono B5.out.size)).mono hz)⟩
end Go.Proofs.YtbkdimdnpekgpaaDoor
