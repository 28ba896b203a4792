/- glob: the document's Match. (A template.) -/
import Derived.Test.YtokocfoeohddfaaDoorGlREsc
import Derived.Test.YtokocfoeohddfaaDoorHeldRound
namespace Go.Proofs.YtokocfoeohddfaaDoor.Pa
open Go.RowKit Go.Proofs.HeldRound
set_option linter.unusedVariables false
set_option linter.unusedSimpArgs false
set_option maxRecDepth 1000000

theorem wpAnyK_takeD {P : Program} {md : _} {ops : Array Oper} {Q : Exit → Act → World → Prop} {S : World → Prop} {bad : List Nat} {i : Nat} (d : Nat) (ws : List Nat) {oi : Oper} {v : Value} {fuel : Nat} {listed : Array Bool} {a : Act} {w : World} (hi : ops[i]? = some oi) (hd : oi.dst = some d)
    (hs : Region.noSelect ops = true) (hf : Region.free md ops listed i = true) (hr : (Region.ready md ops listed).contains i = true)
    (hw : (waits md ops i ws && bad.all (fun j => ws.contains j || listed.getD j true) && ws.all (fun j => !listed.getD j true)) = true)
    (hQ : ∀ c a w, Q (.panic c) (a.put oi.dst v) w → Q (.panic c) a w) (hy : YieldsIf P ops S oi v a) (hS : S w)
    (h : wpAnyK P md ops Q S bad fuel (listed.setIfInBounds i true) (a.put (some d) v) w) : wpAnyK P md ops Q S bad (fuel + 1) listed a w :=
  wpAnyK_take ws hi hs hf hr hw hQ hy hS (by rw [hd]; exact h)

/-- a row of truths -/
def bC (T : Nat → Bool) (n : Nat) : List Value := (List.range n).map fun k => Value.bool (T k)
def BAt (w : World) (g n : Nat) (T : Nat → Bool) : Prop := w.heap[g]? = some (.cells (bC T n).toArray 4)
theorem BAt.cell {w : World} {g n : Nat} {T : Nat → Bool} (h : BAt w g n T) (k : Nat) (hk : k < n) : w.cell? ⟨g, k, none⟩ = some (.bool (T k)) := by
  rw [cell_of_row _ _ k _ _ (0, 0) h, List.getElem?_toArray]
  unfold bC
  rw [List.getElem?_map, List.getElem?_range hk]; rfl
theorem BAt.soft {w : World} {g n : Nat} {T : Nat → Bool} (h : BAt w g n T) (k : Nat) : w.frozen? ⟨g, k, none⟩ = false := unfrozen h
theorem BAt.lt {w : World} {g n : Nat} {T : Nat → Bool} (h : BAt w g n T) : g < w.heap.size := (Array.getElem?_eq_some_iff.1 h).1
theorem BAt.later {w w' : World} {g n : Nat} {T : Nat → Bool} (h : BAt w g n T) (hb : Below w.heap.size w w') : BAt w' g n T := by
  unfold BAt at *
  rw [hb.block _ (Array.getElem?_eq_some_iff.1 h).1]; exact h
theorem BAt.same {w : World} {g n : Nat} {T U : Nat → Bool} (h : BAt w g n T) (e : ∀ k, k < n → T k = U k) : BAt w g n U := by
  have : bC T n = bC U n := by unfold bC; apply List.map_congr_left; intro k hk; rw [e k (by simpa using hk)]
  unfold BAt at *; rw [h, this]
theorem bC_set (T : Nat → Bool) (n k : Nat) (b : Bool) : (bC T n).toArray.setIfInBounds k (.bool b) = (bC (fun j => if j = k then b else T j) n).toArray := by
  apply Array.ext'
  rw [Array.toList_setIfInBounds]
  unfold bC
  simp only
  apply List.ext_getElem
  · simp
  intro m h1 h2
  rw [List.getElem_set]
  simp only [List.getElem_map, List.getElem_range]
  by_cases e : k = m
  · rw [if_pos e, if_pos e.symm]
  · rw [if_neg e, if_neg (fun q => e q.symm)]
theorem BAt.set {w : World} {g n : Nat} {T : Nat → Bool} (h : BAt w g n T) (k : Nat) (b : Bool) : BAt (w.setCell ⟨g, k, none⟩ (.bool b)) g n (fun j => if j = k then b else T j) := by
  unfold BAt at *
  rw [row_set h k, bC_set]
theorem BAt.other {w : World} {g n g' k : Nat} {T : Nat → Bool} {v : Value} (h : BAt w g n T) (hne : g ≠ g') : BAt (w.setCell ⟨g', k, none⟩ v) g n T := by
  unfold BAt at *
  rw [← h]; simp [World.setCell, Array.getElem?_modify, Ne.symm hne]
theorem Tryd.infoBool : (Tryd.prog.info? 4).map (fun i => (i.zero, i.size, i.bytes)) = some (some (.bool false), 1, 1) := by kernel_rfl
theorem made_bools (w : World) (n : Nat) (hn : n ≤ 1000000) : (Instr.makeSlice 59 (.int .i64 (n : Int)) (.int .i64 (n : Int))).run Tryd.prog w = .ok (.slice (some ⟨w.heap.size, 0, none⟩) n n) (w.alloc (.cells (bC noneS n).toArray 4)) := by
  obtain ⟨i0, hi0, hz0, hz1, hzz⟩ := info_parts Tryd.infoBool
  have hmk := run_make (P := Tryd.prog) w 59 4 i0 (.bool false) Tryd.underlying59 hi0 hz0 .i64 .i64 n n (by omega) (by omega) (by rw [hzz]; omega) (by omega)
  rw [hz1] at hmk
  simp only [Int.toNat_natCast] at hmk
  rw [hmk]
  congr 3
  apply Array.ext'
  unfold madeCells bC noneS
  apply List.ext_getElem
  · simp
  intro m h1 h2
  simp [Value.cells, Nat.mod_one]
theorem bel_from_drew {w w' : World} (h : Below w.drew.heap.size w.drew w') : Below w.heap.size w w' := ⟨h.os, h.tape, h.output, h.size, h.block⟩
theorem bel_drew_self (w : World) : Below w.heap.size w w.drew := (Below.refl _ _).drew
/-- the world between two rounds: what the signs ahead have come to, and this one so far -/
structure MI (w2 wx : World) (gA gT n : Nat) (T U : Nat → Bool) : Prop where
  at_ : BAt wx gA n T
  to_ : BAt wx gT n U
  bel : Below w2.heap.size w2 wx
  ne : gA ≠ gT
  lo : w2.heap.size ≤ gT
theorem MI.later {w2 wx wy : World} {gA gT n : Nat} {T U : Nat → Bool} (h : MI w2 wx gA gT n T U) (hb : Below wx.heap.size wx wy) : MI w2 wy gA gT n T U :=
  ⟨h.at_.later hb, h.to_.later hb, h.bel.trans (hb.mono h.bel.size), h.ne, h.lo⟩
theorem MI.set {w2 wx : World} {gA gT n k : Nat} {T D : Nat → Bool} {b : Bool} (h : MI w2 wx gA gT n T (fun j => if j < k then D j else false)) (hk : k < n) (hb : b = D k) :
    MI w2 (wx.setCell ⟨gT, k, none⟩ (.bool b)) gA gT n T (fun j => if j < k + 1 then D j else false) := by
  refine ⟨h.at_.other h.ne, (h.to_.set k b).same fun j hj => ?_, h.bel.setCell h.lo _, h.ne, h.lo⟩
  by_cases e : j = k
  · subst e; simp only [if_true]; rw [if_pos (by omega), hb]
  · simp only [if_neg e]
    by_cases hl : j < k
    · rw [if_pos hl, if_pos (by omega)]
    · rw [if_neg hl, if_neg (by omega)]
theorem sg_many (x : Rg) : x.sg.many = decide (x.kind = 2 ∨ x.kind = 3) := by
  unfold Rg.sg
  split
  · next h => rw [h]; rfl
  · split
    · next h => rw [h]; rfl
    · split
      · next h => rw [h]; rfl
      · next h0 h3 h4 =>
        show decide (x.kind = 2) = _
        by_cases h : x.kind = 2 <;> simp [h, h3]
theorem dpRow_star {x : Rg} {s : L8} {T : Nat → Bool} (h : x.sg.many = true) (k : Nat) : dpRow x s T k = (T k || (decide (0 < k) && (dpRow x s T (k - 1) && takesB x (nb s (k - 1))))) := by
  cases k with
  | zero => rw [dpRow, h]; simp
  | succ k => rw [dpRow, h]; simp
theorem dpRow_one {x : Rg} {s : L8} {T : Nat → Bool} (h : x.sg.many = false) (k : Nat) : dpRow x s T k = (decide (0 < k) && (T (k - 1) && takesB x (nb s (k - 1)))) := by
  cases k with
  | zero => rw [dpRow, h]; simp
  | succ k => rw [dpRow, h]; simp
set_option maxHeartbeats 32000000 in
theorem rmatch_any (p s : L8) (w : World) (hp : p.length ≤ 4611686018427387904) (hs : s.length ≤ 900000) :
    Calls Tryd.prog 14 #[.string (mk p), .string (mk s)] w fun e w' => e = .returned (.bool (matchP p s)) ∧ Below w.heap.size w w' := by
  have HC := Lib.hid (rcheck_any p w hp)
  rcases read_ways p with ⟨h1, h2⟩ | ⟨h1, hl, L, hR, hP, hLl, hF⟩
  · have hm : matchP p s = false := matchP_none h1 s
    have hne : (readE p == 0) = false := by simpa using h1
    rw [hm]
    generalize readE p = r at *
    clear hp h1 h2 hm
    go_enter Tryd.func14, Tryd.ntmps14
    go_wp2_with (go_at_call 12; refine HC.out.mono ?_; rintro e w' ⟨rfl, hb⟩; have HB := Lib.hid hb; clear hb)
    go_ret
    exact ⟨rfl, HB.out⟩
  · obtain ⟨R, hRR⟩ : ∃ R, R = matchP p s := ⟨_, rfl⟩
    have HRR : Hid (R = dp s T0 L s.length) := by show _ = _; rw [hRR]; exact matchP_R hl hR s
    rw [← hRR]
    rw [h1] at HC
    have HSG : Hid (∀ W, Below w.heap.size w W → Calls Tryd.prog 21 #[.string (mk p)] W fun e w' => ∃ u, e = .returned (.tuple #[u, .bool true]) ∧ RgAt w' u L ∧ Below w.heap.size w w') := by
      intro W hW
      refine (rsigns_any p W hl).mono ?_
      rintro e w' ⟨v, rfl, hv, hb⟩
      obtain ⟨u, rfl, ha⟩ := rdr_at hR _ _ _ hv
      exact ⟨u, rfl, ha, hW.trans (hb.mono hW.size)⟩
    have HLL : Hid (L.length ≤ 100) := by show _ ≤ _; omega
    have hss : (mk s).size = s.length := mk_size s
    have HSS := Lib.hid hss
    obtain ⟨n, hn⟩ : ∃ n, n = s.length + 1 := ⟨_, rfl⟩
    have HN : Hid (n = s.length + 1 ∧ n ≤ 1000000) := ⟨hn, by omega⟩
    have hwn : IntKind.i64.wrap (((mk s).size : Int) + 1) = (n : Int) := by rw [hss, IntWalk.i64_in _ (by omega)]; omega
    clear hp h1 hl hR hP hLl hF hRR hss hs hn
    go_enter Tryd.func14, Tryd.ntmps14
    go_upto_region 4 with (first
      | (go_at_call 12; refine HC.out.mono ?_; rintro e w1 ⟨rfl, hb⟩; have HB1 := Lib.hid hb; clear hb)
      | (go_at_call 21; refine (HSG.out _ HB1.out).mono ?_; rintro e w2 ⟨u, rfl, ha, hb⟩; have HA2 := Lib.hid ha; have HB2 := Lib.hid hb; obtain ⟨sa, sc, rfl, hrow⟩ := ha; have HROW := Lib.hid hrow; clear hb hrow))
    have hmk := made_bools w2 n HN.out.2
    have HBA0 : Hid (BAt (w2.alloc (.cells (bC noneS n).toArray 4)) w2.heap.size n noneS) := heap_new _ _
    have HBB0 : Hid (Below w2.heap.size w2 (w2.alloc (.cells (bC noneS n).toArray 4))) := (Below.refl _ _).alloc (Nat.le_refl _) _
    obtain ⟨CN, hCN⟩ : ∃ CN, CN = (bC noneS n).toArray := ⟨_, rfl⟩
    have HCN := Lib.hid hCN
    rw [← hCN] at hmk HBA0 HBB0
    have c00 : (w2.alloc (.cells CN 4)).cell? ⟨w2.heap.size, 0, none⟩ = some (.bool (noneS 0)) := HBA0.out.cell 0 (by have := HN.out; omega)
    have f00 : (w2.alloc (.cells CN 4)).frozen? ⟨w2.heap.size, 0, none⟩ = false := HBA0.out.soft 0
    have hn0 : (0 : Int) < (n : Int) := by have := HN.out; omega
    have hnN : 0 < n := by have := HN.out; omega
    have HBA1 : Hid (BAt (w2.alloc (.cells (CN.setIfInBounds 0 (.bool true)) 4)) w2.heap.size n (dp s T0 (L.take 0))) := by
      have h : BAt (w2.alloc (.cells (CN.setIfInBounds 0 (.bool true)) 4)) w2.heap.size n (fun j => if j = 0 then true else noneS j) := by unfold BAt; rw [heap_new, HCN.out, bC_set]
      exact h.same fun j hj => by
        simp only [List.take_zero, dp, T0, noneS]
        by_cases e : j = 0 <;> simp [e]
    have HBB1 : Hid (Below w2.heap.size w2 (w2.alloc (.cells (CN.setIfInBounds 0 (.bool true)) 4))) := (Below.refl _ _).alloc (Nat.le_refl _) _
    clear hCN
    go_wp2
    clear hmk c00 f00
    go_loopw [7, 8] (fun v iv wr => ∃ (i gA : Nat), iv = .int .i64 i ∧ v = .slice (some ⟨gA, 0, none⟩) n n ∧ Hid (i ≤ L.length) ∧ Hid (w2.heap.size ≤ gA) ∧ Hid (BAt wr gA n (dp s T0 (L.take i))) ∧ Hid (Below w2.heap.size w2 wr)) (fun _ iv _ => L.length - (intOf iv).toNat)
    case atStart => exact ⟨0, w2.heap.size, rfl, rfl, Nat.zero_le _, Nat.le_refl _, HBA1, HBB1⟩
    case round =>
      clear HBA0 HBB0 HBA1 HBB1
      obtain ⟨i, gA, rfl, rfl, HI, HGA, HBA, HBW⟩ := hrel
      have hLL := HLL.out
      by_cases hi : i < L.length
      · have hIi : (i : Int) < (L.length : Int) := by omega
        obtain ⟨x, hx⟩ : ∃ x, L[i]? = some x := ⟨_, List.getElem?_eq_getElem hi⟩
        have hw1 : IntKind.i64.wrap ((i : Int) + 1) = (i : Int) + 1 := IntWalk.i64_in _ (by omega)
        obtain ⟨gg, rfl, hgl, hr4⟩ := HROW.out (by intro e; rw [e] at hi; simp at hi)
        have HX2 : Hid (w2.rangeAt gg (i * 259) x.cs) := hr4 i x hx
        have HGG : Hid (gg < w2.heap.size) := hgl
        obtain ⟨TT, hTT⟩ : ∃ TT, TT = dp s T0 (L.take i) := ⟨_, rfl⟩
        rw [← hTT] at HBA
        obtain ⟨DD, hDD⟩ : ∃ DD, DD = dpRow x s TT := ⟨_, rfl⟩
        have HDD := Lib.hid hDD
        have HNXT : Hid (dp s T0 (L.take (i + 1)) = DD) := by
          show _ = _
          rw [hDD, hTT, List.take_add_one, hx]
          exact dp_snoc s _ x T0
        have HIL := Lib.hid hi
        have hmk := made_bools wr n HN.out.2
        have HMI0 : Hid (MI w2 (wr.alloc (.cells (bC noneS n).toArray 4)) gA wr.heap.size n TT (fun j => if j < 0 then DD j else false)) := by
          have hb : Below wr.heap.size wr (wr.alloc (.cells (bC noneS n).toArray 4)) := (Below.refl _ _).alloc (Nat.le_refl _) _
          have h1 : BAt (wr.alloc (.cells (bC noneS n).toArray 4)) wr.heap.size n noneS := heap_new _ _
          exact ⟨HBA.out.later hb, h1.same (fun j hj => by rw [if_neg (by omega)]; rfl), HBW.out.trans (hb.mono HBW.out.size), Nat.ne_of_lt HBA.out.lt, HBW.out.size⟩
        rw [← HCN.out] at hmk HMI0
        clear hx hgl hr4 hTT hDD hi hLL
        go_wp2
        clear hmk
        obtain ⟨gT, hgT⟩ : ∃ gT, gT = wr.heap.size := ⟨_, rfl⟩
        rw [← hgT] at HMI0 ⊢
        clear hgT HBA HBW
        go_loopw [10] (fun kv wx => ∃ k : Nat, kv = .int .i64 k ∧ Hid (k ≤ n) ∧ Hid (MI w2 wx gA gT n TT (fun j => if j < k then DD j else false))) (fun kv _ => n - (intOf kv).toNat)
        case atStart => exact ⟨0, rfl, Nat.zero_le _, HMI0⟩
        case round =>
          clear HMI0
          obtain ⟨k, rfl, HKL, HMI⟩ := hrel
          by_cases hk : k < n
          · have hIk : (k : Int) ≤ ((mk s).size : Int) := by rw [HSS.out]; have := HN.out; omega
            have hkn : (k : Int) < (n : Int) := by omega
            have HKN := Lib.hid hk
            have hn9 := HN.out
            have hwk : IntKind.i64.wrap ((k : Int) + 1) = (k : Int) + 1 := IntWalk.i64_in _ (by omega)
            have HXR : Hid (wr.rangeAt gg (i * 259) x.cs) := fun j u hj => by
              rw [HMI.out.bel.cell (p := ⟨gg, i * 259 + j, none⟩) HGG.out]; exact HX2.out j u hj
            have HGL : Hid (gg < wr.drew.heap.size) := Nat.lt_of_lt_of_le HGG.out HMI.out.bel.size
            have c0 := range_kind HXR.out
            clear hk hn9
            go_upto_region 13 with (fail)
            go_cut [54] (fun v wx => v = .bool x.sg.many ∧ wr = wx)
            case first =>
              by_cases h2 : x.kind = 2
              · have HQ : Hid (x.sg.many = true) := by show _ = _; rw [sg_many, h2]; rfl
                rw [h2] at c0
                clear h2
                go_wp2
                go_meet
                exact ⟨by rw [HQ.out], rfl⟩
              · have q2 : ((x.kind : Int) == 2) = false := by simpa using fun e => h2 (by omega)
                by_cases h3 : x.kind = 3
                · have HQ : Hid (x.sg.many = true) := by show _ = _; rw [sg_many, h3]; rfl
                  rw [h3] at c0
                  clear h2 h3 q2
                  go_wp2
                  go_meet
                  exact ⟨by rw [HQ.out], rfl⟩
                · have q3 : ((x.kind : Int) == 3) = false := by simpa using fun e => h3 (by omega)
                  have HQ : Hid (x.sg.many = false) := by show _ = _; rw [sg_many]; exact decide_eq_false (by simp [h2, h3])
                  generalize x.kind = kk at *
                  clear h2 h3
                  go_wp2
                  go_meet
                  exact ⟨by rw [HQ.out], rfl⟩
            case rest =>
            obtain ⟨rfl, rfl⟩ := hcut
            clear c0
            have HTKa : Hid (∀ d : Nat, d < 256 → ∀ W : World, Calls Tryd.prog 42 #[.agg x.cs.toArray, .int .u8 (d : Int)] W fun e w' => e = .returned (.bool (takesB x d)) ∧ Below W.heap.size W w') := fun d hd W => takes_any x d hd W
            have HXS : Hid ((Tryd.prog.info? 35).map (·.size) = some x.cs.length) := size_rg (Rg.cs_length x)
            have HBT : Hid (BAt wr gT n (fun j => if j < k then DD j else false)) := HMI.out.to_
            have hS0 : Below wr.drew.heap.size wr.drew wr.drew := Below.refl _ _
            have cT : wr.drew.cell? ⟨gT, k, none⟩ = some (.bool (if k < k then DD k else false)) := by have := HBT.out.cell k HKN.out; simpa using this
            have fT : wr.drew.frozen? ⟨gT, k, none⟩ = false := by have := HBT.out.soft k; simpa using this
            cases hmany : x.sg.many with
            | true =>
              have HDK0 : Hid (DD k = (TT k || (decide (0 < k) && (DD (k - 1) && takesB x (nb s (k - 1)))))) := by show _ = _; rw [HDD.out]; exact dpRow_star hmany k
              cases hta : TT k with
              | true =>
                have HDK : Hid (DD k = true) := by show _ = _; rw [HDK0.out, hta]; rfl
                have cA : wr.drew.cell? ⟨gA, k, none⟩ = some (.bool true) := by have := HMI.out.at_.cell k HKN.out; rw [hta] at this; simpa using this
                clear hmany hta
                go_wp2
                refine region_plain (S := fun W' => Below wr.drew.heap.size wr.drew W') (bad := [29]) (by kernel_rfl) ?_
                refine wpAnyK_takeD (i := 0) 55 [28, 29] (v := .slice (some ⟨gT, 0, none⟩) n n) rfl (by kernel_rfl) (by kernel_rfl) (by kernel_rfl) (by kernel_rfl) (by kernel_rfl) (fun _ _ _ h => h) (Or.inl ⟨by kernel_rfl, fun w' hw' => by go_simp⟩) hS0 ?_
                try simp only [Act.put, List.setIfInBounds_toArray, List.set_cons_zero, List.set_cons_succ]
                refine wpAnyK_takeD (i := 1) 56 [28, 29] (v := .int .i64 (k : Int)) rfl (by kernel_rfl) (by kernel_rfl) (by kernel_rfl) (by kernel_rfl) (by kernel_rfl) (fun _ _ _ h => h) (Or.inl ⟨by kernel_rfl, fun w' hw' => by go_simp⟩) hS0 ?_
                try simp only [Act.put, List.setIfInBounds_toArray, List.set_cons_zero, List.set_cons_succ]
                refine wpAnyK_takeD (i := 2) 57 [4, 5, 6, 27, 29] (v := .slice (some ⟨gA, 0, none⟩) n n) rfl (by kernel_rfl) (by kernel_rfl) (by kernel_rfl) (by kernel_rfl) (by kernel_rfl) (fun _ _ _ h => h) (Or.inl ⟨by kernel_rfl, fun w' hw' => by go_simp⟩) hS0 ?_
                try simp only [Act.put, List.setIfInBounds_toArray, List.set_cons_zero, List.set_cons_succ]
                refine wpAnyK_takeD (i := 3) 58 [4, 5, 6, 27, 29] (v := .int .i64 (k : Int)) rfl (by kernel_rfl) (by kernel_rfl) (by kernel_rfl) (by kernel_rfl) (by kernel_rfl) (fun _ _ _ h => h) (Or.inl ⟨by kernel_rfl, fun w' hw' => by go_simp⟩) hS0 ?_
                try simp only [Act.put, List.setIfInBounds_toArray, List.set_cons_zero, List.set_cons_succ]
                refine wpAnyK_takeD (i := 4) 59 [5, 6, 27, 29] (v := .pointer (some ⟨gA, k, none⟩)) rfl (by kernel_rfl) (by kernel_rfl) (by kernel_rfl) (by kernel_rfl) (by kernel_rfl) (fun _ _ _ h => h) (Or.inl ⟨by kernel_rfl, fun w' hw' => by go_simp⟩) hS0 ?_
                try simp only [Act.put, List.setIfInBounds_toArray, List.set_cons_zero, List.set_cons_succ]
                refine wpAnyK_takeD (i := 5) 60 [6, 27, 29] (v := .bool true) rfl (by kernel_rfl) (by kernel_rfl) (by kernel_rfl) (by kernel_rfl) (by kernel_rfl) (fun _ _ _ h => h) (Or.inl ⟨by kernel_rfl, fun w' hw' => by have hcc := cell_later hw' cA; go_simp⟩) hS0 ?_
                try simp only [Act.put, List.setIfInBounds_toArray, List.set_cons_zero, List.set_cons_succ]
                refine wpAnyK_takeD (i := 6) 61 [27, 29] (v := .bool true) rfl (by kernel_rfl) (by kernel_rfl) (by kernel_rfl) (by kernel_rfl) (by kernel_rfl) (fun _ _ _ h => h) (Or.inl ⟨by kernel_rfl, fun w' hw' => by go_simp⟩) hS0 ?_
                try simp only [Act.put, List.setIfInBounds_toArray, List.set_cons_zero, List.set_cons_succ]
                refine wpAnyK_takeD (i := 7) 62 [8, 9, 15, 16, 26, 27, 29] (v := undef) rfl (by kernel_rfl) (by kernel_rfl) (by kernel_rfl) (by kernel_rfl) (by kernel_rfl) (fun _ _ _ h => h) (Or.inr ⟨by kernel_rfl, rfl⟩) hS0 ?_
                try simp only [Act.put, List.setIfInBounds_toArray, List.set_cons_zero, List.set_cons_succ]
                refine wpAnyK_takeD (i := 8) 63 [9, 15, 16, 26, 27, 29] (v := undef) rfl (by kernel_rfl) (by kernel_rfl) (by kernel_rfl) (by kernel_rfl) (by kernel_rfl) (fun _ _ _ h => h) (Or.inr ⟨by kernel_rfl, rfl⟩) hS0 ?_
                try simp only [Act.put, List.setIfInBounds_toArray, List.set_cons_zero, List.set_cons_succ]
                refine wpAnyK_takeD (i := 9) 64 [15, 16, 26, 27, 29] (v := undef) rfl (by kernel_rfl) (by kernel_rfl) (by kernel_rfl) (by kernel_rfl) (by kernel_rfl) (fun _ _ _ h => h) (Or.inr ⟨by kernel_rfl, rfl⟩) hS0 ?_
                try simp only [Act.put, List.setIfInBounds_toArray, List.set_cons_zero, List.set_cons_succ]
                refine wpAnyK_takeD (i := 10) 65 [13, 14, 15, 16, 26, 27, 29] (v := undef) rfl (by kernel_rfl) (by kernel_rfl) (by kernel_rfl) (by kernel_rfl) (by kernel_rfl) (fun _ _ _ h => h) (Or.inr ⟨by kernel_rfl, rfl⟩) hS0 ?_
                try simp only [Act.put, List.setIfInBounds_toArray, List.set_cons_zero, List.set_cons_succ]
                refine wpAnyK_takeD (i := 11) 66 [12, 13, 14, 15, 16, 26, 27, 29] (v := undef) rfl (by kernel_rfl) (by kernel_rfl) (by kernel_rfl) (by kernel_rfl) (by kernel_rfl) (fun _ _ _ h => h) (Or.inr ⟨by kernel_rfl, rfl⟩) hS0 ?_
                try simp only [Act.put, List.setIfInBounds_toArray, List.set_cons_zero, List.set_cons_succ]
                refine wpAnyK_takeD (i := 12) 67 [13, 14, 15, 16, 26, 27, 29] (v := undef) rfl (by kernel_rfl) (by kernel_rfl) (by kernel_rfl) (by kernel_rfl) (by kernel_rfl) (fun _ _ _ h => h) (Or.inr ⟨by kernel_rfl, rfl⟩) hS0 ?_
                try simp only [Act.put, List.setIfInBounds_toArray, List.set_cons_zero, List.set_cons_succ]
                refine wpAnyK_takeD (i := 13) 68 [14, 15, 16, 26, 27, 29] (v := undef) rfl (by kernel_rfl) (by kernel_rfl) (by kernel_rfl) (by kernel_rfl) (by kernel_rfl) (fun _ _ _ h => h) (Or.inr ⟨by kernel_rfl, rfl⟩) hS0 ?_
                try simp only [Act.put, List.setIfInBounds_toArray, List.set_cons_zero, List.set_cons_succ]
                refine wpAnyK_takeD (i := 14) 69 [15, 16, 26, 27, 29] (v := undef) rfl (by kernel_rfl) (by kernel_rfl) (by kernel_rfl) (by kernel_rfl) (by kernel_rfl) (fun _ _ _ h => h) (Or.inr ⟨by kernel_rfl, rfl⟩) hS0 ?_
                try simp only [Act.put, List.setIfInBounds_toArray, List.set_cons_zero, List.set_cons_succ]
                refine wpAnyK_takeD (i := 15) 70 [16, 26, 27, 29] (v := undef) rfl (by kernel_rfl) (by kernel_rfl) (by kernel_rfl) (by kernel_rfl) (by kernel_rfl) (fun _ _ _ h => h) (Or.inr ⟨by kernel_rfl, rfl⟩) hS0 ?_
                try simp only [Act.put, List.setIfInBounds_toArray, List.set_cons_zero, List.set_cons_succ]
                refine wpAnyK_takeD (i := 16) 71 [26, 27, 29] (v := undef) rfl (by kernel_rfl) (by kernel_rfl) (by kernel_rfl) (by kernel_rfl) (by kernel_rfl) (fun _ _ _ h => h) (Or.inr ⟨by kernel_rfl, rfl⟩) hS0 ?_
                try simp only [Act.put, List.setIfInBounds_toArray, List.set_cons_zero, List.set_cons_succ]
                refine wpAnyK_takeD (i := 17) 72 [19, 20, 25, 26, 27, 29] (v := undef) rfl (by kernel_rfl) (by kernel_rfl) (by kernel_rfl) (by kernel_rfl) (by kernel_rfl) (fun _ _ _ h => h) (Or.inr ⟨by kernel_rfl, rfl⟩) hS0 ?_
                try simp only [Act.put, List.setIfInBounds_toArray, List.set_cons_zero, List.set_cons_succ]
                refine wpAnyK_takeD (i := 18) 73 [19, 20, 25, 26, 27, 29] (v := undef) rfl (by kernel_rfl) (by kernel_rfl) (by kernel_rfl) (by kernel_rfl) (by kernel_rfl) (fun _ _ _ h => h) (Or.inr ⟨by kernel_rfl, rfl⟩) hS0 ?_
                try simp only [Act.put, List.setIfInBounds_toArray, List.set_cons_zero, List.set_cons_succ]
                refine wpAnyK_takeD (i := 19) 74 [20, 25, 26, 27, 29] (v := undef) rfl (by kernel_rfl) (by kernel_rfl) (by kernel_rfl) (by kernel_rfl) (by kernel_rfl) (fun _ _ _ h => h) (Or.inr ⟨by kernel_rfl, rfl⟩) hS0 ?_
                try simp only [Act.put, List.setIfInBounds_toArray, List.set_cons_zero, List.set_cons_succ]
                refine wpAnyK_takeD (i := 20) 75 [25, 26, 27, 29] (v := undef) rfl (by kernel_rfl) (by kernel_rfl) (by kernel_rfl) (by kernel_rfl) (by kernel_rfl) (fun _ _ _ h => h) (Or.inr ⟨by kernel_rfl, rfl⟩) hS0 ?_
                try simp only [Act.put, List.setIfInBounds_toArray, List.set_cons_zero, List.set_cons_succ]
                refine wpAnyK_takeD (i := 21) 76 [24, 25, 26, 27, 29] (v := undef) rfl (by kernel_rfl) (by kernel_rfl) (by kernel_rfl) (by kernel_rfl) (by kernel_rfl) (fun _ _ _ h => h) (Or.inr ⟨by kernel_rfl, rfl⟩) hS0 ?_
                try simp only [Act.put, List.setIfInBounds_toArray, List.set_cons_zero, List.set_cons_succ]
                refine wpAnyK_takeD (i := 22) 77 [23, 24, 25, 26, 27, 29] (v := undef) rfl (by kernel_rfl) (by kernel_rfl) (by kernel_rfl) (by kernel_rfl) (by kernel_rfl) (fun _ _ _ h => h) (Or.inr ⟨by kernel_rfl, rfl⟩) hS0 ?_
                try simp only [Act.put, List.setIfInBounds_toArray, List.set_cons_zero, List.set_cons_succ]
                refine wpAnyK_takeD (i := 23) 78 [24, 25, 26, 27, 29] (v := undef) rfl (by kernel_rfl) (by kernel_rfl) (by kernel_rfl) (by kernel_rfl) (by kernel_rfl) (fun _ _ _ h => h) (Or.inr ⟨by kernel_rfl, rfl⟩) hS0 ?_
                try simp only [Act.put, List.setIfInBounds_toArray, List.set_cons_zero, List.set_cons_succ]
                refine wpAnyK_takeD (i := 24) 79 [25, 26, 27, 29] (v := undef) rfl (by kernel_rfl) (by kernel_rfl) (by kernel_rfl) (by kernel_rfl) (by kernel_rfl) (fun _ _ _ h => h) (Or.inr ⟨by kernel_rfl, rfl⟩) hS0 ?_
                try simp only [Act.put, List.setIfInBounds_toArray, List.set_cons_zero, List.set_cons_succ]
                refine wpAnyK_takeD (i := 25) 80 [26, 27, 29] (v := undef) rfl (by kernel_rfl) (by kernel_rfl) (by kernel_rfl) (by kernel_rfl) (by kernel_rfl) (fun _ _ _ h => h) (Or.inr ⟨by kernel_rfl, rfl⟩) hS0 ?_
                try simp only [Act.put, List.setIfInBounds_toArray, List.set_cons_zero, List.set_cons_succ]
                refine wpAnyK_takeD (i := 26) 81 [27, 29] (v := undef) rfl (by kernel_rfl) (by kernel_rfl) (by kernel_rfl) (by kernel_rfl) (by kernel_rfl) (fun _ _ _ h => h) (Or.inr ⟨by kernel_rfl, rfl⟩) hS0 ?_
                try simp only [Act.put, List.setIfInBounds_toArray, List.set_cons_zero, List.set_cons_succ]
                refine wpAnyK_takeD (i := 27) 82 [29] (v := .bool true) rfl (by kernel_rfl) (by kernel_rfl) (by kernel_rfl) (by kernel_rfl) (by kernel_rfl) (fun _ _ _ h => h) (Or.inl ⟨by kernel_rfl, fun w' hw' => by go_simp⟩) hS0 ?_
                try simp only [Act.put, List.setIfInBounds_toArray, List.set_cons_zero, List.set_cons_succ]
                refine wpAnyK_takeD (i := 28) 83 [29] (v := .pointer (some ⟨gT, k, none⟩)) rfl (by kernel_rfl) (by kernel_rfl) (by kernel_rfl) (by kernel_rfl) (by kernel_rfl) (fun _ _ _ h => h) (Or.inl ⟨by kernel_rfl, fun w' hw' => by go_simp⟩) hS0 ?_
                try simp only [Act.put, List.setIfInBounds_toArray, List.set_cons_zero, List.set_cons_succ]
                clear hS0
                refine wpAnyK_only (i := 29) (by kernel_rfl) rfl (by rfl) (fun K0 hK0 => ?_)
                have HK0 := Lib.hid hK0
                clear hK0
                go_simp
                refine HK0.out _ _ (fun h => by simp at h) ?_
                refine wpAnyK_done (by kernel_rfl) ?_ _
                clear HK0
                have HNX : Hid (MI w2 (wr.drew.setCell ⟨gT, k, none⟩ (.bool true)) gA gT n TT (fun j => if j < k + 1 then DD j else false)) := (HMI.out.later (bel_drew_self wr)).set HKN.out (by rw [HDK.out])
                go_wp2
                go_roundw
                case rel => exact ⟨k + 1, by go_num, by show _ ≤ _; have := HKN.out; omega, HNX⟩
                case measure => have := HKN.out; simp [intOf]; omega
              | false =>
                have cA : wr.drew.cell? ⟨gA, k, none⟩ = some (.bool false) := by have := HMI.out.at_.cell k HKN.out; rw [hta] at this; simpa using this
                by_cases hk0 : 0 < k
                · obtain ⟨z, hz⟩ : ∃ z, z = k - 1 := ⟨_, rfl⟩
                  have hzk : z < k := by omega
                  have hkz : IntKind.i64.wrap ((k : Int) - 1) = (z : Int) := by have := HN.out; have := HKN.out; rw [IntWalk.i64_in _ (by omega)]; omega
                  have hzn : (z : Int) < (n : Int) := by omega
                  have hk0I : (0 : Int) < (k : Int) := by omega
                  rw [← hz] at HDK0
                  rw [hta, decide_eq_true hk0] at HDK0
                  have cP0 := HMI.out.to_.cell z (by have := HKN.out; omega)
                  simp only [if_pos hzk] at cP0
                  cases hdz : DD z with
                  | false =>
                    have HDK : Hid (DD k = false) := by show _ = _; rw [HDK0.out, hdz]; rfl
                    rw [hdz] at cP0
                    have cP : wr.drew.cell? ⟨gT, z, none⟩ = some (.bool false) := by simpa using cP0
                    clear hmany hta hz hzk cP0 hdz
                    go_wp2
                    refine region_plain (S := fun W' => Below wr.drew.heap.size wr.drew W') (bad := [29]) (by kernel_rfl) ?_
                    refine wpAnyK_takeD (i := 0) 55 [28, 29] (v := .slice (some ⟨gT, 0, none⟩) n n) rfl (by kernel_rfl) (by kernel_rfl) (by kernel_rfl) (by kernel_rfl) (by kernel_rfl) (fun _ _ _ h => h) (Or.inl ⟨by kernel_rfl, fun w' hw' => by go_simp⟩) hS0 ?_
                    try simp only [Act.put, List.setIfInBounds_toArray, List.set_cons_zero, List.set_cons_succ]
                    refine wpAnyK_takeD (i := 1) 56 [28, 29] (v := .int .i64 (k : Int)) rfl (by kernel_rfl) (by kernel_rfl) (by kernel_rfl) (by kernel_rfl) (by kernel_rfl) (fun _ _ _ h => h) (Or.inl ⟨by kernel_rfl, fun w' hw' => by go_simp⟩) hS0 ?_
                    try simp only [Act.put, List.setIfInBounds_toArray, List.set_cons_zero, List.set_cons_succ]
                    refine wpAnyK_takeD (i := 2) 57 [4, 5, 6, 27, 29] (v := .slice (some ⟨gA, 0, none⟩) n n) rfl (by kernel_rfl) (by kernel_rfl) (by kernel_rfl) (by kernel_rfl) (by kernel_rfl) (fun _ _ _ h => h) (Or.inl ⟨by kernel_rfl, fun w' hw' => by go_simp⟩) hS0 ?_
                    try simp only [Act.put, List.setIfInBounds_toArray, List.set_cons_zero, List.set_cons_succ]
                    refine wpAnyK_takeD (i := 3) 58 [4, 5, 6, 27, 29] (v := .int .i64 (k : Int)) rfl (by kernel_rfl) (by kernel_rfl) (by kernel_rfl) (by kernel_rfl) (by kernel_rfl) (fun _ _ _ h => h) (Or.inl ⟨by kernel_rfl, fun w' hw' => by go_simp⟩) hS0 ?_
                    try simp only [Act.put, List.setIfInBounds_toArray, List.set_cons_zero, List.set_cons_succ]
                    refine wpAnyK_takeD (i := 4) 59 [5, 6, 27, 29] (v := .pointer (some ⟨gA, k, none⟩)) rfl (by kernel_rfl) (by kernel_rfl) (by kernel_rfl) (by kernel_rfl) (by kernel_rfl) (fun _ _ _ h => h) (Or.inl ⟨by kernel_rfl, fun w' hw' => by go_simp⟩) hS0 ?_
                    try simp only [Act.put, List.setIfInBounds_toArray, List.set_cons_zero, List.set_cons_succ]
                    refine wpAnyK_takeD (i := 5) 60 [6, 27, 29] (v := .bool false) rfl (by kernel_rfl) (by kernel_rfl) (by kernel_rfl) (by kernel_rfl) (by kernel_rfl) (fun _ _ _ h => h) (Or.inl ⟨by kernel_rfl, fun w' hw' => by have hcc := cell_later hw' cA; go_simp⟩) hS0 ?_
                    try simp only [Act.put, List.setIfInBounds_toArray, List.set_cons_zero, List.set_cons_succ]
                    refine wpAnyK_takeD (i := 6) 61 [27, 29] (v := .bool false) rfl (by kernel_rfl) (by kernel_rfl) (by kernel_rfl) (by kernel_rfl) (by kernel_rfl) (fun _ _ _ h => h) (Or.inl ⟨by kernel_rfl, fun w' hw' => by go_simp⟩) hS0 ?_
                    try simp only [Act.put, List.setIfInBounds_toArray, List.set_cons_zero, List.set_cons_succ]
                    refine wpAnyK_takeD (i := 7) 62 [8, 9, 15, 16, 26, 27, 29] (v := .int .i64 (k : Int)) rfl (by kernel_rfl) (by kernel_rfl) (by kernel_rfl) (by kernel_rfl) (by kernel_rfl) (fun _ _ _ h => h) (Or.inl ⟨by kernel_rfl, fun w' hw' => by go_simp⟩) hS0 ?_
                    try simp only [Act.put, List.setIfInBounds_toArray, List.set_cons_zero, List.set_cons_succ]
                    refine wpAnyK_takeD (i := 8) 63 [9, 15, 16, 26, 27, 29] (v := .bool true) rfl (by kernel_rfl) (by kernel_rfl) (by kernel_rfl) (by kernel_rfl) (by kernel_rfl) (fun _ _ _ h => h) (Or.inl ⟨by kernel_rfl, fun w' hw' => by go_simp⟩) hS0 ?_
                    try simp only [Act.put, List.setIfInBounds_toArray, List.set_cons_zero, List.set_cons_succ]
                    refine wpAnyK_takeD (i := 9) 64 [15, 16, 26, 27, 29] (v := .bool true) rfl (by kernel_rfl) (by kernel_rfl) (by kernel_rfl) (by kernel_rfl) (by kernel_rfl) (fun _ _ _ h => h) (Or.inl ⟨by kernel_rfl, fun w' hw' => by go_simp⟩) hS0 ?_
                    try simp only [Act.put, List.setIfInBounds_toArray, List.set_cons_zero, List.set_cons_succ]
                    refine wpAnyK_takeD (i := 10) 65 [13, 14, 15, 16, 26, 27, 29] (v := .slice (some ⟨gT, 0, none⟩) n n) rfl (by kernel_rfl) (by kernel_rfl) (by kernel_rfl) (by kernel_rfl) (by kernel_rfl) (fun _ _ _ h => h) (Or.inl ⟨by kernel_rfl, fun w' hw' => by go_simp⟩) hS0 ?_
                    try simp only [Act.put, List.setIfInBounds_toArray, List.set_cons_zero, List.set_cons_succ]
                    refine wpAnyK_takeD (i := 11) 66 [12, 13, 14, 15, 16, 26, 27, 29] (v := .int .i64 (k : Int)) rfl (by kernel_rfl) (by kernel_rfl) (by kernel_rfl) (by kernel_rfl) (by kernel_rfl) (fun _ _ _ h => h) (Or.inl ⟨by kernel_rfl, fun w' hw' => by go_simp⟩) hS0 ?_
                    try simp only [Act.put, List.setIfInBounds_toArray, List.set_cons_zero, List.set_cons_succ]
                    refine wpAnyK_takeD (i := 12) 67 [13, 14, 15, 16, 26, 27, 29] (v := .int .i64 (z : Int)) rfl (by kernel_rfl) (by kernel_rfl) (by kernel_rfl) (by kernel_rfl) (by kernel_rfl) (fun _ _ _ h => h) (Or.inl ⟨by kernel_rfl, fun w' hw' => by go_simp⟩) hS0 ?_
                    try simp only [Act.put, List.setIfInBounds_toArray, List.set_cons_zero, List.set_cons_succ]
                    refine wpAnyK_takeD (i := 13) 68 [14, 15, 16, 26, 27, 29] (v := .pointer (some ⟨gT, z, none⟩)) rfl (by kernel_rfl) (by kernel_rfl) (by kernel_rfl) (by kernel_rfl) (by kernel_rfl) (fun _ _ _ h => h) (Or.inl ⟨by kernel_rfl, fun w' hw' => by go_simp⟩) hS0 ?_
                    try simp only [Act.put, List.setIfInBounds_toArray, List.set_cons_zero, List.set_cons_succ]
                    refine wpAnyK_takeD (i := 14) 69 [15, 16, 26, 27, 29] (v := .bool false) rfl (by kernel_rfl) (by kernel_rfl) (by kernel_rfl) (by kernel_rfl) (by kernel_rfl) (fun _ _ _ h => h) (Or.inl ⟨by kernel_rfl, fun w' hw' => by have hcc := cell_later hw' cP; go_simp⟩) hS0 ?_
                    try simp only [Act.put, List.setIfInBounds_toArray, List.set_cons_zero, List.set_cons_succ]
                    refine wpAnyK_takeD (i := 15) 70 [16, 26, 27, 29] (v := .bool false) rfl (by kernel_rfl) (by kernel_rfl) (by kernel_rfl) (by kernel_rfl) (by kernel_rfl) (fun _ _ _ h => h) (Or.inl ⟨by kernel_rfl, fun w' hw' => by go_simp⟩) hS0 ?_
                    try simp only [Act.put, List.setIfInBounds_toArray, List.set_cons_zero, List.set_cons_succ]
                    refine wpAnyK_takeD (i := 16) 71 [26, 27, 29] (v := .bool false) rfl (by kernel_rfl) (by kernel_rfl) (by kernel_rfl) (by kernel_rfl) (by kernel_rfl) (fun _ _ _ h => h) (Or.inl ⟨by kernel_rfl, fun w' hw' => by go_simp⟩) hS0 ?_
                    try simp only [Act.put, List.setIfInBounds_toArray, List.set_cons_zero, List.set_cons_succ]
                    refine wpAnyK_takeD (i := 17) 72 [19, 20, 25, 26, 27, 29] (v := undef) rfl (by kernel_rfl) (by kernel_rfl) (by kernel_rfl) (by kernel_rfl) (by kernel_rfl) (fun _ _ _ h => h) (Or.inr ⟨by kernel_rfl, rfl⟩) hS0 ?_
                    try simp only [Act.put, List.setIfInBounds_toArray, List.set_cons_zero, List.set_cons_succ]
                    refine wpAnyK_takeD (i := 18) 73 [19, 20, 25, 26, 27, 29] (v := undef) rfl (by kernel_rfl) (by kernel_rfl) (by kernel_rfl) (by kernel_rfl) (by kernel_rfl) (fun _ _ _ h => h) (Or.inr ⟨by kernel_rfl, rfl⟩) hS0 ?_
                    try simp only [Act.put, List.setIfInBounds_toArray, List.set_cons_zero, List.set_cons_succ]
                    refine wpAnyK_takeD (i := 19) 74 [20, 25, 26, 27, 29] (v := undef) rfl (by kernel_rfl) (by kernel_rfl) (by kernel_rfl) (by kernel_rfl) (by kernel_rfl) (fun _ _ _ h => h) (Or.inr ⟨by kernel_rfl, rfl⟩) hS0 ?_
                    try simp only [Act.put, List.setIfInBounds_toArray, List.set_cons_zero, List.set_cons_succ]
                    refine wpAnyK_takeD (i := 20) 75 [25, 26, 27, 29] (v := undef) rfl (by kernel_rfl) (by kernel_rfl) (by kernel_rfl) (by kernel_rfl) (by kernel_rfl) (fun _ _ _ h => h) (Or.inr ⟨by kernel_rfl, rfl⟩) hS0 ?_
                    try simp only [Act.put, List.setIfInBounds_toArray, List.set_cons_zero, List.set_cons_succ]
                    refine wpAnyK_takeD (i := 21) 76 [24, 25, 26, 27, 29] (v := undef) rfl (by kernel_rfl) (by kernel_rfl) (by kernel_rfl) (by kernel_rfl) (by kernel_rfl) (fun _ _ _ h => h) (Or.inr ⟨by kernel_rfl, rfl⟩) hS0 ?_
                    try simp only [Act.put, List.setIfInBounds_toArray, List.set_cons_zero, List.set_cons_succ]
                    refine wpAnyK_takeD (i := 22) 77 [23, 24, 25, 26, 27, 29] (v := undef) rfl (by kernel_rfl) (by kernel_rfl) (by kernel_rfl) (by kernel_rfl) (by kernel_rfl) (fun _ _ _ h => h) (Or.inr ⟨by kernel_rfl, rfl⟩) hS0 ?_
                    try simp only [Act.put, List.setIfInBounds_toArray, List.set_cons_zero, List.set_cons_succ]
                    refine wpAnyK_takeD (i := 23) 78 [24, 25, 26, 27, 29] (v := undef) rfl (by kernel_rfl) (by kernel_rfl) (by kernel_rfl) (by kernel_rfl) (by kernel_rfl) (fun _ _ _ h => h) (Or.inr ⟨by kernel_rfl, rfl⟩) hS0 ?_
                    try simp only [Act.put, List.setIfInBounds_toArray, List.set_cons_zero, List.set_cons_succ]
                    refine wpAnyK_takeD (i := 24) 79 [25, 26, 27, 29] (v := undef) rfl (by kernel_rfl) (by kernel_rfl) (by kernel_rfl) (by kernel_rfl) (by kernel_rfl) (fun _ _ _ h => h) (Or.inr ⟨by kernel_rfl, rfl⟩) hS0 ?_
                    try simp only [Act.put, List.setIfInBounds_toArray, List.set_cons_zero, List.set_cons_succ]
                    refine wpAnyK_takeD (i := 25) 80 [26, 27, 29] (v := undef) rfl (by kernel_rfl) (by kernel_rfl) (by kernel_rfl) (by kernel_rfl) (by kernel_rfl) (fun _ _ _ h => h) (Or.inr ⟨by kernel_rfl, rfl⟩) hS0 ?_
                    try simp only [Act.put, List.setIfInBounds_toArray, List.set_cons_zero, List.set_cons_succ]
                    refine wpAnyK_takeD (i := 26) 81 [27, 29] (v := .bool false) rfl (by kernel_rfl) (by kernel_rfl) (by kernel_rfl) (by kernel_rfl) (by kernel_rfl) (fun _ _ _ h => h) (Or.inl ⟨by kernel_rfl, fun w' hw' => by go_simp⟩) hS0 ?_
                    try simp only [Act.put, List.setIfInBounds_toArray, List.set_cons_zero, List.set_cons_succ]
                    refine wpAnyK_takeD (i := 27) 82 [29] (v := .bool false) rfl (by kernel_rfl) (by kernel_rfl) (by kernel_rfl) (by kernel_rfl) (by kernel_rfl) (fun _ _ _ h => h) (Or.inl ⟨by kernel_rfl, fun w' hw' => by go_simp⟩) hS0 ?_
                    try simp only [Act.put, List.setIfInBounds_toArray, List.set_cons_zero, List.set_cons_succ]
                    refine wpAnyK_takeD (i := 28) 83 [29] (v := .pointer (some ⟨gT, k, none⟩)) rfl (by kernel_rfl) (by kernel_rfl) (by kernel_rfl) (by kernel_rfl) (by kernel_rfl) (fun _ _ _ h => h) (Or.inl ⟨by kernel_rfl, fun w' hw' => by go_simp⟩) hS0 ?_
                    try simp only [Act.put, List.setIfInBounds_toArray, List.set_cons_zero, List.set_cons_succ]
                    clear hS0
                    refine wpAnyK_only (i := 29) (by kernel_rfl) rfl (by rfl) (fun K0 hK0 => ?_)
                    have HK0 := Lib.hid hK0
                    clear hK0
                    go_simp
                    refine HK0.out _ _ (fun h => by simp at h) ?_
                    refine wpAnyK_done (by kernel_rfl) ?_ _
                    clear HK0
                    have HNX : Hid (MI w2 (wr.drew.setCell ⟨gT, k, none⟩ (.bool false)) gA gT n TT (fun j => if j < k + 1 then DD j else false)) := (HMI.out.later (bel_drew_self wr)).set HKN.out (by rw [HDK.out])
                    go_wp2
                    go_roundw
                    case rel => exact ⟨k + 1, by go_num, by show _ ≤ _; have := HKN.out; omega, HNX⟩
                    case measure => have := HKN.out; simp [intOf]; omega
                  | true =>
                    obtain ⟨d, hd⟩ : ∃ d, d = nb s z := ⟨_, rfl⟩
                    obtain ⟨tb, htb⟩ : ∃ tb, tb = takesB x d := ⟨_, rfl⟩
                    have HDK : Hid (DD k = tb) := by show _ = _; rw [HDK0.out, hdz, htb, hd]; simp
                    rw [hdz] at cP0
                    have cP : wr.drew.cell? ⟨gT, z, none⟩ = some (.bool true) := by simpa using cP0
                    have hxs := run_at s z (by have := HN.out; have := HKN.out; omega)
                    rw [bt_nb, ← hd] at hxs
                    have HTK := Lib.hid (HTKa.out d (by rw [hd]; exact nb_lt _ _))
                    rw [← htb] at HTK
                    clear hmany hta hz hzk cP0 hdz hd htb
                    clear HTKa
                    generalize x.cs = X at *
                    go_wp2
                    refine region_plain (S := fun W' => Below wr.drew.heap.size wr.drew W') (bad := [29]) (by kernel_rfl) ?_
                    refine wpAnyK_takeD (i := 0) 55 [28, 29] (v := .slice (some ⟨gT, 0, none⟩) n n) rfl (by kernel_rfl) (by kernel_rfl) (by kernel_rfl) (by kernel_rfl) (by kernel_rfl) (fun _ _ _ h => h) (Or.inl ⟨by kernel_rfl, fun w' hw' => by go_simp⟩) hS0 ?_
                    try simp only [Act.put, List.setIfInBounds_toArray, List.set_cons_zero, List.set_cons_succ]
                    refine wpAnyK_takeD (i := 1) 56 [28, 29] (v := .int .i64 (k : Int)) rfl (by kernel_rfl) (by kernel_rfl) (by kernel_rfl) (by kernel_rfl) (by kernel_rfl) (fun _ _ _ h => h) (Or.inl ⟨by kernel_rfl, fun w' hw' => by go_simp⟩) hS0 ?_
                    try simp only [Act.put, List.setIfInBounds_toArray, List.set_cons_zero, List.set_cons_succ]
                    refine wpAnyK_takeD (i := 2) 57 [4, 5, 6, 27, 29] (v := .slice (some ⟨gA, 0, none⟩) n n) rfl (by kernel_rfl) (by kernel_rfl) (by kernel_rfl) (by kernel_rfl) (by kernel_rfl) (fun _ _ _ h => h) (Or.inl ⟨by kernel_rfl, fun w' hw' => by go_simp⟩) hS0 ?_
                    try simp only [Act.put, List.setIfInBounds_toArray, List.set_cons_zero, List.set_cons_succ]
                    refine wpAnyK_takeD (i := 3) 58 [4, 5, 6, 27, 29] (v := .int .i64 (k : Int)) rfl (by kernel_rfl) (by kernel_rfl) (by kernel_rfl) (by kernel_rfl) (by kernel_rfl) (fun _ _ _ h => h) (Or.inl ⟨by kernel_rfl, fun w' hw' => by go_simp⟩) hS0 ?_
                    try simp only [Act.put, List.setIfInBounds_toArray, List.set_cons_zero, List.set_cons_succ]
                    refine wpAnyK_takeD (i := 4) 59 [5, 6, 27, 29] (v := .pointer (some ⟨gA, k, none⟩)) rfl (by kernel_rfl) (by kernel_rfl) (by kernel_rfl) (by kernel_rfl) (by kernel_rfl) (fun _ _ _ h => h) (Or.inl ⟨by kernel_rfl, fun w' hw' => by go_simp⟩) hS0 ?_
                    try simp only [Act.put, List.setIfInBounds_toArray, List.set_cons_zero, List.set_cons_succ]
                    refine wpAnyK_takeD (i := 5) 60 [6, 27, 29] (v := .bool false) rfl (by kernel_rfl) (by kernel_rfl) (by kernel_rfl) (by kernel_rfl) (by kernel_rfl) (fun _ _ _ h => h) (Or.inl ⟨by kernel_rfl, fun w' hw' => by have hcc := cell_later hw' cA; go_simp⟩) hS0 ?_
                    try simp only [Act.put, List.setIfInBounds_toArray, List.set_cons_zero, List.set_cons_succ]
                    refine wpAnyK_takeD (i := 6) 61 [27, 29] (v := .bool false) rfl (by kernel_rfl) (by kernel_rfl) (by kernel_rfl) (by kernel_rfl) (by kernel_rfl) (fun _ _ _ h => h) (Or.inl ⟨by kernel_rfl, fun w' hw' => by go_simp⟩) hS0 ?_
                    try simp only [Act.put, List.setIfInBounds_toArray, List.set_cons_zero, List.set_cons_succ]
                    refine wpAnyK_takeD (i := 7) 62 [8, 9, 15, 16, 26, 27, 29] (v := .int .i64 (k : Int)) rfl (by kernel_rfl) (by kernel_rfl) (by kernel_rfl) (by kernel_rfl) (by kernel_rfl) (fun _ _ _ h => h) (Or.inl ⟨by kernel_rfl, fun w' hw' => by go_simp⟩) hS0 ?_
                    try simp only [Act.put, List.setIfInBounds_toArray, List.set_cons_zero, List.set_cons_succ]
                    refine wpAnyK_takeD (i := 8) 63 [9, 15, 16, 26, 27, 29] (v := .bool true) rfl (by kernel_rfl) (by kernel_rfl) (by kernel_rfl) (by kernel_rfl) (by kernel_rfl) (fun _ _ _ h => h) (Or.inl ⟨by kernel_rfl, fun w' hw' => by go_simp⟩) hS0 ?_
                    try simp only [Act.put, List.setIfInBounds_toArray, List.set_cons_zero, List.set_cons_succ]
                    refine wpAnyK_takeD (i := 9) 64 [15, 16, 26, 27, 29] (v := .bool true) rfl (by kernel_rfl) (by kernel_rfl) (by kernel_rfl) (by kernel_rfl) (by kernel_rfl) (fun _ _ _ h => h) (Or.inl ⟨by kernel_rfl, fun w' hw' => by go_simp⟩) hS0 ?_
                    try simp only [Act.put, List.setIfInBounds_toArray, List.set_cons_zero, List.set_cons_succ]
                    refine wpAnyK_takeD (i := 10) 65 [13, 14, 15, 16, 26, 27, 29] (v := .slice (some ⟨gT, 0, none⟩) n n) rfl (by kernel_rfl) (by kernel_rfl) (by kernel_rfl) (by kernel_rfl) (by kernel_rfl) (fun _ _ _ h => h) (Or.inl ⟨by kernel_rfl, fun w' hw' => by go_simp⟩) hS0 ?_
                    try simp only [Act.put, List.setIfInBounds_toArray, List.set_cons_zero, List.set_cons_succ]
                    refine wpAnyK_takeD (i := 11) 66 [12, 13, 14, 15, 16, 26, 27, 29] (v := .int .i64 (k : Int)) rfl (by kernel_rfl) (by kernel_rfl) (by kernel_rfl) (by kernel_rfl) (by kernel_rfl) (fun _ _ _ h => h) (Or.inl ⟨by kernel_rfl, fun w' hw' => by go_simp⟩) hS0 ?_
                    try simp only [Act.put, List.setIfInBounds_toArray, List.set_cons_zero, List.set_cons_succ]
                    refine wpAnyK_takeD (i := 12) 67 [13, 14, 15, 16, 26, 27, 29] (v := .int .i64 (z : Int)) rfl (by kernel_rfl) (by kernel_rfl) (by kernel_rfl) (by kernel_rfl) (by kernel_rfl) (fun _ _ _ h => h) (Or.inl ⟨by kernel_rfl, fun w' hw' => by go_simp⟩) hS0 ?_
                    try simp only [Act.put, List.setIfInBounds_toArray, List.set_cons_zero, List.set_cons_succ]
                    refine wpAnyK_takeD (i := 13) 68 [14, 15, 16, 26, 27, 29] (v := .pointer (some ⟨gT, z, none⟩)) rfl (by kernel_rfl) (by kernel_rfl) (by kernel_rfl) (by kernel_rfl) (by kernel_rfl) (fun _ _ _ h => h) (Or.inl ⟨by kernel_rfl, fun w' hw' => by go_simp⟩) hS0 ?_
                    try simp only [Act.put, List.setIfInBounds_toArray, List.set_cons_zero, List.set_cons_succ]
                    refine wpAnyK_takeD (i := 14) 69 [15, 16, 26, 27, 29] (v := .bool true) rfl (by kernel_rfl) (by kernel_rfl) (by kernel_rfl) (by kernel_rfl) (by kernel_rfl) (fun _ _ _ h => h) (Or.inl ⟨by kernel_rfl, fun w' hw' => by have hcc := cell_later hw' cP; go_simp⟩) hS0 ?_
                    try simp only [Act.put, List.setIfInBounds_toArray, List.set_cons_zero, List.set_cons_succ]
                    refine wpAnyK_takeD (i := 15) 70 [16, 26, 27, 29] (v := .bool true) rfl (by kernel_rfl) (by kernel_rfl) (by kernel_rfl) (by kernel_rfl) (by kernel_rfl) (fun _ _ _ h => h) (Or.inl ⟨by kernel_rfl, fun w' hw' => by go_simp⟩) hS0 ?_
                    try simp only [Act.put, List.setIfInBounds_toArray, List.set_cons_zero, List.set_cons_succ]
                    refine wpAnyK_takeD (i := 16) 71 [26, 27, 29] (v := .bool true) rfl (by kernel_rfl) (by kernel_rfl) (by kernel_rfl) (by kernel_rfl) (by kernel_rfl) (fun _ _ _ h => h) (Or.inl ⟨by kernel_rfl, fun w' hw' => by go_simp⟩) hS0 ?_
                    try simp only [Act.put, List.setIfInBounds_toArray, List.set_cons_zero, List.set_cons_succ]
                    refine wpAnyK_takeD (i := 17) 72 [19, 20, 25, 26, 27, 29] (v := .slice (some ⟨gg, 0, none⟩) L.length sc) rfl (by kernel_rfl) (by kernel_rfl) (by kernel_rfl) (by kernel_rfl) (by kernel_rfl) (fun _ _ _ h => h) (Or.inl ⟨by kernel_rfl, fun w' hw' => by go_simp⟩) hS0 ?_
                    try simp only [Act.put, List.setIfInBounds_toArray, List.set_cons_zero, List.set_cons_succ]
                    refine wpAnyK_takeD (i := 18) 73 [19, 20, 25, 26, 27, 29] (v := .int .i64 (i : Int)) rfl (by kernel_rfl) (by kernel_rfl) (by kernel_rfl) (by kernel_rfl) (by kernel_rfl) (fun _ _ _ h => h) (Or.inl ⟨by kernel_rfl, fun w' hw' => by go_simp⟩) hS0 ?_
                    try simp only [Act.put, List.setIfInBounds_toArray, List.set_cons_zero, List.set_cons_succ]
                    refine wpAnyK_takeD (i := 19) 74 [20, 25, 26, 27, 29] (v := .pointer (some ⟨gg, i * 259, none⟩)) rfl (by kernel_rfl) (by kernel_rfl) (by kernel_rfl) (by kernel_rfl) (by kernel_rfl) (fun _ _ _ h => h) (Or.inl ⟨by kernel_rfl, fun w' hw' => by go_simp⟩) hS0 ?_
                    try simp only [Act.put, List.setIfInBounds_toArray, List.set_cons_zero, List.set_cons_succ]
                    refine wpAnyK_takeD (i := 20) 75 [25, 26, 27, 29] (v := .agg X.toArray) rfl (by kernel_rfl) (by kernel_rfl) (by kernel_rfl) (by kernel_rfl) (by kernel_rfl) (fun _ _ _ h => h) (yieldsIf_load_mid (by kernel_rfl) 35 (.tmp 74) rfl gg (i * 259) rfl X _ (fun W hW j u hj => by rw [hW.cell (p := ⟨gg, i * 259 + j, none⟩) HGL.out]; exact HXR.out j u hj) Tryd.underlying35 rfl HXS.out) hS0 ?_
                    try simp only [Act.put, List.setIfInBounds_toArray, List.set_cons_zero, List.set_cons_succ]
                    refine wpAnyK_takeD (i := 21) 76 [24, 25, 26, 27, 29] (v := .string (mk s)) rfl (by kernel_rfl) (by kernel_rfl) (by kernel_rfl) (by kernel_rfl) (by kernel_rfl) (fun _ _ _ h => h) (Or.inl ⟨by kernel_rfl, fun w' hw' => by go_simp⟩) hS0 ?_
                    try simp only [Act.put, List.setIfInBounds_toArray, List.set_cons_zero, List.set_cons_succ]
                    refine wpAnyK_takeD (i := 22) 77 [23, 24, 25, 26, 27, 29] (v := .int .i64 (k : Int)) rfl (by kernel_rfl) (by kernel_rfl) (by kernel_rfl) (by kernel_rfl) (by kernel_rfl) (fun _ _ _ h => h) (Or.inl ⟨by kernel_rfl, fun w' hw' => by go_simp⟩) hS0 ?_
                    try simp only [Act.put, List.setIfInBounds_toArray, List.set_cons_zero, List.set_cons_succ]
                    refine wpAnyK_takeD (i := 23) 78 [24, 25, 26, 27, 29] (v := .int .i64 (z : Int)) rfl (by kernel_rfl) (by kernel_rfl) (by kernel_rfl) (by kernel_rfl) (by kernel_rfl) (fun _ _ _ h => h) (Or.inl ⟨by kernel_rfl, fun w' hw' => by go_simp⟩) hS0 ?_
                    try simp only [Act.put, List.setIfInBounds_toArray, List.set_cons_zero, List.set_cons_succ]
                    refine wpAnyK_takeD (i := 24) 79 [25, 26, 27, 29] (v := .int .u8 (d : Int)) rfl (by kernel_rfl) (by kernel_rfl) (by kernel_rfl) (by kernel_rfl) (by kernel_rfl) (fun _ _ _ h => h) (Or.inl ⟨by kernel_rfl, fun w' hw' => by go_simp⟩) hS0 ?_
                    try simp only [Act.put, List.setIfInBounds_toArray, List.set_cons_zero, List.set_cons_succ]
                    refine wpAnyK_only (i := 25) (by kernel_rfl) rfl (by rfl) (fun K0 hK0 => ?_)
                    have HK0 := Lib.hid hK0
                    clear hK0
                    go_simp
                    refine (HTK.out _).mono ?_
                    rintro e w9 ⟨rfl, hb9'⟩
                    have hb9 : Below wr.drew.heap.size wr.drew w9 := by simpa using hb9'
                    have HB9 := Lib.hid hb9
                    refine HK0.out _ _ (fun _ => hb9) ?_
                    clear HK0 hb9'
                    try simp only [Act.put, List.setIfInBounds_toArray, List.set_cons_zero, List.set_cons_succ]
                    refine wpAnyK_takeD (i := 26) 81 [27, 29] (v := .bool tb) rfl (by kernel_rfl) (by kernel_rfl) (by kernel_rfl) (by kernel_rfl) (by kernel_rfl) (fun _ _ _ h => h) (Or.inl ⟨by kernel_rfl, fun w' hw' => by go_simp⟩) hb9 ?_
                    try simp only [Act.put, List.setIfInBounds_toArray, List.set_cons_zero, List.set_cons_succ]
                    refine wpAnyK_takeD (i := 27) 82 [29] (v := .bool tb) rfl (by kernel_rfl) (by kernel_rfl) (by kernel_rfl) (by kernel_rfl) (by kernel_rfl) (fun _ _ _ h => h) (Or.inl ⟨by kernel_rfl, fun w' hw' => by go_simp⟩) hb9 ?_
                    try simp only [Act.put, List.setIfInBounds_toArray, List.set_cons_zero, List.set_cons_succ]
                    refine wpAnyK_takeD (i := 28) 83 [29] (v := .pointer (some ⟨gT, k, none⟩)) rfl (by kernel_rfl) (by kernel_rfl) (by kernel_rfl) (by kernel_rfl) (by kernel_rfl) (fun _ _ _ h => h) (Or.inl ⟨by kernel_rfl, fun w' hw' => by go_simp⟩) hb9 ?_
                    try simp only [Act.put, List.setIfInBounds_toArray, List.set_cons_zero, List.set_cons_succ]
                    have HBT9 := Lib.hid (BAt.later HBT.out (bel_from_drew hb9))
                    have cT := HBT9.out.cell k (by have := HKN.out; omega)
                    have fT := HBT9.out.soft k
                    clear hS0 hb9
                    refine wpAnyK_only (i := 29) (by kernel_rfl) rfl (by rfl) (fun K0 hK0 => ?_)
                    have HK0 := Lib.hid hK0
                    clear hK0
                    go_simp
                    refine HK0.out _ _ (fun h => by simp at h) ?_
                    refine wpAnyK_done (by kernel_rfl) ?_ _
                    clear HK0
                    have HNX : Hid (MI w2 (w9.setCell ⟨gT, k, none⟩ (.bool tb)) gA gT n TT (fun j => if j < k + 1 then DD j else false)) := (HMI.out.later (bel_from_drew HB9.out)).set HKN.out (by rw [HDK.out])
                    go_wp2
                    go_roundw
                    case rel => exact ⟨k + 1, by go_num, by show _ ≤ _; have := HKN.out; omega, HNX⟩
                    case measure => have := HKN.out; simp [intOf]; omega
                · have HDK : Hid (DD k = false) := by show _ = _; rw [HDK0.out, hta, decide_eq_false hk0]; rfl
                  have hk00 : k = 0 := by omega
                  have hk0I : ¬ (0 : Int) < (k : Int) := by omega
                  have hk0J : (k : Int) ≤ 0 := by omega
                  clear hmany hta hk00
                  go_wp2
                  refine region_plain (S := fun W' => Below wr.drew.heap.size wr.drew W') (bad := [29]) (by kernel_rfl) ?_
                  refine wpAnyK_takeD (i := 0) 55 [28, 29] (v := .slice (some ⟨gT, 0, none⟩) n n) rfl (by kernel_rfl) (by kernel_rfl) (by kernel_rfl) (by kernel_rfl) (by kernel_rfl) (fun _ _ _ h => h) (Or.inl ⟨by kernel_rfl, fun w' hw' => by go_simp⟩) hS0 ?_
                  try simp only [Act.put, List.setIfInBounds_toArray, List.set_cons_zero, List.set_cons_succ]
                  refine wpAnyK_takeD (i := 1) 56 [28, 29] (v := .int .i64 (k : Int)) rfl (by kernel_rfl) (by kernel_rfl) (by kernel_rfl) (by kernel_rfl) (by kernel_rfl) (fun _ _ _ h => h) (Or.inl ⟨by kernel_rfl, fun w' hw' => by go_simp⟩) hS0 ?_
                  try simp only [Act.put, List.setIfInBounds_toArray, List.set_cons_zero, List.set_cons_succ]
                  refine wpAnyK_takeD (i := 2) 57 [4, 5, 6, 27, 29] (v := .slice (some ⟨gA, 0, none⟩) n n) rfl (by kernel_rfl) (by kernel_rfl) (by kernel_rfl) (by kernel_rfl) (by kernel_rfl) (fun _ _ _ h => h) (Or.inl ⟨by kernel_rfl, fun w' hw' => by go_simp⟩) hS0 ?_
                  try simp only [Act.put, List.setIfInBounds_toArray, List.set_cons_zero, List.set_cons_succ]
                  refine wpAnyK_takeD (i := 3) 58 [4, 5, 6, 27, 29] (v := .int .i64 (k : Int)) rfl (by kernel_rfl) (by kernel_rfl) (by kernel_rfl) (by kernel_rfl) (by kernel_rfl) (fun _ _ _ h => h) (Or.inl ⟨by kernel_rfl, fun w' hw' => by go_simp⟩) hS0 ?_
                  try simp only [Act.put, List.setIfInBounds_toArray, List.set_cons_zero, List.set_cons_succ]
                  refine wpAnyK_takeD (i := 4) 59 [5, 6, 27, 29] (v := .pointer (some ⟨gA, k, none⟩)) rfl (by kernel_rfl) (by kernel_rfl) (by kernel_rfl) (by kernel_rfl) (by kernel_rfl) (fun _ _ _ h => h) (Or.inl ⟨by kernel_rfl, fun w' hw' => by go_simp⟩) hS0 ?_
                  try simp only [Act.put, List.setIfInBounds_toArray, List.set_cons_zero, List.set_cons_succ]
                  refine wpAnyK_takeD (i := 5) 60 [6, 27, 29] (v := .bool false) rfl (by kernel_rfl) (by kernel_rfl) (by kernel_rfl) (by kernel_rfl) (by kernel_rfl) (fun _ _ _ h => h) (Or.inl ⟨by kernel_rfl, fun w' hw' => by have hcc := cell_later hw' cA; go_simp⟩) hS0 ?_
                  try simp only [Act.put, List.setIfInBounds_toArray, List.set_cons_zero, List.set_cons_succ]
                  refine wpAnyK_takeD (i := 6) 61 [27, 29] (v := .bool false) rfl (by kernel_rfl) (by kernel_rfl) (by kernel_rfl) (by kernel_rfl) (by kernel_rfl) (fun _ _ _ h => h) (Or.inl ⟨by kernel_rfl, fun w' hw' => by go_simp⟩) hS0 ?_
                  try simp only [Act.put, List.setIfInBounds_toArray, List.set_cons_zero, List.set_cons_succ]
                  refine wpAnyK_takeD (i := 7) 62 [8, 9, 15, 16, 26, 27, 29] (v := .int .i64 (k : Int)) rfl (by kernel_rfl) (by kernel_rfl) (by kernel_rfl) (by kernel_rfl) (by kernel_rfl) (fun _ _ _ h => h) (Or.inl ⟨by kernel_rfl, fun w' hw' => by go_simp⟩) hS0 ?_
                  try simp only [Act.put, List.setIfInBounds_toArray, List.set_cons_zero, List.set_cons_succ]
                  refine wpAnyK_takeD (i := 8) 63 [9, 15, 16, 26, 27, 29] (v := .bool false) rfl (by kernel_rfl) (by kernel_rfl) (by kernel_rfl) (by kernel_rfl) (by kernel_rfl) (fun _ _ _ h => h) (Or.inl ⟨by kernel_rfl, fun w' hw' => by go_simp⟩) hS0 ?_
                  try simp only [Act.put, List.setIfInBounds_toArray, List.set_cons_zero, List.set_cons_succ]
                  refine wpAnyK_takeD (i := 9) 64 [15, 16, 26, 27, 29] (v := .bool false) rfl (by kernel_rfl) (by kernel_rfl) (by kernel_rfl) (by kernel_rfl) (by kernel_rfl) (fun _ _ _ h => h) (Or.inl ⟨by kernel_rfl, fun w' hw' => by go_simp⟩) hS0 ?_
                  try simp only [Act.put, List.setIfInBounds_toArray, List.set_cons_zero, List.set_cons_succ]
                  refine wpAnyK_takeD (i := 10) 65 [13, 14, 15, 16, 26, 27, 29] (v := undef) rfl (by kernel_rfl) (by kernel_rfl) (by kernel_rfl) (by kernel_rfl) (by kernel_rfl) (fun _ _ _ h => h) (Or.inr ⟨by kernel_rfl, rfl⟩) hS0 ?_
                  try simp only [Act.put, List.setIfInBounds_toArray, List.set_cons_zero, List.set_cons_succ]
                  refine wpAnyK_takeD (i := 11) 66 [12, 13, 14, 15, 16, 26, 27, 29] (v := undef) rfl (by kernel_rfl) (by kernel_rfl) (by kernel_rfl) (by kernel_rfl) (by kernel_rfl) (fun _ _ _ h => h) (Or.inr ⟨by kernel_rfl, rfl⟩) hS0 ?_
                  try simp only [Act.put, List.setIfInBounds_toArray, List.set_cons_zero, List.set_cons_succ]
                  refine wpAnyK_takeD (i := 12) 67 [13, 14, 15, 16, 26, 27, 29] (v := undef) rfl (by kernel_rfl) (by kernel_rfl) (by kernel_rfl) (by kernel_rfl) (by kernel_rfl) (fun _ _ _ h => h) (Or.inr ⟨by kernel_rfl, rfl⟩) hS0 ?_
                  try simp only [Act.put, List.setIfInBounds_toArray, List.set_cons_zero, List.set_cons_succ]
                  refine wpAnyK_takeD (i := 13) 68 [14, 15, 16, 26, 27, 29] (v := undef) rfl (by kernel_rfl) (by kernel_rfl) (by kernel_rfl) (by kernel_rfl) (by kernel_rfl) (fun _ _ _ h => h) (Or.inr ⟨by kernel_rfl, rfl⟩) hS0 ?_
                  try simp only [Act.put, List.setIfInBounds_toArray, List.set_cons_zero, List.set_cons_succ]
                  refine wpAnyK_takeD (i := 14) 69 [15, 16, 26, 27, 29] (v := undef) rfl (by kernel_rfl) (by kernel_rfl) (by kernel_rfl) (by kernel_rfl) (by kernel_rfl) (fun _ _ _ h => h) (Or.inr ⟨by kernel_rfl, rfl⟩) hS0 ?_
                  try simp only [Act.put, List.setIfInBounds_toArray, List.set_cons_zero, List.set_cons_succ]
                  refine wpAnyK_takeD (i := 15) 70 [16, 26, 27, 29] (v := .bool false) rfl (by kernel_rfl) (by kernel_rfl) (by kernel_rfl) (by kernel_rfl) (by kernel_rfl) (fun _ _ _ h => h) (Or.inl ⟨by kernel_rfl, fun w' hw' => by go_simp⟩) hS0 ?_
                  try simp only [Act.put, List.setIfInBounds_toArray, List.set_cons_zero, List.set_cons_succ]
                  refine wpAnyK_takeD (i := 16) 71 [26, 27, 29] (v := .bool false) rfl (by kernel_rfl) (by kernel_rfl) (by kernel_rfl) (by kernel_rfl) (by kernel_rfl) (fun _ _ _ h => h) (Or.inl ⟨by kernel_rfl, fun w' hw' => by go_simp⟩) hS0 ?_
                  try simp only [Act.put, List.setIfInBounds_toArray, List.set_cons_zero, List.set_cons_succ]
                  refine wpAnyK_takeD (i := 17) 72 [19, 20, 25, 26, 27, 29] (v := undef) rfl (by kernel_rfl) (by kernel_rfl) (by kernel_rfl) (by kernel_rfl) (by kernel_rfl) (fun _ _ _ h => h) (Or.inr ⟨by kernel_rfl, rfl⟩) hS0 ?_
                  try simp only [Act.put, List.setIfInBounds_toArray, List.set_cons_zero, List.set_cons_succ]
                  refine wpAnyK_takeD (i := 18) 73 [19, 20, 25, 26, 27, 29] (v := undef) rfl (by kernel_rfl) (by kernel_rfl) (by kernel_rfl) (by kernel_rfl) (by kernel_rfl) (fun _ _ _ h => h) (Or.inr ⟨by kernel_rfl, rfl⟩) hS0 ?_
                  try simp only [Act.put, List.setIfInBounds_toArray, List.set_cons_zero, List.set_cons_succ]
                  refine wpAnyK_takeD (i := 19) 74 [20, 25, 26, 27, 29] (v := undef) rfl (by kernel_rfl) (by kernel_rfl) (by kernel_rfl) (by kernel_rfl) (by kernel_rfl) (fun _ _ _ h => h) (Or.inr ⟨by kernel_rfl, rfl⟩) hS0 ?_
                  try simp only [Act.put, List.setIfInBounds_toArray, List.set_cons_zero, List.set_cons_succ]
                  refine wpAnyK_takeD (i := 20) 75 [25, 26, 27, 29] (v := undef) rfl (by kernel_rfl) (by kernel_rfl) (by kernel_rfl) (by kernel_rfl) (by kernel_rfl) (fun _ _ _ h => h) (Or.inr ⟨by kernel_rfl, rfl⟩) hS0 ?_
                  try simp only [Act.put, List.setIfInBounds_toArray, List.set_cons_zero, List.set_cons_succ]
                  refine wpAnyK_takeD (i := 21) 76 [24, 25, 26, 27, 29] (v := undef) rfl (by kernel_rfl) (by kernel_rfl) (by kernel_rfl) (by kernel_rfl) (by kernel_rfl) (fun _ _ _ h => h) (Or.inr ⟨by kernel_rfl, rfl⟩) hS0 ?_
                  try simp only [Act.put, List.setIfInBounds_toArray, List.set_cons_zero, List.set_cons_succ]
                  refine wpAnyK_takeD (i := 22) 77 [23, 24, 25, 26, 27, 29] (v := undef) rfl (by kernel_rfl) (by kernel_rfl) (by kernel_rfl) (by kernel_rfl) (by kernel_rfl) (fun _ _ _ h => h) (Or.inr ⟨by kernel_rfl, rfl⟩) hS0 ?_
                  try simp only [Act.put, List.setIfInBounds_toArray, List.set_cons_zero, List.set_cons_succ]
                  refine wpAnyK_takeD (i := 23) 78 [24, 25, 26, 27, 29] (v := undef) rfl (by kernel_rfl) (by kernel_rfl) (by kernel_rfl) (by kernel_rfl) (by kernel_rfl) (fun _ _ _ h => h) (Or.inr ⟨by kernel_rfl, rfl⟩) hS0 ?_
                  try simp only [Act.put, List.setIfInBounds_toArray, List.set_cons_zero, List.set_cons_succ]
                  refine wpAnyK_takeD (i := 24) 79 [25, 26, 27, 29] (v := undef) rfl (by kernel_rfl) (by kernel_rfl) (by kernel_rfl) (by kernel_rfl) (by kernel_rfl) (fun _ _ _ h => h) (Or.inr ⟨by kernel_rfl, rfl⟩) hS0 ?_
                  try simp only [Act.put, List.setIfInBounds_toArray, List.set_cons_zero, List.set_cons_succ]
                  refine wpAnyK_takeD (i := 25) 80 [26, 27, 29] (v := undef) rfl (by kernel_rfl) (by kernel_rfl) (by kernel_rfl) (by kernel_rfl) (by kernel_rfl) (fun _ _ _ h => h) (Or.inr ⟨by kernel_rfl, rfl⟩) hS0 ?_
                  try simp only [Act.put, List.setIfInBounds_toArray, List.set_cons_zero, List.set_cons_succ]
                  refine wpAnyK_takeD (i := 26) 81 [27, 29] (v := .bool false) rfl (by kernel_rfl) (by kernel_rfl) (by kernel_rfl) (by kernel_rfl) (by kernel_rfl) (fun _ _ _ h => h) (Or.inl ⟨by kernel_rfl, fun w' hw' => by go_simp⟩) hS0 ?_
                  try simp only [Act.put, List.setIfInBounds_toArray, List.set_cons_zero, List.set_cons_succ]
                  refine wpAnyK_takeD (i := 27) 82 [29] (v := .bool false) rfl (by kernel_rfl) (by kernel_rfl) (by kernel_rfl) (by kernel_rfl) (by kernel_rfl) (fun _ _ _ h => h) (Or.inl ⟨by kernel_rfl, fun w' hw' => by go_simp⟩) hS0 ?_
                  try simp only [Act.put, List.setIfInBounds_toArray, List.set_cons_zero, List.set_cons_succ]
                  refine wpAnyK_takeD (i := 28) 83 [29] (v := .pointer (some ⟨gT, k, none⟩)) rfl (by kernel_rfl) (by kernel_rfl) (by kernel_rfl) (by kernel_rfl) (by kernel_rfl) (fun _ _ _ h => h) (Or.inl ⟨by kernel_rfl, fun w' hw' => by go_simp⟩) hS0 ?_
                  try simp only [Act.put, List.setIfInBounds_toArray, List.set_cons_zero, List.set_cons_succ]
                  clear hS0
                  refine wpAnyK_only (i := 29) (by kernel_rfl) rfl (by rfl) (fun K0 hK0 => ?_)
                  have HK0 := Lib.hid hK0
                  clear hK0
                  go_simp
                  refine HK0.out _ _ (fun h => by simp at h) ?_
                  refine wpAnyK_done (by kernel_rfl) ?_ _
                  clear HK0
                  have HNX : Hid (MI w2 (wr.drew.setCell ⟨gT, k, none⟩ (.bool false)) gA gT n TT (fun j => if j < k + 1 then DD j else false)) := (HMI.out.later (bel_drew_self wr)).set HKN.out (by rw [HDK.out])
                  go_wp2
                  go_roundw
                  case rel => exact ⟨k + 1, by go_num, by show _ ≤ _; have := HKN.out; omega, HNX⟩
                  case measure => have := HKN.out; simp [intOf]; omega
            | false =>
              have HDK0 : Hid (DD k = (decide (0 < k) && (TT (k - 1) && takesB x (nb s (k - 1))))) := by show _ = _; rw [HDD.out]; exact dpRow_one hmany k
              by_cases hk0 : 0 < k
              · obtain ⟨z, hz⟩ : ∃ z, z = k - 1 := ⟨_, rfl⟩
                have hzk : z < k := by omega
                have hkz : IntKind.i64.wrap ((k : Int) - 1) = (z : Int) := by have := HN.out; have := HKN.out; rw [IntWalk.i64_in _ (by omega)]; omega
                have hzn : (z : Int) < (n : Int) := by omega
                have hk0I : (0 : Int) < (k : Int) := by omega
                rw [← hz, decide_eq_true hk0] at HDK0
                have cP0 := HMI.out.at_.cell z (by have := HKN.out; omega)
                cases hdz : TT z with
                | false =>
                  have HDK : Hid (DD k = false) := by show _ = _; rw [HDK0.out, hdz]; rfl
                  rw [hdz] at cP0
                  have cP : wr.drew.cell? ⟨gA, z, none⟩ = some (.bool false) := by simpa using cP0
                  clear hmany hz hzk cP0 hdz
                  go_wp2
                  refine region_plain (S := fun W' => Below wr.drew.heap.size wr.drew W') (bad := [23]) (by kernel_rfl) ?_
                  refine wpAnyK_takeD (i := 0) 84 [22, 23] (v := .slice (some ⟨gT, 0, none⟩) n n) rfl (by kernel_rfl) (by kernel_rfl) (by kernel_rfl) (by kernel_rfl) (by kernel_rfl) (fun _ _ _ h => h) (Or.inl ⟨by kernel_rfl, fun w' hw' => by go_simp⟩) hS0 ?_
                  try simp only [Act.put, List.setIfInBounds_toArray, List.set_cons_zero, List.set_cons_succ]
                  refine wpAnyK_takeD (i := 1) 85 [22, 23] (v := .int .i64 (k : Int)) rfl (by kernel_rfl) (by kernel_rfl) (by kernel_rfl) (by kernel_rfl) (by kernel_rfl) (fun _ _ _ h => h) (Or.inl ⟨by kernel_rfl, fun w' hw' => by go_simp⟩) hS0 ?_
                  try simp only [Act.put, List.setIfInBounds_toArray, List.set_cons_zero, List.set_cons_succ]
                  refine wpAnyK_takeD (i := 2) 86 [3, 4, 10, 11, 21, 23] (v := .int .i64 (k : Int)) rfl (by kernel_rfl) (by kernel_rfl) (by kernel_rfl) (by kernel_rfl) (by kernel_rfl) (fun _ _ _ h => h) (Or.inl ⟨by kernel_rfl, fun w' hw' => by go_simp⟩) hS0 ?_
                  try simp only [Act.put, List.setIfInBounds_toArray, List.set_cons_zero, List.set_cons_succ]
                  refine wpAnyK_takeD (i := 3) 87 [4, 10, 11, 21, 23] (v := .bool true) rfl (by kernel_rfl) (by kernel_rfl) (by kernel_rfl) (by kernel_rfl) (by kernel_rfl) (fun _ _ _ h => h) (Or.inl ⟨by kernel_rfl, fun w' hw' => by go_simp⟩) hS0 ?_
                  try simp only [Act.put, List.setIfInBounds_toArray, List.set_cons_zero, List.set_cons_succ]
                  refine wpAnyK_takeD (i := 4) 88 [10, 11, 21, 23] (v := .bool true) rfl (by kernel_rfl) (by kernel_rfl) (by kernel_rfl) (by kernel_rfl) (by kernel_rfl) (fun _ _ _ h => h) (Or.inl ⟨by kernel_rfl, fun w' hw' => by go_simp⟩) hS0 ?_
                  try simp only [Act.put, List.setIfInBounds_toArray, List.set_cons_zero, List.set_cons_succ]
                  refine wpAnyK_takeD (i := 5) 89 [8, 9, 10, 11, 21, 23] (v := .slice (some ⟨gA, 0, none⟩) n n) rfl (by kernel_rfl) (by kernel_rfl) (by kernel_rfl) (by kernel_rfl) (by kernel_rfl) (fun _ _ _ h => h) (Or.inl ⟨by kernel_rfl, fun w' hw' => by go_simp⟩) hS0 ?_
                  try simp only [Act.put, List.setIfInBounds_toArray, List.set_cons_zero, List.set_cons_succ]
                  refine wpAnyK_takeD (i := 6) 90 [7, 8, 9, 10, 11, 21, 23] (v := .int .i64 (k : Int)) rfl (by kernel_rfl) (by kernel_rfl) (by kernel_rfl) (by kernel_rfl) (by kernel_rfl) (fun _ _ _ h => h) (Or.inl ⟨by kernel_rfl, fun w' hw' => by go_simp⟩) hS0 ?_
                  try simp only [Act.put, List.setIfInBounds_toArray, List.set_cons_zero, List.set_cons_succ]
                  refine wpAnyK_takeD (i := 7) 91 [8, 9, 10, 11, 21, 23] (v := .int .i64 (z : Int)) rfl (by kernel_rfl) (by kernel_rfl) (by kernel_rfl) (by kernel_rfl) (by kernel_rfl) (fun _ _ _ h => h) (Or.inl ⟨by kernel_rfl, fun w' hw' => by go_simp⟩) hS0 ?_
                  try simp only [Act.put, List.setIfInBounds_toArray, List.set_cons_zero, List.set_cons_succ]
                  refine wpAnyK_takeD (i := 8) 92 [9, 10, 11, 21, 23] (v := .pointer (some ⟨gA, z, none⟩)) rfl (by kernel_rfl) (by kernel_rfl) (by kernel_rfl) (by kernel_rfl) (by kernel_rfl) (fun _ _ _ h => h) (Or.inl ⟨by kernel_rfl, fun w' hw' => by go_simp⟩) hS0 ?_
                  try simp only [Act.put, List.setIfInBounds_toArray, List.set_cons_zero, List.set_cons_succ]
                  refine wpAnyK_takeD (i := 9) 93 [10, 11, 21, 23] (v := .bool false) rfl (by kernel_rfl) (by kernel_rfl) (by kernel_rfl) (by kernel_rfl) (by kernel_rfl) (fun _ _ _ h => h) (Or.inl ⟨by kernel_rfl, fun w' hw' => by have hcc := cell_later hw' cP; go_simp⟩) hS0 ?_
                  try simp only [Act.put, List.setIfInBounds_toArray, List.set_cons_zero, List.set_cons_succ]
                  refine wpAnyK_takeD (i := 10) 94 [11, 21, 23] (v := .bool false) rfl (by kernel_rfl) (by kernel_rfl) (by kernel_rfl) (by kernel_rfl) (by kernel_rfl) (fun _ _ _ h => h) (Or.inl ⟨by kernel_rfl, fun w' hw' => by go_simp⟩) hS0 ?_
                  try simp only [Act.put, List.setIfInBounds_toArray, List.set_cons_zero, List.set_cons_succ]
                  refine wpAnyK_takeD (i := 11) 95 [21, 23] (v := .bool false) rfl (by kernel_rfl) (by kernel_rfl) (by kernel_rfl) (by kernel_rfl) (by kernel_rfl) (fun _ _ _ h => h) (Or.inl ⟨by kernel_rfl, fun w' hw' => by go_simp⟩) hS0 ?_
                  try simp only [Act.put, List.setIfInBounds_toArray, List.set_cons_zero, List.set_cons_succ]
                  refine wpAnyK_takeD (i := 12) 96 [14, 15, 20, 21, 23] (v := undef) rfl (by kernel_rfl) (by kernel_rfl) (by kernel_rfl) (by kernel_rfl) (by kernel_rfl) (fun _ _ _ h => h) (Or.inr ⟨by kernel_rfl, rfl⟩) hS0 ?_
                  try simp only [Act.put, List.setIfInBounds_toArray, List.set_cons_zero, List.set_cons_succ]
                  refine wpAnyK_takeD (i := 13) 97 [14, 15, 20, 21, 23] (v := undef) rfl (by kernel_rfl) (by kernel_rfl) (by kernel_rfl) (by kernel_rfl) (by kernel_rfl) (fun _ _ _ h => h) (Or.inr ⟨by kernel_rfl, rfl⟩) hS0 ?_
                  try simp only [Act.put, List.setIfInBounds_toArray, List.set_cons_zero, List.set_cons_succ]
                  refine wpAnyK_takeD (i := 14) 98 [15, 20, 21, 23] (v := undef) rfl (by kernel_rfl) (by kernel_rfl) (by kernel_rfl) (by kernel_rfl) (by kernel_rfl) (fun _ _ _ h => h) (Or.inr ⟨by kernel_rfl, rfl⟩) hS0 ?_
                  try simp only [Act.put, List.setIfInBounds_toArray, List.set_cons_zero, List.set_cons_succ]
                  refine wpAnyK_takeD (i := 15) 99 [20, 21, 23] (v := undef) rfl (by kernel_rfl) (by kernel_rfl) (by kernel_rfl) (by kernel_rfl) (by kernel_rfl) (fun _ _ _ h => h) (Or.inr ⟨by kernel_rfl, rfl⟩) hS0 ?_
                  try simp only [Act.put, List.setIfInBounds_toArray, List.set_cons_zero, List.set_cons_succ]
                  refine wpAnyK_takeD (i := 16) 100 [19, 20, 21, 23] (v := undef) rfl (by kernel_rfl) (by kernel_rfl) (by kernel_rfl) (by kernel_rfl) (by kernel_rfl) (fun _ _ _ h => h) (Or.inr ⟨by kernel_rfl, rfl⟩) hS0 ?_
                  try simp only [Act.put, List.setIfInBounds_toArray, List.set_cons_zero, List.set_cons_succ]
                  refine wpAnyK_takeD (i := 17) 101 [18, 19, 20, 21, 23] (v := undef) rfl (by kernel_rfl) (by kernel_rfl) (by kernel_rfl) (by kernel_rfl) (by kernel_rfl) (fun _ _ _ h => h) (Or.inr ⟨by kernel_rfl, rfl⟩) hS0 ?_
                  try simp only [Act.put, List.setIfInBounds_toArray, List.set_cons_zero, List.set_cons_succ]
                  refine wpAnyK_takeD (i := 18) 102 [19, 20, 21, 23] (v := undef) rfl (by kernel_rfl) (by kernel_rfl) (by kernel_rfl) (by kernel_rfl) (by kernel_rfl) (fun _ _ _ h => h) (Or.inr ⟨by kernel_rfl, rfl⟩) hS0 ?_
                  try simp only [Act.put, List.setIfInBounds_toArray, List.set_cons_zero, List.set_cons_succ]
                  refine wpAnyK_takeD (i := 19) 103 [20, 21, 23] (v := undef) rfl (by kernel_rfl) (by kernel_rfl) (by kernel_rfl) (by kernel_rfl) (by kernel_rfl) (fun _ _ _ h => h) (Or.inr ⟨by kernel_rfl, rfl⟩) hS0 ?_
                  try simp only [Act.put, List.setIfInBounds_toArray, List.set_cons_zero, List.set_cons_succ]
                  refine wpAnyK_takeD (i := 20) 104 [21, 23] (v := undef) rfl (by kernel_rfl) (by kernel_rfl) (by kernel_rfl) (by kernel_rfl) (by kernel_rfl) (fun _ _ _ h => h) (Or.inr ⟨by kernel_rfl, rfl⟩) hS0 ?_
                  try simp only [Act.put, List.setIfInBounds_toArray, List.set_cons_zero, List.set_cons_succ]
                  refine wpAnyK_takeD (i := 21) 105 [23] (v := .bool false) rfl (by kernel_rfl) (by kernel_rfl) (by kernel_rfl) (by kernel_rfl) (by kernel_rfl) (fun _ _ _ h => h) (Or.inl ⟨by kernel_rfl, fun w' hw' => by go_simp⟩) hS0 ?_
                  try simp only [Act.put, List.setIfInBounds_toArray, List.set_cons_zero, List.set_cons_succ]
                  refine wpAnyK_takeD (i := 22) 106 [23] (v := .pointer (some ⟨gT, k, none⟩)) rfl (by kernel_rfl) (by kernel_rfl) (by kernel_rfl) (by kernel_rfl) (by kernel_rfl) (fun _ _ _ h => h) (Or.inl ⟨by kernel_rfl, fun w' hw' => by go_simp⟩) hS0 ?_
                  try simp only [Act.put, List.setIfInBounds_toArray, List.set_cons_zero, List.set_cons_succ]
                  clear hS0
                  refine wpAnyK_only (i := 23) (by kernel_rfl) rfl (by rfl) (fun K0 hK0 => ?_)
                  have HK0 := Lib.hid hK0
                  clear hK0
                  go_simp
                  refine HK0.out _ _ (fun h => by simp at h) ?_
                  refine wpAnyK_done (by kernel_rfl) ?_ _
                  clear HK0
                  have HNX : Hid (MI w2 (wr.drew.setCell ⟨gT, k, none⟩ (.bool false)) gA gT n TT (fun j => if j < k + 1 then DD j else false)) := (HMI.out.later (bel_drew_self wr)).set HKN.out (by rw [HDK.out])
                  go_wp2
                  go_roundw
                  case rel => exact ⟨k + 1, by go_num, by show _ ≤ _; have := HKN.out; omega, HNX⟩
                  case measure => have := HKN.out; simp [intOf]; omega
                | true =>
                  obtain ⟨d, hd⟩ : ∃ d, d = nb s z := ⟨_, rfl⟩
                  obtain ⟨tb, htb⟩ : ∃ tb, tb = takesB x d := ⟨_, rfl⟩
                  have HDK : Hid (DD k = tb) := by show _ = _; rw [HDK0.out, hdz, htb, hd]; simp
                  rw [hdz] at cP0
                  have cP : wr.drew.cell? ⟨gA, z, none⟩ = some (.bool true) := by simpa using cP0
                  have hxs := run_at s z (by have := HN.out; have := HKN.out; omega)
                  rw [bt_nb, ← hd] at hxs
                  have HTK := Lib.hid (HTKa.out d (by rw [hd]; exact nb_lt _ _))
                  rw [← htb] at HTK
                  clear hmany hz hzk cP0 hdz hd htb
                  clear HTKa
                  generalize x.cs = X at *
                  go_wp2
                  refine region_plain (S := fun W' => Below wr.drew.heap.size wr.drew W') (bad := [23]) (by kernel_rfl) ?_
                  refine wpAnyK_takeD (i := 0) 84 [22, 23] (v := .slice (some ⟨gT, 0, none⟩) n n) rfl (by kernel_rfl) (by kernel_rfl) (by kernel_rfl) (by kernel_rfl) (by kernel_rfl) (fun _ _ _ h => h) (Or.inl ⟨by kernel_rfl, fun w' hw' => by go_simp⟩) hS0 ?_
                  try simp only [Act.put, List.setIfInBounds_toArray, List.set_cons_zero, List.set_cons_succ]
                  refine wpAnyK_takeD (i := 1) 85 [22, 23] (v := .int .i64 (k : Int)) rfl (by kernel_rfl) (by kernel_rfl) (by kernel_rfl) (by kernel_rfl) (by kernel_rfl) (fun _ _ _ h => h) (Or.inl ⟨by kernel_rfl, fun w' hw' => by go_simp⟩) hS0 ?_
                  try simp only [Act.put, List.setIfInBounds_toArray, List.set_cons_zero, List.set_cons_succ]
                  refine wpAnyK_takeD (i := 2) 86 [3, 4, 10, 11, 21, 23] (v := .int .i64 (k : Int)) rfl (by kernel_rfl) (by kernel_rfl) (by kernel_rfl) (by kernel_rfl) (by kernel_rfl) (fun _ _ _ h => h) (Or.inl ⟨by kernel_rfl, fun w' hw' => by go_simp⟩) hS0 ?_
                  try simp only [Act.put, List.setIfInBounds_toArray, List.set_cons_zero, List.set_cons_succ]
                  refine wpAnyK_takeD (i := 3) 87 [4, 10, 11, 21, 23] (v := .bool true) rfl (by kernel_rfl) (by kernel_rfl) (by kernel_rfl) (by kernel_rfl) (by kernel_rfl) (fun _ _ _ h => h) (Or.inl ⟨by kernel_rfl, fun w' hw' => by go_simp⟩) hS0 ?_
                  try simp only [Act.put, List.setIfInBounds_toArray, List.set_cons_zero, List.set_cons_succ]
                  refine wpAnyK_takeD (i := 4) 88 [10, 11, 21, 23] (v := .bool true) rfl (by kernel_rfl) (by kernel_rfl) (by kernel_rfl) (by kernel_rfl) (by kernel_rfl) (fun _ _ _ h => h) (Or.inl ⟨by kernel_rfl, fun w' hw' => by go_simp⟩) hS0 ?_
                  try simp only [Act.put, List.setIfInBounds_toArray, List.set_cons_zero, List.set_cons_succ]
                  refine wpAnyK_takeD (i := 5) 89 [8, 9, 10, 11, 21, 23] (v := .slice (some ⟨gA, 0, none⟩) n n) rfl (by kernel_rfl) (by kernel_rfl) (by kernel_rfl) (by kernel_rfl) (by kernel_rfl) (fun _ _ _ h => h) (Or.inl ⟨by kernel_rfl, fun w' hw' => by go_simp⟩) hS0 ?_
                  try simp only [Act.put, List.setIfInBounds_toArray, List.set_cons_zero, List.set_cons_succ]
                  refine wpAnyK_takeD (i := 6) 90 [7, 8, 9, 10, 11, 21, 23] (v := .int .i64 (k : Int)) rfl (by kernel_rfl) (by kernel_rfl) (by kernel_rfl) (by kernel_rfl) (by kernel_rfl) (fun _ _ _ h => h) (Or.inl ⟨by kernel_rfl, fun w' hw' => by go_simp⟩) hS0 ?_
                  try simp only [Act.put, List.setIfInBounds_toArray, List.set_cons_zero, List.set_cons_succ]
                  refine wpAnyK_takeD (i := 7) 91 [8, 9, 10, 11, 21, 23] (v := .int .i64 (z : Int)) rfl (by kernel_rfl) (by kernel_rfl) (by kernel_rfl) (by kernel_rfl) (by kernel_rfl) (fun _ _ _ h => h) (Or.inl ⟨by kernel_rfl, fun w' hw' => by go_simp⟩) hS0 ?_
                  try simp only [Act.put, List.setIfInBounds_toArray, List.set_cons_zero, List.set_cons_succ]
                  refine wpAnyK_takeD (i := 8) 92 [9, 10, 11, 21, 23] (v := .pointer (some ⟨gA, z, none⟩)) rfl (by kernel_rfl) (by kernel_rfl) (by kernel_rfl) (by kernel_rfl) (by kernel_rfl) (fun _ _ _ h => h) (Or.inl ⟨by kernel_rfl, fun w' hw' => by go_simp⟩) hS0 ?_
                  try simp only [Act.put, List.setIfInBounds_toArray, List.set_cons_zero, List.set_cons_succ]
                  refine wpAnyK_takeD (i := 9) 93 [10, 11, 21, 23] (v := .bool true) rfl (by kernel_rfl) (by kernel_rfl) (by kernel_rfl) (by kernel_rfl) (by kernel_rfl) (fun _ _ _ h => h) (Or.inl ⟨by kernel_rfl, fun w' hw' => by have hcc := cell_later hw' cP; go_simp⟩) hS0 ?_
                  try simp only [Act.put, List.setIfInBounds_toArray, List.set_cons_zero, List.set_cons_succ]
                  refine wpAnyK_takeD (i := 10) 94 [11, 21, 23] (v := .bool true) rfl (by kernel_rfl) (by kernel_rfl) (by kernel_rfl) (by kernel_rfl) (by kernel_rfl) (fun _ _ _ h => h) (Or.inl ⟨by kernel_rfl, fun w' hw' => by go_simp⟩) hS0 ?_
                  try simp only [Act.put, List.setIfInBounds_toArray, List.set_cons_zero, List.set_cons_succ]
                  refine wpAnyK_takeD (i := 11) 95 [21, 23] (v := .bool true) rfl (by kernel_rfl) (by kernel_rfl) (by kernel_rfl) (by kernel_rfl) (by kernel_rfl) (fun _ _ _ h => h) (Or.inl ⟨by kernel_rfl, fun w' hw' => by go_simp⟩) hS0 ?_
                  try simp only [Act.put, List.setIfInBounds_toArray, List.set_cons_zero, List.set_cons_succ]
                  refine wpAnyK_takeD (i := 12) 96 [14, 15, 20, 21, 23] (v := .slice (some ⟨gg, 0, none⟩) L.length sc) rfl (by kernel_rfl) (by kernel_rfl) (by kernel_rfl) (by kernel_rfl) (by kernel_rfl) (fun _ _ _ h => h) (Or.inl ⟨by kernel_rfl, fun w' hw' => by go_simp⟩) hS0 ?_
                  try simp only [Act.put, List.setIfInBounds_toArray, List.set_cons_zero, List.set_cons_succ]
                  refine wpAnyK_takeD (i := 13) 97 [14, 15, 20, 21, 23] (v := .int .i64 (i : Int)) rfl (by kernel_rfl) (by kernel_rfl) (by kernel_rfl) (by kernel_rfl) (by kernel_rfl) (fun _ _ _ h => h) (Or.inl ⟨by kernel_rfl, fun w' hw' => by go_simp⟩) hS0 ?_
                  try simp only [Act.put, List.setIfInBounds_toArray, List.set_cons_zero, List.set_cons_succ]
                  refine wpAnyK_takeD (i := 14) 98 [15, 20, 21, 23] (v := .pointer (some ⟨gg, i * 259, none⟩)) rfl (by kernel_rfl) (by kernel_rfl) (by kernel_rfl) (by kernel_rfl) (by kernel_rfl) (fun _ _ _ h => h) (Or.inl ⟨by kernel_rfl, fun w' hw' => by go_simp⟩) hS0 ?_
                  try simp only [Act.put, List.setIfInBounds_toArray, List.set_cons_zero, List.set_cons_succ]
                  refine wpAnyK_takeD (i := 15) 99 [20, 21, 23] (v := .agg X.toArray) rfl (by kernel_rfl) (by kernel_rfl) (by kernel_rfl) (by kernel_rfl) (by kernel_rfl) (fun _ _ _ h => h) (yieldsIf_load_mid (by kernel_rfl) 35 (.tmp 98) rfl gg (i * 259) rfl X _ (fun W hW j u hj => by rw [hW.cell (p := ⟨gg, i * 259 + j, none⟩) HGL.out]; exact HXR.out j u hj) Tryd.underlying35 rfl HXS.out) hS0 ?_
                  try simp only [Act.put, List.setIfInBounds_toArray, List.set_cons_zero, List.set_cons_succ]
                  refine wpAnyK_takeD (i := 16) 100 [19, 20, 21, 23] (v := .string (mk s)) rfl (by kernel_rfl) (by kernel_rfl) (by kernel_rfl) (by kernel_rfl) (by kernel_rfl) (fun _ _ _ h => h) (Or.inl ⟨by kernel_rfl, fun w' hw' => by go_simp⟩) hS0 ?_
                  try simp only [Act.put, List.setIfInBounds_toArray, List.set_cons_zero, List.set_cons_succ]
                  refine wpAnyK_takeD (i := 17) 101 [18, 19, 20, 21, 23] (v := .int .i64 (k : Int)) rfl (by kernel_rfl) (by kernel_rfl) (by kernel_rfl) (by kernel_rfl) (by kernel_rfl) (fun _ _ _ h => h) (Or.inl ⟨by kernel_rfl, fun w' hw' => by go_simp⟩) hS0 ?_
                  try simp only [Act.put, List.setIfInBounds_toArray, List.set_cons_zero, List.set_cons_succ]
                  refine wpAnyK_takeD (i := 18) 102 [19, 20, 21, 23] (v := .int .i64 (z : Int)) rfl (by kernel_rfl) (by kernel_rfl) (by kernel_rfl) (by kernel_rfl) (by kernel_rfl) (fun _ _ _ h => h) (Or.inl ⟨by kernel_rfl, fun w' hw' => by go_simp⟩) hS0 ?_
                  try simp only [Act.put, List.setIfInBounds_toArray, List.set_cons_zero, List.set_cons_succ]
                  refine wpAnyK_takeD (i := 19) 103 [20, 21, 23] (v := .int .u8 (d : Int)) rfl (by kernel_rfl) (by kernel_rfl) (by kernel_rfl) (by kernel_rfl) (by kernel_rfl) (fun _ _ _ h => h) (Or.inl ⟨by kernel_rfl, fun w' hw' => by go_simp⟩) hS0 ?_
                  try simp only [Act.put, List.setIfInBounds_toArray, List.set_cons_zero, List.set_cons_succ]
                  refine wpAnyK_only (i := 20) (by kernel_rfl) rfl (by rfl) (fun K0 hK0 => ?_)
                  have HK0 := Lib.hid hK0
                  clear hK0
                  go_simp
                  refine (HTK.out _).mono ?_
                  rintro e w9 ⟨rfl, hb9'⟩
                  have hb9 : Below wr.drew.heap.size wr.drew w9 := by simpa using hb9'
                  have HB9 := Lib.hid hb9
                  refine HK0.out _ _ (fun _ => hb9) ?_
                  clear HK0 hb9'
                  try simp only [Act.put, List.setIfInBounds_toArray, List.set_cons_zero, List.set_cons_succ]
                  refine wpAnyK_takeD (i := 21) 105 [23] (v := .bool tb) rfl (by kernel_rfl) (by kernel_rfl) (by kernel_rfl) (by kernel_rfl) (by kernel_rfl) (fun _ _ _ h => h) (Or.inl ⟨by kernel_rfl, fun w' hw' => by go_simp⟩) hb9 ?_
                  try simp only [Act.put, List.setIfInBounds_toArray, List.set_cons_zero, List.set_cons_succ]
                  refine wpAnyK_takeD (i := 22) 106 [23] (v := .pointer (some ⟨gT, k, none⟩)) rfl (by kernel_rfl) (by kernel_rfl) (by kernel_rfl) (by kernel_rfl) (by kernel_rfl) (fun _ _ _ h => h) (Or.inl ⟨by kernel_rfl, fun w' hw' => by go_simp⟩) hb9 ?_
                  try simp only [Act.put, List.setIfInBounds_toArray, List.set_cons_zero, List.set_cons_succ]
                  have HBT9 := Lib.hid (BAt.later HBT.out (bel_from_drew hb9))
                  have cT := HBT9.out.cell k (by have := HKN.out; omega)
                  have fT := HBT9.out.soft k
                  clear hS0 hb9
                  refine wpAnyK_only (i := 23) (by kernel_rfl) rfl (by rfl) (fun K0 hK0 => ?_)
                  have HK0 := Lib.hid hK0
                  clear hK0
                  go_simp
                  refine HK0.out _ _ (fun h => by simp at h) ?_
                  refine wpAnyK_done (by kernel_rfl) ?_ _
                  clear HK0
                  have HNX : Hid (MI w2 (w9.setCell ⟨gT, k, none⟩ (.bool tb)) gA gT n TT (fun j => if j < k + 1 then DD j else false)) := (HMI.out.later (bel_from_drew HB9.out)).set HKN.out (by rw [HDK.out])
                  go_wp2
                  go_roundw
                  case rel => exact ⟨k + 1, by go_num, by show _ ≤ _; have := HKN.out; omega, HNX⟩
                  case measure => have := HKN.out; simp [intOf]; omega
              · have HDK : Hid (DD k = false) := by show _ = _; rw [HDK0.out, decide_eq_false hk0]; rfl
                have hk0I : ¬ (0 : Int) < (k : Int) := by omega
                have hk0J : (k : Int) ≤ 0 := by omega
                clear hmany
                go_wp2
                refine region_plain (S := fun W' => Below wr.drew.heap.size wr.drew W') (bad := [23]) (by kernel_rfl) ?_
                refine wpAnyK_takeD (i := 0) 84 [22, 23] (v := .slice (some ⟨gT, 0, none⟩) n n) rfl (by kernel_rfl) (by kernel_rfl) (by kernel_rfl) (by kernel_rfl) (by kernel_rfl) (fun _ _ _ h => h) (Or.inl ⟨by kernel_rfl, fun w' hw' => by go_simp⟩) hS0 ?_
                try simp only [Act.put, List.setIfInBounds_toArray, List.set_cons_zero, List.set_cons_succ]
                refine wpAnyK_takeD (i := 1) 85 [22, 23] (v := .int .i64 (k : Int)) rfl (by kernel_rfl) (by kernel_rfl) (by kernel_rfl) (by kernel_rfl) (by kernel_rfl) (fun _ _ _ h => h) (Or.inl ⟨by kernel_rfl, fun w' hw' => by go_simp⟩) hS0 ?_
                try simp only [Act.put, List.setIfInBounds_toArray, List.set_cons_zero, List.set_cons_succ]
                refine wpAnyK_takeD (i := 2) 86 [3, 4, 10, 11, 21, 23] (v := .int .i64 (k : Int)) rfl (by kernel_rfl) (by kernel_rfl) (by kernel_rfl) (by kernel_rfl) (by kernel_rfl) (fun _ _ _ h => h) (Or.inl ⟨by kernel_rfl, fun w' hw' => by go_simp⟩) hS0 ?_
                try simp only [Act.put, List.setIfInBounds_toArray, List.set_cons_zero, List.set_cons_succ]
                refine wpAnyK_takeD (i := 3) 87 [4, 10, 11, 21, 23] (v := .bool false) rfl (by kernel_rfl) (by kernel_rfl) (by kernel_rfl) (by kernel_rfl) (by kernel_rfl) (fun _ _ _ h => h) (Or.inl ⟨by kernel_rfl, fun w' hw' => by go_simp⟩) hS0 ?_
                try simp only [Act.put, List.setIfInBounds_toArray, List.set_cons_zero, List.set_cons_succ]
                refine wpAnyK_takeD (i := 4) 88 [10, 11, 21, 23] (v := .bool false) rfl (by kernel_rfl) (by kernel_rfl) (by kernel_rfl) (by kernel_rfl) (by kernel_rfl) (fun _ _ _ h => h) (Or.inl ⟨by kernel_rfl, fun w' hw' => by go_simp⟩) hS0 ?_
                try simp only [Act.put, List.setIfInBounds_toArray, List.set_cons_zero, List.set_cons_succ]
                refine wpAnyK_takeD (i := 5) 89 [8, 9, 10, 11, 21, 23] (v := undef) rfl (by kernel_rfl) (by kernel_rfl) (by kernel_rfl) (by kernel_rfl) (by kernel_rfl) (fun _ _ _ h => h) (Or.inr ⟨by kernel_rfl, rfl⟩) hS0 ?_
                try simp only [Act.put, List.setIfInBounds_toArray, List.set_cons_zero, List.set_cons_succ]
                refine wpAnyK_takeD (i := 6) 90 [7, 8, 9, 10, 11, 21, 23] (v := undef) rfl (by kernel_rfl) (by kernel_rfl) (by kernel_rfl) (by kernel_rfl) (by kernel_rfl) (fun _ _ _ h => h) (Or.inr ⟨by kernel_rfl, rfl⟩) hS0 ?_
                try simp only [Act.put, List.setIfInBounds_toArray, List.set_cons_zero, List.set_cons_succ]
                refine wpAnyK_takeD (i := 7) 91 [8, 9, 10, 11, 21, 23] (v := undef) rfl (by kernel_rfl) (by kernel_rfl) (by kernel_rfl) (by kernel_rfl) (by kernel_rfl) (fun _ _ _ h => h) (Or.inr ⟨by kernel_rfl, rfl⟩) hS0 ?_
                try simp only [Act.put, List.setIfInBounds_toArray, List.set_cons_zero, List.set_cons_succ]
                refine wpAnyK_takeD (i := 8) 92 [9, 10, 11, 21, 23] (v := undef) rfl (by kernel_rfl) (by kernel_rfl) (by kernel_rfl) (by kernel_rfl) (by kernel_rfl) (fun _ _ _ h => h) (Or.inr ⟨by kernel_rfl, rfl⟩) hS0 ?_
                try simp only [Act.put, List.setIfInBounds_toArray, List.set_cons_zero, List.set_cons_succ]
                refine wpAnyK_takeD (i := 9) 93 [10, 11, 21, 23] (v := undef) rfl (by kernel_rfl) (by kernel_rfl) (by kernel_rfl) (by kernel_rfl) (by kernel_rfl) (fun _ _ _ h => h) (Or.inr ⟨by kernel_rfl, rfl⟩) hS0 ?_
                try simp only [Act.put, List.setIfInBounds_toArray, List.set_cons_zero, List.set_cons_succ]
                refine wpAnyK_takeD (i := 10) 94 [11, 21, 23] (v := .bool false) rfl (by kernel_rfl) (by kernel_rfl) (by kernel_rfl) (by kernel_rfl) (by kernel_rfl) (fun _ _ _ h => h) (Or.inl ⟨by kernel_rfl, fun w' hw' => by go_simp⟩) hS0 ?_
                try simp only [Act.put, List.setIfInBounds_toArray, List.set_cons_zero, List.set_cons_succ]
                refine wpAnyK_takeD (i := 11) 95 [21, 23] (v := .bool false) rfl (by kernel_rfl) (by kernel_rfl) (by kernel_rfl) (by kernel_rfl) (by kernel_rfl) (fun _ _ _ h => h) (Or.inl ⟨by kernel_rfl, fun w' hw' => by go_simp⟩) hS0 ?_
                try simp only [Act.put, List.setIfInBounds_toArray, List.set_cons_zero, List.set_cons_succ]
                refine wpAnyK_takeD (i := 12) 96 [14, 15, 20, 21, 23] (v := undef) rfl (by kernel_rfl) (by kernel_rfl) (by kernel_rfl) (by kernel_rfl) (by kernel_rfl) (fun _ _ _ h => h) (Or.inr ⟨by kernel_rfl, rfl⟩) hS0 ?_
                try simp only [Act.put, List.setIfInBounds_toArray, List.set_cons_zero, List.set_cons_succ]
                refine wpAnyK_takeD (i := 13) 97 [14, 15, 20, 21, 23] (v := undef) rfl (by kernel_rfl) (by kernel_rfl) (by kernel_rfl) (by kernel_rfl) (by kernel_rfl) (fun _ _ _ h => h) (Or.inr ⟨by kernel_rfl, rfl⟩) hS0 ?_
                try simp only [Act.put, List.setIfInBounds_toArray, List.set_cons_zero, List.set_cons_succ]
                refine wpAnyK_takeD (i := 14) 98 [15, 20, 21, 23] (v := undef) rfl (by kernel_rfl) (by kernel_rfl) (by kernel_rfl) (by kernel_rfl) (by kernel_rfl) (fun _ _ _ h => h) (Or.inr ⟨by kernel_rfl, rfl⟩) hS0 ?_
                try simp only [Act.put, List.setIfInBounds_toArray, List.set_cons_zero, List.set_cons_succ]
                refine wpAnyK_takeD (i := 15) 99 [20, 21, 23] (v := undef) rfl (by kernel_rfl) (by kernel_rfl) (by kernel_rfl) (by kernel_rfl) (by kernel_rfl) (fun _ _ _ h => h) (Or.inr ⟨by kernel_rfl, rfl⟩) hS0 ?_
                try simp only [Act.put, List.setIfInBounds_toArray, List.set_cons_zero, List.set_cons_succ]
                refine wpAnyK_takeD (i := 16) 100 [19, 20, 21, 23] (v := undef) rfl (by kernel_rfl) (by kernel_rfl) (by kernel_rfl) (by kernel_rfl) (by kernel_rfl) (fun _ _ _ h => h) (Or.inr ⟨by kernel_rfl, rfl⟩) hS0 ?_
                try simp only [Act.put, List.setIfInBounds_toArray, List.set_cons_zero, List.set_cons_succ]
                refine wpAnyK_takeD (i := 17) 101 [18, 19, 20, 21, 23] (v := undef) rfl (by kernel_rfl) (by kernel_rfl) (by kernel_rfl) (by kernel_rfl) (by kernel_rfl) (fun _ _ _ h => h) (Or.inr ⟨by kernel_rfl, rfl⟩) hS0 ?_
                try simp only [Act.put, List.setIfInBounds_toArray, List.set_cons_zero, List.set_cons_succ]
                refine wpAnyK_takeD (i := 18) 102 [19, 20, 21, 23] (v := undef) rfl (by kernel_rfl) (by kernel_rfl) (by kernel_rfl) (by kernel_rfl) (by kernel_rfl) (fun _ _ _ h => h) (Or.inr ⟨by kernel_rfl, rfl⟩) hS0 ?_
                try simp only [Act.put, List.setIfInBounds_toArray, List.set_cons_zero, List.set_cons_succ]
                refine wpAnyK_takeD (i := 19) 103 [20, 21, 23] (v := undef) rfl (by kernel_rfl) (by kernel_rfl) (by kernel_rfl) (by kernel_rfl) (by kernel_rfl) (fun _ _ _ h => h) (Or.inr ⟨by kernel_rfl, rfl⟩) hS0 ?_
                try simp only [Act.put, List.setIfInBounds_toArray, List.set_cons_zero, List.set_cons_succ]
                refine wpAnyK_takeD (i := 20) 104 [21, 23] (v := undef) rfl (by kernel_rfl) (by kernel_rfl) (by kernel_rfl) (by kernel_rfl) (by kernel_rfl) (fun _ _ _ h => h) (Or.inr ⟨by kernel_rfl, rfl⟩) hS0 ?_
                try simp only [Act.put, List.setIfInBounds_toArray, List.set_cons_zero, List.set_cons_succ]
                refine wpAnyK_takeD (i := 21) 105 [23] (v := .bool false) rfl (by kernel_rfl) (by kernel_rfl) (by kernel_rfl) (by kernel_rfl) (by kernel_rfl) (fun _ _ _ h => h) (Or.inl ⟨by kernel_rfl, fun w' hw' => by go_simp⟩) hS0 ?_
                try simp only [Act.put, List.setIfInBounds_toArray, List.set_cons_zero, List.set_cons_succ]
                refine wpAnyK_takeD (i := 22) 106 [23] (v := .pointer (some ⟨gT, k, none⟩)) rfl (by kernel_rfl) (by kernel_rfl) (by kernel_rfl) (by kernel_rfl) (by kernel_rfl) (fun _ _ _ h => h) (Or.inl ⟨by kernel_rfl, fun w' hw' => by go_simp⟩) hS0 ?_
                try simp only [Act.put, List.setIfInBounds_toArray, List.set_cons_zero, List.set_cons_succ]
                clear hS0
                refine wpAnyK_only (i := 23) (by kernel_rfl) rfl (by rfl) (fun K0 hK0 => ?_)
                have HK0 := Lib.hid hK0
                clear hK0
                go_simp
                refine HK0.out _ _ (fun h => by simp at h) ?_
                refine wpAnyK_done (by kernel_rfl) ?_ _
                clear HK0
                have HNX : Hid (MI w2 (wr.drew.setCell ⟨gT, k, none⟩ (.bool false)) gA gT n TT (fun j => if j < k + 1 then DD j else false)) := (HMI.out.later (bel_drew_self wr)).set HKN.out (by rw [HDK.out])
                go_wp2
                go_roundw
                case rel => exact ⟨k + 1, by go_num, by show _ ≤ _; have := HKN.out; omega, HNX⟩
                case measure => have := HKN.out; simp [intOf]; omega
          · have hIk : ¬ (k : Int) ≤ ((mk s).size : Int) := by rw [HSS.out]; have := HN.out; omega
            have hke : k = n := by have := HKL.out; omega
            have HBN : Hid (BAt wr gT n (dp s T0 (L.take (i + 1)))) := HMI.out.to_.same fun j hj => by rw [if_pos (by omega), HNXT.out]
            have HBE : Hid (Below w2.heap.size w2 wr ∧ w2.heap.size ≤ gT) := ⟨HMI.out.bel, HMI.out.lo⟩
            clear hk hke
            go_wp2
            go_roundw
            case rel => exact ⟨i + 1, gT, by go_num, rfl, by show _ ≤ _; have := HIL.out; omega, HBE.out.2, HBN, HBE.out.1⟩
            case measure => have := HIL.out; simp [intOf]; omega
      · have hIi : ¬ (i : Int) < (L.length : Int) := by omega
        have hie : i = L.length := by have := HI.out; omega
        have hn9 := HN.out
        have hba := HBA.out
        rw [hie, List.take_length] at hba
        have cE := hba.cell s.length (by omega)
        have HE : Hid (R = dp s T0 L s.length) := HRR
        rw [← HRR.out] at cE
        have hsn : ((mk s).size : Int) < (n : Int) := by rw [HSS.out]; omega
        rw [← HSS.out] at cE
        have HBE : Hid (Below w.heap.size w wr) := HB2.out.trans (HBW.out.mono HB2.out.size)
        clear hi hie hn9 hba hLL HE
        go_wp2
        go_ret
        exact ⟨rfl, HBE.out⟩
end Go.Proofs.YtokocfoeohddfaaDoor.Pa
