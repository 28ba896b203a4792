/- The document's groups, behind, Put, PutInt, Size; same. -/
import Derived.Test.YtkojldjgjmaodaaPutInt
import Derived.Test.YtkojldjgjmaodaaText
namespace Go.Proofs.Ytkojldjgjmaodaa
open Go.RowKit Go.Proofs.NumMath
set_option linter.unusedVariables false

/-- a slice that reads as these bytes -/
def Sl (w : World) (v : Value) (l : List Int) : Prop := ∃ a cap, v = .slice a l.length cap ∧ Bytes w a l ∧ (a = none → cap = 0) ∧ l.length ≤ cap

theorem Bytes.later {w w' : World} {a : Option Addr} {l : List Int} (h : Bytes w a l) (hb : Below w.heap.size w w') : Bytes w' a l :=
  ⟨h.1, fun hne => by
    obtain ⟨b, off, e, hc⟩ := h.2 hne
    exact ⟨b, off, e, fun i hi => cell_later hb (hc i hi)⟩⟩
theorem Sl.later {w w' : World} {v : Value} {l : List Int} (h : Sl w v l) (hb : Below w.heap.size w w') : Sl w' v l := by
  obtain ⟨a, cap, e, h1, h2, h3⟩ := h
  exact ⟨a, cap, e, h1.later hb, h2, h3⟩
theorem Sl.oct {w : World} {v : Value} {l : List Int} (h : Sl w v l) : Oct l := by
  obtain ⟨a, cap, e, h1, h2, h3⟩ := h
  exact h1.oct

theorem Own.sl {w : World} {base : Nat} {v : Value} {l : List Int} (h : Own w base v l) (ho : Oct l) : Sl w v l := by
  obtain ⟨a, cap, e, hB⟩ := h.bytes ho
  refine ⟨a, cap, e, hB, ?_⟩
  obtain ⟨h1, h2⟩ := h
  rcases h2 with ⟨h3, h0⟩ | ⟨g, c, cur, h3, h4, h5, h6, h7, h8, h9⟩
  · rw [e] at h3; simp at h3; obtain ⟨ha, hb, hc⟩ := h3; exact ⟨fun _ => hc, by omega⟩
  · rw [e] at h3; simp at h3; obtain ⟨ha, hc⟩ := h3; subst ha hc; exact ⟨(fun h => by cases h), h6⟩

theorem Bytes.src {w : World} {ad : Addr} {l : List Int} (h : Bytes w (some ad) l) : ∀ j u, (l.map (Value.int .u8))[j]? = some u → w.cell? (ad.add j) = some u := by
  by_cases hl : l = []
  · subst hl; intro j u hj; simp at hj
  · obtain ⟨b, off, e, hc⟩ := h.2 hl
    simp at e
    subst e
    exact Bytes.at hc

/-- an append to what is owned, of bytes that lie somewhere -/
theorem own_more {base : Nat} {w w' : World} {v v' : Value} {l m : List Int} (hown : Own w base v l) (hbw : base ≤ w.heap.size)
    (hown' : w'.ownsRow base 5 1 v' (l.length + m.length) (l.map (Value.int .u8) ++ m.map (Value.int .u8))) (hg : w.grownBy w' v.ownBlock) :
    Own w' base v' (l ++ m) ∧ Below base w w' := by
  refine ⟨by unfold Own; simpa using hown', ?_⟩
  exact (Below.refl _ _).grown hg (by omega) (fun j hj => hown.base_le j hj)

set_option maxHeartbeats 1000000 in
theorem behind_any (v1 v2 : Value) (l1 l2 : List Int) (w : World) (h1 : Sl w v1 l1) (h2 : Sl w v2 l2) (hl : l1.length + l2.length ≤ 140737488355328) :
    Calls Try.prog 28 #[v1, v2] w fun e w' => ∃ v, e = .returned v ∧ Own w' w.heap.size v (l1 ++ l2) ∧ Below w.heap.size w w' := by
  obtain ⟨i0, hi, hz0, hz1, hz2⟩ := info_parts Try.info5
  obtain ⟨a1, c1, rfl, hB1, hn1, hc1⟩ := h1
  obtain ⟨a2, c2, rfl, hB2, hn2, hc2⟩ := h2
  have H0 := Lib.hid (Own.nil w w.heap.size)
  have HB1 := Lib.hid hB1
  have HB2 := Lib.hid hB2
  have HL : Hid (l1.length + l2.length ≤ 140737488355328) := hl
  clear hB1 hB2
  rcases a1 with _ | ad1
  · have hc := hn1 rfl
    subst hc
    have e1 : l1 = [] := List.eq_nil_of_length_eq_zero (by omega)
    subst e1
    rcases a2 with _ | ad2
    · have hc := hn2 rfl
      subst hc
      have e2 : l2 = [] := List.eq_nil_of_length_eq_zero (by omega)
      subst e2
      go_enter Try.func28, Try.ntmps28
      go_wp2_with (first | (at_builtin; refine wpList_append_own_none rfl (.tmp 6) (.tmp 7) 22 rfl w.heap.size 5 i0 1 Try.underlying22 hi _ _ _ rfl H0.out rfl ?_) | (at_builtin; refine wpList_append_own_none rfl (.tmp 9) (.tmp 10) 22 rfl w.heap.size 5 i0 1 Try.underlying22 hi _ _ _ rfl H0.out rfl ?_))
      go_ret
      exact ⟨_, rfl, H0.out, Below.refl _ _⟩
    · clear hn1 hn2 hc1
      go_enter Try.func28, Try.ntmps28
      go_wp2_with (first | (at_builtin; refine wpList_append_own_none rfl (.tmp 6) (.tmp 7) 22 rfl w.heap.size 5 i0 1 Try.underlying22 hi _ _ _ rfl H0.out rfl ?_) | (at_builtin; refine wpList_append_own _ rfl (.tmp 9) (.tmp 10) 22 rfl w.heap.size 5 i0 (.int .u8 0) 1 1 Try.underlying22 hi hz0 hz1 hz2 rfl (by decide) _ _ _ rfl H0.out ad2 l2.length c2 (l2.map (Value.int .u8)) rfl (by simp) (Bytes.src HB2.out) (oneCells l2) (by have := HL.out; unfold maxLen; simp at *; omega) (by have := HL.out; simp at *; omega) (Nat.le_refl _) ?_))
      intro v' w2 hown' hgrow _
      have r := own_more (m := l2) H0.out (Nat.le_refl _) (by simpa using hown') hgrow
      have R := Lib.hid r
      clear hown' hgrow r
      go_wp2
      go_ret
      exact ⟨_, rfl, R.out.1, R.out.2⟩
  · rcases a2 with _ | ad2
    · have hc := hn2 rfl
      subst hc
      have e2 : l2 = [] := List.eq_nil_of_length_eq_zero (by omega)
      subst e2
      clear hn1 hn2 hc1 hc2
      go_enter Try.func28, Try.ntmps28
      go_wp2_with (at_builtin; refine wpList_append_own _ rfl (.tmp 6) (.tmp 7) 22 rfl w.heap.size 5 i0 (.int .u8 0) 1 1 Try.underlying22 hi hz0 hz1 hz2 rfl (by decide) _ _ _ rfl H0.out ad1 l1.length c1 (l1.map (Value.int .u8)) rfl (by simp) (Bytes.src HB1.out) (oneCells l1) (by have := HL.out; unfold maxLen; simp at *; omega) (by have := HL.out; simp at *; omega) (Nat.le_refl _) ?_)
      intro v' w2 hown' hgrow _
      have r := own_more (m := l1) H0.out (Nat.le_refl _) (by simpa using hown') hgrow
      rw [List.nil_append] at r
      have R := Lib.hid r
      clear hown' hgrow r
      go_wp2_with (at_builtin; refine wpList_append_own_none rfl (.tmp 9) (.tmp 10) 22 rfl w.heap.size 5 i0 1 Try.underlying22 hi _ _ _ rfl R.out.1 rfl ?_)
      go_ret
      exact ⟨_, rfl, by rw [List.append_nil]; exact R.out.1, R.out.2⟩
    · clear hn1 hn2 hc1 hc2
      go_enter Try.func28, Try.ntmps28
      go_wp2_with (at_builtin; refine wpList_append_own _ rfl (.tmp 6) (.tmp 7) 22 rfl w.heap.size 5 i0 (.int .u8 0) 1 1 Try.underlying22 hi hz0 hz1 hz2 rfl (by decide) _ _ _ rfl H0.out ad1 l1.length c1 (l1.map (Value.int .u8)) rfl (by simp) (Bytes.src HB1.out) (oneCells l1) (by have := HL.out; unfold maxLen; simp at *; omega) (by have := HL.out; simp at *; omega) (Nat.le_refl _) ?_)
      intro v' w2 hown' hgrow _
      have r := own_more (m := l1) H0.out (Nat.le_refl _) (by simpa using hown') hgrow
      rw [List.nil_append] at r
      have R := Lib.hid r
      have HB3 := Lib.hid (HB2.out.later r.2)
      have hsz := r.2.size
      clear hown' hgrow r
      go_wp2_with (at_builtin; refine wpList_append_own _ rfl (.tmp 9) (.tmp 10) 22 rfl w.heap.size 5 i0 (.int .u8 0) 1 1 Try.underlying22 hi hz0 hz1 hz2 rfl (by decide) _ _ _ rfl R.out.1 ad2 l2.length c2 (l2.map (Value.int .u8)) rfl (by simp) (Bytes.src HB3.out) (oneCells l2) (by have := HL.out; unfold maxLen; omega) (by have := HL.out; omega) hsz ?_)
      intro v3 w3 hown' hgrow _
      have r := own_more (m := l2) R.out.1 hsz hown' hgrow
      have R2 := Lib.hid r
      clear hown' hgrow r
      go_wp2
      go_ret
      exact ⟨_, rfl, R2.out.1, R.out.2.trans R2.out.2⟩

theorem step1 {base : Nat} {w wr w' : World} {v v' : Value} {l : List Int} {x y : Int} {o : Obj}
    (hown : Own wr base v l) (hbel : Below base w wr) (hbw : base ≤ wr.heap.size) (hxy : x = y)
    (hown' : w'.ownsRow base 5 1 v' (l.length + 1) (l.map (Value.int .u8) ++ [.int .u8 x])) (hg : (wr.alloc o).grownBy w' v.ownBlock) :
    Own w' base v' (l ++ [y]) ∧ Below base w w' ∧ base ≤ w'.heap.size := by
  have hsz := hg.size
  have h1 : (wr.alloc o).heap.size = wr.heap.size + 1 := by simp
  refine ⟨?_, ?_, by omega⟩
  · subst hxy
    unfold Own
    simpa using hown'
  · exact (hbel.alloc (by omega) o).grown hg (by omega) (fun j hj => by have := hown.base_le j hj; omega)

theorem div_step (m k : Nat) : m / 2 ^ (7 * k) / 128 = m / 2 ^ (7 * (k + 1)) := by
  rw [Nat.div_div_eq_div_mul, show 7 * (k + 1) = 7 * k + 7 from by omega, Nat.pow_add]

set_option maxHeartbeats 1000000 in
theorem rgroups_any (m : Nat) (w : World) (hm : m ≤ 4611686018427387903) :
    Calls Try.prog 29 #[.int .i64 m] w fun e w' => ∃ v, e = .returned v ∧ Own w' w.heap.size v (encR m) ∧ Below w.heap.size w w' := by
  obtain ⟨i0, hi, hz0, hz1, hz2⟩ := info_parts Try.info5
  go_enter Try.func29, Try.ntmps29
  go_wp2
  go_loopw [0, 3] (fun n u wr => ∃ k x : Nat, k ≤ 8 ∧ n = .int .i64 x ∧ Hid (x = m / 2 ^ (7 * k)) ∧ x ≤ m ∧ Own wr w.heap.size u (heads m k) ∧ Hid (k = 0 ∨ 2 ^ (7 * k) ≤ m) ∧ Below w.heap.size w wr ∧ w.heap.size ≤ wr.heap.size) (fun n _ _ => (intOf n).toNat)
  case atStart => exact ⟨0, m, by omega, rfl, (by show _ = _; simp), by omega, Own.nil _ _, .inl rfl, Below.refl _ _, Nat.le_refl _⟩
  case round =>
    obtain ⟨k, x, hk, rfl, HX, hxm, hown, HK, hbel, hbw⟩ := hrel
    obtain ⟨L, hL⟩ : ∃ L, L = heads m k := ⟨_, rfl⟩
    rw [← hL] at hown
    have hlen : L.length = k := by rw [hL]; simp [heads]
    have HO := Lib.hid hown
    have HL := Lib.hid hlen
    have HLL := Lib.hid hL
    clear hown hlen hL
    by_cases hlt : 127 < x
    · have hk8 : k < 8 := by
        rcases Nat.lt_or_ge k 8 with h | h
        · exact h
        · have hk8' : k = 8 := by omega
          have := HX.out
          rw [hk8'] at this
          omega
      have HE : Hid (128 + (x : Int) % 128 = rowN m k + 128) := by show _ = _; unfold rowN; rw [← HX.out]; push_cast; omega
      have hxi : (127 : Int) < (x : Int) := by omega
      go_wp2_with (at_builtin; refine wpList_append_own _ rfl (.tmp 6) (.tmp 11) 22 rfl w.heap.size 5 i0 (.int .u8 0) 1 1 Try.underlying22 hi hz0 hz1 hz2 rfl (by decide) _ _ _ rfl (World.ownsRow.alloc HO.out _) ⟨wr.heap.size, 0, none⟩ 1 1 [.int .u8 (128 + (x : Int) % 128)] rfl rfl (cell_one_new _ _ _) (by simp [Value.oneCell']) (by rw [HL.out]; unfold maxLen; omega) (by rw [HL.out]; omega) (by simp; omega) ?_)
      intro v' w2 hown' hgrow _
      have R := Lib.hid (step1 HO.out hbel hbw HE.out hown' hgrow)
      clear hown' hgrow
      go_wp2
      go_roundw
      case rel => exact ⟨k + 1, x / 128, by omega, by go_num, (by show _ = _; rw [← div_step, ← HX.out]), by omega, by rw [heads_succ, ← HLL.out]; exact R.out.1, .inr (by
        have h1 := HX.out
        have h2 : 128 ≤ m / 2 ^ (7 * k) := by omega
        rw [Nat.le_div_iff_mul_le (Nat.two_pow_pos _)] at h2
        rw [show 7 * (k + 1) = 7 * k + 7 from by omega, Nat.pow_add]; omega), R.out.2.1, R.out.2.2⟩
      case measure => simp [intOf]; omega
    · have hke : sizeN m = k + 1 := by
        refine sizeN_pow k m HK.out ?_
        have h1 := HX.out
        have h2 : m / 2 ^ (7 * k) < 128 := by omega
        rw [Nat.div_lt_iff_lt_mul (Nat.two_pow_pos _)] at h2
        rw [show 7 * (k + 1) = 7 * k + 7 from by omega, Nat.pow_add]; omega
      have HE : Hid ((x : Int) = rowN m k) := by show _ = _; unfold rowN; rw [← HX.out]; push_cast; omega
      have HF : Hid (encR m = L ++ [rowN m k]) := by show _ = _; unfold encR; rw [hke, HLL.out]; simp
      have hxi : (x : Int) ≤ (127 : Int) := by omega
      clear hke
      go_wp2_with (at_builtin; refine wpList_append_own _ rfl (.tmp 15) (.tmp 18) 22 rfl w.heap.size 5 i0 (.int .u8 0) 1 1 Try.underlying22 hi hz0 hz1 hz2 rfl (by decide) _ _ _ rfl (World.ownsRow.alloc HO.out _) ⟨wr.heap.size, 0, none⟩ 1 1 [.int .u8 (x : Int)] rfl rfl (cell_one_new _ _ _) (by simp [Value.oneCell']) (by rw [HL.out]; unfold maxLen; omega) (by rw [HL.out]; omega) (by simp; omega) ?_)
      intro v' w2 hown' hgrow _
      have R := Lib.hid (step1 HO.out hbel hbw HE.out hown' hgrow)
      clear hown' hgrow
      go_wp2
      go_ret
      exact ⟨_, rfl, by rw [HF.out]; exact R.out.1, R.out.2.1⟩

theorem heldN_cast (n : Int) : min (max n 0) 4611686018427387903 = ((heldN n : Nat) : Int) := by unfold heldN; omega
theorem heldN_le (n : Int) : heldN n ≤ 4611686018427387903 := by unfold heldN; omega
theorem encR_le (m : Nat) (h : m ≤ 4611686018427387903) : (encR m).length ≤ 9 := by rw [encR_length]; exact sizeN_le 8 m (by omega)

set_option maxHeartbeats 400000 in
theorem rput_any (v : Value) (l : List Int) (n : Int) (w : World) (h : Sl w v l) (hl : l.length + 9 ≤ 140737488355328) :
    Calls Try.prog 12 #[v, .int .i64 n] w fun e w' => ∃ v', e = .returned v' ∧ Own w' w.heap.size v' (l ++ encR (heldN n)) ∧ Below w.heap.size w w' := by
  have hh := held_any n 0 4611686018427387903 w (by omega)
  rw [heldN_cast] at hh
  have hm := heldN_le n
  have he := encR_le _ hm
  have ho := encR_oct (heldN n)
  generalize heldN n = m at *
  have HH := Lib.hid hh
  have HS := Lib.hid h
  have HO := Lib.hid ho
  clear hh h ho
  go_enter Try.func12, Try.ntmps12
  go_wp2_with fail
  refine HH.out.mono ?_
  rintro e w' ⟨rfl, rfl⟩
  go_wp2_with fail
  refine (rgroups_any m w hm).mono ?_
  rintro e w1 ⟨v1, rfl, hown, hb1⟩
  have HS1 := Lib.hid (HS.out.later hb1)
  have HS2 := Lib.hid (hown.sl HO.out)
  have hsz := hb1.size
  clear hown
  go_wp2_with fail
  refine (behind_any v v1 l (encR m) w1 HS1.out HS2.out (by omega)).mono ?_
  rintro e w2 ⟨v2, rfl, hown2, hb2⟩
  have HO2 := Lib.hid (hown2.lower hsz)
  clear hown2
  go_wp2
  go_ret
  exact ⟨_, rfl, HO2.out, hb1.trans (hb2.mono hsz)⟩

set_option maxHeartbeats 400000 in
theorem rsize_any (n : Int) (w : World) :
    Calls Try.prog 18 #[.int .i64 n] w fun e w' => e = .returned (.int .i64 (sizeN (heldN n) : Nat)) ∧ Below w.heap.size w w' := by
  have hh := held_any n 0 4611686018427387903 w (by omega)
  rw [heldN_cast] at hh
  have hm := heldN_le n
  have ho := encR_oct (heldN n)
  generalize heldN n = m at *
  have HH := Lib.hid hh
  have HO := Lib.hid ho
  clear hh ho
  go_enter Try.func18, Try.ntmps18
  go_wp2_with fail
  refine HH.out.mono ?_
  rintro e w' ⟨rfl, rfl⟩
  go_wp2_with fail
  refine (rgroups_any m w hm).mono ?_
  rintro e w1 ⟨v1, rfl, hown, hb1⟩
  obtain ⟨a, cap, rfl, hB⟩ := hown.bytes HO.out
  clear hown hB
  rw [encR_length]
  go_wp2
  go_ret
  exact ⟨rfl, hb1⟩

theorem same_any (v1 v2 : Value) (l : List Int) (w : World) (h1 : Sl w v1 l) (h2 : Sl w v2 l) :
    Calls Try.prog 10 #[v1, v2] w fun e w' => e = .returned (.bool true) ∧ w = w' := by
  obtain ⟨a1, c1, rfl, hB1, hn1, hc1⟩ := h1
  obtain ⟨a2, c2, rfl, hB2, hn2, hc2⟩ := h2
  have r1 := run_str hB1 l.length c1 rfl
  have r2 := run_str hB2 l.length c2 rfl
  generalize strOfNums l = S at *
  clear hB1 hB2 hn1 hn2 hc1 hc2
  generalize l.length = n at *
  go_enter Try.func10, Try.ntmps10
  go_wp2
  go_ret
  exact ⟨rfl, rfl⟩
end Go.Proofs.Ytkojldjgjmaodaa
