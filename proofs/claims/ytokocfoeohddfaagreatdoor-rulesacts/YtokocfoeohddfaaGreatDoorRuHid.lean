/- rules: Act, Matches, Hidden, Safe. (A template.) -/
import Derived.Test.YtokocfoeohddfaaGreatDoorRuAct
namespace Go.Proofs.YtokocfoeohddfaaGreatDoor.Pa
open Go.RowKit
set_option linter.unusedVariables false
set_option linter.unusedSimpArgs false
set_option maxRecDepth 100000

def LightR (L : List Ru) : Prop := L.length ≤ 4611686018427387904 ∧ ∀ r ∈ L, r.pat.length ≤ 4611686018427387904
def actR (L : List Ru) (p : L8) (dir drop : Bool) : Int := if ruledB p = true then firstR L p dir drop else 0
theorem act_any (L : List Ru) (v : Value) (p : L8) (dir drop : Bool) (w : World) (hv : RuAt w v L) (hl : LightR L) (hp : p.length ≤ 140737488355328) :
    Calls Tryz.prog 8 #[v, .string (mk p), .bool dir, .bool drop] w fun e w' => e = .returned (.int .i64 (actR L p dir drop)) ∧ Below w.heap.size w w' := by
  have HRU := Lib.hid (ruled_any p w hp)
  have HF : Hid (∀ W, Below w.heap.size w W → Calls Tryz.prog 23 #[v, .string (mk p), .bool dir, .bool drop] W fun e w' => e = .returned (.int .i64 (firstR L p dir drop)) ∧ Below w.heap.size w w') := fun W hW => (first_any L v p dir drop W (hv.later hW) hl.1 hl.2 hp).mono fun e w' ⟨h1, h2⟩ => ⟨h1, hW.trans (h2.mono hW.size)⟩
  obtain ⟨a, c, rfl, -⟩ := hv
  unfold actR
  generalize firstR L p dir drop = x at *
  clear hl hp
  generalize L.length = n at *
  generalize mk p = q at *
  cases hb : ruledB p with
  | false =>
    rw [hb] at HRU
    rw [if_neg (by simp)]
    clear hb
    go_enter Tryz.func8, Tryz.ntmps8
    go_wp2_with (go_at_call 16; refine HRU.out.mono ?_; rintro e w2 ⟨rfl, hb⟩; have HB := Lib.hid hb; clear hb)
    go_ret
    exact ⟨rfl, HB.out⟩
  | true =>
    rw [hb] at HRU
    rw [if_pos rfl]
    clear hb
    go_enter Tryz.func8, Tryz.ntmps8
    go_wp2_with (first
      | (go_at_call 16; refine HRU.out.mono ?_; rintro e w2 ⟨rfl, hb⟩; have HB := Lib.hid hb; clear hb)
      | (go_at_call 23; refine (HF.out _ HB.out).mono ?_; rintro e w3 ⟨rfl, hb⟩; have HB3 := Lib.hid hb; clear hb))
    go_ret
    exact ⟨rfl, HB3.out⟩
def safeB (L : List Ru) (p : L8) (dir : Bool) : Bool := actR L p dir true == 3
theorem safe_any (L : List Ru) (v : Value) (p : L8) (dir : Bool) (w : World) (hv : RuAt w v L) (hl : LightR L) (hp : p.length ≤ 140737488355328) :
    Calls Tryz.prog 12 #[v, .string (mk p), .bool dir] w fun e w' => e = .returned (.bool (safeB L p dir)) ∧ Below w.heap.size w w' := by
  have HA := Lib.hid (act_any L v p dir true w hv hl hp)
  obtain ⟨a, c, rfl, -⟩ := hv
  unfold safeB
  generalize actR L p dir true = x at *
  clear hl hp
  generalize L.length = n at *
  generalize mk p = q at *
  go_enter Tryz.func12, Tryz.ntmps12
  go_wp2_with (go_at_call 8; refine HA.out.mono ?_; rintro e w2 ⟨rfl, hb⟩; have HB := Lib.hid hb; clear hb)
  go_ret
  exact ⟨rfl, HB.out⟩
def matchR (r : Ru) (p : L8) (dir : Bool) : Bool := ruledB p && fitsB r p dir
theorem matches_any (r : Ru) (p : L8) (dir : Bool) (w : World) (hl : r.pat.length ≤ 4611686018427387904) (hp : p.length ≤ 140737488355328) :
    Calls Tryz.prog 6 #[r.val, .string (mk p), .bool dir] w fun e w' => e = .returned (.bool (matchR r p dir)) ∧ Below w.heap.size w w' := by
  obtain ⟨w1, hw1⟩ : ∃ w1, w1 = w.alloc (.cells #[.int .i64 r.act, .string (mk r.pat), .bool r.dir, .bool r.anch] 26) := ⟨_, rfl⟩
  have hr1 : w1.heap[w.heap.size]? = some (.cells #[.int .i64 r.act, .string (mk r.pat), .bool r.dir, .bool r.anch] 26) := by rw [hw1]; exact heap_new _ _
  have hb1 : Below w.heap.size w w1 := by rw [hw1]; exact (Below.refl _ _).alloc (Nat.le_refl _) _
  have HRU : Hid (Calls Tryz.prog 16 #[.string (mk p)] w1 fun e w' => e = .returned (.bool (ruledB p)) ∧ w'.heap[w.heap.size]? = some (.cells #[.int .i64 r.act, .string (mk r.pat), .bool r.dir, .bool r.anch] 26) ∧ Below w.heap.size w w') :=
    (ruled_any p w1 hp).mono fun e w' ⟨h1, h2⟩ => ⟨h1, (h2.block _ (Array.getElem?_eq_some_iff.1 hr1).1).trans hr1, hb1.trans (h2.mono hb1.size)⟩
  have HF := Lib.hid (fun W => fits_any r p dir W hl hp)
  rw [hw1] at HRU
  unfold matchR
  obtain ⟨act, pat, rd, an⟩ := r
  unfold Ru.val at HF ⊢
  simp only at HF HRU ⊢
  generalize fitsB ⟨act, pat, rd, an⟩ p dir = x at *
  clear hl hp hw1 hr1 hb1
  cases hb : ruledB p with
  | false =>
    rw [hb] at HRU
    clear hb HF
    generalize mk p = q at *
    generalize mk pat = pp at *
    go_enter Tryz.func6, Tryz.ntmps6
    go_wp2_with (go_at_call 16; refine HRU.out.mono ?_; rintro e w2 ⟨rfl, hr, hb⟩; have HB := Lib.hid hb; clear hb hr)
    go_ret
    exact ⟨rfl, HB.out⟩
  | true =>
    rw [hb] at HRU
    clear hb
    generalize mk p = q at *
    generalize mk pat = pp at *
    go_enter Tryz.func6, Tryz.ntmps6
    go_wp2_with (first
      | (go_at_call 16; refine HRU.out.mono ?_; rintro e w2 ⟨rfl, hr, hb⟩; obtain ⟨⟨k0, k1, k2, k3⟩, -⟩ := cells4 hr; have HB := Lib.hid hb; clear hb hr)
      | (go_at_call 17; refine (HF.out _).mono ?_; rintro e w3 ⟨rfl, hb⟩; have HB3 := Lib.hid (HB.out.trans (hb.mono HB.out.size)); clear hb))
    go_ret
    exact ⟨by simp, HB3.out⟩
theorem parentL_lt {p : L8} (h : p ≠ []) : (parentL p).length < p.length := by
  have hpos : 0 < p.length := by cases p with
    | nil => exact absurd rfl h
    | cons c r => simp
  unfold parentL
  rw [List.length_take]
  rcases lastS_spec p with ⟨h1, _⟩ | ⟨i, h1, h2, _⟩ <;> omega
def hidN (L : List Ru) : Nat → L8 → Bool → Bool
  | 0, _, _ => false
  | n + 1, p, dir => if p = [] then false else if firstR L p dir false = 2 then true else hidN L n (parentL p) true
theorem hidN_eq (L : List Ru) (n : Nat) (p : L8) (dir : Bool) : hidN L (n + 1) p dir = if p = [] then false else if firstR L p dir false = 2 then true else hidN L n (parentL p) true := by rw [hidN]
def hiddenB (L : List Ru) (p : L8) (dir : Bool) : Bool := ruledB p && hidN L (p.length + 1) p dir
set_option maxHeartbeats 8000000 in
theorem hidden_any (L : List Ru) (v : Value) (p : L8) (dir : Bool) (w : World) (hv : RuAt w v L) (hl : LightR L) (hp : p.length ≤ 140737488355328) :
    Calls Tryz.prog 10 #[v, .string (mk p), .bool dir] w fun e w' => e = .returned (.bool (hiddenB L p dir)) ∧ Below w.heap.size w w' := by
  have HRU := Lib.hid (ruled_any p w hp)
  have HF : Hid (∀ q d W, q.length ≤ p.length → Below w.heap.size w W → Calls Tryz.prog 23 #[v, .string (mk q), .bool d, .bool false] W fun e w' => e = .returned (.int .i64 (firstR L q d false)) ∧ Below w.heap.size w w') := fun q d W hq hW => (first_any L v q d false W (hv.later hW) hl.1 hl.2 (by omega)).mono fun e w' ⟨h1, h2⟩ => ⟨h1, hW.trans (h2.mono hW.size)⟩
  obtain ⟨a, c, rfl, -⟩ := hv
  have HP := Lib.hid hp
  clear hl hp
  cases hb : ruledB p with
  | false =>
    rw [hb] at HRU
    have e : hiddenB L p dir = false := by unfold hiddenB; rw [hb]; rfl
    rw [e]
    clear hb e HF HP
    generalize L.length = n at *
    generalize mk p = q at *
    go_enter Tryz.func10, Tryz.ntmps10
    go_wp2_with (go_at_call 16; refine HRU.out.mono ?_; rintro e w2 ⟨rfl, hb⟩; have HB := Lib.hid hb; clear hb)
    go_ret
    exact ⟨rfl, HB.out⟩
  | true =>
    rw [hb] at HRU
    obtain ⟨R, hR⟩ : ∃ R, R = hiddenB L p dir := ⟨_, rfl⟩
    rw [← hR]
    have H0 : Hid (R = hidN L (p.length + 1) p dir) := by show _ = _; rw [hR]; unfold hiddenB; rw [hb]; rfl
    clear hb hR
    generalize hLn : L.length = nn at *
    clear hLn
    go_enter Tryz.func10, Tryz.ntmps10
    go_wp2_with (go_at_call 16; refine HRU.out.mono ?_; rintro e w2 ⟨rfl, hb⟩; have HB := Lib.hid hb; clear hb)
    go_loopw [1, 2] (fun x y wr => ∃ (q : L8) (d : Bool) (n : Nat), x = .string (mk q) ∧ y = .bool d ∧ Hid (q.length < n) ∧ Hid (q.length ≤ p.length) ∧ Hid (R = hidN L n q d) ∧ Hid (Below w.heap.size w wr)) (fun x _ _ => match x with | .string s => s.size | _ => 0)
    case atStart => exact ⟨p, dir, p.length + 1, rfl, rfl, Nat.lt_succ_self _, Nat.le_refl _, H0, HB⟩
    case round =>
      clear H0 HB HRU
      obtain ⟨q, d, n, rfl, rfl, HQ, HQP, HRQ, HB⟩ := hrel
      obtain ⟨m, rfl⟩ : ∃ m, n = m + 1 := ⟨n - 1, by have := HQ.out; omega⟩
      by_cases hn : q = []
      · have he : (mk q).toList.isEmpty = true := by rw [mk_toList, hn]; rfl
        have HRF : Hid (R = false) := by show _ = _; rw [HRQ.out, hidN_eq, if_pos hn]
        clear hn
        generalize mk q = s at *
        go_wp2
        go_ret
        exact ⟨by rw [HRF.out]; rfl, HB.out⟩
      · have he : (mk q).toList.isEmpty = false := by
          rw [mk_toList]; cases q with
          | nil => exact absurd rfl hn
          | cons c r => rfl
        have HF1 := Lib.hid (HF.out q d wr HQP.out HB.out)
        have hpl := parentL_lt hn
        have HPA := Lib.hid (fun W => parent_any q W (by have := HP.out; have := HQP.out; omega))
        by_cases h2 : firstR L q d false = 2
        · have HRF : Hid (R = true) := by show _ = _; rw [HRQ.out, hidN_eq, if_neg hn, if_pos h2]
          rw [h2] at HF1
          clear hn hpl h2 HPA
          generalize mk q = s at *
          go_wp2_with (go_at_call 23; refine HF1.out.mono ?_; rintro e w3 ⟨rfl, hb⟩; have HB3 := Lib.hid hb; clear hb)
          go_ret
          exact ⟨by rw [HRF.out]; rfl, HB3.out⟩
        · have HRN : Hid (R = hidN L m (parentL q) true) := by show _ = _; rw [HRQ.out, hidN_eq, if_neg hn, if_neg h2]
          have hne : (firstR L q d false == 2) = false := by simpa using h2
          have HSZ : Hid ((mk (parentL q)).size < (mk q).size) := by show _ < _; rw [mk_size, mk_size]; exact hpl
          have HL2 : Hid ((parentL q).length < m) := by show _ < _; have := HQ.out; omega
          have HL3 : Hid ((parentL q).length ≤ p.length) := by show _ ≤ _; have := HQP.out; omega
          generalize firstR L q d false = x at *
          clear hn hpl
          go_wp2_with (first
            | (go_at_call 23; refine HF1.out.mono ?_; rintro e w3 ⟨rfl, hb⟩; have HB3 := Lib.hid hb; clear hb)
            | (go_at_call 24; refine (HPA.out _).mono ?_; rintro e w4 ⟨rfl, rfl⟩))
          go_roundw
          case rel => exact ⟨parentL q, true, m, rfl, rfl, HL2, HL3, HRN, HB3⟩
          case measure => exact HSZ.out
end Go.Proofs.YtokocfoeohddfaaGreatDoor.Pa
