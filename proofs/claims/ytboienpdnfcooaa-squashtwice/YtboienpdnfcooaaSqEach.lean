/- squash: what is done with each part; eachPart. (A template: seatgen.py fills it.) -/
import Derived.Test.YtboienpdnfcooaaSqUn
import Derived.BigQuiet
import Derived.Shelf.Abstract
import Derived.Deep.QuietTactic
namespace Go.Proofs.Ytboienpdnfcooaa.Sq
open Go.RowKit Go.Proofs.NumMath Go.Maps
open Num (trip)
set_option linter.unusedVariables false
set_option linter.unusedSimpArgs false
set_option maxRecDepth 1000000

/-- nothing is done -/
theorem check1_any (k d : Nat) (u : Value) (w : World) : Calls Try.prog 31 #[partV k d u] w fun e w' => e = .returned (.tuple #[]) ∧ Below w.heap.size w w' := by
  have hb : ∀ o, Below w.heap.size w (w.alloc o) := fun o => (Below.refl _ _).alloc (Nat.le_refl _) o
  unfold partV
  go_enter Try.func31, Try.ntmps31
  go_wp2
  go_end0
  exact ⟨rfl, hb _⟩

/-- the captured text: its block, what it holds -/
def Cap (base bo : Nat) (t : List Int) (w : World) : Prop := ∃ v, w.heap[bo]? = some (.cells #[v] 22) ∧ Own w base v t
set_option maxHeartbeats 4000000 in
theorem unpack1_any (k d : Nat) (u : Value) (told t : List Int) (base bo : Nat) (w : World) (hbb : base ≤ bo) (hc : Cap base bo t w) (hu : Sl w u told) (ho : Oct t)
    (hd : d = 0 ∨ (1 ≤ d ∧ d ≤ t.length)) (hk : t.length + k ≤ 65536) (ht : told.length ≤ 65536) :
    Calls Try.prog 28 #[partV k d u, .pointer (some ⟨bo, 0, none⟩)] w fun e w' => e = .returned (.tuple #[]) ∧ Cap base bo (ex t k d told) w' ∧ Below base w w' ∧
      (∀ (b : Nat) (cs : Array Value) (ty : TypeId) (fr : Nat × Nat), w.heap[b]? = some (.cells cs ty fr) → ty ≠ 5 → b ≠ bo → w'.heap[b]? = some (.cells cs ty fr)) := by
  obtain ⟨v, hh, hv⟩ := hc
  obtain ⟨va, vc, ev⟩ := own_form hv
  obtain ⟨ua, uc, eu⟩ : ∃ ua uc, u = .slice ua told.length uc := by obtain ⟨x, y, e, _⟩ := hu; exact ⟨x, y, e⟩
  have hbo : bo < w.heap.size := heap_lt hh
  obtain ⟨w1, hw1⟩ : ∃ w1, w1 = w.alloc (.cells #[.int .i64 (k : Nat), .int .i64 (d : Nat), u] 49) := ⟨_, rfl⟩
  have hb1 : Below w.heap.size w w1 := by rw [hw1]; exact (Below.refl _ _).alloc (Nat.le_refl _) _
  have HP := Lib.hid (putBehind_any k d u v told t base w1 (hv.below hb1) (Nat.le_trans (Nat.le_trans hbb (Nat.le_of_lt hbo)) hb1.size) (hu.later hb1) ho hd hk ht)
  have hh1 : w1.heap[bo]? = some (.cells #[v] 22) := by rw [hb1.block bo hbo]; exact hh
  have d0 : w1.cell? ⟨bo, 0, none⟩ = some v := by rw [cell_of_row w1 _ 0 _ _ (0, 0) hh1]; rfl
  have HH1 := Lib.hid hh1
  have HB1 := Lib.hid hb1
  obtain ⟨tn, htn⟩ : ∃ tn, tn = told.length := ⟨_, rfl⟩
  obtain ⟨n, hn⟩ : ∃ n, n = t.length := ⟨_, rfl⟩
  rw [← htn] at eu
  rw [← hn] at ev
  subst eu ev
  clear hv hu hb1 hh1 ho hd hk ht htn hn hh
  rw [hw1] at d0
  unfold partV at *
  go_enter Try.func28, Try.ntmps28
  go_wp2_with fail
  rw [← hw1]
  clear hw1 d0
  refine HP.out.mono ?_
  rintro e w2 ⟨v2, rfl, hv2, hb2, ho2⟩
  obtain ⟨a2, c2, e2⟩ := own_form hv2
  generalize (ex t k d told).length = n2 at e2
  subst e2
  have hh2 := ho2 _ _ _ _ HH1.out (by decide)
  have f2 : w2.frozen? ⟨bo, 0, none⟩ = false := unfrozen hh2
  have x2 : w2.cell? ⟨bo, 0, none⟩ = some (.slice va n vc) := by rw [cell_of_row w2 _ 0 _ _ (0, 0) hh2]; rfl
  have HV2 := Lib.hid hv2
  have HB2 := Lib.hid hb2
  have HO2 := Lib.hid ho2
  have HH2 := Lib.hid hh2
  clear hv2 hb2 ho2 hh2 HP
  go_wp2
  go_end0
  have hb02 : Below base w w2 := (HB1.out.mono (Nat.le_trans hbb (Nat.le_of_lt hbo))).trans HB2.out
  refine ⟨rfl, ⟨.slice a2 n2 c2, ?_, ?_⟩, ?_, fun b cs ty fr hb ht hne => ?_⟩
  · rw [Joins.block_setCell HH2.out]; rfl
  · obtain ⟨q1, q2⟩ := HV2.out
    refine ⟨q1, ?_⟩
    rcases q2 with q2 | ⟨g, cp, cur, q3, q4, q5, q6⟩
    · exact .inl q2
    · refine .inr ⟨g, cp, cur, q3, q4, ?_, q6⟩
      rw [Below.heap_setCell _ _ _ _ (by
        show g ≠ bo
        intro e
        subst e
        rw [HH2.out] at q5
        injection q5 with q5
        injection q5 with _ q5
        revert q5
        decide)]
      exact q5
  · exact hb02.setCell (p := ⟨bo, 0, none⟩) hbb _
  · rw [Below.heap_setCell _ _ _ _ (by show b ≠ bo; exact hne)]
    exact HO2.out _ _ _ _ (by rw [HB1.out.block b (heap_lt hb)]; exact hb) ht

theorem rp_err {l : List Int} {p s : Nat} {af : Bool} {er : Int} (hl : l.length ≤ 140737488355328) (h : rp l p s af = .error er) : er ≠ 0 := by
  unfold rp rm rr at h
  repeat' split at h
  all_goals first
    | (cases h; done)
    | (injection h with h; subst h; first | assumption | decide)
/-- an end of eachPart -/
def EP (r : Except Int (List Int)) : Ending :=
  match r with
  | .error er => .returned (.tuple #[.int .i64 0, .int .i64 er])
  | .ok t => .returned (.tuple #[.int .i64 (t.length : Nat), .int .i64 0])
set_option maxHeartbeats 8000000 in
theorem eachPart_any (fn : FuncId) (hent : Enters Try.prog fn) (lb : Array Value) (J : List Int → World → Prop) (base : Nat) (u : Value) (l : List Int) (w : World) (hbase : base ≤ w.heap.size)
    (hu : ∃ a c, u = .slice a l.length c) (hS : ∀ W, Below base w W → Sl W u l) (hO : Oct l) (hl : l.length ≤ 140737488355328) (hJ0 : J [] w) (hJb : ∀ t W W', J t W → Below W.heap.size W W' → J t W')
    (hdo : ∀ t k d ua told W, J t W → w.heap.size ≤ W.heap.size → Sl W ua told → Oct t → (d = 0 ∨ (1 ≤ d ∧ d ≤ t.length)) → t.length + k ≤ 65536 → told.length ≤ 65536 → Calls Try.prog fn (#[partV k d ua] ++ lb) W fun e W' => e = .returned (.tuple #[]) ∧ J (ex t k d told) W' ∧ Below base W W' ∧
      (∀ (b : Nat) (cs : Array Value) (ty : TypeId) (fr : Nat × Nat), W.heap[b]? = some (.cells cs ty fr) → ty ≠ 5 → w.heap.size ≤ b → W'.heap[b]? = some (.cells cs ty fr))) :
    Calls Try.prog 27 #[u, .func (.func fn) #[] lb] w fun e w' => e = EP (un l 0 [] false) ∧ (∀ t, un l 0 [] false = .ok t → J t w') ∧ Below base w w' := by
  obtain ⟨a, cap, rfl⟩ := hu
  have HENT : Hid (∀ args W, (callFunc fn args).run Try.prog W = .ok (.enter fn args) W) := hent
  have HS := Lib.hid hS
  have HJB := Lib.hid hJb
  have HDO := Lib.hid hdo
  have HJ0 : Hid (J [] w) := hJ0
  have HO := Lib.hid hO
  obtain ⟨N, hN⟩ : ∃ N, N = l.length := ⟨_, rfl⟩
  have HN := Lib.hid hN
  rw [← hN] at hl ⊢
  obtain ⟨r, hr⟩ : ∃ r, r = un l 0 [] false := ⟨_, rfl⟩
  have HR := Lib.hid hr
  rw [← hr]
  clear hS hJb hdo hJ0 hO hN hr
  go_enter Try.func27, Try.ntmps27
  go_wp2
  go_loopw [6, 7, 8] (fun vs vp va wr => ∃ (s p : Nat) (af : Bool) (t : List Int), vs = .int .i64 s ∧ vp = .int .i64 p ∧ va = .bool af ∧ p ≤ N ∧ s ≤ 65536 ∧ Hid (s = t.length) ∧ Hid (Oct t) ∧ Hid (J t wr) ∧ Hid (r = un l p t af) ∧ Hid (Below base w wr)) (fun _ vp _ _ => N - (intOf vp).toNat)
  case atStart => exact ⟨0, 0, false, [], rfl, rfl, rfl, by omega, by omega, (show _ = _ from rfl), (fun x hx => by cases hx), HJ0, HR, Below.refl _ _⟩
  case round =>
    obtain ⟨s, p, af, t, rfl, rfl, rfl, hp, hs, HST, HOT, HJ, HRU, HB⟩ := hrel
    have hwr : w.heap.size ≤ wr.heap.size := HB.out.size
    by_cases hlt : p < N
    · have hltI : (p : Int) < (N : Int) := by omega
      have hpl : p < l.length := by rw [← HN.out]; exact hlt
      have hrp := readPart_any _ l p s af wr (HS.out wr HB.out) (by rw [← HN.out]; exact hl) hs
      rw [← HN.out] at hrp
      cases hX : rp l p s af with
      | error er =>
        rw [hX] at hrp
        have HRP := Lib.hid hrp
        have HER : Hid (er ≠ 0) := rp_err (by rw [← HN.out]; exact hl) hX
        have HRE : Hid (r = .error er) := by show _ = _; rw [HRU.out]; exact un_err l p t af er hpl (by rw [← HST.out]; exact hX)
        clear hrp hX
        go_wp2_with fail
        refine HRP.out.mono ?_
        rintro e w2 ⟨he, hb2⟩
        simp only [Out] at he
        subst he
        clear HRP
        have HJ2 := Lib.hid (HJB.out t wr w2 HJ.out hb2)
        have hb02 : Below base w w2 := HB.out.trans (hb2.mono (Nat.le_trans hbase hwr))
        have HB02 := Lib.hid hb02
        have hsz2 := hb02.size
        have hne : un l p t af ≠ .ok [] ∨ True := .inr trivial
        have hb3 : ∀ o, Below w2.heap.size w2 (w2.alloc o) := fun o => (Below.refl _ _).alloc (Nat.le_refl _) o
        by_cases her : er = 0
        · exfalso
          exact HER.out her
        have herb : (er == 0) = false := by simpa using her
        clear hb2 hb02 hne
        go_wp2
        refine bodyPost_ret (v := .tuple #[.int .i64 0, .int .i64 er]) (by simp [results, go_sem]) rfl ⟨by rw [HRE.out]; rfl, fun t' ht' => (by rw [HRE.out] at ht'; cases ht'), ?_⟩
        exact HB02.out.trans ((hb3 _).mono (by omega))
      | ok x =>
        obtain ⟨k, d, told, beh⟩ := x
        have hR := rp_ok hs HO.out (by rw [← HN.out]; exact hl) hX
        rw [hX] at hrp
        have HRP := Lib.hid hrp
        have HRN : Hid (r = un l beh (ex t k d told) (decide (d = 0))) := by show _ = _; rw [HRU.out]; exact un_ok hpl (by rw [← HST.out]; exact hX) hR.1
        have HRPP := Lib.hid hR
        clear hrp hX hR
        go_wp2_with fail
        refine HRP.out.mono ?_
        rintro e w2 ⟨⟨ua, he, hua⟩, hb2⟩
        subst he
        clear HRP
        obtain ⟨xa, xc, ex1, -, -, -⟩ := id hua
        have HUA := Lib.hid hua
        generalize told.length = tn at ex1
        subst ex1
        have HB2 := Lib.hid hb2
        have hb2s := hb2.size
        have hba : Below w2.heap.size w2 (w2.alloc (.cells #[.int .i64 (k : Nat), .int .i64 (d : Nat), .slice xa tn xc] 49)) := (Below.refl _ _).alloc (Nat.le_refl _) _
        have hb2a : Below wr.heap.size wr (w2.alloc (.cells #[.int .i64 (k : Nat), .int .i64 (d : Nat), .slice xa tn xc] 49)) := hb2.trans (hba.mono hb2s)
        have HBA : Hid (Below base w (w2.alloc (.cells #[.int .i64 (k : Nat), .int .i64 (d : Nat), .slice xa tn xc] 49))) := HB.out.trans (hb2a.mono (Nat.le_trans hbase hwr))
        have HBX : Hid ((w2.alloc (.cells #[.int .i64 (k : Nat), .int .i64 (d : Nat), .slice xa tn xc] 49)).heap[w2.heap.size]? = some (.cells #[.int .i64 (k : Nat), .int .i64 (d : Nat), .slice xa tn xc] 49)) := heap_new _ _
        obtain ⟨g1, g2, g3, g4, g5⟩ := HRPP.out
        have hdd : d = 0 ∨ (1 ≤ d ∧ d ≤ t.length) := by rcases g4 with ⟨h, _⟩ | ⟨h, h', _⟩; exact .inl h; exact .inr ⟨h, by rw [← HST.out]; exact h'⟩
        have htl : told.length ≤ 65536 := by rcases g4 with ⟨_, h⟩ | ⟨_, _, h⟩; omega; (rw [h]; simp)
        have HCA := Lib.hid (HDO.out t k d (.slice xa tn xc) told _ (HJB.out t wr _ HJ.out hb2a) (by have := hba.size; omega) (HUA.out.later hb2a) HOT.out hdd (by rw [← HST.out]; omega) htl)
        have HEX : Hid ((ex t k d told).length = s + k) := by show _ = _; rw [HST.out]; exact ex_length (l := l) (p := p) (beh := beh) (by rw [← HST.out]; exact HRPP.out)
        have HEO : Hid (Oct (ex t k d told)) := ex_oct HRPP.out HOT.out
        have hbeh : beh ≤ N := by rw [HN.out]; exact g2
        have hpb : p < beh := g1
        have hks : k + s ≤ 65536 := g3
        clear hb2 hua hba hb2a g4 g5 hdd htl
        unfold partV at HCA
        go_wp2_with fail
        rw [HENT.out]
        show Calls Try.prog fn _ _ _
        refine HCA.out.mono ?_
        rintro e w4 ⟨rfl, hJ4, hb4, hr4⟩
        have HJ4 := Lib.hid hJ4
        have hx4 := hr4 _ _ _ _ HBX.out (by decide) (by omega)
        have e0 : w4.cell? ⟨w2.heap.size, 0, none⟩ = some (.int .i64 (k : Nat)) := by rw [cell_of_row w4 _ 0 _ _ (0, 0) hx4]; rfl
        have e1 : w4.cell? ⟨w2.heap.size, 1, none⟩ = some (.int .i64 (d : Nat)) := by rw [cell_of_row w4 _ 1 _ _ (0, 0) hx4]; rfl
        have HB4 : Hid (Below base w w4) := HBA.out.trans hb4
        have w1' : IntKind.i64.wrap ((s : Int) + (k : Int)) = (s : Int) + (k : Int) := by rw [IntKind.wrap_i64]; omega
        have HJD : Hid (∀ q, J (ex t k d told) (w4.drewN q)) := fun q => HJB.out _ _ _ HJ4.out ⟨rfl, rfl, rfl, Nat.le_refl _, fun _ _ => rfl⟩
        have HBD : Hid (∀ q, Below base w (w4.drewN q)) := fun q => ⟨HB4.out.os, HB4.out.tape, HB4.out.output, HB4.out.size, HB4.out.block⟩
        clear hJ4 hb4 hr4 hx4 HCA
        by_cases hd0 : d = 0
        · have hdI : ((d : Int) == 0) = true := by simpa using hd0
          have HAF : Hid (decide (d = 0) = true) := decide_eq_true hd0
          go_wp2
          go_quiet (fail)
          go_wp2
          go_roundw
          case rel => exact ⟨s + k, beh, true, ex t k d told, by go_num, rfl, rfl, hbeh, by omega, HEX.out.symm, HEO, HJD.out _, by show _ = _; rw [HRN.out, HAF.out], HBD.out _⟩
          case measure => simp [intOf]; omega
        · have hdI : ((d : Int) == 0) = false := by simpa using hd0
          have HAF : Hid (decide (d = 0) = false) := decide_eq_false hd0
          go_wp2
          go_quiet (fail)
          go_wp2
          go_roundw
          case rel => exact ⟨s + k, beh, false, ex t k d told, by go_num, rfl, rfl, hbeh, by omega, HEX.out.symm, HEO, HJD.out _, by show _ = _; rw [HRN.out, HAF.out], HBD.out _⟩
          case measure => simp [intOf]; omega
    · have hltI : ¬ (p : Int) < (N : Int) := by omega
      have HRE : Hid (r = .ok t) := by show _ = _; rw [HRU.out]; exact un_end l p t af (by rw [← HN.out]; omega)
      have HST' := Lib.hid HST.out
      go_wp2
      refine bodyPost_ret (v := .tuple #[.int .i64 (s : Nat), .int .i64 0]) (by simp [results, go_sem]) rfl ⟨?_, ?_, HB.out⟩
      · rw [HRE.out, HST'.out]; rfl
      · intro t' ht'
        rw [HRE.out] at ht'
        injection ht' with ht'
        subst ht'
        exact HJ.out
end Go.Proofs.Ytboienpdnfcooaa.Sq
