/- blocks.Each: its copies, its rounds. -/
import Derived.Test.YtkppnbehkmpogaaDoorBlk2
import Derived.Test.YtkppnbehkmpogaaDoorGOwn
import Derived.Test.YtkppnbehkmpogaaDoorRangeLaw
import Derived.Lib.SliceRun
namespace Go.Proofs.YtkppnbehkmpogaaDoor
open Go.RowKit Go.Shelf Go.Proofs.BlkMath Go.Proofs.RangeLaw
set_option linter.unusedVariables false
attribute [local go_sem] Oper.semAt_some

theorem run_isnil (n cap : Nat) (W : World) : (binOp .eql 22 (.slice none n cap) (.slice none 0 0)).run Tryd.prog W = .ok (.bool true) W :=
  Lib.run_eql_slice_nil W 22 5 none n cap 0 0 Tryd.underlying22
theorem run_notnil (ad : Addr) (n cap : Nat) (W : World) : (binOp .eql 22 (.slice (some ad) n cap) (.slice none 0 0)).run Tryd.prog W = .ok (.bool false) W :=
  Lib.run_eql_slice_nil W 22 5 (some ad) n cap 0 0 Tryd.underlying22

set_option maxHeartbeats 1000000 in
theorem clone_any (u : Value) (l : List Int) (w : World) (hS : Sl w u l) (hl : l.length ≤ 140737488355328) :
    Calls Tryd.prog 62 #[u] w fun e w' => ∃ v, e = .returned v ∧ Own w' w.heap.size v l ∧ Below w.heap.size w w' := by
  obtain ⟨a, cap, rfl, hB, hnil, hcap⟩ := hS
  obtain ⟨n, hn⟩ : ∃ n, n = l.length := ⟨_, rfl⟩
  rcases a with _ | ad
  · have hc := hnil rfl
    have e : l = [] := List.eq_nil_of_length_eq_zero (by omega)
    subst e
    subst hc
    have hq := fun n c W => run_isnil n c W
    go_enter Tryd.func62, Tryd.ntmps62
    go_wp2
    go_ret
    exact ⟨_, rfl, Own.nil _ _, Below.refl _ _⟩
  · have hbel : Below w.heap.size w (w.alloc (.cells #[] 5)) := (Below.refl _ _).alloc (Nat.le_refl _) _
    have HSS : Hid (Sl (w.alloc (.cells #[] 5)) (.slice (some ad) l.length cap) l) := ⟨_, _, rfl, hB.later hbel, (fun h => by cases h), hcap⟩
    have HE := Lib.hid (empty_own w)
    have HBL := Lib.hid hbel
    have hl2 : ([] : List Int).length + l.length ≤ 140737488355328 := by simpa using hl
    clear hB hnil hcap hbel
    rw [← hn] at HSS ⊢
    have hq := fun n c W => run_notnil ad n c W
    go_enter Tryd.func62, Tryd.ntmps62
    go_wp2_with (at_builtin; go_must (refine append_sl rfl (.tmp 5) (.tmp 6) rfl w.heap.size _ _ [] l rfl HE.out rfl HSS.out hl2 (by simp) ?_))
    intro v w2 HV hb2
    go_wp2
    go_ret
    exact ⟨v, rfl, by simpa using HV.out, HBL.out.trans hb2⟩

/-- why a text can't be cut -/
def refB (len blk : Int) : Int := if 16 ≤ blk ∧ blk ≤ 4096 then (if len ≤ 131072 then 0 else 7) else 2
theorem refused_any (a : Option Addr) (len cap : Nat) (blk : Int) (w : World) (hl : len ≤ 9223372036854775807) :
    Calls Tryd.prog 56 #[.slice a len cap, .int .i64 blk] w fun e w' => e = .returned (.int .i64 (refB len blk)) ∧ w = w' := by
  obtain ⟨r, hr⟩ : ∃ r, r = refB len blk := ⟨_, rfl⟩
  rw [← hr]
  have HR := Lib.hid hr
  clear hr
  have h1 := fun W => rl_any blk W
  have h2 := fun W => right_any len blk W
  by_cases c1 : 16 ≤ blk ∧ blk ≤ 4096
  · by_cases c2 : (len : Int) ≤ 131072
    · rw [decide_eq_true c1] at h1
      rw [decide_eq_true (show Rt len blk from ⟨⟨by omega, c2⟩, c1⟩)] at h2
      have H1 := Lib.hid h1
      have H2 := Lib.hid h2
      have HV : Hid (r = 0) := by show _ = _; rw [HR.out, refB, if_pos c1, if_pos c2]
      clear h1 h2 c1 c2
      go_enter Tryd.func56, Tryd.ntmps56
      go_wp2_with (first | (go_at_call 60; refine (H1.out _).mono ?_; rintro e w' ⟨rfl, rfl⟩) | (go_at_call 31; refine (H2.out _).mono ?_; rintro e w' ⟨rfl, rfl⟩))
      go_ret
      exact ⟨by rw [HV.out]; rfl, rfl⟩
    · rw [decide_eq_true c1] at h1
      rw [decide_eq_false (show ¬ Rt len blk from fun h => c2 h.1.2)] at h2
      have H1 := Lib.hid h1
      have H2 := Lib.hid h2
      have HV : Hid (r = 7) := by show _ = _; rw [HR.out, refB, if_pos c1, if_neg c2]
      clear h1 h2 c1 c2
      go_enter Tryd.func56, Tryd.ntmps56
      go_wp2_with (first | (go_at_call 60; refine (H1.out _).mono ?_; rintro e w' ⟨rfl, rfl⟩) | (go_at_call 31; refine (H2.out _).mono ?_; rintro e w' ⟨rfl, rfl⟩))
      go_ret
      exact ⟨by rw [HV.out]; rfl, rfl⟩
  · rw [decide_eq_false c1] at h1
    have H1 := Lib.hid h1
    have HV : Hid (r = 2) := by show _ = _; rw [HR.out, refB, if_neg c1]
    clear h1 h2 c1
    go_enter Tryd.func56, Tryd.ntmps56
    go_wp2_with (go_at_call 60; refine (H1.out _).mono ?_; rintro e w' ⟨rfl, rfl⟩)
    go_ret
    exact ⟨by rw [HV.out]; rfl, rfl⟩

/-- the k-th block -/
def piece (L : List Int) (blk k : Nat) : List Int := (L.drop (k * blk)).take blk
/-- what the iterator reads between two rounds -/
def TextAt (n0 tb bb : Nat) (L : List Int) (blk : Int) (W : World) : Prop :=
  n0 ≤ W.heap.size ∧ ∃ ta cap, W.cell? ⟨tb, 0, none⟩ = some (.slice ta L.length cap) ∧ W.cell? ⟨bb, 0, none⟩ = some (.int .i64 blk) ∧ Bytes W ta L ∧ (ta = none → cap = 0) ∧ L.length ≤ cap
/-- what the k-th round is handed -/
def Piece (n0 : Nat) (L : List Int) (blk k : Nat) (vs : Array Value) (W : World) : Prop := ∃ v, vs = #[.int .i64 k, v] ∧ Own W n0 v (piece L blk k)

set_option maxRecDepth 1000000 in
set_option maxHeartbeats 4000000 in
theorem each2_hands (n n0 tb bb blk : Nat) (L : List Int) (w : World) (hR : Rt L.length blk) :
    Hands Tryd.prog n 63 #[.pointer (some ⟨tb, 0, none⟩), .pointer (some ⟨bb, 0, none⟩)] (Piece n0 L blk) (cnt L.length blk).toNat (TextAt n0 tb bb L blk) w := by
  intro l J Jx W hW hTW hT hJb hY h0
  have HT := Lib.hid hT
  have HJB := Lib.hid hJb
  have HY := Lib.hid hY
  have HH0 := Lib.hid h0
  obtain ⟨hnW, ta, cap, c1, c2, hB, hnil, hcap⟩ := hTW
  have hcs := cnt_spec hR
  have hcn : cntB L.length blk = cnt L.length blk := by unfold cntB; rw [if_pos hR]
  have HCN : Hid (∀ W, Calls Tryd.prog 45 #[.int .i64 L.length, .int .i64 blk] W fun e w' => e = .returned (.int .i64 (cnt L.length blk)) ∧ W = w') := by
    intro W; have h := count_any L.length blk W; rw [hcn] at h; exact h
  have HRG : Hid (∀ k : Nat, (k : Int) < cnt L.length blk → ∀ W, Calls Tryd.prog 54 #[.int .i64 L.length, .int .i64 blk, .int .i64 k] W fun e w' => e = .returned (.tuple #[.int .i64 ((k : Int) * blk), .int .i64 (toB L.length blk k), .bool true]) ∧ W = w') := by
    intro k hk W; exact range_yes L.length blk k W (by omega) (by rw [hcn]; exact hk)
  have HRT := Lib.hid hR
  obtain ⟨len, hlen⟩ : ∃ len, len = L.length := ⟨_, rfl⟩
  obtain ⟨N, hN⟩ : ∃ N : Nat, (N : Int) = cnt L.length blk := ⟨(cnt L.length blk).toNat, by omega⟩
  have hNt : (cnt L.length blk).toNat = N := by omega
  rw [hNt] at hY ⊢
  rw [hNt] at HY
  rw [← hN] at HCN HRG
  have hNb : N ≤ 131072 := by unfold Rt at hR; omega
  have HNN := Lib.hid hN
  rw [← hlen] at HCN HRG c1
  have HLEN := Lib.hid hlen
  have hlb : len ≤ 131072 := by unfold Rt at hR; omega
  clear hY hJb hT h0 hcs hcn hN hNt hlen
  refine callsIn_of_wp Tryd.func63 rfl trivial ?_ rfl
  simp only [Tryd.ntmps63, List.size_toArray, List.length_cons, List.length_nil, Nat.reduceAdd, Nat.reduceSub, Array.replicate_succ, Array.replicate_zero, List.push_toArray, List.append_toArray, List.nil_append, List.cons_append]
  gi_wp2_with (refine ⟨trivial, fun h => (by simp [Fence.wide] at h), ?_⟩; gi_at_call 45; refine (callsIn_wide.2 (HCN.out _)).mono ?_; rintro e w' ⟨rfl, rfl⟩)
  gi_loopw [12] (fun i wr => ∃ k : Nat, i = .int .i64 k ∧ k ≤ N ∧ Hid (J k wr)) (fun i _ => N - (intOf i).toNat)
  case atStart => exact ⟨0, rfl, by omega, HH0⟩
  case round =>
    clear HH0 c1 c2 hB hnil hcap
    obtain ⟨k, rfl, hk, HJ⟩ := hrel
    by_cases hlt : k < N
    · have hk2 : (k : Int) < (N : Int) := by omega
      obtain ⟨hle, ta, cap, c1, c2, hB, hnil, hcap⟩ := HT.out k wr HJ.out
      rw [← HLEN.out] at c1 hcap
      have hRg := HRG.out k hk2
      obtain ⟨p, hp⟩ : ∃ p : Nat, p = k * blk := ⟨_, rfl⟩
      have hplt : p < len := by
        have h1 := cnt_lt HRT.out (k := (k : Int)) (by rw [← HNN.out]; omega)
        rw [← HLEN.out] at h1
        have : ((k * blk : Nat) : Int) = (k : Int) * (blk : Int) := by simp
        omega
      obtain ⟨q, hq⟩ : ∃ q : Nat, (q : Int) = toB len blk k ∧ p + q - p = q := ⟨(toB len blk k).toNat, by unfold toB; have : ((k * blk : Nat) : Int) = (k : Int) * (blk : Int) := by simp
                                                                                                          split <;> omega, by omega⟩
      obtain ⟨hq1, -⟩ := hq
      have hpi : ((p : Nat) : Int) = (k : Int) * (blk : Int) := by rw [hp]; simp
      have hqb : p < q ∧ q ≤ len ∧ q - p ≤ blk ∧ (q - p = blk ∨ q = len) := by
        unfold toB at hq1
        rw [← hpi] at hq1
        have hb0 := HRT.out.2.1
        split at hq1 <;> omega
      rw [← hpi, ← hq1] at hRg
      have hRG := Lib.hid hRg
      obtain ⟨a', hcut, hSl⟩ := run_cut hB cap len HLEN.out hcap hnil p (q - p) (by omega)
      rw [show (p : Int) + ((q - p : Nat) : Int) = (q : Int) from by omega] at hcut
      have hpc : piece L blk k = (L.drop p).take (q - p) := by
        unfold piece
        rw [← hp]
        rcases hqb.2.2.2 with h | h
        · rw [h]
        · rw [List.take_of_length_le (by rw [List.length_drop, ← HLEN.out]; omega), List.take_of_length_le (by rw [List.length_drop, ← HLEN.out]; omega)]
      have hcl := clone_any _ _ wr hSl (by rw [List.length_take, List.length_drop, ← HLEN.out]; omega)
      rw [← hpc] at hcl
      have HCL := Lib.hid hcl
      have HYW : Hid (∀ v W1, Below wr.heap.size wr W1 → Own W1 wr.heap.size v (piece L blk k) → YieldAt Fence.wide (n - 1) Tryd.prog l #[.int .i64 k, v] W1 fun e W' => (e = .returned (.bool true) ∧ J (k + 1) W') ∨ (e = .returned (.bool false) ∧ Jx (k + 1) W')) :=
        fun v W1 hb hO => HY.out k _ W1 hlt (HJB.out k wr W1 HJ.out hb) ⟨v, rfl, hO.lower hle⟩
      clear hRg hp hq1 hpi hSl hcl hpc hB hnil
      gi_wp2_with (first
        | (refine ⟨trivial, fun h => (by simp [Fence.wide] at h), ?_⟩; gi_at_call 54; refine (callsIn_wide.2 (hRG.out _)).mono ?_; rintro e w' ⟨rfl, rfl⟩)
        | (refine ⟨trivial, fun h => (by simp [Fence.wide] at h), ?_⟩; gi_at_call 62; refine (callsIn_wide.2 HCL.out).mono ?_; rintro e w2 ⟨v, rfl, hO, hb⟩; obtain ⟨fn, tmps, assign, body, hy, hRd⟩ := HYW.out v w2 hb hO; have HRD := Lib.hid hRd; clear hO hb hRd))
      refine ⟨fun h => (by simp [Fence.wide] at h), ?_⟩
      refine HRD.out.mono ?_
      rintro e W3 (⟨rfl, hJ3⟩ | ⟨rfl, hJx3⟩)
      · have HJ3 := Lib.hid hJ3
        clear hJ3
        gi_wp2
        go_roundw
        case rel => exact ⟨k + 1, by go_num, by omega, HJ3⟩
        case measure => simp [intOf]; omega
      · have HJX := Lib.hid hJx3
        clear hJx3
        gi_wp2
        refine bodyPost_ret (results_none rfl _ _ _) rfl ?_
        exact ⟨⟨_, rfl⟩, .inr ⟨k + 1, by omega, HJX.out⟩⟩
    · have hkk : ¬ (k : Int) < (N : Int) := by omega
      have hkN : k = N := by omega
      gi_wp2
      go_end0
      exact ⟨⟨_, rfl⟩, .inl (hkN ▸ HJ.out)⟩
end Go.Proofs.YtkppnbehkmpogaaDoor
