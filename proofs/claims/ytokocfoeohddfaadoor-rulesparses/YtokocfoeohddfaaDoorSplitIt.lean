/- strings.SplitSeq at one byte: what its iterator hands. (A template.) -/
import Derived.Test.YtokocfoeohddfaaDoorPaStr
import Derived.Test.YtokocfoeohddfaaDoorMeCut
import Derived.Test.YtokocfoeohddfaaDoorMRange
import Derived.Test.YtokocfoeohddfaaDoorShelf
import Derived.Lib.IndexLaws
import Derived.Lib.Walk
namespace Go.Proofs.YtokocfoeohddfaaDoor.Me
open Go.RowKit Go.Shelf Go.Proofs.RangeCap Go.Proofs.YtokocfoeohddfaaDoor.Pa
set_option linter.unusedVariables false
set_option linter.unusedSimpArgs false
attribute [local go_sem] Oper.semAt_some

def PieceC (c : UInt8) (l : L8) (k : Nat) (vs : Array Value) (W : World) : Prop := vs = #[.string (mk ((cutc c l).getD k []))]
def SrcAt (tb : Nat) (l : L8) (W : World) : Prop := W.cell? ⟨tb, 0, none⟩ = some (.string (mk l)) ∧ W.frozen? ⟨tb, 0, none⟩ = false
def CapAt (c : UInt8) (sb vb : Nat) (W : World) : Prop := W.cell? ⟨sb, 0, none⟩ = some (.string ⟨#[c]⟩) ∧ W.cell? ⟨vb, 0, none⟩ = some (.int .i64 0)
theorem idx_cases (d : L8) (c : UInt8) : (Lib.indexByte d c = -1 ∧ ∀ x ∈ d, x ≠ c) ∨ ∃ i : Nat, Lib.indexByte d c = i ∧ i < d.length ∧ d[i]? = some c ∧ ∀ x ∈ d.take i, x ≠ c := by
  have hge := Lib.indexByte_ge d c
  by_cases h : Lib.indexByte d c = -1
  · left
    refine ⟨h, fun x hx e => ?_⟩
    obtain ⟨k, hk, hxk⟩ := List.mem_iff_getElem.1 hx
    exact Lib.indexByte_none h k (by rw [List.getElem?_eq_getElem hk, hxk, e])
  · right
    obtain ⟨i, hi⟩ : ∃ i : Nat, Lib.indexByte d c = i := ⟨(Lib.indexByte d c).toNat, by omega⟩
    obtain ⟨h1, h2⟩ := Lib.indexByte_some hi
    refine ⟨i, hi, (List.getElem?_eq_some_iff.1 h1).1, h1, fun x hx e => ?_⟩
    obtain ⟨k, hk, hxk⟩ := List.mem_iff_getElem.1 hx
    rw [List.length_take] at hk
    rw [List.getElem_take] at hxk
    exact h2 k (by omega) (by rw [List.getElem?_eq_getElem (by omega), hxk, e])
set_option maxRecDepth 1000000 in
set_option maxHeartbeats 4000000 in
theorem seq1_hands (n : Nat) (c : UInt8) (l : L8) (tb sb vb : Nat) (w : World) (hl : l.length ≤ 4611686018427387904) (hd1 : sb ≠ tb) (hd2 : vb ≠ tb) :
    Hands Tryd.prog n 90 #[.pointer (some ⟨sb, 0, none⟩), .pointer (some ⟨tb, 0, none⟩), .pointer (some ⟨vb, 0, none⟩)] tb (PieceC c l) (cutc c l).length (SrcAt tb l) (CapAt c sb vb) w := by
  intro B rec J Jx W hW hBW hTW hC hJs hY h0
  have HC := Lib.hid hC
  have HJS := Lib.hid hJs
  have HH0 := Lib.hid h0
  have HBT := Lib.hid hBW
  have HL := Lib.hid hl
  have HYY : Hid (∀ k p W1, (cutc c l)[k]? = some p → J k W1 → YieldAt Fence.wide (n - 1) Tryd.prog rec #[.string (mk p)] W1 fun e W' => (e = .returned (.bool true) ∧ J (k + 1) W' ∧ W'.heap[tb]? = W1.heap[tb]? ∧ W1.heap.size ≤ W'.heap.size) ∨ (e = .returned (.bool false) ∧ Jx (k + 1) W')) := by
    intro k p W1 hk hj
    refine hY k _ W1 ?_ hj ?_
    · exact (List.getElem?_eq_some_iff.1 hk).1
    · unfold PieceC; rw [List.getD_eq_getElem?_getD, hk]; rfl
  have HS0 : Hid (SrcAt tb (l.drop 0) W) := hTW
  obtain ⟨hc0, hc1⟩ := hC 0 W h0
  have hz : (({ data := #[c] } : ByteArray)).size = 1 := rfl
  clear hC hJs h0 hY hl hTW hBW
  refine callsIn_of_wp Tryd.func90 rfl trivial ?_ rfl
  simp only [Tryd.ntmps90, List.size_toArray, List.length_cons, List.length_nil, Nat.reduceAdd, Nat.reduceSub, Array.replicate_succ, Array.replicate_zero, List.push_toArray, List.append_toArray, List.nil_append, List.cons_append]
  gi_wp2
  gi_loopw [7] (fun _ wr => ∃ k f : Nat, Hid (AtC c l k f) ∧ Hid (SrcAt tb (l.drop f) wr) ∧ Hid (J k wr)) (fun _ wr => match wr.cell? ⟨tb, 0, none⟩ with | some (.string s) => s.size | _ => 0)
  case atStart => exact ⟨0, 0, AtC.zero c l, HS0, HH0⟩
  case round =>
    clear HH0 HS0 hc0 hc1
    obtain ⟨k, f, hA, hS, hj⟩ := hrel
    have hsc := hS.out.1
    have hsf := hS.out.2
    obtain ⟨hcs, hcv⟩ := HC.out k wr hj.out
    have hIX := Tryd.strings_Index_one (mk (l.drop f)) c
    rw [mk_list] at hIX
    have hdl : (l.drop f).length ≤ 4611686018427387904 := by rw [List.length_drop]; have := HL.out; omega
    have hm0 : (match wr.cell? ⟨tb, 0, none⟩ with | some (.string s) => s.size | _ => 0) = (l.drop f).length := by rw [hsc]; exact mk_size _
    rcases idx_cases (l.drop f) c with ⟨hi, hfree⟩ | ⟨i, hi, hil, hic, hfree⟩
    · rw [hi] at hIX
      have HIX := Lib.hid hIX
      obtain ⟨hk, hlen⟩ := hA.out.last hfree
      obtain ⟨fn, tmps, assign, body, hy, hRd⟩ := HYY.out k _ wr hk hj.out
      have HRD := Lib.hid hRd
      have HLEN := Lib.hid hlen
      clear hRd hk hlen hfree hi hIX hdl hm0
      gi_wp2_with (refine ⟨trivial, fun h => (by simp [Fence.wide] at h), ?_⟩; gi_at_call 92; refine (callsIn_wide.2 (HIX.out _)).mono ?_; rintro e w' ⟨rfl, rfl⟩)
      refine ⟨fun h => (by simp [Fence.wide] at h), ?_⟩
      refine HRD.out.mono ?_
      rintro e W3 (⟨rfl, hJ3, -⟩ | ⟨rfl, hJx3⟩)
      · have HJ3 := Lib.hid hJ3
        clear hJ3
        gi_wp2
        go_end0
        exact ⟨⟨_, rfl⟩, .inl (by rw [HLEN.out]; exact HJ3.out)⟩
      · have HJX := Lib.hid hJx3
        clear hJx3
        gi_wp2
        go_end0
        exact ⟨⟨_, rfl⟩, .inr ⟨k + 1, by rw [HLEN.out]; exact Nat.le_refl _, HJX.out⟩⟩
    · rw [hi] at hIX
      have HIX := Lib.hid hIX
      obtain ⟨hk, hA2⟩ := hA.out.next hic hfree
      obtain ⟨fn, tmps, assign, body, hy, hRd⟩ := HYY.out k _ wr hk hj.out
      have HRD := Lib.hid hRd
      have HA2 := Lib.hid hA2
      have hsub := run_hd (l.drop f) i (by omega)
      have htl := run_tl (l.drop f) (i + 1) (by omega)
      rw [List.drop_drop, show f + (i + 1) = f + i + 1 from by omega, show ((i + 1 : Nat) : Int) = (i : Int) + 1 from by omega] at htl
      have hw0 : IntKind.i64.wrap (i : Int) = (i : Int) := IntWalk.i64_in _ (by omega)
      have hw1 : IntKind.i64.wrap ((i : Int) + 1) = (i : Int) + 1 := IntWalk.i64_in _ (by omega)
      have HKL : Hid (k + 1 ≤ (cutc c l).length) := (List.getElem?_eq_some_iff.1 hk).1
      have HM : Hid ((mk (l.drop (f + i + 1))).size < (mk (l.drop f)).size) := by
        show _ < _; rw [mk_size, mk_size, List.length_drop, List.length_drop]; rw [List.length_drop] at hil; omega
      clear hRd hk hA2 hfree hi hIX hdl hm0 hil hic
      gi_wp2_with (refine ⟨trivial, fun h => (by simp [Fence.wide] at h), ?_⟩; gi_at_call 92; refine (callsIn_wide.2 (HIX.out _)).mono ?_; rintro e w' ⟨rfl, rfl⟩)
      refine ⟨fun h => (by simp [Fence.wide] at h), ?_⟩
      refine HRD.out.mono ?_
      rintro e W3 (⟨rfl, hJ3, hh3, hz3⟩ | ⟨rfl, hJx3⟩)
      · have HJ3 := Lib.hid hJ3
        obtain ⟨q1, q2⟩ := HC.out _ W3 hJ3
        have q3 : W3.cell? ⟨tb, 0, none⟩ = some (.string (mk (l.drop f))) := by rw [← hsc]; exact World.cell?_of_block hh3
        have q4 : W3.frozen? ⟨tb, 0, none⟩ = false := by rw [← hsf]; exact World.frozen?_of_block hh3
        have HQ3 := Lib.hid q3
        have HQ4 := Lib.hid q4
        clear hJ3 hh3 hz3 hsc hsf hcs hcv
        gi_wp2
        go_roundw
        case rel => exact ⟨k + 1, f + i + 1, HA2, ⟨World.cell?_setCell_same' _ _ _ (by rw [HQ3.out]; rfl), by rw [World.frozen?_setCell]; exact HQ4.out⟩, HJS.out _ _ _ HJ3.out (Still.set _) ((Below.refl B W3).setCell (p := ⟨tb, 0, none⟩) HBT.out _)⟩
        case measure =>
          have e1 : (W3.setCell ⟨tb, 0, none⟩ (.string (mk (l.drop (f + i + 1))))).cell? ⟨tb, 0, none⟩ = some (.string (mk (l.drop (f + i + 1)))) := World.cell?_setCell_same' _ _ _ (by rw [HQ3.out]; rfl)
          rw [e1]
          have e2 := hS.out.1
          rw [e2]
          exact HM.out
      · have HJX := Lib.hid hJx3
        clear hJx3
        gi_wp2
        refine bodyPost_ret (results_none rfl _ _ _) rfl ?_
        exact ⟨⟨_, rfl⟩, .inr ⟨k + 1, HKL.out, HJX.out⟩⟩
/-- SplitSeq itself: three blocks, and the iterator over them -/
theorem split_any (c : UInt8) (l : L8) (w : World) : Calls Tryd.prog 53 #[.string (mk l), .string ⟨#[c]⟩] w fun e w' => e = .returned (.func (.func 90) #[] #[.pointer (some ⟨w.heap.size + 1, 0, none⟩), .pointer (some ⟨w.heap.size, 0, none⟩), .pointer (some ⟨w.heap.size + 2, 0, none⟩)]) ∧ w' = ((w.alloc (.cells #[.string (mk l)] 9)).alloc (.cells #[.string ⟨#[c]⟩] 9)).alloc (.cells #[.int .i64 0] 3) := by
  have H : Hid (∀ W : World, Calls Tryd.prog 75 #[.string (mk l), .string ⟨#[c]⟩, .int .i64 0] W fun e w' => e = .returned (.func (.func 90) #[] #[.pointer (some ⟨W.heap.size + 1, 0, none⟩), .pointer (some ⟨W.heap.size, 0, none⟩), .pointer (some ⟨W.heap.size + 2, 0, none⟩)]) ∧ w' = ((W.alloc (.cells #[.string (mk l)] 9)).alloc (.cells #[.string ⟨#[c]⟩] 9)).alloc (.cells #[.int .i64 0] 3)) := by
    intro W
    go_enter Tryd.func75, Tryd.ntmps75
    go_wp2
    go_ret
    exact ⟨rfl, rfl⟩
  go_enter Tryd.func53, Tryd.ntmps53
  go_wp2_with (go_at_call 75; refine (H.out _).mono ?_; rintro e w' ⟨rfl, rfl⟩)
  go_ret
  exact ⟨rfl, rfl⟩
end Go.Proofs.YtokocfoeohddfaaDoor.Me
