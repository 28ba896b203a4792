/- path.each: goes through the parts of a text. (A template.) -/
import Derived.Test.YtokocfoeohddfaaGreatDoorPaStr
import Derived.Test.YtokocfoeohddfaaGreatDoorPRange
import Derived.Lib.OthersKept
namespace Go.Proofs.YtokocfoeohddfaaGreatDoor.Pa
open Go.RowKit Go.Shelf Go.Proofs.RangeStr
set_option linter.unusedVariables false
set_option linter.unusedSimpArgs false
attribute [local go_sem] Oper.semAt_some

def Piece (l : L8) (k : Nat) (vs : Array Value) (W : World) : Prop := vs = #[.string (mk ((parts l).getD k []))]
def TextAt (tb : Nat) (l : L8) (W : World) : Prop := W.cell? ⟨tb, 0, none⟩ = some (.string (mk l))

theorem still_iter {W : World} {b : Nat} {s : ByteArray} {p : Nat} (h : W.heap[b]? = some (.stringIter s p)) (q : Nat) : Still W (W.iterAt b s q) :=
  ⟨rfl, rfl, rfl, by rw [Lib.iterAt_size]; exact Nat.le_refl _, fun x o hx ho => by
    have hne : x ≠ b := by intro e; subst e; rw [h] at hx; injection hx with hx; exact ho _ _ hx.symm
    rw [Lib.iterAt_other _ _ _ _ _ hne]; exact hx⟩

set_option maxRecDepth 1000000 in
set_option maxHeartbeats 4000000 in
theorem each1_hands (n tb : Nat) (l : L8) (w : World) (hl : l.length ≤ 4611686018427387904) :
    Hands Tryz.prog n 84 #[.pointer (some ⟨tb, 0, none⟩)] (Piece l) (parts l).length (TextAt tb l) w := by
  intro B rec J Jx W hW hBW hTW hT hJs hY h0
  have HT := Lib.hid hT
  have HJS := Lib.hid hJs
  have HY := Lib.hid hY
  have HH0 := Lib.hid h0
  unfold TextAt at hTW
  clear hJs hT hY h0
  by_cases hnil : l = []
  · subst hnil
    have he : (mk []).toList.isEmpty = true := by rw [mk_toList]; rfl
    refine callsIn_of_wp Tryz.func84 rfl trivial ?_ rfl
    simp only [Tryz.ntmps84, List.size_toArray, List.length_cons, List.length_nil, Nat.reduceAdd, Nat.reduceSub, Array.replicate_succ, Array.replicate_zero, List.push_toArray, List.append_toArray, List.nil_append, List.cons_append]
    gi_wp2
    refine bodyPost_ret (results_none rfl _ _ _) rfl ?_
    exact ⟨⟨_, rfl⟩, .inl HH0.out⟩
  · have hp : parts l = cut l := by unfold parts; rw [if_neg hnil]
    have he : (mk l).toList.isEmpty = false := by rw [mk_toList]; cases l with | nil => exact absurd rfl hnil | cons c l => rfl
    have HYY : Hid (∀ k p W1, (cut l)[k]? = some p → J k W1 → YieldAt Fence.wide (n - 1) Tryz.prog rec #[.string (mk p)] W1 fun e W' => (e = .returned (.bool true) ∧ J (k + 1) W' ∧ Iters W1 W') ∨ (e = .returned (.bool false) ∧ Jx (k + 1) W')) := by
      intro k p W1 hk hj
      refine HY.out k _ W1 ?_ hj ?_
      · rw [hp]; exact (List.getElem?_eq_some_iff.1 hk).1
      · unfold Piece; rw [hp, List.getD_eq_getElem?_getD, hk]; rfl
    rw [hp]
    clear HY
    have HL := Lib.hid hl
    refine callsIn_of_wp Tryz.func84 rfl trivial ?_ rfl
    simp only [Tryz.ntmps84, List.size_toArray, List.length_cons, List.length_nil, Nat.reduceAdd, Nat.reduceSub, Array.replicate_succ, Array.replicate_zero, List.push_toArray, List.append_toArray, List.nil_append, List.cons_append]
    gi_wp2
    gi_loopw [3] (fun f wr => ∃ k fN pos : Nat, f = .int .i64 fN ∧ Hid (At l k fN) ∧ Hid (Free l fN pos) ∧ fN ≤ pos ∧ Hid (wr.heap[W.heap.size]? = some (.stringIter (mk l) pos)) ∧ Hid (J k wr)) (fun _ wr => l.length - wr.iterPos W.heap.size)
    case atStart =>
      refine ⟨0, 0, 0, rfl, At.zero l, Free.empty l 0 0 (Nat.le_refl _), Nat.le_refl _, ?_, ?_⟩
      · exact World.iter_heap W (mk l) 0
      · have hb : Below W.heap.size W (W.iter (mk l) 0) := (Below.refl _ _).alloc (Nat.le_refl _) _
        exact HJS.out 0 W _ HH0.out (Still.below hb) (hb.mono hBW)
    case round =>
      clear HH0 hTW he
      obtain ⟨k, fN, pos, rfl, hA, hF, hfp, hit, hj⟩ := hrel
      have hcell := HT.out k wr hj.out
      unfold TextAt at hcell
      by_cases hlt : pos < l.length
      · obtain ⟨d, hd, hsign⟩ := sign_past l pos hlt
        have hnx : ∀ ty, (Instr.next (.pointer (some ⟨W.heap.size, 0, none⟩)) true ty).run Tryz.prog wr = _ := fun ty => Lib.run_next_any_at wr W.heap.size (mk l) pos ty hit.out (by rw [mk_size]; exact hlt)
        obtain ⟨W2, hW2⟩ : ∃ W2, W2 = wr.iterAt W.heap.size (mk l) (pos + (Utf8.decode (mk l) pos).2) := ⟨_, rfl⟩
        rw [← hW2] at hnx
        have hit2 : Hid (W2.heap[W.heap.size]? = some (.stringIter (mk l) (pos + (d + 1)))) := by
          show _ = _
          rw [hW2, hd]; exact Lib.iterAt_heap wr _ (mk l) pos _ hit.out
        have hj2 : Hid (J k W2) := by
          show J k W2
          rw [hW2]
          exact HJS.out k wr _ hj.out (still_iter hit.out _) (Lib.below_iterAt (Below.refl _ _) hBW _ _)
        clear hW2
        have hcell2 := HT.out k W2 hj2.out
        unfold TextAt at hcell2
        have hm : wr.iterPos W.heap.size = pos := iterPos_of hit.out
        rw [hm]
        clear hm hcell hit hj
        have hA' := hA
        rcases hsign with ⟨h47, hr, rfl⟩ | ⟨h47, hr, hfree⟩
        · obtain ⟨hk, hA2⟩ := hA.out.slash hF.out hfp h47
          obtain ⟨fn, tmps, assign, body, hy, hRd⟩ := HYY.out k _ W2 hk hj2.out
          have HRD := Lib.hid hRd
          have HA2 := Lib.hid hA2
          have hcut := run_sub l fN pos hfp (by omega)
          rw [hr] at hnx
          clear hRd hA2 hk
          gi_wp2
          refine ⟨fun h => (by simp [Fence.wide] at h), ?_⟩
          refine HRD.out.mono ?_
          rintro e W3 (⟨rfl, hJ3, hI3⟩ | ⟨rfl, hJx3⟩)
          · have HJ3 := Lib.hid hJ3
            have HIT3 : Hid (W3.heap[W.heap.size]? = some (.stringIter (mk l) (pos + (0 + 1)))) := hI3 _ _ _ hit2.out
            clear hJ3 hI3
            gi_wp2
            go_roundw
            case rel => exact ⟨k + 1, pos + 1, pos + 1, by go_num, HA2, Free.empty l _ _ (Nat.le_refl _), Nat.le_refl _, HIT3, HJ3⟩
            case measure => rw [iterPos_of HIT3.out]; omega
          · have HJX := Lib.hid hJx3
            clear hJx3
            gi_wp2
            refine bodyPost_ret (results_none rfl _ _ _) rfl ?_
            exact ⟨⟨_, rfl⟩, .inr ⟨k + 1, by have := HA2.out.2.1; omega, HJX.out⟩⟩
        · obtain ⟨r, hrr⟩ : ∃ r : Int, r = ((Utf8.decode (mk l) pos).1 : Int) := ⟨_, rfl⟩
          rw [← hrr] at hnx
          have hr2 : ¬ r = 47 := by rw [hrr]; omega
          have HF2 : Hid (Free l fN (pos + (d + 1))) := hF.out.step hfree
          clear hrr hr hfree
          gi_wp2
          go_roundw
          case rel => exact ⟨k, fN, pos + (d + 1), rfl, hA, HF2, by omega, hit2, hj2⟩
          case measure => rw [iterPos_of hit2.out]; omega
      · have hnx : ∀ ty, (Instr.next (.pointer (some ⟨W.heap.size, 0, none⟩)) true ty).run Tryz.prog wr = _ := fun ty => Lib.run_next_end_at wr W.heap.size (mk l) pos ty hit.out (by rw [mk_size]; exact hlt)
        have hFl : Free l fN l.length := fun j h1 h2 => hF.out j h1 (by omega)
        obtain ⟨hk, hlen⟩ := hA.out.last hFl
        obtain ⟨fn, tmps, assign, body, hy, hRd⟩ := HYY.out k _ wr hk hj.out
        have HRD := Lib.hid hRd
        have HLEN := Lib.hid hlen
        have hcut := run_tl l fN hA.out.1
        clear hRd hk hlen hFl
        gi_wp2
        refine ⟨fun h => (by simp [Fence.wide] at h), ?_⟩
        refine HRD.out.mono ?_
        rintro e W3 (⟨rfl, hJ3, -⟩ | ⟨rfl, hJx3⟩)
        · have HJ3 := Lib.hid hJ3
          clear hJ3
          gi_wp2
          go_end0
          exact ⟨⟨_, rfl⟩, .inl (by rw [HLEN.out]; exact HJ3.out)⟩
        · have HJX := Lib.hid hJx3
          clear hJx3
          gi_wp2
          go_end0
          exact ⟨⟨_, rfl⟩, .inr ⟨k + 1, by rw [HLEN.out]; exact Nat.le_refl _, HJX.out⟩⟩

/-- path.each itself -/
theorem each_any (l : L8) (w : World) : Calls Tryz.prog 71 #[.string (mk l)] w fun e w' => e = .returned (.func (.func 84) #[] #[.pointer (some ⟨w.heap.size, 0, none⟩)]) ∧ w' = w.alloc (.cells #[.string (mk l)] 9) := by
  go_enter Tryz.func71, Tryz.ntmps71
  go_wp2
  go_ret
  exact ⟨rfl, rfl⟩
end Go.Proofs.YtokocfoeohddfaaGreatDoor.Pa
