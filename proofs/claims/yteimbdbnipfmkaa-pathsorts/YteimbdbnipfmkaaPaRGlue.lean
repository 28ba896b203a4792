/- path: the document's glue, nought, Base, Parent, Depth, Right. (A template.) -/
import Derived.Test.YteimbdbnipfmkaaPaRSplit
namespace Go.Proofs.Yteimbdbnipfmkaa.Pa
open Go.RowKit
set_option linter.unusedVariables false
set_option linter.unusedSimpArgs false
set_option maxRecDepth 1000000

def nums (l : L8) : List Int := l.map (fun c => (c.toNat : Int))
theorem nums_length (l : L8) : (nums l).length = l.length := by simp [nums]
theorem nums_app (a b : L8) : nums (a ++ b) = nums a ++ nums b := by simp [nums]
theorem nums_oct (l : L8) : Oct (nums l) := by
  intro c hc
  obtain ⟨x, _, rfl⟩ := List.mem_map.1 hc
  have := x.toNat_lt
  omega
theorem nums_str (l : L8) : strOfNums (nums l) = mk l := by
  unfold strOfNums nums mk
  rw [List.map_map]
  have : ((fun n : Int => UInt8.ofNat n.toNat) ∘ fun c : UInt8 => (c.toNat : Int)) = id := by
    funext c; simp
  rw [this, List.map_id]
theorem nums_cells (l : L8) : Lib.strCells (mk l) = (nums l).map (Value.int .u8) := by
  rw [Lib.strCells_eq, mk_list]; simp [Lib.byteCells, nums]
theorem glue_take {ps : List L8} {k : Nat} {p : L8} (h : ps[k]? = some p) : glue (ps.take (k + 1)) = if k = 0 then p else glue (ps.take k) ++ [47] ++ p := by
  rw [take_part h]
  by_cases hk : k = 0
  · subst hk; rw [if_pos rfl]; simp [glue]
  · rw [if_neg hk]
    have h0 : ps.take k ≠ [] := by
      have h1 := (List.getElem?_eq_some_iff.1 h).1
      intro e
      have h2 := congrArg List.length e
      rw [List.length_take, List.length_nil] at h2
      omega
    rw [glue_app h0 (by simp)]
    simp [glue]
/-- an append of a text to bytes of one's own -/
theorem append_text {w : World} {ops : Array Oper} {rest : List Oper} {o : Oper} {a : Act} {Q : Exit → Act → World → Prop}
    (hg : o.guard = none) (s x : Operand) (hop : o.op = Op.call { callee := Callee.builtin Builtin.append, args := #[s, x], argTypes := #[51, 9] })
    (base : Nat) (v : Value) (l p : L8) (hs : a.eval s = v) (hown : Own w base v (nums l)) (hx : a.eval x = .string (mk p)) (hl : l.length + p.length ≤ 140737488355328) (b3 : base ≤ w.heap.size)
    (hK : ∀ v' w', Hid (Own w' base v' (nums (l ++ p))) → Hid (Below base w w') → wpList Try.prog ops Q rest (a.put o.dst v') w') :
    wpList Try.prog ops Q (o :: rest) a w := by
  obtain ⟨i0, hi, hz0, hz1, hz2⟩ := info_parts Try.infoB
  have hsz := mk_size p
  refine Lib.wpList_append_own_string w hg s x 51 9 hop base 5 i0 Try.underlying51 Try.underlying9 hi hz0 hz1 hz2 v (nums l).length _ hs hown (mk p) hx (by rw [nums_length]; unfold maxLen; omega) (by rw [nums_length]; omega) b3 ?_
  intro v' w' r1 r2 _
  refine hK v' w' ?_ ((Below.refl _ _).grown r2 b3 (fun j hj => hown.base_le j hj))
  show w'.ownsRow base 5 1 v' (nums (l ++ p)).length ((nums (l ++ p)).map (Value.int .u8))
  rw [nums_app, List.map_append, List.length_append, ← nums_cells p, nums_length p, ← hsz]
  exact r1

set_option maxHeartbeats 8000000 in
theorem glue_any (v : Value) (ps : List L8) (w : World) (h : Txt w v ps) (hl : ∀ k, (glue (ps.take k)).length ≤ 35184372088832) (hn : ps.length ≤ 4611686018427387904) (hp : ∀ p ∈ ps, p.length ≤ 35184372088832) :
    Calls Try.prog 40 #[v] w fun e w' => e = .returned (.string (mk (glue ps))) ∧ Below w.heap.size w w' := by
  obtain ⟨a, c, rfl, hT⟩ := h
  obtain ⟨n, hnn⟩ : ∃ n, n = ps.length := ⟨_, rfl⟩
  rw [← hnn] at hn ⊢
  have HN := Lib.hid hnn
  have HT := Lib.hid hT
  have HL := Lib.hid hl
  have HP := Lib.hid hp
  clear hT hl hp hnn
  go_enter Try.func40, Try.ntmps40
  go_wp2
  go_loopw [3, 4] (fun v c wr => ∃ (k m : Nat) (G : L8), c = .int .i64 k ∧ k ≤ n ∧ (∃ a cc, v = .slice a m cc) ∧ Hid (m = (nums G).length) ∧ Hid (G = glue (ps.take k)) ∧ Hid (Own wr w.heap.size v (nums G)) ∧ Hid (Below w.heap.size w wr)) (fun _ c _ => n - (intOf c).toNat)
  case atStart => exact ⟨0, 0, [], rfl, Nat.zero_le _, ⟨none, 0, rfl⟩, rfl, rfl, Own.nil _ _, Below.refl _ _⟩
  case round =>
    obtain ⟨k, m, G, rfl, hk, ⟨a3, c3, rfl⟩, HM, HGE, HO, HB⟩ := hrel
    have hsz := HB.out.size
    by_cases hlt : k < n
    · have hI : (k : Int) < (n : Int) := by omega
      obtain ⟨p, hp⟩ : ∃ p, ps[k]? = some p := ⟨_, List.getElem?_eq_getElem (by have := HN.out; omega)⟩
      obtain ⟨g, off, ea, hcell⟩ := HT.out (by intro e; rw [e] at hp; simp at hp)
      subst ea
      have hcx := cell_later HB.out (hcell k p hp)
      have HCELL := Lib.hid (hcell k p hp)
      have HG := Lib.hid (glue_take hp)
      have HPL := Lib.hid (HP.out p (List.mem_of_getElem? hp))
      have HGL := Lib.hid (HL.out k)
      rw [← HGE.out] at HG HGL
      clear hp hcell
      by_cases h0 : k = 0
      · subst h0
        rw [Nat.add_zero] at hcx
        have hGe : G = [] := by rw [HGE.out]; rfl
        have HG1 : Hid (glue (ps.take (0 + 1)) = G ++ p) := by show _ = _; rw [HG.out, if_pos rfl, hGe]; rfl
        clear HG hGe HGE
        go_wp2_with (at_builtin; go_must (refine append_text rfl (.tmp 16) (.tmp 20) rfl w.heap.size (.slice a3 m c3) G p rfl HO.out rfl (by have := HGL.out; have := HPL.out; omega) hsz ?_))
        intro v5 w5 HO5 HB5
        obtain ⟨a5, c5, e5⟩ := own_form HO5.out
        obtain ⟨m5, hm5⟩ : ∃ m5, m5 = (nums (G ++ p)).length := ⟨_, rfl⟩
        rw [← hm5] at e5
        subst e5
        have HM5 := Lib.hid hm5
        have HBN : Hid (Below w.heap.size w w5) := HB.out.trans HB5.out
        clear hm5
        go_wp2
        go_roundw
        case rel => exact ⟨1, m5, G ++ p, by go_num, by omega, ⟨a5, c5, rfl⟩, HM5, HG1.out.symm, HO5, HBN⟩
        case measure => simp [intOf]; omega
      · have hI0 : (0 : Int) < (k : Int) := by omega
        have HG1 : Hid (glue (ps.take (k + 1)) = (G ++ [47]) ++ p) := by show _ = _; rw [HG.out, if_neg h0]
        have hba : Below wr.heap.size wr (wr.alloc (.cells #[.int .u8 47] 5)) := (Below.refl _ _).alloc (Nat.le_refl _) _
        have HOA : Hid (Own (wr.alloc (.cells #[.int .u8 47] 5)) w.heap.size (.slice a3 m c3) (nums G)) := World.ownsRow.alloc HO.out _
        have HS47 : Hid (Sl (wr.alloc (.cells #[.int .u8 47] 5)) (.slice (some ⟨wr.heap.size, 0, none⟩) 1 1) [47]) := one_sl wr 47 (by omega) (by omega)
        have HBA := Lib.hid hba
        have HCX := Lib.hid hcx
        clear HG h0 hba HGE hcx
        go_wp2_with (at_builtin; go_must (refine append_sl rfl (.tmp 13) (.tmp 14) rfl w.heap.size (.slice a3 m c3) _ (nums G) [47] rfl HOA.out rfl HS47.out (by rw [nums_length]; have := HGL.out; simp; omega) (by simp; omega) ?_))
        intro v4 w4 HO4 hb4
        have HO4' : Hid (Own w4 w.heap.size v4 (nums (G ++ [47]))) := by show Own _ _ _ _; rw [nums_app]; exact HO4.out
        obtain ⟨G4, hG4⟩ : ∃ G4, G4 = G ++ [47] := ⟨_, rfl⟩
        have hG4l : G4.length = G.length + 1 := by rw [hG4]; simp
        rw [← hG4] at HO4' HG1
        have HG4L := Lib.hid hG4l
        clear hG4 hG4l
        have HB4 : Hid (Below w.heap.size w w4) := (HB.out.trans (HBA.out.mono hsz)).trans hb4
        have hsz4 := HB4.out.size
        have hcx4 : w4.cell? ⟨g, off + k, none⟩ = some (.string (mk p)) := cell_later HB4.out HCELL.out
        obtain ⟨a4, c4, e4⟩ := own_form HO4'.out
        obtain ⟨m4, hm4⟩ : ∃ m4, m4 = (nums G4).length := ⟨_, rfl⟩
        rw [← hm4] at e4
        subst e4
        clear hm4 hb4 HO4
        go_wp2_with (at_builtin; go_must (refine append_text rfl (.tmp 16) (.tmp 20) rfl w.heap.size (.slice a4 m4 c4) G4 p rfl HO4'.out rfl (by have := HGL.out; have := HPL.out; have := HG4L.out; omega) hsz4 ?_))
        intro v5 w5 HO5 HB5
        obtain ⟨a5, c5, e5⟩ := own_form HO5.out
        obtain ⟨m5, hm5⟩ : ∃ m5, m5 = (nums (G4 ++ p)).length := ⟨_, rfl⟩
        rw [← hm5] at e5
        subst e5
        have HM5 := Lib.hid hm5
        have HBN : Hid (Below w.heap.size w w5) := HB4.out.trans HB5.out
        clear hm5
        go_wp2
        go_roundw
        case rel => exact ⟨k + 1, m5, G4 ++ p, by go_num, by omega, ⟨a5, c5, rfl⟩, HM5, HG1.out.symm, HO5, HBN⟩
        case measure => simp [intOf]; omega
    · have hI : ¬ (k : Int) < (n : Int) := by omega
      have hGe : G = glue ps := by rw [HGE.out, List.take_of_length_le (by have := HN.out; omega)]
      obtain ⟨ax, cx, ex, hB3, -, -⟩ := HO.out.sl (nums_oct G)
      rw [← HM.out] at ex
      simp only [Value.slice.injEq] at ex
      obtain ⟨rfl, -, rfl⟩ := ex
      have hr := run_str hB3 m c3 HM.out
      rw [nums_str, hGe] at hr
      clear hGe hB3
      go_wp2
      go_ret
      exact ⟨rfl, HB.out⟩
end Go.Proofs.Yteimbdbnipfmkaa.Pa
