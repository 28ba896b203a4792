/- glob: Head, Plain, Escape. (A template.) -/
import Derived.Test.YtokocfoeohddfaaDoorGlHead
import Derived.Test.YtokocfoeohddfaaDoorGlBuild
import Derived.Test.YtokocfoeohddfaaDoorShelf
namespace Go.Proofs.YtokocfoeohddfaaDoor.Pa
open Go.RowKit
set_option linter.unusedVariables false
set_option linter.unusedSimpArgs false
set_option maxRecDepth 100000

def headP (p : L8) : L8 := match readP p with | some L => headL L | none => []
def plainP (p : L8) : L8 × Bool := match readP p with | some L => (if (headL L).length < L.length then ([], false) else (headL L, true)) | none => ([], false)
theorem head_of (p : L8) (w : World) (hp : p.length ≤ 4611686018427387904) :
    Calls Tryd.prog 17 #[.string (mk p)] w fun e w' => e = .returned (.string (mk (headP p))) ∧ Below w.heap.size w w' := by
  have HR := Lib.hid (read_any p w (by omega))
  rcases rd_cases p with ⟨h1, h2, h⟩ | ⟨L, h1, he, hl, hsg, h⟩
  · have H := Lib.hid h
    have hm : headP p = [] := by unfold headP; rw [h1]
    have hne : (readE p == 0) = false := by rcases h2 with h2 | h2 <;> rw [h2] <;> rfl
    rw [hm]
    generalize readE p = r at *
    clear h hp h1 h2 hm
    go_enter Tryd.func17, Tryd.ntmps17
    go_wp2_with (go_at_call 40; refine HR.out.mono ?_; rintro e w' ⟨v, rfl, hv, hb⟩; have e := H.out _ _ _ hv; subst e; have HB := Lib.hid hb; clear hb hv)
    go_ret
    exact ⟨rfl, HB.out⟩
  · have H : Hid (∀ base v w, RD p base v w → ∃ g c, v = .tuple #[.slice (some ⟨g, 0, none⟩) L.length c, .int .i64 0] ∧ GsAt w g L) := by
      intro base v w hv
      obtain ⟨g, c, e, ho⟩ := h base v w hv
      exact ⟨g, c, e, ho.at.1⟩
    have hm : headP p = headL L := by unfold headP; rw [h1]
    have hL : L.length ≤ 100 := by have := sgns_len _ _ _ hsg (Nat.zero_le _); omega
    have hF := sgns_fits _ _ _ hsg
    have HM : Hid (∀ W g c, GsAt W g L → Calls Tryd.prog 43 #[.slice (some ⟨g, 0, none⟩) L.length c] W fun e w' => e = .returned (.string (mk (headL L))) ∧ Below W.heap.size W w') := fun W g c hg => head_any L g c W hg hL hF
    rw [hm]
    generalize mk (headL L) = R at *
    clear h hp h1 hm hL hl he hsg hF
    generalize L.length = n at *
    go_enter Tryd.func17, Tryd.ntmps17
    go_wp2_with (first
      | (go_at_call 40; refine HR.out.mono ?_; rintro e w1 ⟨v, rfl, hv, hb⟩; obtain ⟨g, c, e, ho⟩ := H.out _ _ _ hv; subst e; have HB := Lib.hid hb; have HO := Lib.hid ho; clear hb hv ho)
      | (go_at_call 43; refine (HM.out w1 g c HO.out).mono ?_; rintro e w2 ⟨rfl, hb⟩; have HB2 := Lib.hid (HB.out.trans (hb.mono HB.out.size)); clear hb))
    go_ret
    exact ⟨rfl, HB2.out⟩
theorem plain_of (p : L8) (w : World) (hp : p.length ≤ 4611686018427387904) :
    Calls Tryd.prog 15 #[.string (mk p)] w fun e w' => e = .returned (.tuple #[.string (mk (plainP p).1), .bool (plainP p).2]) ∧ Below w.heap.size w w' := by
  have HR := Lib.hid (read_any p w (by omega))
  rcases rd_cases p with ⟨h1, h2, h⟩ | ⟨L, h1, he, hl, hsg, h⟩
  · have H := Lib.hid h
    have hm : plainP p = ([], false) := by unfold plainP; rw [h1]
    have hne : (readE p == 0) = false := by rcases h2 with h2 | h2 <;> rw [h2] <;> rfl
    rw [hm]
    generalize readE p = r at *
    clear h hp h1 h2 hm
    go_enter Tryd.func15, Tryd.ntmps15
    go_wp2_with (go_at_call 40; refine HR.out.mono ?_; rintro e w' ⟨v, rfl, hv, hb⟩; have e := H.out _ _ _ hv; subst e; have HB := Lib.hid hb; clear hb hv)
    go_ret2
    exact ⟨rfl, HB.out⟩
  · have H : Hid (∀ base v w, RD p base v w → ∃ g c, v = .tuple #[.slice (some ⟨g, 0, none⟩) L.length c, .int .i64 0] ∧ GsAt w g L) := by
      intro base v w hv
      obtain ⟨g, c, e, ho⟩ := h base v w hv
      exact ⟨g, c, e, ho.at.1⟩
    have hm : plainP p = if (headL L).length < L.length then ([], false) else (headL L, true) := by unfold plainP; rw [h1]
    have hL : L.length ≤ 100 := by have := sgns_len _ _ _ hsg (Nat.zero_le _); omega
    have hF := sgns_fits _ _ _ hsg
    have hz := mk_size (headL L)
    have HM : Hid (∀ W g c, GsAt W g L → Calls Tryd.prog 43 #[.slice (some ⟨g, 0, none⟩) L.length c] W fun e w' => e = .returned (.string (mk (headL L))) ∧ Below W.heap.size W w') := fun W g c hg => head_any L g c W hg hL hF
    rw [hm]
    by_cases hlt : (headL L).length < L.length
    · have hI : ((mk (headL L)).size : Int) < (L.length : Int) := by omega
      rw [if_pos hlt]
      generalize mk (headL L) = R at *
      clear h hp h1 hm hL hl he hsg hF hlt hz
      generalize L.length = n at *
      go_enter Tryd.func15, Tryd.ntmps15
      go_wp2_with (first
        | (go_at_call 40; refine HR.out.mono ?_; rintro e w1 ⟨v, rfl, hv, hb⟩; obtain ⟨g, c, e, ho⟩ := H.out _ _ _ hv; subst e; have HB := Lib.hid hb; have HO := Lib.hid ho; clear hb hv ho)
        | (go_at_call 43; refine (HM.out w1 g c HO.out).mono ?_; rintro e w2 ⟨rfl, hb⟩; have HB2 := Lib.hid (HB.out.trans (hb.mono HB.out.size)); clear hb))
      go_ret2
      exact ⟨rfl, HB2.out⟩
    · have hI : ¬ ((mk (headL L)).size : Int) < (L.length : Int) := by omega
      rw [if_neg hlt]
      generalize mk (headL L) = R at *
      clear h hp h1 hm hL hl he hsg hF hlt hz
      generalize L.length = n at *
      go_enter Tryd.func15, Tryd.ntmps15
      go_wp2_with (first
        | (go_at_call 40; refine HR.out.mono ?_; rintro e w1 ⟨v, rfl, hv, hb⟩; obtain ⟨g, c, e, ho⟩ := H.out _ _ _ hv; subst e; have HB := Lib.hid hb; have HO := Lib.hid ho; clear hb hv ho)
        | (go_at_call 43; refine (HM.out w1 g c HO.out).mono ?_; rintro e w2 ⟨rfl, hb⟩; have HB2 := Lib.hid (HB.out.trans (hb.mono HB.out.size)); clear hb))
      go_ret2
      exact ⟨rfl, HB2.out⟩

def special (c : UInt8) : Bool := c == 63 || c == 42 || c == 91 || c == 92
def escC (c : UInt8) : L8 := if special c then [92, c] else [c]
def escB (s : L8) : L8 := s.flatMap escC
theorem escB_snoc {s : L8} {k : Nat} {c : UInt8} (h : s[k]? = some c) : escB (s.take (k + 1)) = escB (s.take k) ++ escC c := by
  rw [List.take_add_one, h]; simp [escB]
theorem escB_len (s : L8) : (escB s).length ≤ 2 * s.length := by
  induction s with
  | nil => simp [escB]
  | cons c s ih =>
    unfold escB at *
    rw [List.flatMap_cons, List.length_append]
    have : (escC c).length ≤ 2 := by unfold escC; split <;> simp
    rw [List.length_cons]; omega
theorem byteCells_app (a b : L8) : Lib.byteCells (a ++ b) = Lib.byteCells a ++ Lib.byteCells b := by simp [Lib.byteCells]
theorem bt_special {s : L8} {k : Nat} {c : UInt8} (h : s[k]? = some c) (n : UInt8) : (bt s k == (n.toNat : Int)) = (c == n) := by
  rw [bt_of h]
  by_cases e : c = n
  · subst e; simp
  · have : ¬ ((c.toNat : Int) = (n.toNat : Int)) := by
      intro h2
      exact e (UInt8.toNat_inj.1 (by omega))
    rw [beq_eq_false_iff_ne.2 this, beq_eq_false_iff_ne.2 e]
set_option maxHeartbeats 8000000 in
theorem escape_any (s : L8) (w : World) (hs : s.length ≤ 1000000) :
    Calls Tryd.prog 19 #[.string (mk s)] w fun e w' => e = .returned (.string (mk (escB s))) ∧ Below w.heap.size w w' := by
  have hz : (mk s).size = s.length := mk_size s
  have HZ := Lib.hid hz
  have HSL := Lib.hid hs
  have HB0 : Hid (Bld w.heap.size w.heap.size (Lib.byteCells (escB (s.take 0))) (w.alloc (.cells #[.pointer none, .slice none 0 0] 64))) := bld_new w
  have HL0 : Hid (Below w.heap.size w (w.alloc (.cells #[.pointer none, .slice none 0 0] 64))) := (Below.refl _ _).alloc (Nat.le_refl _) _
  clear hz hs
  go_enter Tryd.func19, Tryd.ntmps19
  go_wp2
  go_loopw [7] (fun i wr => ∃ k : Nat, i = .int .i64 k ∧ Hid (k ≤ s.length) ∧ Hid (Bld w.heap.size w.heap.size (Lib.byteCells (escB (s.take k))) wr) ∧ Hid (Below w.heap.size w wr)) (fun i _ => s.length - (intOf i).toNat)
  case atStart => exact ⟨0, rfl, Nat.zero_le _, HB0, HL0⟩
  case round =>
    clear HB0 HL0
    obtain ⟨k, rfl, HK, HBD, HB⟩ := hrel
    by_cases hk : k < s.length
    · have hIk : (k : Int) < ((mk s).size : Int) := by rw [HZ.out]; omega
      obtain ⟨c, hc⟩ : ∃ c, s[k]? = some c := ⟨_, List.getElem?_eq_getElem hk⟩
      have hx := run_at s k hk
      have hSL := HSL.out
      have hw1 : IntKind.i64.wrap ((k : Int) + 1) = (k : Int) + 1 := IntWalk.i64_in _ (by omega)
      have q1 : (bt s k == 63) = (c == 63) := bt_special hc 63
      have q2 : (bt s k == 42) = (c == 42) := bt_special hc 42
      have q3 : (bt s k == 91) = (c == 91) := bt_special hc 91
      have q4 : (bt s k == 92) = (c == 92) := bt_special hc 92
      have hbt : bt s k = (c.toNat : Int) := bt_of hc
      have HN : Hid (escB (s.take (k + 1)) = escB (s.take k) ++ escC c) := escB_snoc hc
      have HKL := Lib.hid hk
      have hel := escB_len (s.take k)
      rw [List.length_take] at hel
      have hbl : (Lib.byteCells (escB (s.take k))).length + 2 ≤ 140737488355328 := by simp [Lib.byteCells]; omega
      have HW : Hid (∀ W bs (x : Int), Bld w.heap.size w.heap.size bs W → bs.length + 1 ≤ 140737488355328 → Below w.heap.size w W → Calls Tryd.prog 44 #[.pointer (some ⟨w.heap.size, 0, none⟩), .int .u8 x] W fun e w' => e = .returned .nilIface ∧ Bld w.heap.size w.heap.size (bs ++ [.int .u8 x]) w' ∧ Below w.heap.size w w') := by
        intro W bs x h1 h2 h3
        refine (writeByte_any _ _ bs x W h1 h2 h3.size).mono ?_
        rintro e w' ⟨r1, r2, r3⟩
        exact ⟨r1, r2, h3.trans r3⟩
      have HL := Lib.hid hbl
      rw [hbt] at hx q1 q2 q3 q4
      clear hk hel hbl hSL hbt
      cases hsp : special c with
      | false =>
        have HE : Hid (Lib.byteCells (escB (s.take k)) ++ [.int .u8 (c.toNat : Int)] = Lib.byteCells (escB (s.take (k + 1)))) := by
          show _ = _; rw [HN.out, byteCells_app]; unfold escC; rw [hsp]; rfl
        have HW1 := Lib.hid (HW.out wr _ (c.toNat : Int) HBD.out (by have := HL.out; omega) HB.out)
        unfold special at hsp
        simp only [Bool.or_eq_false_iff] at hsp
        rw [hsp.1.1.1] at q1
        rw [hsp.1.1.2] at q2
        rw [hsp.1.2] at q3
        rw [hsp.2] at q4
        generalize (c.toNat : Int) = ci at *
        clear hc hsp
        go_wp2_with (go_at_call 44; refine HW1.out.mono ?_; rintro e w2 ⟨rfl, h2, hb2⟩; have H2 := Lib.hid h2; have HB2 := Lib.hid hb2; clear h2 hb2)
        go_roundw
        case rel => exact ⟨k + 1, by go_num, by show _ ≤ _; have := HKL.out; omega, by rw [← HE.out]; exact H2, HB2⟩
        case measure => have := HKL.out; simp [intOf]; omega
      | true =>
        have HE : Hid (Lib.byteCells (escB (s.take k)) ++ [.int .u8 92] ++ [.int .u8 (c.toNat : Int)] = Lib.byteCells (escB (s.take (k + 1)))) := by
          show _ = _; rw [HN.out, byteCells_app]; unfold escC; rw [hsp]; simp [Lib.byteCells]
        have HW1 := Lib.hid (HW.out wr _ 92 HBD.out (by have := HL.out; omega) HB.out)
        have HW2 : Hid (∀ W, Bld w.heap.size w.heap.size (Lib.byteCells (escB (s.take k)) ++ [.int .u8 92]) W → Below w.heap.size w W → Calls Tryd.prog 44 #[.pointer (some ⟨w.heap.size, 0, none⟩), .int .u8 (c.toNat : Int)] W fun e w' => e = .returned .nilIface ∧ Bld w.heap.size w.heap.size (Lib.byteCells (escB (s.take k)) ++ [.int .u8 92] ++ [.int .u8 (c.toNat : Int)]) w' ∧ Below w.heap.size w w') := fun W h1 h2 => HW.out W _ _ h1 (by rw [List.length_append]; have := HL.out; simp; omega) h2
        rw [HE.out] at HW2
        unfold special at hsp
        have hco : c = 63 ∨ c = 42 ∨ c = 91 ∨ c = 92 := by simpa [or_assoc] using hsp
        clear hsp
        rcases hco with rfl | rfl | rfl | rfl
        all_goals
          have hq1 : ((63 : UInt8).toNat : Int) = 63 := rfl
          have hq2 : ((42 : UInt8).toNat : Int) = 42 := rfl
          have hq3 : ((91 : UInt8).toNat : Int) = 91 := rfl
          have hq4 : ((92 : UInt8).toNat : Int) = 92 := rfl
          simp only [hq1, hq2, hq3, hq4] at hx HW2
          clear hc hq1 hq2 hq3 hq4 q1 q2 q3 q4 HE HN HW
          go_wp2_with (first
            | (go_at_call 44; with_reducible refine HW1.out.mono ?_; rintro e w2 ⟨rfl, h2, hb2⟩; have H2 := Lib.hid h2; have HB2 := Lib.hid hb2; clear h2 hb2 HW1)
            | (go_at_call 44; refine (HW2.out _ H2.out HB2.out).mono ?_; rintro e w3 ⟨rfl, h3, hb3⟩; have H3 := Lib.hid h3; have HB3 := Lib.hid hb3; clear h3 hb3))
          go_roundw
          case rel => exact ⟨k + 1, by go_num, by show _ ≤ _; have := HKL.out; omega, H3, HB3⟩
          case measure => have := HKL.out; simp [intOf]; omega
    · have hIk : ¬ (k : Int) < ((mk s).size : Int) := by rw [HZ.out]; omega
      have hke : k = s.length := by have := HK.out; omega
      have hbd := HBD.out
      rw [hke, List.take_length] at hbd
      have HST := Lib.hid (Tryd.Builder_String_any w.heap.size w.heap.size (escB s) wr hbd HB.out.size)
      clear hk hke hbd
      go_wp2_with (go_at_call 45; refine HST.out.mono ?_; rintro e w2 ⟨rfl, hb2⟩; have HB2 := Lib.hid (HB.out.trans hb2); clear hb2)
      go_ret
      exact ⟨rfl, HB2.out⟩
end Go.Proofs.YtokocfoeohddfaaDoor.Pa
