/- gear: Pieces. (A template: seatgen.py fills it.) -/
import Derived.Test.YtheklipnnflnaaaDoorGrAwake
import Derived.Test.YtheklipnnflnaaaDoorGRows
namespace Go.Proofs.GearMath
/-- where the piece of this number begins -/
def atp (cs : List Nat) (k : Nat) : Nat := if k = 0 then 0 else cs.getD (k - 1) 0
theorem cuts_dropk (L M B : Int) (l : List Int) (hM : 1 ≤ M) (k : Nat) (hk : k ≤ (cuts L M B l 0).length) : (cuts L M B l 0).drop k = cuts L M B l (atp (cuts L M B l 0) k) := by
  rcases k with _ | k
  · rfl
  · have h := cuts_drop L M B l hM k 0 (by omega)
    rw [h]; rfl
theorem cuts_get (L M B : Int) (l : List Int) (hM : 1 ≤ M) (k : Nat) (hk : k < (cuts L M B l 0).length) :
    atp (cuts L M B l 0) k < l.length ∧ (cuts L M B l 0).getD k 0 = atp (cuts L M B l 0) k + fe L M B (l.drop (atp (cuts L M B l 0) k)) := by
  have h := cuts_dropk L M B l hM k (by omega)
  have hlt : atp (cuts L M B l 0) k < l.length := by
    rcases Nat.lt_or_ge (atp (cuts L M B l 0) k) l.length with h1 | h1
    · exact h1
    · rw [cuts_end L M B l _ h1] at h
      have := congrArg List.length h
      rw [List.length_drop] at this; simp at this; omega
  refine ⟨hlt, ?_⟩
  rw [cuts_more L M B l _ hM hlt] at h
  have h2 := congrArg (fun x : List Nat => x[0]?) h
  simp only [List.getElem?_drop, Nat.add_zero, List.getElem?_cons_zero] at h2
  rw [List.getD_eq_getElem?_getD, h2]; rfl
theorem cuts_last (L M B : Int) (l : List Int) (hM : 1 ≤ M) : atp (cuts L M B l 0) (cuts L M B l 0).length = l.length := by
  have h := cuts_dropk L M B l hM _ (Nat.le_refl _)
  rw [List.drop_length] at h
  have h1 : l.length ≤ atp (cuts L M B l 0) (cuts L M B l 0).length := by
    rcases Nat.lt_or_ge (atp (cuts L M B l 0) (cuts L M B l 0).length) l.length with h1 | h1
    · rw [cuts_more L M B l _ hM h1] at h; cases h
    · exact h1
  rcases Nat.eq_zero_or_pos (cuts L M B l 0).length with h0 | h0
  · rw [h0] at h1 ⊢; unfold atp at h1 ⊢; simp at h1 ⊢; rw [h1]; rfl
  · have h2 := cuts_get L M B l hM ((cuts L M B l 0).length - 1) (by omega)
    have h3 := fe_in L M B l (atp (cuts L M B l 0) ((cuts L M B l 0).length - 1)) (by omega)
    have h4 : atp (cuts L M B l 0) (cuts L M B l 0).length = (cuts L M B l 0).getD ((cuts L M B l 0).length - 1) 0 := by
      generalize hn : (cuts L M B l 0).length = n at h0 ⊢
      unfold atp; rw [if_neg (by omega)]
    omega
def pcs (l : List Int) (cs : List Nat) : List (List Int) := (List.range cs.length).map (fun k => (l.drop (atp cs k)).take (cs.getD k 0 - atp cs k))
theorem pcs_length (l : List Int) (cs : List Nat) : (pcs l cs).length = cs.length := by simp [pcs]
theorem pcs_get (l : List Int) (cs : List Nat) (k : Nat) (h : k < cs.length) : (pcs l cs).getD k [] = (l.drop (atp cs k)).take (cs.getD k 0 - atp cs k) := by
  rw [List.getD_eq_getElem?_getD, pcs, List.getElem?_map, List.getElem?_range h]; rfl
theorem pcs_take (l : List Int) (cs : List Nat) (k : Nat) (h : k < cs.length) : (pcs l cs).take (k + 1) = (pcs l cs).take k ++ [(l.drop (atp cs k)).take (cs.getD k 0 - atp cs k)] := by
  have hl : k < (pcs l cs).length := by rw [pcs_length]; exact h
  rw [List.take_succ_eq_append_getElem hl, ← pcs_get l cs k h, List.getD_eq_getElem?_getD, List.getElem?_eq_getElem hl]; rfl
end Go.Proofs.GearMath

namespace Go.Proofs.YtheklipnnflnaaaDoor.Gear
open Go.RowKit Go.Proofs.GearMath
open GRows (MadeR madeR_none append_made clone_any run_cut2 made_row cell_new1)
set_option linter.unusedVariables false
set_option maxRecDepth 1000000

theorem pieces_no (a : Option Addr) (n cap : Nat) (L M B : Int) (w : World) (hn : n ≤ 9223372036854775807) (h : mc L M B n ≠ 0) :
    Calls Tryd.prog 20 #[.slice a n cap, P3 L M B] w fun e w' => e = .returned (.tuple #[.slice none 0 0, .int .i64 (mc L M B n)]) ∧ Below w.heap.size w w' := by
  have HC := Lib.hid (fun W => cuts_no a n cap L M B W hn h)
  obtain ⟨w1, hw1⟩ : ∃ w1, w1 = w.alloc (Obj.cells #[.int .i64 L, .int .i64 M, .int .i64 B] 28) := ⟨_, rfl⟩
  have HB1 : Hid (Below w.heap.size w w1) := by rw [hw1]; exact (Below.refl _ _).alloc (Nat.le_refl _) _
  generalize mc L M B n = r at *
  have hb : (r == 0) = false := by simpa using h
  unfold P3 at *
  go_enter Tryd.func20, Tryd.ntmps20
  go_wp2_with fail
  rw [← hw1]
  clear hw1
  refine (HC.out _).mono ?_
  rintro e w2 ⟨rfl, hb2⟩
  go_wp2
  refine bodyPost_ret (v := .tuple #[.slice none 0 0, .int .i64 r]) (by simp [results, go_sem]) rfl ⟨rfl, HB1.out.trans (hb2.mono HB1.out.size)⟩

set_option maxHeartbeats 4000000 in
theorem pieces_yes (u : Value) (l : List Int) (L M B : Int) (w : World) (hT : Tab w) (hS : Sl w u l) (ho : Oct l) (h : mc L M B l.length = 0) :
    Calls Tryd.prog 20 #[u, P3 L M B] w fun e w' => ∃ v, e = .returned (.tuple #[v, .int .i64 0]) ∧ MadeR w' w.heap.size v (pcs l (cuts L M B l 0)) ∧ Below w.heap.size w w' := by
  obtain ⟨hok, hl⟩ := mc_zero h
  have hM : 1 ≤ M := by unfold ok at hok; omega
  obtain ⟨w1, hw1⟩ : ∃ w1, w1 = w.alloc (Obj.cells #[.int .i64 L, .int .i64 M, .int .i64 B] 28) := ⟨_, rfl⟩
  have hb1 : Below w.heap.size w w1 := by rw [hw1]; exact (Below.refl _ _).alloc (Nat.le_refl _) _
  have HCU := Lib.hid (cuts_yes u l L M B w1 (hT.later hb1) (hS.later hb1) ho h)
  have hgt := cuts_get L M B l hM
  have hin : ∀ k, k < (cuts L M B l 0).length → atp (cuts L M B l 0) k ≤ (cuts L M B l 0).getD k 0 ∧ (cuts L M B l 0).getD k 0 ≤ l.length := by
    intro k hk
    have h1 := hgt k hk
    have h2 := fe_in L M B l (atp (cuts L M B l 0) k) (by omega)
    omega
  have hcl := cuts_length L M B l hM l.length 0 (by omega)
  have HIN := Lib.hid hin
  clear hgt hin hM hok h hT
  generalize cuts L M B l 0 = cs at *
  obtain ⟨N, hN⟩ : ∃ N, N = cs.length := ⟨_, rfl⟩
  obtain ⟨n, hn⟩ : ∃ n, n = l.length := ⟨_, rfl⟩
  obtain ⟨a, cap, rfl, hB, hnil, hcap⟩ := hS
  have HB := Lib.hid hB
  have HNIL := Lib.hid hnil
  have HB1 := Lib.hid hb1
  have HN := Lib.hid hN
  have HL := Lib.hid hn
  have HO := Lib.hid ho
  have HT0 : Hid ((pcs l cs).take cs.length = pcs l cs) := by show _ = _; rw [← pcs_length l cs, List.take_length]
  rw [← hn] at hcap hl HCU hcl ⊢
  rw [← hN] at hcl
  clear hB hnil hb1 ho hN hn
  unfold P3 at *
  go_enter Tryd.func20, Tryd.ntmps20
  go_wp2_with fail
  rw [← hw1]
  clear hw1
  refine HCU.out.mono ?_
  rintro e w2 ⟨v, rfl, hv, hb2⟩
  clear HCU
  have HSV := Lib.hid hv.sl
  obtain ⟨va, vc, ev⟩ := iown_form hv
  rw [← HN.out] at ev
  subst ev
  have HB2 : Hid (Below w.heap.size w w2) := HB1.out.trans (hb2.mono HB1.out.size)
  obtain ⟨ca, hmk, hmd⟩ := made_row w2 N (by omega)
  obtain ⟨w3, hw3⟩ : ∃ w3, w3 = w2.alloc (.cells ca 33) := ⟨_, rfl⟩
  have hb3 : Below w2.heap.size w2 w3 := by rw [hw3]; exact (Below.refl _ _).alloc (Nat.le_refl _) _
  rw [← hw3] at hmk hmd
  have HMD := Lib.hid hmd
  have HB3 := Lib.hid hb3
  clear hv hb2 hw3 hmd hb3
  go_wp2
  clear hmk
  go_loopw [8, 9, 26] (fun vo vp vi wr => ∃ k p : Nat, vp = .int .i64 p ∧ vi = .int .i64 k ∧ k ≤ N ∧ Hid (p = atp cs k) ∧ Hid (MadeR wr w2.heap.size vo ((pcs l cs).take k)) ∧ Hid (Below w2.heap.size w2 wr)) (fun _ _ vi _ => N - (intOf vi).toNat)
  case atStart => exact ⟨0, 0, rfl, rfl, by omega, (show _ = _ from rfl), (by show MadeR _ _ _ _; rw [List.take_zero]; exact HMD.out), HB3⟩
  case round =>
    obtain ⟨k, p, rfl, rfl, hk, HP, HV, HBR⟩ := hrel
    by_cases hlt : k < N
    · have hltI : (k : Int) < (N : Int) := by omega
      have hkc : k < cs.length := by rw [← HN.out]; exact hlt
      have ⟨hi1, hi2⟩ := HIN.out k hkc
      rw [← HP.out] at hi1
      rw [← HL.out] at hi2
      obtain ⟨va', vc', e1, hcl2⟩ := HSV.out
      rw [← HN.out] at e1
      simp only [Value.slice.injEq] at e1
      obtain ⟨rfl, -, rfl⟩ := e1
      obtain ⟨b, off, e2, hcell⟩ := hcl2 (by intro e; rw [e] at hkc; simp at hkc)
      subst e2
      have hck := cell_later HBR.out (hcell k hkc)
      have HTK := Lib.hid (pcs_take l cs k hkc)
      rw [← HP.out] at HTK
      have HE : Hid (cs.getD k 0 = atp cs (k + 1)) := by show _ = _; unfold atp; rw [if_neg (by omega)]; rfl
      generalize cs.getD k 0 = E at *
      have hbw : Below w.heap.size w wr := HB2.out.trans (HBR.out.mono HB2.out.size)
      obtain ⟨a', hrs, hsl⟩ := run_cut2 (HB.out.later hbw) cap n HL.out hcap HNIL.out p E hi1 hi2
      have HCL := Lib.hid (clone_any _ _ wr hsl (by rw [List.length_take, List.length_drop]; omega))
      have HPL : Hid (((pcs l cs).take k).length ≤ 200000) := by show _ ≤ _; rw [List.length_take]; omega
      have hk0 : (0 : Int) ≤ (k : Int) := by omega
      clear hsl hcell hcl2 hbw
      go_wp2_with fail
      refine HCL.out.mono ?_
      rintro e w4 ⟨pv, rfl, hown, hb4⟩
      clear hrs HCL hck
      obtain ⟨pa, pc, ep⟩ := own_form hown
      generalize (List.take (E - p) (List.drop p l)).length = pl at ep
      subst ep
      have hb5 : Below w4.heap.size w4 (w4.alloc (.cells #[.slice pa pl pc] 33)) := (Below.refl _ _).alloc (Nat.le_refl _) _
      have hbr5 : Below wr.heap.size wr (w4.alloc (.cells #[.slice pa pl pc] 33)) := hb4.trans (hb5.mono hb4.size)
      have hsr : w2.heap.size ≤ wr.heap.size := HBR.out.size
      have HV5 := Lib.hid (HV.out.below hbr5)
      have HW5 := Lib.hid ((hown.below hb5).lower hsr)
      have HC5 := Lib.hid (cell_new1 w4 (.slice pa pl pc) 33)
      have HBR5 : Hid (Below w2.heap.size w2 (w4.alloc (.cells #[.slice pa pl pc] 33))) := HBR.out.trans (hbr5.mono hsr)
      have HSZ5 : Hid (w2.heap.size ≤ (w4.alloc (.cells #[.slice pa pl pc] 33)).heap.size) := Nat.le_trans hsr hbr5.size
      clear hown hb4 hb5 hbr5 hsr
      go_wp2_with (at_builtin; refine append_made rfl (.tmp 30) (.tmp 36) rfl w2.heap.size w4.heap.size _ (.slice pa pl pc) _ _ rfl HV5.out rfl HC5.out HW5.out HPL.out HSZ5.out ?_; intro v6 w6 HV6 hb6)
      go_roundw
      case rel =>
        refine ⟨k + 1, E, rfl, by go_num, by omega, HE, ?_, HBR5.out.trans hb6⟩
        show MadeR _ _ _ _
        rw [HTK.out]; exact HV6.out
      case measure => simp [intOf]; omega
    · have hltI : ¬ (k : Int) < (N : Int) := by omega
      have ek : k = cs.length := by rw [← HN.out]; omega
      rw [ek, HT0.out] at HV
      have HVL : Hid (MadeR wr w.heap.size _ (pcs l cs)) := HV.out.lower HB2.out.size
      have HBW : Hid (Below w.heap.size w wr) := HB2.out.trans (HBR.out.mono HB2.out.size)
      clear ek
      go_wp2
      refine bodyPost_ret (v := .tuple #[_, .int .i64 0]) (by simp [results, go_sem]) rfl ⟨_, rfl, HVL.out, HBW.out⟩
end Go.Proofs.YtheklipnnflnaaaDoor.Gear
