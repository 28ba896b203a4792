/- squash: a packing gone through; the law SquashTwice. (A template: seatgen.py fills it.) -/
import Derived.Test.YtboienpdnfcooaaSqBackM
import Derived.Test.YtboienpdnfcooaaSqUnLaw
namespace Go.Proofs.Ytboienpdnfcooaa.Sq
open Go.RowKit Go.Proofs.NumMath Go.Maps
open Num (trip encR encR_length G_enc)
set_option linter.unusedVariables false
set_option linter.unusedSimpArgs false
set_option maxRecDepth 1000000

/-- what is left of a packing behind so many bytes of the text -/
def RS (l : List Int) (all : Nat) (rest : List Int) : Prop :=
  (∃ p, all ≤ p ∧ p ≤ l.length ∧ rest = pk l all p []) ∨
  (∃ m d, 4 ≤ m ∧ m ≤ 130 ∧ 1 ≤ d ∧ d ≤ 4096 ∧ d ≤ all ∧ all + m ≤ l.length ∧ rest = mat m d ++ pk l (all + m) (all + m) [])
def RStep (l : List Int) (all : Nat) (rest : List Int) : Prop :=
  (rest = [] ∧ all = l.length) ∨
  (∃ dd rest', dd ≠ [] ∧ rest = encR (2 * dd.length) ++ (dd ++ rest') ∧ all + dd.length ≤ l.length ∧ RS l (all + dd.length) rest') ∨
  (∃ m d rest', 4 ≤ m ∧ m ≤ 130 ∧ 1 ≤ d ∧ d ≤ 4096 ∧ d ≤ all ∧ rest = mat m d ++ rest' ∧ all + m ≤ l.length ∧ RS l (all + m) rest')
theorem rs_pk (l : List Int) (all : Nat) : ∀ n p, l.length - p ≤ n → all ≤ p → p ≤ l.length → RStep l all (pk l all p []) := by
  have hend : ∀ p, l.length ≤ p → all ≤ l.length → RStep l all (pk l all p []) := by
    intro p hp ha
    rw [pk_end _ _ _ _ hp]
    by_cases h0 : l.drop all = []
    · left
      have : l.length ≤ all := by have := congrArg List.length h0; rw [List.length_drop] at this; simp at this; omega
      exact ⟨by unfold putR; rw [if_pos h0], by omega⟩
    · right; left
      refine ⟨l.drop all, [], h0, ?_, by rw [List.length_drop]; omega, .inl ⟨l.length, by rw [List.length_drop]; omega, Nat.le_refl _, ?_⟩⟩
      · unfold putR; rw [if_neg h0, List.nil_append, List.append_nil]
      · rw [pk_end _ _ _ _ (Nat.le_refl _)]
        unfold putR
        rw [if_pos]
        rw [List.drop_eq_nil_iff, List.length_drop]; omega
  intro n
  induction n with
  | zero => intro p h h1 h2; exact hend p (by omega) (by omega)
  | succ n ih =>
    intro p h h1 h2
    by_cases hp : p < l.length
    · by_cases hb : (best l p).1 < 4
      · rw [pk_tell _ _ _ _ hp hb]; exact ih (p + 1) (by omega) (by omega) (by omega)
      · obtain ⟨m1, m2, m3, m4, m5, m6⟩ := best_match l p hp (by omega)
        rw [pk_match _ _ _ _ hp (by omega), pk_app l _ _ _ _ (Nat.le_refl _)]
        generalize best l p = bb at *
        obtain ⟨m, d⟩ := bb
        simp only at *
        by_cases ht : all = p
        · subst ht
          right; right
          refine ⟨m, d, pk l (all + m) (all + m) [], by omega, m4, m1, m3, m2, ?_, m5, .inl ⟨all + m, Nat.le_refl _, m5, rfl⟩⟩
          rw [cut_self]
          rw [show putR [] ([] : List Int) = [] from by unfold putR; rw [if_pos rfl], List.nil_append]
        · right; left
          have hcl : (cut l all p).length = p - all := cut_length _ _ _ h1 (by omega)
          have hne : cut l all p ≠ [] := by intro e; rw [e] at hcl; simp at hcl; omega
          refine ⟨cut l all p, mat m d ++ pk l (p + m) (p + m) [], hne, ?_, by omega, .inr ⟨m, d, by omega, m4, m1, m3, by omega, by omega, ?_⟩⟩
          · unfold putR; rw [if_neg hne, List.nil_append]; simp only [List.append_assoc]
          · rw [show all + (cut l all p).length = p from by omega]
    · exact hend p (by omega) (by omega)
theorem rs_step {l : List Int} {all : Nat} {rest : List Int} (h : RS l all rest) : RStep l all rest := by
  rcases h with ⟨p, h1, h2, rfl⟩ | ⟨m, d, k1, k2, k3, k4, k5, k6, rfl⟩
  · exact rs_pk l all _ p (Nat.le_refl _) h1 h2
  · exact .inr (.inr ⟨m, d, _, k1, k2, k3, k4, k5, rfl, k6, .inl ⟨all + m, Nat.le_refl _, k6, rfl⟩⟩)
theorem rs_start (l : List Int) : RS l 0 (packL l) := .inl ⟨0, Nat.le_refl _, Nat.zero_le _, rfl⟩

set_option maxHeartbeats 16000000 in
theorem squashTwice_walk (a : Option Addr) (n cap : Nat) (l : List Int) (w : World) (hS : Sl w (.slice a n cap) l) (hn : n = l.length) :
    Calls Try.prog 8 #[.slice a n cap] w fun e w' => e = .returned (.bool true) ∧ Below w.heap.size w w' := by
  have hA := Lib.hid (fun W => awake_sq W)
  by_cases hbig : n ≤ 4000
  · by_cases hsm : 4 ≤ n
    · have hI : ¬ (4000 : Int) < (n : Int) := by omega
      have hJ : ¬ (n : Int) < 4 := by omega
      have HS := Lib.hid hS
      have HN := Lib.hid hn
      have HO := Lib.hid (sl_oct hS)
      have HL1 : Hid (([] : List Int).length + l.length ≤ 140737488355328) := by show _ ≤ _; simp; omega
      have HL2 : Hid (l.length + l.length ≤ 140737488355328) := by show _ ≤ _; omega
      have hnil0 : Hid (Own w w.heap.size (.slice none 0 0) []) := Own.nil _ _
      clear hS hn
      go_enter Try.func8, Try.ntmps8
      go_wp2_with (at_builtin; go_must (refine append_sl rfl (.tmp 24) (.tmp 25) rfl w.heap.size _ _ [] l rfl hnil0.out rfl HS.out HL1.out (Nat.le_refl _) ?_))
      intro v2 w2 HV2 hb2
      have HB2 := Lib.hid hb2
      have HV2' : Hid (Own w2 w.heap.size v2 l) := HV2.out
      have HS2 := Lib.hid (HS.out.later hb2)
      obtain ⟨a2, c2, e2⟩ := own_form HV2'.out
      rw [← HN.out] at e2
      subst e2
      clear hb2 HV2 hnil0
      go_wp2_with (at_builtin; go_must (refine append_sl rfl (.tmp 26) (.tmp 27) rfl w.heap.size _ _ l l rfl HV2'.out rfl HS2.out HL2.out HB2.out.size ?_))
      intro v3 w3 HV3 hb3
      obtain ⟨L, hL⟩ : ∃ L, L = l ++ l := ⟨_, rfl⟩
      have hLl : L.length = n + n := by rw [hL, List.length_append, ← HN.out]
      have HB3 : Hid (Below w.heap.size w w3) := HB2.out.trans hb3
      have HST : Hid (Sl w3 v3 L) := by show Sl _ _ _; rw [hL]; exact HV3.out.sl (oct_app HO.out HO.out)
      obtain ⟨a3, c3, e3⟩ := sl_form' HST.out
      obtain ⟨T, hT⟩ : ∃ T, T = L.length := ⟨_, rfl⟩
      have HT := Lib.hid hT
      rw [← hT] at e3 hLl
      subst e3
      have hTb : T ≤ 8000 := by omega
      have HP := Lib.hid (pack_any _ L w3 HST.out (by rw [← hT]; omega))
      have hpl := pack_len L (by rw [← hT]; omega)
      have hun := un_pack L (by rw [← hT]; omega)
      rw [← hT] at hpl
      obtain ⟨P, hP⟩ : ∃ P, P = (packL L).length := ⟨_, rfl⟩
      have HPL := Lib.hid hP
      rw [← hP] at hpl
      have HUN := Lib.hid hun
      have HBD := Lib.hid (fun W => bound_any (T : Int) W)
      have hbn : bnd (T : Int) = (T : Int) + (T : Int) / 64 + 3 := by unfold bnd; rw [if_neg (by omega)]
      rw [hbn] at HBD
      have hPI : (P : Int) ≤ (T : Int) + (T : Int) / 64 + 3 := by omega
      have HPB : Hid (P ≤ 9000) := by show _ ≤ _; omega
      clear hb3 HV3 HV2' HS2 hL hT hP hbn hpl hun hLl HL1 HL2
      go_wp2_with fail
      refine HP.out.mono ?_
      rintro e w4 ⟨vp, rfl, hvp, hb4⟩
      obtain ⟨pa, pc, ep⟩ := sl_form' hvp
      rw [← HPL.out] at ep
      subst ep
      have HU4 := Lib.hid (unpack_any _ (packL L) (T : Int) w4 hvp (by rw [← HPL.out]; have := HPB.out; omega))
      rw [HUN.out] at HU4
      have HVP := Lib.hid hvp
      have HST4 := Lib.hid (HST.out.later hb4)
      have HB4 : Hid (Below w.heap.size w w4) := HB3.out.trans (hb4.mono HB3.out.size)
      clear hvp hb4 HP HST
      go_wp2_with fail
      refine HU4.out.mono ?_
      rintro e w5 ⟨hu, hb5⟩
      have hu' : ∃ v, e = .returned (.tuple #[v, .int .i64 0]) ∧ Sl w5 v L := by
        unfold UE at hu
        simp only at hu
        rw [if_neg (by have := HT.out; omega)] at hu
        exact hu
      obtain ⟨v5, rfl, hv5⟩ := hu'
      obtain ⟨ta, tc, et⟩ := sl_form' hv5
      rw [← HT.out] at et
      subst et
      have HSM := Lib.hid (same10 _ _ L w5 hv5 (HST4.out.later hb5))
      have HVP5 := Lib.hid (HVP.out.later hb5)
      have HB5 : Hid (Below w.heap.size w w5) := HB4.out.trans (hb5.mono HB4.out.size)
      have HG : Hid (∀ (p : Nat), Calls Try.prog 20 #[.slice pa P pc, .int .i64 (p : Int)] w5 fun e w' => e = .returned (trip (G (packL L) p)) ∧ w5 = w') := by
        intro p
        obtain ⟨x, y, e, hB, _⟩ := HVP5.out
        rw [← HPL.out] at e
        rw [e, HPL.out]
        exact Num.get_any x y (packL L) p w5 (by rw [← HPL.out]; have := HPB.out; omega) ⟨fun i => hB.1.getD i, hB.2⟩
      clear hu hv5 hb5 HU4 HVP HST4
      go_wp2
      go_loopw [7, 8] (fun vl vt wr => ∃ (all at' : Nat) (pre rest : List Int), vl = .int .i64 all ∧ vt = .int .i64 at' ∧ all ≤ T ∧ at' ≤ P ∧ Hid (packL L = pre ++ rest) ∧ Hid (at' = pre.length) ∧ Hid (RS L all rest) ∧ wr = w5) (fun _ vt _ => P - (intOf vt).toNat)
      case atStart => exact ⟨0, 0, [], packL L, rfl, rfl, by omega, by omega, (show _ = _ from rfl), (show _ = _ from rfl), rs_start L, rfl⟩
      case round =>
        obtain ⟨all, p, pre, rest, rfl, rfl, hall, hpP, HPR, HPP, HRS, rfl⟩ := hrel
        have hlen : P = p + rest.length := by rw [HPL.out, HPR.out, List.length_append, ← HPP.out]
        have HG1 := Lib.hid (HG.out p)
        have hPb := HPB.out
        rcases rs_step HRS.out with ⟨h1, h2⟩ | ⟨dd, rest', h1, h2, h3, h4⟩ | ⟨m, d, rest', k1, k2, k3, k4, k5, k6, k7, k8⟩
        · rw [h1] at hlen
          have hpe : p = P := by rw [List.length_nil] at hlen; omega
          have hae : all = T := by rw [h2, HT.out]
          subst hpe hae
          have hltI : ¬ (p : Int) < (p : Int) := by omega
          clear h1 h2 hlen HPP
          go_wp2_with fail
          refine HSM.out.mono ?_
          rintro e w7 ⟨rfl, rfl⟩
          go_wp2_with fail
          refine (HBD.out _).mono ?_
          rintro e w8 ⟨rfl, rfl⟩
          go_wp2_with fail
          refine (hA.out _).mono ?_
          rintro e w9 ⟨rfl, hb9⟩
          go_wp2
          go_ret
          exact ⟨rfl, HB5.out.trans (hb9.mono HB5.out.size)⟩
        · obtain ⟨q, hq⟩ : ∃ q, q = dd.length := ⟨_, rfl⟩
          have hq0 : 0 < q := by rw [hq]; exact List.length_pos_iff.2 h1
          have hrl : rest.length = sizeN (2 * q) + (q + rest'.length) := by rw [h2, List.length_append, List.length_append, encR_length, hq]
          rw [← hq] at h3 h4
          have h3T : all + q ≤ T := by rw [HT.out]; exact h3
          have hG := G_enc pre (dd ++ rest') (2 * q) (by omega)
          have hs9 := sizeN_pos (2 * q)
          rw [hq, ← h2, ← HPR.out, ← hq, ← HPP.out] at hG
          rw [hG] at HG1
          simp only [trip] at HG1
          have HPR2 : Hid (packL L = (pre ++ (encR (2 * q) ++ dd)) ++ rest') := by show _ = _; rw [HPR.out, h2, hq]; simp only [List.append_assoc]
          have HPP2 : Hid (p + sizeN (2 * q) + q = (pre ++ (encR (2 * q) ++ dd)).length) := by show _ = _; rw [List.length_append, List.length_append, encR_length, ← HPP.out, ← hq]; omega
          have HRS2 := Lib.hid h4
          have hltI : (p : Int) < (P : Int) := by omega
          have hend : p + sizeN (2 * q) + q ≤ P := by omega
          generalize sizeN (2 * q) = z at *
          have hc1 : ((2 * q : Nat) : Int) = 2 * (q : Int) := by omega
          have hc2 : ((p + z : Nat) : Int) = (p : Int) + (z : Int) := by omega
          rw [hc1, hc2] at HG1
          have m1 : (2 * (q : Int)).tmod 2 = 0 := by rw [Int.tmod_eq_emod_of_nonneg (by omega)]; omega
          have m1' : (2 * (q : Int)) % 2 = 0 := by omega
          have m2 : (2 * (q : Int)).tdiv 2 = (q : Int) := by rw [Int.tdiv_eq_ediv_of_nonneg (by omega)]; omega
          have m2' : (2 * (q : Int)) / 2 = (q : Int) := by omega
          have w1' : IntKind.i64.wrap ((all : Int) + (q : Int)) = (all : Int) + (q : Int) := by rw [IntKind.wrap_i64]; omega
          have w2' : IntKind.i64.wrap ((p : Int) + (z : Int) + (q : Int)) = (p : Int) + (z : Int) + (q : Int) := by rw [IntKind.wrap_i64]; omega
          clear h1 h2 h3 h4 hq hrl hG hlen hc1 hc2
          go_wp2_with fail
          refine HG1.out.mono ?_
          rintro e w7 ⟨rfl, rfl⟩
          go_wp2
          go_roundw
          case rel => exact ⟨all + q, p + z + q, _, rest', by go_num, by go_num, h3T, hend, HPR2, HPP2, HRS2, by first | trivial | rfl⟩
          case measure => simp [intOf]; omega
        · have hG := G_enc pre (encR d ++ rest') (2 * (m - 4) + 1) (by omega)
          have hG2 := G_enc (pre ++ encR (2 * (m - 4) + 1)) rest' d (by omega)
          have hs1 := sizeN_pos (2 * (m - 4) + 1)
          have hs2 := sizeN_pos d
          have e1 : packL L = pre ++ (encR (2 * (m - 4) + 1) ++ (encR d ++ rest')) := by rw [HPR.out, k6]; unfold mat; simp only [List.append_assoc]
          have e2 : packL L = (pre ++ encR (2 * (m - 4) + 1)) ++ (encR d ++ rest') := by rw [e1]; simp only [List.append_assoc]
          have hrl : rest.length = sizeN (2 * (m - 4) + 1) + (sizeN d + rest'.length) := by rw [k6]; unfold mat; rw [List.length_append, List.length_append, encR_length, encR_length]; omega
          rw [← e1, ← HPP.out] at hG
          rw [← e2, List.length_append, encR_length, ← HPP.out] at hG2
          rw [hG] at HG1
          have HG2 := Lib.hid (HG.out (p + sizeN (2 * (m - 4) + 1)))
          rw [hG2] at HG2
          simp only [trip] at HG1 HG2
          have HPR2 : Hid (packL L = (pre ++ mat m d) ++ rest') := by show _ = _; rw [HPR.out, k6]; simp only [List.append_assoc]
          have HPP2 : Hid (p + sizeN (2 * (m - 4) + 1) + sizeN d = (pre ++ mat m d).length) := by show _ = _; unfold mat; rw [List.length_append, List.length_append, encR_length, encR_length, ← HPP.out]; omega
          have HRS2 := Lib.hid k8
          have k7T : all + m ≤ T := by rw [HT.out]; exact k7
          have hltI : (p : Int) < (P : Int) := by omega
          have hend : p + sizeN (2 * (m - 4) + 1) + sizeN d ≤ P := by omega
          generalize sizeN (2 * (m - 4) + 1) = z at *
          generalize sizeN d = y at *
          obtain ⟨q, hq⟩ : ∃ q, q = m - 4 := ⟨_, rfl⟩
          rw [← hq] at HG1
          have hm4 : m = q + 4 := by omega
          have hc1 : ((2 * q + 1 : Nat) : Int) = 2 * (q : Int) + 1 := by omega
          have hc2 : ((p + z : Nat) : Int) = (p : Int) + (z : Int) := by omega
          have hc3 : ((p + z + y : Nat) : Int) = (p : Int) + (z : Int) + (y : Int) := by omega
          rw [hc1, hc2] at HG1
          rw [hc2, hc3] at HG2
          have m1 : (2 * (q : Int) + 1).tmod 2 = 1 := by rw [Int.tmod_eq_emod_of_nonneg (by omega)]; omega
          have m1' : (2 * (q : Int) + 1) % 2 = 1 := by omega
          have m2 : (2 * (q : Int) + 1).tdiv 2 = (q : Int) := by rw [Int.tdiv_eq_ediv_of_nonneg (by omega)]; omega
          have m2' : (2 * (q : Int) + 1) / 2 = (q : Int) := by omega
          have w1' : IntKind.i64.wrap ((all : Int) + (q : Int)) = (all : Int) + (q : Int) := by rw [IntKind.wrap_i64]; omega
          have w2' : IntKind.i64.wrap ((all : Int) + (q : Int) + 4) = (all : Int) + (q : Int) + 4 := by rw [IntKind.wrap_i64]; omega
          have f1 : ¬ (d : Int) < 1 := by omega
          have f2 : ¬ (4096 : Int) < (d : Int) := by omega
          have f3 : ¬ (all : Int) < (d : Int) := by omega
          have f1n : ¬ d < 1 := by omega
          have f3n : ¬ all < d := by omega
          clear hG hG2 e1 e2 hrl hlen hc1 hc2 hc3 k6 k8 hq
          go_wp2_with fail
          refine HG1.out.mono ?_
          rintro e w7 ⟨rfl, rfl⟩
          go_wp2_with fail
          refine HG2.out.mono ?_
          rintro e w8 ⟨rfl, rfl⟩
          go_wp2
          go_roundw
          case rel => exact ⟨all + m, p + z + y, _, rest', by first | rfl | go_num | (show Value.int _ _ = Value.int _ _; congr 1; omega), by go_num, k7T, hend, HPR2, HPP2, HRS2, by first | trivial | rfl⟩
          case measure => simp [intOf]; omega
    · have hI : ¬ (4000 : Int) < (n : Int) := by omega
      have hJ : (n : Int) < 4 := by omega
      clear hS hn
      go_enter Try.func8, Try.ntmps8
      go_wp2_with fail
      refine (hA.out _).mono ?_
      rintro e w9 ⟨rfl, hb9⟩
      go_wp2
      go_ret
      exact ⟨rfl, hb9⟩
  · have hI : (4000 : Int) < (n : Int) := by omega
    clear hS hn
    go_enter Try.func8, Try.ntmps8
    go_wp2_with fail
    refine (hA.out _).mono ?_
    rintro e w9 ⟨rfl, hb9⟩
    go_wp2
    go_ret
    exact ⟨rfl, hb9⟩
end Go.Proofs.Ytboienpdnfcooaa.Sq
