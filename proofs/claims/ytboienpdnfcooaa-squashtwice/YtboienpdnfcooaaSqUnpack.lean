/- squash: Check, Unpack. (A template: seatgen.py fills it.) -/
import Derived.Test.YtboienpdnfcooaaSqEach
namespace Go.Proofs.Ytboienpdnfcooaa.Sq
open Go.RowKit Go.Proofs.NumMath Go.Maps
open Num (trip)
set_option linter.unusedVariables false
set_option linter.unusedSimpArgs false
set_option maxRecDepth 1000000

theorem un_good (l : List Int) (ho : Oct l) (hl : l.length ≤ 140737488355328) : ∀ n p t af r, l.length - p ≤ n → Oct t → t.length ≤ 65536 → un l p t af = .ok r → Oct r ∧ r.length ≤ 65536 := by
  intro n
  induction n with
  | zero =>
    intro p t af r hn hot htl h
    rw [un_end l p t af (by omega)] at h
    injection h with h
    subst h
    exact ⟨hot, htl⟩
  | succ n ih =>
    intro p t af r hn hot htl h
    by_cases hp : p < l.length
    · cases hX : rp l p t.length af with
      | error er => rw [un_err l p t af er hp hX] at h; cases h
      | ok x =>
        obtain ⟨k, d, told, beh⟩ := x
        have hR := rp_ok htl ho hl hX
        rw [un_ok hp hX hR.1] at h
        have hlen := ex_length hR
        exact ih beh _ _ r (by have := hR.1; omega) (ex_oct hR hot) (by have := hR.2.2.1; omega) h
    · rw [un_end l p t af (by omega)] at h
      injection h with h
      subst h
      exact ⟨hot, htl⟩

theorem un_bad (l : List Int) (ho : Oct l) (hl : l.length ≤ 140737488355328) : ∀ n p t af er, l.length - p ≤ n → t.length ≤ 65536 → un l p t af = .error er → er ≠ 0 := by
  intro n
  induction n with
  | zero => intro p t af er hn htl h; rw [un_end l p t af (by omega)] at h; cases h
  | succ n ih =>
    intro p t af er hn htl h
    by_cases hp : p < l.length
    · cases hX : rp l p t.length af with
      | error er' =>
        rw [un_err l p t af er' hp hX] at h
        injection h with h
        subst h
        exact rp_err hl hX
      | ok x =>
        obtain ⟨k, d, told, beh⟩ := x
        have hR := rp_ok htl ho hl hX
        rw [un_ok hp hX hR.1] at h
        have hlen := ex_length hR
        exact ih beh _ _ er (by have := hR.1; omega) (by have := hR.2.2.1; omega) h
    · rw [un_end l p t af (by omega)] at h; cases h

theorem check_any (u : Value) (l : List Int) (w : World) (hS : Sl w u l) (hl : l.length ≤ 140737488355328) :
    Calls Try.prog 17 #[u] w fun e w' => e = EP (un l 0 [] false) ∧ Below w.heap.size w w' := by
  have hent : Enters Try.prog 31 := enters_of Try.func31 (by kernel_rfl) rfl
  have hE := eachPart_any 31 hent #[] (fun _ _ => True) w.heap.size u l w (Nat.le_refl _) (sl_form' hS) (fun W hb => hS.later hb) (sl_oct hS) hl trivial (fun _ _ _ _ _ => trivial)
    (fun t k d ua told W _ hw _ _ _ _ _ => (by
      refine (show Calls Try.prog _ (#[partV k d ua] ++ #[]) W _ from ?_)
      rw [Array.append_empty]
      refine (check1_any k d ua W).mono ?_
      rintro e W' ⟨rfl, hb⟩
      exact ⟨rfl, trivial, hb.mono hw, fun b cs ty fr h1 _ _ => by rw [hb.block b (heap_lt h1)]; exact h1⟩))
  have HE := Lib.hid hE
  clear hE
  generalize un l 0 [] false = r at *
  obtain ⟨a, c, rfl⟩ := sl_form' hS
  clear hS
  cases r with
  | error er =>
    go_enter Try.func17, Try.ntmps17
    go_wp2_with fail
    refine HE.out.mono ?_
    rintro e w2 ⟨he, _, hb⟩
    simp only [EP] at he
    subst he
    go_wp2
    refine bodyPost_ret (v := .tuple #[.int .i64 0, .int .i64 er]) (by simp [results, go_sem]) rfl ⟨rfl, hb⟩
  | ok t =>
    go_enter Try.func17, Try.ntmps17
    go_wp2_with fail
    refine HE.out.mono ?_
    rintro e w2 ⟨he, _, hb⟩
    simp only [EP] at he
    subst he
    go_wp2
    refine bodyPost_ret (v := .tuple #[.int .i64 (t.length : Nat), .int .i64 0]) (by simp [results, go_sem]) rfl ⟨rfl, hb⟩

/-- what Unpack answers -/
def UE (r : Except Int (List Int)) (most : Int) (e : Ending) (w' : World) : Prop :=
  match r with
  | .error er => e = .returned (.tuple #[.slice none 0 0, .int .i64 er])
  | .ok t => if max most 0 < (t.length : Int) then e = .returned (.tuple #[.slice none 0 0, .int .i64 7]) else ∃ v, e = .returned (.tuple #[v, .int .i64 0]) ∧ Sl w' v t
theorem make_own (w : World) (n : Nat) (hn : n ≤ 200000) : ∃ cs, (Instr.makeSlice 22 (.int .i64 0) (.int .i64 (n : Int))).run Try.prog w = .ok (.slice (some ⟨w.heap.size, 0, none⟩) 0 n) (w.alloc (.cells cs 5)) ∧ Own (w.alloc (.cells cs 5)) w.heap.size (.slice (some ⟨w.heap.size, 0, none⟩) 0 n) [] := by
  obtain ⟨i0, hi0, hz0, hz1, hzz⟩ := info_parts Try.infoB
  have hmk := run_make (P := Try.prog) w 22 5 i0 (.int .u8 0) Try.underlying22 hi0 hz0 .i64 .i64 0 n (by omega) (by omega) (by rw [hzz]; omega) (by omega)
  rw [hz1] at hmk
  simp only [Int.toNat_natCast, Int.toNat_zero] at hmk
  refine ⟨_, hmk, ?_⟩
  exact World.ownsRow_made (base := w.heap.size) (e := 5) (size := 1) w (madeCells (Value.int .u8 0).cells (n * 1)) n (Nat.le_refl _) (by unfold maxLen; omega) (by rw [size_madeCells])

set_option maxHeartbeats 8000000 in
theorem unpack_any (u : Value) (l : List Int) (most : Int) (w : World) (hS : Sl w u l) (hl : l.length ≤ 140737488355328) :
    Calls Try.prog 15 #[u, .int .i64 most] w fun e w' => UE (un l 0 [] false) most e w' ∧ Below w.heap.size w w' := by
  have HC := Lib.hid (check_any u l w hS hl)
  have hgood := un_good l (sl_oct hS) hl l.length 0 [] false
  have hbad := un_bad l (sl_oct hS) hl l.length 0 [] false
  have HS := Lib.hid hS
  have hent : Enters Try.prog 28 := enters_of Try.func28 (by kernel_rfl) rfl
  have HEP := Lib.hid (fun (base bo : Nat) W hbase hS' hJ0 hJb hdo => eachPart_any 28 hent #[.pointer (some ⟨bo, 0, none⟩)] (Cap base bo) base u l W hbase (sl_form' hS) hS' (sl_oct hS) hl hJ0 hJb hdo)
  obtain ⟨a, c, rfl⟩ := sl_form' hS
  generalize hr : un l 0 [] false = r at *
  obtain ⟨N, hN⟩ : ∃ N, N = l.length := ⟨_, rfl⟩
  have HN := Lib.hid hN
  have hmf : ∀ (fn : Fn) (first cap : Array Value) (w : World), (Instr.makeFunc fn first cap).run Try.prog w = .ok (.func fn first cap) w := fun _ _ _ _ => rfl
  rw [← hN] at HC HS HEP ⊢
  have HGOOD := Lib.hid hgood
  have HBAD := Lib.hid hbad
  clear hS hr hgood hN hbad
  cases r with
  | error er =>
    have her : er ≠ 0 := HBAD.out er (by omega) (by simp) rfl
    have herb : (er == 0) = false := by simpa using her
    clear HEP HGOOD HBAD
    go_enter Try.func15, Try.ntmps15
    go_wp2_with fail
    refine HC.out.mono ?_
    rintro e w2 ⟨he, hb2⟩
    simp only [EP] at he
    subst he
    go_wp2
    refine bodyPost_ret (v := .tuple #[.slice none 0 0, .int .i64 er]) (by simp [results, go_sem]) rfl ⟨rfl, hb2⟩
  | ok t =>
    obtain ⟨hgo, hgl⟩ := HGOOD.out t (by omega) (fun x hx => by cases hx) (by simp) rfl
    obtain ⟨T, hT⟩ : ∃ T, T = t.length := ⟨_, rfl⟩
    have HT := Lib.hid hT
    have HGO := Lib.hid hgo
    rw [← hT] at hgl
    obtain ⟨M, hM⟩ : ∃ M, M = max most 0 := ⟨_, rfl⟩
    have hmax : ∀ W, (Builtin.max_ #[3, 3] 3 #[.int .i64 most, .int .i64 0]).run Try.prog W = .ok (.int .i64 M) W := by
      intro W
      by_cases hq : 0 < most
      · have e : M = most := by omega
        rw [e]
        simp [Builtin.max_, Builtin.max2]
        try omega
      · have e : M = 0 := by omega
        rw [e]
        simp [Builtin.max_, Builtin.max2]
        try omega
    have HM := Lib.hid hM
    clear hgo hT hM HGOOD HBAD
    by_cases hbig : M < (T : Int)
    · clear HEP
      go_enter Try.func15, Try.ntmps15
      go_wp2_with fail
      refine HC.out.mono ?_
      rintro e w2 ⟨he, hb2⟩
      simp only [EP, ← HT.out] at he
      subst he
      go_wp2
      refine bodyPost_ret (v := .tuple #[.slice none 0 0, .int .i64 7]) (by simp [results, go_sem]) rfl ⟨?_, hb2⟩
      show if _ then _ else _
      rw [if_pos (by rw [← HM.out, ← HT.out]; exact hbig)]
    · go_enter Try.func15, Try.ntmps15
      go_wp2_with fail
      refine HC.out.mono ?_
      rintro e w2 ⟨he, hb2⟩
      simp only [EP, ← HT.out] at he
      subst he
      have HB2 := Lib.hid hb2
      obtain ⟨cs, hmk, hown⟩ := make_own w2 T (by omega)
      obtain ⟨w3, hw3⟩ : ∃ w3, w3 = w2.alloc (.cells cs 5) := ⟨_, rfl⟩
      rw [← hw3] at hmk hown
      have hb3 : Below w2.heap.size w2 w3 := by rw [hw3]; exact (Below.refl _ _).alloc (Nat.le_refl _) _
      have hs3 : w3.heap.size = w2.heap.size + 1 := by rw [hw3]; simp
      obtain ⟨w4, hw4⟩ : ∃ w4, w4 = w3.alloc (.cells #[.slice (some ⟨w2.heap.size, 0, none⟩) 0 T] 22) := ⟨_, rfl⟩
      have hb4 : Below w3.heap.size w3 w4 := by rw [hw4]; exact (Below.refl _ _).alloc (Nat.le_refl _) _
      have hs4 : w4.heap.size = w2.heap.size + 2 := by rw [hw4]; simp; omega
      have hh4 : w4.heap[w2.heap.size + 1]? = some (.cells #[.slice (some ⟨w2.heap.size, 0, none⟩) 0 T] 22) := by rw [hw4, ← hs3]; exact heap_new _ _
      have hb24 : Below w2.heap.size w2 w4 := hb3.trans (hb4.mono hb3.size)
      have hbw4 : Below w.heap.size w w4 := hb2.trans (hb24.mono hb2.size)
      have hcap : Cap w2.heap.size (w2.heap.size + 1) [] w4 := ⟨_, hh4, hown.below hb4⟩
      have HCALL := Lib.hid (HEP.out w2.heap.size (w2.heap.size + 1) w4 (by omega) (fun W hb => HS.out.later (hbw4.trans (hb.mono hb2.size))) hcap
        (fun t W W' ⟨v, h1, h2⟩ hb => ⟨v, by rw [hb.block _ (heap_lt h1)]; exact h1, h2.below hb⟩)
        (fun t k d ua told W hc hw hs ho hd hk ht => (unpack1_any k d ua told t w2.heap.size (w2.heap.size + 1) W (by omega) hc hs ho hd hk ht).mono (by
          rintro e W' ⟨rfl, h1, h2, h3⟩
          exact ⟨rfl, h1, h2, fun b cs ty fr hb hty hle => h3 b cs ty fr hb hty (by omega)⟩)))
      have HWW := Lib.hid hw4
      have HBW4 := Lib.hid hbw4
      have HS2 := Lib.hid hb2.size
      clear hb2 hb3 hb4 hb24 hbw4 hcap hown HEP hh4
      rw [hs3.symm] at HCALL
      clear hw4 hw3 hs3 hs4
      go_wp2_with fail
      rw [← HWW.out]
      refine HCALL.out.mono ?_
      rintro e w5 ⟨he, hJ, hb5⟩
      simp only [EP, ← HT.out] at he
      subst he
      obtain ⟨v, hh5, hv⟩ := hJ t rfl
      obtain ⟨va, vc, ev⟩ := own_form hv
      rw [← HT.out] at ev
      subst ev
      have d5 : w5.cell? ⟨w3.heap.size, 0, none⟩ = some (.slice va T vc) := by rw [cell_of_row w5 _ 0 _ _ (0, 0) hh5]; rfl
      have HV5 := Lib.hid (hv.sl HGO.out)
      have HB5 : Hid (Below w.heap.size w w5) := HBW4.out.trans (hb5.mono HS2.out)
      clear hh5 hv hJ hb5 HCALL hmf hmax hmk
      go_wp2
      refine bodyPost_ret (v := .tuple #[.slice va T vc, .int .i64 0]) (by simp [results, go_sem]) rfl ⟨?_, HB5.out⟩
      show if _ then _ else _
      rw [if_neg (by rw [← HM.out, ← HT.out]; omega)]
      exact ⟨_, rfl, HV5.out⟩
end Go.Proofs.Ytboienpdnfcooaa.Sq
