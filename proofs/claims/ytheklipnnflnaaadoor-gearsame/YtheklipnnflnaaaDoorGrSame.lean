/- gear: the same behind; the law GearSame. (A template: seatgen.py fills it.) -/
import Derived.Test.YtheklipnnflnaaaDoorGrLaws2
namespace Go.Proofs.GearMath
set_option linter.unusedVariables false
def plF (l : List Nat) (n : Nat) (i : Nat) : Int := if h : i < l.length then (if l.getD i 0 = n then (i : Int) + 1 else plF l n (i + 1)) else -1
termination_by l.length - i
theorem plF_end (l : List Nat) (n i : Nat) (h : l.length ≤ i) : plF l n i = -1 := by rw [plF, dif_neg (by omega)]
theorem plF_hit (l : List Nat) (n i : Nat) (h : i < l.length) (e : l.getD i 0 = n) : plF l n i = (i : Int) + 1 := by rw [plF, dif_pos h, if_pos e]
theorem plF_on (l : List Nat) (n i : Nat) (h : i < l.length) (e : ¬ l.getD i 0 = n) : plF l n i = plF l n (i + 1) := by rw [plF, dif_pos h, if_neg e]
theorem plF_spec (l : List Nat) (n : Nat) : ∀ d i, l.length - i ≤ d → plF l n i = -1 ∨ ∃ j, j < l.length ∧ l.getD j 0 = n ∧ plF l n i = (j : Int) + 1 := by
  intro d
  induction d with
  | zero => intro i h; exact .inl (plF_end l n i (by omega))
  | succ d ih =>
    intro i h
    by_cases hi : i < l.length
    · by_cases e : l.getD i 0 = n
      · exact .inr ⟨i, hi, e, plF_hit l n i hi e⟩
      · rw [plF_on l n i hi e]; exact ih (i + 1) (by omega)
    · exact .inl (plF_end l n i (by omega))
def plc (l : List Nat) (n : Nat) : Int := if n = 0 then 0 else plF l n 0
theorem plc_low (l : List Nat) (n : Nat) : -1 ≤ plc l n ∧ plc l n ≤ l.length := by
  unfold plc
  split
  · omega
  · rcases plF_spec l n _ 0 (Nat.le_refl _) with h | ⟨j, h1, h2, h3⟩ <;> omega
theorem plc_drop (L M B : Int) (x : List Int) (hM : 1 ≤ M) (n : Nat) (h : 0 ≤ plc (cuts L M B x 0) n) : (cuts L M B x 0).drop (plc (cuts L M B x 0) n).toNat = cuts L M B x n := by
  by_cases hn : n = 0
  · subst hn; unfold plc; rw [if_pos rfl]; rfl
  · unfold plc at h ⊢
    rw [if_neg hn] at h ⊢
    rcases plF_spec (cuts L M B x 0) n _ 0 (Nat.le_refl _) with h1 | ⟨j, h1, h2, h3⟩
    · omega
    · rw [h3, show ((j : Int) + 1).toNat = j + 1 from by omega, cuts_drop L M B x hM j 0 h1, h2]
theorem cuts_tail (L M B : Int) (x : List Int) (hM : 1 ≤ M) (c : Nat) : (cuts L M B (x.drop c) 0).map (c + ·) = cuts L M B x c := by
  have h := cuts_rest L M B x c hM (x.length - (c + 0)) 0 (Nat.le_refl _)
  simpa using h
/-- a row's end, read through the numbers that are added -/
theorem tail_get (cs r : List Nat) (i c : Nat) (h : cs.drop i = r.map (c + ·)) (hi : i ≤ cs.length) : r.length = cs.length - i ∧ ∀ k, k < r.length → cs.getD (i + k) 0 = c + r.getD k 0 := by
  have hl := congrArg List.length h
  rw [List.length_drop, List.length_map] at hl
  refine ⟨hl.symm, fun k hk => ?_⟩
  have hg := congrArg (fun z : List Nat => z[k]?) h
  simp only [List.getElem?_drop, List.getElem?_map] at hg
  rw [List.getElem?_eq_getElem hk] at hg
  rw [List.getD_eq_getElem?_getD, hg, List.getD_eq_getElem?_getD, List.getElem?_eq_getElem hk]
  rfl
theorem same_rest (L M B : Int) (x : List Int) (hM : 1 ≤ M) (i : Nat) (hi : i < (cuts L M B x 0).length) :
    (cuts L M B (x.drop ((cuts L M B x 0).getD i 0)) 0).length = (cuts L M B x 0).length - (i + 1) ∧ ∀ k, k < (cuts L M B (x.drop ((cuts L M B x 0).getD i 0)) 0).length → (cuts L M B x 0).getD (i + 1 + k) 0 = (cuts L M B x 0).getD i 0 + (cuts L M B (x.drop ((cuts L M B x 0).getD i 0)) 0).getD k 0 := by
  have h := cuts_tail L M B x hM ((cuts L M B x 0).getD i 0)
  rw [← cuts_drop L M B x hM i 0 hi] at h
  exact tail_get _ _ (i + 1) _ h.symm (by omega)
theorem same_end (L M B : Int) (a b : List Int) (hM : 1 ≤ M) (h : 0 ≤ plc (cuts L M B (a ++ b) 0) a.length) :
    (cuts L M B b 0).length = (cuts L M B (a ++ b) 0).length - (plc (cuts L M B (a ++ b) 0) a.length).toNat ∧ ∀ k, k < (cuts L M B b 0).length → (cuts L M B (a ++ b) 0).getD ((plc (cuts L M B (a ++ b) 0) a.length).toNat + k) 0 = a.length + (cuts L M B b 0).getD k 0 := by
  have h1 := plc_drop L M B (a ++ b) hM a.length h
  have h2 := cuts_tail L M B (a ++ b) hM a.length
  rw [List.drop_left] at h2
  rw [← h1] at h2
  have := plc_low (cuts L M B (a ++ b) 0) a.length
  exact tail_get _ _ _ _ h2.symm (by omega)
end Go.Proofs.GearMath

namespace Go.Proofs.YtheklipnnflnaaaDoor.Gear
open Go.RowKit Go.Proofs.GearMath
set_option linter.unusedVariables false
set_option maxRecDepth 1000000

theorem place_any (v : Value) (l : List Nat) (n : Nat) (w : World) (hv : ISl w v l) (hl : l.length ≤ 200000) :
    Calls Tryd.prog 22 #[v, .int .i64 (n : Int)] w fun e w' => e = .returned (.int .i64 (plc l n)) ∧ w' = w := by
  obtain ⟨a, cap, rfl, h1⟩ := hv
  by_cases hn : n = 0
  · subst hn
    rw [show plc l 0 = 0 from if_pos rfl]
    go_enter Tryd.func22, Tryd.ntmps22
    go_wp2
    go_ret
    exact ⟨rfl, rfl⟩
  · have hp : plc l n = plF l n 0 := if_neg hn
    have hnb : ((n : Int) == 0) = false := by simpa using hn
    obtain ⟨N, hN⟩ : ∃ N, N = l.length := ⟨_, rfl⟩
    have H1 := Lib.hid h1
    have HN := Lib.hid hN
    have HP := Lib.hid hp
    rw [← hN] at hl ⊢
    clear h1 hN hp
    generalize plc l n = r at *
    go_enter Tryd.func22, Tryd.ntmps22
    go_wp2
    go_loopw [5] (fun c wr => ∃ i : Nat, c = .int .i64 i ∧ i ≤ N ∧ Hid (r = plF l n i) ∧ wr = w) (fun c _ => N - (intOf c).toNat)
    case atStart => exact ⟨0, rfl, by omega, HP, rfl⟩
    case round =>
      obtain ⟨i, rfl, hi, HR, rfl⟩ := hrel
      by_cases hlt : i < N
      · have hil : i < l.length := by rw [← HN.out]; exact hlt
        obtain ⟨b, off, e1, c1⟩ := H1.out (by intro e; rw [e] at hil; simp at hil)
        subst e1
        have d1 := c1 i hil
        have HY := Lib.hid (plF_hit l n i hil)
        have HZ := Lib.hid (plF_on l n i hil)
        generalize (l.getD i 0) = x at *
        have hI : (i : Int) < (N : Int) := by omega
        have hi0 : (0 : Int) ≤ (i : Int) := by omega
        have hwi : IntKind.i64.wrap ((i : Int) + 1) = (i : Int) + 1 := by rw [IntKind.wrap_i64]; omega
        clear c1
        by_cases hx : x = n
        · have hxe : (x : Int) = (n : Int) := by omega
          have hxb : ((x : Int) == (n : Int)) = true := by simpa using hxe
          have HRR : Hid (r = (i : Int) + 1) := by show _ = _; rw [HR.out, HY.out hx]
          clear hx
          go_wp2
          go_ret
          exact ⟨by rw [HRR.out]; rfl, rfl⟩
        · have hxe : ¬ (x : Int) = (n : Int) := by omega
          have hxb : ((x : Int) == (n : Int)) = false := by simpa using hxe
          have HRR : Hid (r = plF l n (i + 1)) := by show _ = _; rw [HR.out, HZ.out hx]
          clear hx
          go_wp2
          go_roundw
          case rel => exact ⟨i + 1, by go_num, by omega, HRR, by first | trivial | rfl⟩
          case measure => simp [intOf]; omega
      · have hI : ¬ (i : Int) < (N : Int) := by omega
        have HRR : Hid (r = -1) := by show _ = _; rw [HR.out, plF_end l n i (by rw [← HN.out]; omega)]
        go_wp2
        go_ret
        exact ⟨by rw [HRR.out]; rfl, rfl⟩

theorem toS4 {f : Nat} {args : Array Value} {w1 : World} {r : Value} {A : Addr} {u : Value} {g : Nat} {x y z : Value} (h : ∀ W, Below w1.heap.size w1 W → Calls Tryd.prog f args W fun e w' => e = .returned r ∧ Below W.heap.size W w') :
    ∀ W, (Below w1.heap.size w1 W ∧ W.cell? A = some u ∧ W.cell? ⟨g, 0, none⟩ = some x ∧ W.cell? ⟨g, 1, none⟩ = some y ∧ W.cell? ⟨g, 2, none⟩ = some z) → Calls Tryd.prog f args W fun e w' => e = .returned r ∧ (Below w1.heap.size w1 w' ∧ w'.cell? A = some u ∧ w'.cell? ⟨g, 0, none⟩ = some x ∧ w'.cell? ⟨g, 1, none⟩ = some y ∧ w'.cell? ⟨g, 2, none⟩ = some z) := by
  rintro W ⟨hb, d, d0, d1, d2⟩
  refine (h W hb).mono ?_
  rintro e w' ⟨rfl, h⟩
  exact ⟨rfl, hb.trans (h.mono hb.size), cell_later h d, cell_later h d0, cell_later h d1, cell_later h d2⟩
theorem isl_form {w : World} {v : Value} {l : List Nat} (h : ISl w v l) : ∃ a c, v = .slice a l.length c := by
  obtain ⟨a, c, e, _⟩ := h; exact ⟨a, c, e⟩

set_option maxHeartbeats 32000000 in
theorem gearSame_yes (a0 a1 ab : Option Addr) (n0 c0 n1 c1 nb cb : Nat) (l0 l1 lb : List Int) (L M B : Int) (w : World) (hT : Tab w)
    (hB0 : Bytes w a0 l0) (hnil0 : a0 = none → c0 = 0) (hcap0 : n0 ≤ c0) (hn0 : n0 = l0.length)
    (hB1 : Bytes w a1 l1) (hnil1 : a1 = none → c1 = 0) (hcap1 : n1 ≤ c1) (hn1 : n1 = l1.length)
    (hBb : Bytes w ab lb) (hnilb : ab = none → cb = 0) (hcapb : nb ≤ cb) (hnb : nb = lb.length)
    (hbig0 : n0 ≤ 1000) (hbig1 : n1 ≤ 1000) (hbigb : nb ≤ 1000) (hok : ok L M B) :
    Calls Tryd.prog 8 #[.agg #[.slice a0 n0 c0, .slice a1 n1 c1], .slice ab nb cb, P3 L M B] w fun e w' => e = .returned (.bool true) ∧ Below w.heap.size w w' := by
  obtain ⟨wA, hwA⟩ : ∃ wA, wA = w.alloc (Obj.cells #[.slice a0 n0 c0, .slice a1 n1 c1] 45) := ⟨_, rfl⟩
  have x0 : wA.cell? ⟨w.heap.size, 0, none⟩ = some (.slice a0 n0 c0) := by subst hwA; go_simp
  have x1 : wA.cell? ⟨w.heap.size, 1, none⟩ = some (.slice a1 n1 c1) := by subst hwA; go_simp
  have hbA : Below w.heap.size w wA := by rw [hwA]; exact (Below.refl _ _).alloc (Nat.le_refl _) _
  have hsA : wA.heap.size = w.heap.size + 1 := by rw [hwA]; simp
  obtain ⟨w1, hw1⟩ : ∃ w1, w1 = wA.alloc (Obj.cells #[.int .i64 L, .int .i64 M, .int .i64 B] 23) := ⟨_, rfl⟩
  obtain ⟨f0, f1, f2⟩ := three_at hw1
  have hb1' : Below wA.heap.size wA w1 := by rw [hw1]; exact (Below.refl _ _).alloc (Nat.le_refl _) _
  have x0 := cell_later hb1' x0
  have x1 := cell_later hb1' x1
  have hb1 : Below w.heap.size w w1 := hbA.trans (hb1'.mono hbA.size)
  rw [hsA] at f0 f1 f2
  rw [hwA] at hw1
  have hM : 1 ≤ M := by unfold ok at hok; omega
  have hS0 : Sl w (.slice a0 n0 c0) l0 := ⟨a0, c0, by rw [hn0], hB0, hnil0, by rw [← hn0]; exact hcap0⟩
  have hS1 : Sl w (.slice a1 n1 c1) l1 := ⟨a1, c1, by rw [hn1], hB1, hnil1, by rw [← hn1]; exact hcap1⟩
  have hSb : Sl w (.slice ab nb cb) lb := ⟨ab, cb, by rw [hnb], hBb, hnilb, by rw [← hnb]; exact hcapb⟩
  have ho0 := hB0.1
  have ho1 := hB1.1
  have hob := hBb.1
  have HOF := Lib.hid (fun W => of_any L M B W)
  have HRK := Lib.hid (fun W => rcheck_any L M B W)
  rw [show chk L M B = 0 from if_pos hok] at HRK
  have HCU := Lib.hid (fun W v (m : List Int) (hb : Below w.heap.size w W) (hs : Sl W v m) (ho : Oct m) (hm : m.length ≤ 2000) => cuts_yes v m L M B W (hT.later hb) hs ho (by unfold mc; rw [if_pos hok, if_pos (by omega)]))
  have HAW := Lib.hid (fun W (hb : Below w.heap.size w W) => awake_any W (hT.later hb))
  have HS0 := Lib.hid hS0
  have HS1 := Lib.hid hS1
  have HSb := Lib.hid hSb
  have HN0 := Lib.hid hn0
  have HN1 := Lib.hid hn1
  have HNb := Lib.hid hnb
  have HO := Lib.hid (And.intro ho0 (And.intro ho1 hob))
  have HX : Hid (w1.cell? ⟨w.heap.size, 0, none⟩ = some (.slice a0 n0 c0) ∧ w1.cell? ⟨w.heap.size, 1, none⟩ = some (.slice a1 n1 c1) ∧ w1.cell? ⟨w.heap.size + 1, 0, none⟩ = some (.int .i64 L) ∧ w1.cell? ⟨w.heap.size + 1, 1, none⟩ = some (.int .i64 M) ∧ w1.cell? ⟨w.heap.size + 1, 2, none⟩ = some (.int .i64 B)) := ⟨x0, x1, f0, f1, f2⟩
  have HB1 := Lib.hid hb1
  have HMM := Lib.hid hM
  have hI0 : ¬ (1000 : Int) < (n0 : Int) := by omega
  have hI1 : ¬ (1000 : Int) < (n1 : Int) := by omega
  have hIb : ¬ (1000 : Int) < (nb : Int) := by omega
  clear hT hB0 hnil0 hcap0 hn0 hB1 hnil1 hcap1 hn1 hBb hnilb hcapb hnb hok hM hbA hsA hwA hb1' hb1 hS0 hS1 hSb ho0 ho1 hob
  unfold P3 at *
  go_enter Tryd.func8, Tryd.ntmps8
  go_wp2_with fail
  rw [← hw1]
  clear hw1 x0 x1 f0 f1 f2
  refine (HRK.out _).mono ?_
  rintro e w2 ⟨rfl, hb2⟩
  have HW2 := Lib.hid hb2
  have y0 := cell_later hb2 HX.out.1
  clear hb2 HRK
  -- the first text and the end
  have hbe : Below w2.heap.size w2 (w2.alloc (.cells #[] 5)) := (Below.refl _ _).alloc (Nat.le_refl _) _
  have hwe : Below w1.heap.size w1 (w2.alloc (.cells #[] 5)) := HW2.out.trans (hbe.mono HW2.out.size)
  have HSA := Lib.hid (HS0.out.later (HB1.out.trans (hwe.mono HB1.out.size)))
  have HE := Lib.hid (empty_own w2)
  have z0 := cell_later hbe y0
  have HWE := Lib.hid hwe
  have HLA : Hid ((([] : List Int).length + l0.length ≤ 140737488355328) ∧ w2.heap.size ≤ (w2.alloc (.cells #[] 5)).heap.size) := by
    refine ⟨?_, hbe.size⟩
    have := HN0.out; simp; omega
  clear hbe hwe y0
  go_wp2_with (at_builtin; go_must (refine append_sl rfl (.tmp 41) (.tmp 43) rfl w2.heap.size _ _ [] l0 rfl HE.out rfl HSA.out HLA.out.1 HLA.out.2 ?_))
  intro vB wB HVB hbB
  obtain ⟨aB, cB, eB⟩ := own_form HVB.out
  try rw [List.nil_append] at eB
  rw [← HN0.out] at eB
  subst eB
  have HVB' : Hid (Own wB w2.heap.size (.slice aB n0 cB) l0) := HVB.out
  have hs2 : w1.heap.size ≤ w2.heap.size := HW2.out.size
  have HWB : Hid (Below w1.heap.size w1 wB) := HWE.out.trans (hbB.mono hs2)
  have HSB := Lib.hid (HSb.out.later (HB1.out.trans (HWB.out.mono HB1.out.size)))
  have HLB : Hid (l0.length + lb.length ≤ 140737488355328 ∧ w2.heap.size ≤ wB.heap.size) := by
    refine ⟨?_, ?_⟩
    · have := HN0.out; have := HNb.out; omega
    · have h1 := HLA.out.2; have h2 := hbB.size; omega
  clear hbB HVB HE HSA z0 HLA HWE
  go_wp2_with (at_builtin; go_must (refine append_sl rfl (.tmp 44) (.tmp 45) rfl w2.heap.size _ _ l0 lb rfl HVB'.out rfl HSB.out HLB.out.1 HLB.out.2 ?_))
  intro vC wC HVC hbC
  obtain ⟨aC, cC, eC⟩ := own_form HVC.out
  obtain ⟨nx, hnx⟩ : ∃ nx, nx = (l0 ++ lb).length := ⟨_, rfl⟩
  rw [← hnx] at eC
  subst eC
  have HNX := Lib.hid hnx
  have HWC : Hid (Below w1.heap.size w1 wC) := HWB.out.trans (hbC.mono hs2)
  have HVX : Hid (Sl wC (.slice aC nx cC) (l0 ++ lb)) := HVC.out.sl (HO.out.1.append HO.out.2.2)
  clear hbC HVC HVB' HSB HLB hnx hs2 HWB HW2
  -- the second one
  have y1 := cell_later HWC.out HX.out.2.1
  have hbe : Below wC.heap.size wC (wC.alloc (.cells #[] 5)) := (Below.refl _ _).alloc (Nat.le_refl _) _
  have hwe : Below w1.heap.size w1 (wC.alloc (.cells #[] 5)) := HWC.out.trans (hbe.mono HWC.out.size)
  have HSA := Lib.hid (HS1.out.later (HB1.out.trans (hwe.mono HB1.out.size)))
  have HE := Lib.hid (empty_own wC)
  have z1 := cell_later hbe y1
  have HWE := Lib.hid hwe
  have HVXe := Lib.hid (HVX.out.later hbe)
  have HLA : Hid ((([] : List Int).length + l1.length ≤ 140737488355328) ∧ wC.heap.size ≤ (wC.alloc (.cells #[] 5)).heap.size) := by
    refine ⟨?_, hbe.size⟩
    have := HN1.out; simp; omega
  have HBE := Lib.hid hbe
  clear hbe hwe y1
  go_wp2_with (at_builtin; go_must (refine append_sl rfl (.tmp 47) (.tmp 49) rfl wC.heap.size _ _ [] l1 rfl HE.out rfl HSA.out HLA.out.1 HLA.out.2 ?_))
  intro vD wD HVD hbD
  obtain ⟨aD, cD, eD⟩ := own_form HVD.out
  try rw [List.nil_append] at eD
  rw [← HN1.out] at eD
  subst eD
  have HVD' : Hid (Own wD wC.heap.size (.slice aD n1 cD) l1) := HVD.out
  have hsC : w1.heap.size ≤ wC.heap.size := HWC.out.size
  have HWD : Hid (Below w1.heap.size w1 wD) := HWE.out.trans (hbD.mono hsC)
  have HCD : Hid (Below wC.heap.size wC wD) := HBE.out.trans hbD
  have HSD := Lib.hid (HSb.out.later (HB1.out.trans (HWD.out.mono HB1.out.size)))
  have HLD : Hid (l1.length + lb.length ≤ 140737488355328 ∧ wC.heap.size ≤ wD.heap.size) := by
    refine ⟨?_, HCD.out.size⟩
    have := HN1.out; have := HNb.out; omega
  clear hbD HVD HE HSA z1 HLA HWE HBE HVXe
  go_wp2_with (at_builtin; go_must (refine append_sl rfl (.tmp 50) (.tmp 51) rfl wC.heap.size _ _ l1 lb rfl HVD'.out rfl HSD.out HLD.out.1 HLD.out.2 ?_))
  intro vE wE HVE hbE
  obtain ⟨aE, cE, eE⟩ := own_form HVE.out
  obtain ⟨ny, hny⟩ : ∃ ny, ny = (l1 ++ lb).length := ⟨_, rfl⟩
  rw [← hny] at eE
  subst eE
  have HNY := Lib.hid hny
  have HCE : Hid (Below wC.heap.size wC wE) := HCD.out.trans hbE
  have HWE : Hid (Below w1.heap.size w1 wE) := HWD.out.trans (hbE.mono hsC)
  have HVY : Hid (Sl wE (.slice aE ny cE) (l1 ++ lb)) := HVE.out.sl (HO.out.2.1.append HO.out.2.2)
  have HVXE := Lib.hid (HVX.out.later HCE.out)
  clear hbE HVE HVD' HSD HLD hny hsC HWD HCD HCE HVX HWC
  -- both cut
  have g0 := cell_later HWE.out HX.out.2.2.1
  have g1 := cell_later HWE.out HX.out.2.2.2.1
  have g2 := cell_later HWE.out HX.out.2.2.2.2
  go_wp2_with fail
  refine (HOF.out _).mono ?_
  rintro e w5 ⟨rfl, hb5⟩
  have HW5 : Hid (Below w1.heap.size w1 w5) := HWE.out.trans (hb5.mono HWE.out.size)
  have HVX5 := Lib.hid (HVXE.out.later hb5)
  have HVY5 := Lib.hid (HVY.out.later hb5)
  clear hb5 g0 g1 g2
  go_wp2_with fail
  refine (HCU.out w5 _ _ (HB1.out.trans (HW5.out.mono HB1.out.size)) HVX5.out (HO.out.1.append HO.out.2.2) (by have := HN0.out; have := HNb.out; simp; omega)).mono ?_
  rintro e w6 ⟨v6, rfl, hv6, hb6⟩
  obtain ⟨a6, c6, e6⟩ := iown_form hv6
  obtain ⟨N, hN⟩ : ∃ N, N = (cuts L M B (l0 ++ lb) 0).length := ⟨_, rfl⟩
  rw [← hN] at e6
  subst e6
  have HN := Lib.hid hN
  have HV6 := Lib.hid hv6.sl
  have HW6 : Hid (Below w1.heap.size w1 w6) := HW5.out.trans (hb6.mono HW5.out.size)
  have HVX6 := Lib.hid (HVX5.out.later hb6)
  have HVY6 := Lib.hid (HVY5.out.later hb6)
  have g0 := cell_later HW6.out HX.out.2.2.1
  have g1 := cell_later HW6.out HX.out.2.2.2.1
  have g2 := cell_later HW6.out HX.out.2.2.2.2
  clear hv6 hb6 hN HVX5 HVY5 HVXE HVY HW5 HWE
  go_wp2_with fail
  refine (HOF.out _).mono ?_
  rintro e w7 ⟨rfl, hb7⟩
  have HW7 : Hid (Below w1.heap.size w1 w7) := HW6.out.trans (hb7.mono HW6.out.size)
  have HVX7 := Lib.hid (HVX6.out.later hb7)
  have HVY7 := Lib.hid (HVY6.out.later hb7)
  have HV67 := Lib.hid (HV6.out.later hb7)
  clear hb7 g0 g1 g2
  go_wp2_with fail
  refine (HCU.out w7 _ _ (HB1.out.trans (HW7.out.mono HB1.out.size)) HVY7.out (HO.out.2.1.append HO.out.2.2) (by have := HN1.out; have := HNb.out; simp; omega)).mono ?_
  rintro e w8 ⟨v8, rfl, hv8, hb8⟩
  obtain ⟨a8, c8, e8⟩ := iown_form hv8
  obtain ⟨N2, hN2⟩ : ∃ N2, N2 = (cuts L M B (l1 ++ lb) 0).length := ⟨_, rfl⟩
  rw [← hN2] at e8
  subst e8
  have HN2 := Lib.hid hN2
  have HV8 := Lib.hid hv8.sl
  have HW8 : Hid (Below w1.heap.size w1 w8) := HW7.out.trans (hb8.mono HW7.out.size)
  have HVX8 := Lib.hid (HVX7.out.later hb8)
  have HV68 := Lib.hid (HV67.out.later hb8)
  clear hv8 hb8 hN2 HVX6 HVY6 HVX7 HVY7 HV67 HV6 HW6 HW7
  -- all that is told of the numbers
  have hclx := cuts_length L M B (l0 ++ lb) HMM.out _ 0 (Nat.le_refl _)
  have hcly := cuts_length L M B (l1 ++ lb) HMM.out _ 0 (Nat.le_refl _)
  have hNb : N ≤ 2000 := by have h1 := HN.out; have h2 := HN0.out; have h3 := HNb.out; rw [List.length_append] at hclx; omega
  have hN2b : N2 ≤ 2000 := by have h1 := HN2.out; have h2 := HN1.out; have h3 := HNb.out; rw [List.length_append] at hcly; omega
  have hnxb : nx ≤ 2000 := by have h1 := HNX.out; have h2 := HN0.out; have h3 := HNb.out; rw [List.length_append] at h1; omega
  have hnxe : Hid (nx = n0 + nb) := by have h1 := HNX.out; have h2 := HN0.out; have h3 := HNb.out; show _ = _; rw [List.length_append] at h1; omega
  have HBD := Lib.hid (cuts_bound L M B (l0 ++ lb) HMM.out)
  have HBDi := Lib.hid (cuts_in L M B (l0 ++ lb) HMM.out _ 0 (Nat.le_refl _))
  have HSR := Lib.hid (same_rest L M B (l0 ++ lb) HMM.out)
  have HEX := Lib.hid (same_end L M B l0 lb HMM.out)
  have HEY := Lib.hid (same_end L M B l1 lb HMM.out)
  rw [← HN0.out] at HEX
  rw [← HN1.out] at HEY
  have HOX : Hid (Oct (l0 ++ lb)) := HO.out.1.append HO.out.2.2
  clear hclx hcly
  go_wp2
  go_loopw [13] (fun vi wr => ∃ i : Nat, vi = .int .i64 i ∧ i ≤ N ∧ Hid (Below w8.heap.size w8 wr)) (fun vi _ => N - (intOf vi).toNat)
  case atStart => exact ⟨0, rfl, by omega, Below.refl _ _⟩
  case round =>
    obtain ⟨i, rfl, hi, HBR⟩ := hrel
    obtain ⟨wo, ewo⟩ : ∃ wo, wo = wr := ⟨_, rfl⟩
    subst ewo
    have HWO : Hid (Below w1.heap.size w1 wo) := HW8.out.trans (HBR.out.mono HW8.out.size)
    by_cases hlt : i < N
    · have hltI : (i : Int) < (N : Int) := by omega
      have hi0 : (0 : Int) ≤ (i : Int) := by omega
      have hic : i < (cuts L M B (l0 ++ lb) 0).length := by rw [← HN.out]; exact hlt
      obtain ⟨_, hcn⟩ := HBD.out i hic
      rw [← HNX.out] at hcn
      obtain ⟨hr1, hr2⟩ := HSR.out i hic
      obtain ⟨q1, q2, eq6, hq⟩ := HV68.out
      rw [← HN.out] at eq6
      simp only [Value.slice.injEq] at eq6
      obtain ⟨rfl, -, rfl⟩ := eq6
      obtain ⟨gb, go, eg, hcell⟩ := hq (by intro e; rw [e] at hic; simp at hic)
      subst eg
      have HCELL : Hid (∀ j, j < N → wo.cell? ⟨gb, go + j, none⟩ = some (.int .i64 (((cuts L M B (l0 ++ lb) 0).getD j 0 : Nat) : Int))) := fun j hj => cell_later HBR.out (hcell j (by rw [← HN.out]; exact hj))
      obtain ⟨b1, b2, eb, hBX, hNX, hCX⟩ := HVX8.out.later HBR.out
      rw [← HNX.out] at eb hCX
      simp only [Value.slice.injEq] at eb
      obtain ⟨rfl, -, rfl⟩ := eb
      have hcc := HCELL.out i hlt
      obtain ⟨c, hc⟩ : ∃ c, c = (cuts L M B (l0 ++ lb) 0).getD i 0 := ⟨_, rfl⟩
      rw [← hc] at hcn hr1 hr2 hcc
      rw [← HN.out] at hr1
      obtain ⟨asl, hrs, hsl⟩ := run_from hBX _ nx HNX.out hCX hNX c (nx - c) c rfl (by omega)
      obtain ⟨R, hR⟩ : ∃ R, R = (cuts L M B ((l0 ++ lb).drop c) 0).length := ⟨_, rfl⟩
      have HRR := Lib.hid hR
      rw [← hR] at hr1 hr2
      have HR2 := Lib.hid hr2
      have h3 := Lib.hid (toS4 (w1 := wo) (A := ⟨gb, go + i, none⟩) (u := .int .i64 ((c : Nat) : Int)) (g := w.heap.size + 1) (x := .int .i64 L) (y := .int .i64 M) (z := .int .i64 B) fun W hb => HOF.out W)
      have h1 : Hid (∀ W, (Below wo.heap.size wo W ∧ W.cell? ⟨gb, go + i, none⟩ = some (.int .i64 ((c : Nat) : Int)) ∧ W.cell? ⟨w.heap.size + 1, 0, none⟩ = some (.int .i64 L) ∧ W.cell? ⟨w.heap.size + 1, 1, none⟩ = some (.int .i64 M) ∧ W.cell? ⟨w.heap.size + 1, 2, none⟩ = some (.int .i64 B)) →
          Calls Tryd.prog 18 #[.slice asl (nx - c) (cC - c), .agg #[.int .i64 L, .int .i64 M, .int .i64 B]] W fun e w' => ∃ va vc, e = .returned (.tuple #[.slice va R vc, .int .i64 0]) ∧ ISl w' (.slice va R vc) (cuts L M B ((l0 ++ lb).drop c) 0) ∧
            (Below wo.heap.size wo w' ∧ w'.cell? ⟨gb, go + i, none⟩ = some (.int .i64 ((c : Nat) : Int)) ∧ w'.cell? ⟨w.heap.size + 1, 0, none⟩ = some (.int .i64 L) ∧ w'.cell? ⟨w.heap.size + 1, 1, none⟩ = some (.int .i64 M) ∧ w'.cell? ⟨w.heap.size + 1, 2, none⟩ = some (.int .i64 B))) := by
        rintro W ⟨hb, d0, d1, d2, d3⟩
        refine (HCU.out W _ _ (HB1.out.trans ((HWO.out.trans (hb.mono HWO.out.size)).mono HB1.out.size)) (hsl.later hb) (HOX.out.drop c) (by rw [List.length_drop, ← HNX.out]; omega)).mono ?_
        rintro e w' ⟨v, rfl, hv, hb'⟩
        obtain ⟨va, vc, ev⟩ := isl_form hv.sl
        rw [← HRR.out] at ev
        subst ev
        exact ⟨va, vc, rfl, hv.sl, hb.trans (hb'.mono hb.size), cell_later hb' d0, cell_later hb' d1, cell_later hb' d2, cell_later hb' d3⟩
      have g0 := cell_later HWO.out HX.out.2.2.1
      have g1 := cell_later HWO.out HX.out.2.2.2.1
      have g2 := cell_later HWO.out HX.out.2.2.2.2
      have hS0 : Below wo.heap.size wo wo ∧ wo.cell? ⟨gb, go + i, none⟩ = some (.int .i64 ((c : Nat) : Int)) ∧ wo.cell? ⟨w.heap.size + 1, 0, none⟩ = some (.int .i64 L) ∧ wo.cell? ⟨w.heap.size + 1, 1, none⟩ = some (.int .i64 M) ∧ wo.cell? ⟨w.heap.size + 1, 2, none⟩ = some (.int .i64 B) := ⟨Below.refl _ _, hcc, g0, g1, g2⟩
      have hS1 : Below wo.heap.size wo wo.drew ∧ wo.drew.cell? ⟨gb, go + i, none⟩ = some (.int .i64 ((c : Nat) : Int)) ∧ wo.drew.cell? ⟨w.heap.size + 1, 0, none⟩ = some (.int .i64 L) ∧ wo.drew.cell? ⟨w.heap.size + 1, 1, none⟩ = some (.int .i64 M) ∧ wo.drew.cell? ⟨w.heap.size + 1, 2, none⟩ = some (.int .i64 B) := ⟨Below.drew (Below.refl _ _), hcc, g0, g1, g2⟩
      have hc0 : ¬ (c : Int) < 0 := by omega
      have hc1 : ¬ (nx : Int) < (c : Int) := by omega
      have hc2 : (0 : Int) ≤ (c : Int) := by omega
      have HR1 := Lib.hid hr1
      have HCC := Lib.hid hc
      clear hq hcell hBX hNX hCX hsl hr2 hic hc hR hr1
      go_wp2
      go_region_held3 (fun W => Below wo.heap.size wo W ∧ W.cell? ⟨gb, go + i, none⟩ = some (.int .i64 ((c : Nat) : Int)) ∧ W.cell? ⟨w.heap.size + 1, 0, none⟩ = some (.int .i64 L) ∧ W.cell? ⟨w.heap.size + 1, 1, none⟩ = some (.int .i64 M) ∧ W.cell? ⟨w.heap.size + 1, 2, none⟩ = some (.int .i64 B)) (first | assumption | exact hS0 | exact hS1) (first
        | (go_at_call 13; (with_reducible refine (h3.out _ ?_).mono ?_); (focus (first | assumption | exact hS0 | exact hS1)); rintro e w9 ⟨rfl, hb9⟩)
        | (go_at_call 18; (with_reducible refine (h1.out _ ?_).mono ?_); (focus (first | assumption | exact hS0 | exact hS1)); rintro e w9 ⟨va, vc, rfl, hv9, hb9⟩; have HV9 := Lib.hid hv9; clear hv9))
      obtain ⟨hb9, d, d0, d1, d2⟩ := hb9
      have HB9 := Lib.hid hb9
      have HD := Lib.hid d
      have hRb : R ≤ 2000 := by have := HR1.out; omega
      have hw1' : IntKind.i64.wrap ((N : Int) - (i : Int)) = (N : Int) - (i : Int) := by rw [IntKind.wrap_i64]; omega
      have hw2' : IntKind.i64.wrap ((N : Int) - (i : Int) - 1) = (R : Int) := by rw [IntKind.wrap_i64]; have := HR1.out; omega
      clear hb9 d d0 d1 d2 h1 h3 hS0 hS1 hrs hcc g0 g1 g2
      go_wp2
      clear hw1' hw2'
      go_loopw [16] (fun vk wz => ∃ k : Nat, vk = .int .i64 k ∧ k ≤ R ∧ Hid (Below w9.heap.size w9 wz)) (fun vk _ => R - (intOf vk).toNat)
      case atStart => exact ⟨0, rfl, by omega, Below.refl _ _⟩
      case round =>
        obtain ⟨k, rfl, hk, HBZ⟩ := hrel
        by_cases hkR : k < R
        · have hkRI : (k : Int) < (R : Int) := by omega
          have hk0 : (0 : Int) ≤ (k : Int) := by omega
          have hkl : k < (cuts L M B ((l0 ++ lb).drop c) 0).length := by rw [← HRR.out]; exact hkR
          obtain ⟨t1, t2, et, ht⟩ := HV9.out
          rw [← HRR.out] at et
          simp only [Value.slice.injEq] at et
          obtain ⟨rfl, -, rfl⟩ := et
          obtain ⟨rb, ro, er, hrc⟩ := ht (by intro e; rw [e] at hkl; simp at hkl)
          subst er
          have e1 := cell_later HBZ.out (hrc k hkl)
          have e2 := cell_later HBZ.out HD.out
          have hjN : i + 1 + k < N := by have := HR1.out; omega
          have e3 := cell_later HBZ.out (cell_later HB9.out (HCELL.out (i + 1 + k) hjN))
          have hval := HR2.out k hkR
          have ⟨_, hzb⟩ := HBD.out (i + 1 + k) (by rw [← HN.out]; exact hjN)
          rw [← HNX.out] at hzb
          rw [hval] at e3 hzb
          generalize (cuts L M B ((l0 ++ lb).drop c) 0).getD k 0 = z at *
          have hcast : ((c + z : Nat) : Int) = (z : Int) + (c : Int) := by omega
          rw [hcast] at e3
          have w1' : IntKind.i64.wrap ((i : Int) + 1) = (i : Int) + 1 := by rw [IntKind.wrap_i64]; omega
          have w2' : IntKind.i64.wrap ((i : Int) + 1 + (k : Int)) = (i : Int) + 1 + (k : Int) := by rw [IntKind.wrap_i64]; omega
          have w3' : IntKind.i64.wrap ((z : Int) + (c : Int)) = (z : Int) + (c : Int) := by rw [IntKind.wrap_i64]; omega
          have n1' : ((i : Int) + 1 + (k : Int)).toNat = i + 1 + k := by omega
          have n2' : (0 : Int) ≤ (i : Int) + 1 + (k : Int) := by omega
          have n3' : (i : Int) + 1 + (k : Int) < (N : Int) := by omega
          clear ht hrc hval hkl hzb hcast
          go_wp2
          go_quiet (fail)
          clear e1 e2 e3
          go_wp2
          go_roundw
          case rel => exact ⟨k + 1, by go_num, by omega, below_dN HBZ.out _⟩
          case measure => simp [intOf]; omega
        · have hkRI : ¬ (k : Int) < (R : Int) := by omega
          go_wp2
          go_roundw
          case rel => exact ⟨i + 1, by go_num, by omega, HBR.out.trans ((HB9.out.trans (HBZ.out.mono HB9.out.size)).mono HBR.out.size)⟩
          case measure => simp [intOf]; omega
    · have hltI : ¬ (i : Int) < (N : Int) := by omega
      have HS6 := Lib.hid (HV68.out.later HBR.out)
      have HS8 := Lib.hid (HV8.out.later HBR.out)
      have HP1 : Hid (∀ q, Calls Tryd.prog 22 #[.slice a6 N c6, .int .i64 (n0 : Int)] (wo.drewN q) fun e w' => e = .returned (.int .i64 (plc (cuts L M B (l0 ++ lb) 0) n0)) ∧ w' = wo.drewN q) := fun q => place_any _ _ n0 _ (HS6.out.later (below_dN (Below.refl _ _) q)) (by rw [← HN.out]; omega)
      have HP2 : Hid (∀ q, Calls Tryd.prog 22 #[.slice a8 N2 c8, .int .i64 (n1 : Int)] (wo.drewN q) fun e w' => e = .returned (.int .i64 (plc (cuts L M B (l1 ++ lb) 0) n1)) ∧ w' = wo.drewN q) := fun q => place_any _ _ n1 _ (HS8.out.later (below_dN (Below.refl _ _) q)) (by rw [← HN2.out]; omega)
      have hl1 := plc_low (cuts L M B (l0 ++ lb) 0) n0
      have hl2 := plc_low (cuts L M B (l1 ++ lb) 0) n1
      rw [← HN.out] at hl1 HEX
      rw [← HN2.out] at hl2 HEY
      have x0 := cell_later HWO.out HX.out.1
      have x1 := cell_later HWO.out HX.out.2.1
      have HX01 : Hid (wo.cell? ⟨w.heap.size, 0, none⟩ = some (.slice a0 n0 c0) ∧ wo.cell? ⟨w.heap.size, 1, none⟩ = some (.slice a1 n1 c1)) := ⟨x0, x1⟩
      have HBW : Hid (Below w.heap.size w wo) := HB1.out.trans (HWO.out.mono HB1.out.size)
      generalize plc (cuts L M B (l0 ++ lb) 0) n0 = p1 at *
      generalize plc (cuts L M B (l1 ++ lb) 0) n1 = p2 at *
      obtain ⟨hl1a, hl1b⟩ := hl1
      obtain ⟨hl2a, hl2b⟩ := hl2
      clear hlt hi HSR HBDi HBD HVX8 HV68 HV8 hnxb
      go_wp2
      go_quiet (first | (go_at_call 22; with_reducible exact Calls.quiet_of_same (HP1.out _)) | (go_at_call 22; with_reducible exact Calls.quiet_of_same (HP2.out _)))
      clear x0 x1 HP1 HP2
      obtain ⟨wq, hwq⟩ : ∃ wq, wq = wo.drewN nq := ⟨_, rfl⟩
      have HQ : Hid (Below wo.heap.size wo wq) := by rw [hwq]; exact below_dN (Below.refl _ _) _
      rw [← hwq]
      clear hwq
      have HWQ : Hid (Below w.heap.size w wq) := HBW.out.trans (HQ.out.mono HBW.out.size)
      by_cases hp1 : p1 < 0
      · go_wp2_with fail
        refine (HAW.out _ HWQ.out).mono ?_
        rintro e w9 ⟨rfl, hb9⟩
        go_wp2
        go_ret
        exact ⟨rfl, HWQ.out.trans (hb9.mono HWQ.out.size)⟩
      · by_cases hp2 : p2 < 0
        · go_wp2_with fail
          refine (HAW.out _ HWQ.out).mono ?_
          rintro e w9 ⟨rfl, hb9⟩
          go_wp2
          go_ret
          exact ⟨rfl, HWQ.out.trans (hb9.mono HWQ.out.size)⟩
        · obtain ⟨I0, hI0'⟩ : ∃ I0 : Nat, p1 = (I0 : Int) := ⟨p1.toNat, by omega⟩
          obtain ⟨K0, hK0'⟩ : ∃ K0 : Nat, p2 = (K0 : Int) := ⟨p2.toNat, by omega⟩
          subst hI0' hK0'
          obtain ⟨hx1, hx2⟩ := HEX.out (by omega)
          obtain ⟨hy1, hy2⟩ := HEY.out (by omega)
          rw [Int.toNat_natCast] at hx1 hx2 hy1 hy2
          obtain ⟨C, hC⟩ : ∃ C, C = (cuts L M B lb 0).length := ⟨_, rfl⟩
          rw [← hC] at hx1 hx2 hy1 hy2
          have HX1 : Hid (C = N - I0 ∧ I0 ≤ N) := ⟨hx1, by omega⟩
          have HY1 : Hid (C = N2 - K0 ∧ K0 ≤ N2) := ⟨hy1, by omega⟩
          have HX2 := Lib.hid hx2
          have HY2 := Lib.hid hy2
          have HZB : Hid (∀ k, k < C → (cuts L M B lb 0).getD k 0 ≤ 2000) := by
            intro k hk
            have h := (cuts_bound L M B lb HMM.out k (by rw [← hC]; exact hk)).2
            have := HNb.out
            omega
          have hwN1 : IntKind.i64.wrap ((N : Int) - (I0 : Int)) = (C : Int) := by rw [IntKind.wrap_i64]; have := HX1.out; omega
          have hwN2 : IntKind.i64.wrap ((N2 : Int) - (K0 : Int)) = (C : Int) := by rw [IntKind.wrap_i64]; have := HY1.out; omega
          have hCb : C ≤ 2000 := by have := HX1.out; omega
          have hIb0 : I0 ≤ 2000 := by have := HX1.out; omega
          have hKb0 : K0 ≤ 2000 := by have := HY1.out; omega
          clear hx1 hx2 hy1 hy2 hC HEX HEY hp1 hp2 hl1a hl1b hl2a hl2b
          go_wp2
          clear hwN1 hwN2
          go_loopw [19] (fun vn wz => ∃ n : Nat, vn = .int .i64 n ∧ n ≤ C ∧ Hid (Below wo.heap.size wo wz)) (fun vn _ => C - (intOf vn).toNat)
          case atStart => exact ⟨0, rfl, by omega, HQ.out⟩
          case round =>
            obtain ⟨n, rfl, hn, HBZ⟩ := hrel
            have w1' : IntKind.i64.wrap ((I0 : Int) + (n : Int)) = (I0 : Int) + (n : Int) := by rw [IntKind.wrap_i64]; omega
            by_cases hnC : n < C
            · have hcond : (I0 : Int) + (n : Int) < (N : Int) := by have := HX1.out; omega
              have hn0 : (0 : Int) ≤ (n : Int) := by omega
              have hi1 : I0 + n < (cuts L M B (l0 ++ lb) 0).length := by rw [← HN.out]; omega
              have hi2 : K0 + n < (cuts L M B (l1 ++ lb) 0).length := by rw [← HN2.out]; have := HY1.out; omega
              obtain ⟨t1, t2, et, ht⟩ := HS6.out
              rw [← HN.out] at et
              simp only [Value.slice.injEq] at et
              obtain ⟨rfl, -, rfl⟩ := et
              obtain ⟨g1, o1, er, hc1⟩ := ht (by intro e; rw [e] at hi1; simp at hi1)
              subst er
              obtain ⟨t1, t2, et, ht'⟩ := HS8.out
              rw [← HN2.out] at et
              simp only [Value.slice.injEq] at et
              obtain ⟨rfl, -, rfl⟩ := et
              obtain ⟨g2, o2, er, hc2⟩ := ht' (by intro e; rw [e] at hi2; simp at hi2)
              subst er
              have e1 := cell_later HBZ.out (hc1 _ hi1)
              have e2 := cell_later HBZ.out (hc2 _ hi2)
              rw [HX2.out n hnC] at e1
              rw [HY2.out n hnC] at e2
              have hzb := HZB.out n hnC
              generalize (cuts L M B lb 0).getD n 0 = z at *
              have hcast1 : ((n0 + z : Nat) : Int) = (n0 : Int) + (z : Int) := by omega
              have hcast2 : ((n1 + z : Nat) : Int) = (n1 : Int) + (z : Int) := by omega
              rw [hcast1] at e1
              rw [hcast2] at e2
              have x0 := cell_later HBZ.out HX01.out.1
              have x1 := cell_later HBZ.out HX01.out.2
              have w2' : IntKind.i64.wrap ((K0 : Int) + (n : Int)) = (K0 : Int) + (n : Int) := by rw [IntKind.wrap_i64]; omega
              have w3' : IntKind.i64.wrap ((n0 : Int) + (z : Int) - (n0 : Int)) = (z : Int) := by rw [IntKind.wrap_i64]; omega
              have w4' : IntKind.i64.wrap ((n1 : Int) + (z : Int) - (n1 : Int)) = (z : Int) := by rw [IntKind.wrap_i64]; omega
              have n1' : ((I0 : Int) + (n : Int)).toNat = I0 + n := by omega
              have n2' : ((K0 : Int) + (n : Int)).toNat = K0 + n := by omega
              have n3' : (0 : Int) ≤ (I0 : Int) + (n : Int) := by omega
              have n4' : (0 : Int) ≤ (K0 : Int) + (n : Int) := by omega
              have n5' : (K0 : Int) + (n : Int) < (N2 : Int) := by have := HY1.out; omega
              clear ht ht' hc1 hc2 hcast1 hcast2 hi1 hi2 hzb
              go_wp2
              go_quiet (fail)
              clear e1 e2 x0 x1 w3' w4'
              go_wp2
              go_roundw
              case rel => exact ⟨n + 1, by go_num, by omega, below_dN HBZ.out _⟩
              case measure => simp [intOf]; omega
            · have hcond : ¬ (I0 : Int) + (n : Int) < (N : Int) := by have := HX1.out; omega
              have HWZ : Hid (Below w.heap.size w _) := HBW.out.trans (HBZ.out.mono HBW.out.size)
              go_wp2_with fail
              refine (HAW.out _ HWZ.out).mono ?_
              rintro e w9 ⟨rfl, hb9⟩
              go_wp2
              go_ret
              exact ⟨rfl, HWZ.out.trans (hb9.mono HWZ.out.size)⟩

set_option maxHeartbeats 4000000 in
theorem gearSame_walk (a0 a1 ab : Option Addr) (n0 c0 n1 c1 nb cb : Nat) (l0 l1 lb : List Int) (L M B : Int) (w : World) (hT : Tab w)
    (hB0 : Bytes w a0 l0) (hnil0 : a0 = none → c0 = 0) (hcap0 : n0 ≤ c0) (hn0 : n0 = l0.length)
    (hB1 : Bytes w a1 l1) (hnil1 : a1 = none → c1 = 0) (hcap1 : n1 ≤ c1) (hn1 : n1 = l1.length)
    (hBb : Bytes w ab lb) (hnilb : ab = none → cb = 0) (hcapb : nb ≤ cb) (hnb : nb = lb.length) :
    Calls Tryd.prog 8 #[.agg #[.slice a0 n0 c0, .slice a1 n1 c1], .slice ab nb cb, P3 L M B] w fun e w' => e = .returned (.bool true) ∧ Below w.heap.size w w' := by
  obtain ⟨wA, hwA⟩ : ∃ wA, wA = w.alloc (Obj.cells #[.slice a0 n0 c0, .slice a1 n1 c1] 45) := ⟨_, rfl⟩
  have x0 : wA.cell? ⟨w.heap.size, 0, none⟩ = some (.slice a0 n0 c0) := by subst hwA; go_simp
  have x1 : wA.cell? ⟨w.heap.size, 1, none⟩ = some (.slice a1 n1 c1) := by subst hwA; go_simp
  have hbA : Below w.heap.size w wA := by rw [hwA]; exact (Below.refl _ _).alloc (Nat.le_refl _) _
  have hsA : wA.heap.size = w.heap.size + 1 := by rw [hwA]; simp
  obtain ⟨w1, hw1⟩ : ∃ w1, w1 = wA.alloc (Obj.cells #[.int .i64 L, .int .i64 M, .int .i64 B] 23) := ⟨_, rfl⟩
  obtain ⟨f0, f1, f2⟩ := three_at hw1
  have hb1' : Below wA.heap.size wA w1 := by rw [hw1]; exact (Below.refl _ _).alloc (Nat.le_refl _) _
  have x0 := cell_later hb1' x0
  have x1 := cell_later hb1' x1
  have hb1 : Below w.heap.size w w1 := hbA.trans (hb1'.mono hbA.size)
  rw [hsA] at f0 f1 f2
  rw [hwA] at hw1
  have HAW := Lib.hid (fun W (hb : Below w.heap.size w W) => awake_any W (hT.later hb))
  have HRK := Lib.hid (fun W => rcheck_any L M B W)
  have HB1' := Lib.hid hb1
  by_cases hall : ((n0 ≤ 1000 ∧ n1 ≤ 1000) ∧ nb ≤ 1000) ∧ ok L M B
  · obtain ⟨⟨⟨k1, k2⟩, k3⟩, k4⟩ := hall
    exact gearSame_yes a0 a1 ab n0 c0 n1 c1 nb cb l0 l1 lb L M B w hT hB0 hnil0 hcap0 hn0 hB1 hnil1 hcap1 hn1 hBb hnilb hcapb hnb k1 k2 k3 k4
  · have hw : (1000 < n0) ∨ (n0 ≤ 1000 ∧ 1000 < n1) ∨ (n0 ≤ 1000 ∧ n1 ≤ 1000 ∧ 1000 < nb) ∨ (n0 ≤ 1000 ∧ n1 ≤ 1000 ∧ nb ≤ 1000 ∧ ¬ ok L M B) := by
      by_cases q0 : n0 ≤ 1000
      · by_cases q1 : n1 ≤ 1000
        · by_cases q2 : nb ≤ 1000
          · exact .inr (.inr (.inr ⟨q0, q1, q2, fun h => hall ⟨⟨⟨q0, q1⟩, q2⟩, h⟩⟩))
          · exact .inr (.inr (.inl ⟨q0, q1, by omega⟩))
        · exact .inr (.inl ⟨q0, by omega⟩)
      · exact .inl (by omega)
    clear hall hT hB0 hnil0 hcap0 hn0 hB1 hnil1 hcap1 hn1 hBb hnilb hcapb hnb hbA hsA hwA hb1' hb1
    unfold P3 at *
    rcases hw with h | ⟨h, h'⟩ | ⟨h, h', h''⟩ | ⟨h, h', h'', h4⟩
    · have hI0 : (1000 : Int) < (n0 : Int) := by omega
      go_enter Tryd.func8, Tryd.ntmps8
      go_wp2_with fail
      rw [← hw1]
      clear hw1
      refine (HAW.out _ HB1'.out).mono ?_
      rintro e w9 ⟨rfl, hb9⟩
      go_wp2
      go_ret
      exact ⟨rfl, HB1'.out.trans (hb9.mono HB1'.out.size)⟩
    · have hI0 : ¬ (1000 : Int) < (n0 : Int) := by omega
      have hI1 : (1000 : Int) < (n1 : Int) := by omega
      go_enter Tryd.func8, Tryd.ntmps8
      go_wp2_with fail
      rw [← hw1]
      clear hw1
      refine (HAW.out _ HB1'.out).mono ?_
      rintro e w9 ⟨rfl, hb9⟩
      go_wp2
      go_ret
      exact ⟨rfl, HB1'.out.trans (hb9.mono HB1'.out.size)⟩
    · have hI0 : ¬ (1000 : Int) < (n0 : Int) := by omega
      have hI1 : ¬ (1000 : Int) < (n1 : Int) := by omega
      have hIb : (1000 : Int) < (nb : Int) := by omega
      go_enter Tryd.func8, Tryd.ntmps8
      go_wp2_with fail
      rw [← hw1]
      clear hw1
      refine (HAW.out _ HB1'.out).mono ?_
      rintro e w9 ⟨rfl, hb9⟩
      go_wp2
      go_ret
      exact ⟨rfl, HB1'.out.trans (hb9.mono HB1'.out.size)⟩
    · have hI0 : ¬ (1000 : Int) < (n0 : Int) := by omega
      have hI1 : ¬ (1000 : Int) < (n1 : Int) := by omega
      have hIb : ¬ (1000 : Int) < (nb : Int) := by omega
      rw [show chk L M B = 2 from if_neg h4] at HRK
      go_enter Tryd.func8, Tryd.ntmps8
      go_wp2_with fail
      rw [← hw1]
      clear hw1
      refine (HRK.out _).mono ?_
      rintro e w2 ⟨rfl, hb2⟩
      have HB2 : Hid (Below w.heap.size w w2) := HB1'.out.trans (hb2.mono HB1'.out.size)
      clear hb2
      go_wp2_with fail
      refine (HAW.out _ HB2.out).mono ?_
      rintro e w9 ⟨rfl, hb9⟩
      go_wp2
      go_ret
      exact ⟨rfl, HB2.out.trans (hb9.mono HB2.out.size)⟩
end Go.Proofs.YtheklipnnflnaaaDoor.Gear
