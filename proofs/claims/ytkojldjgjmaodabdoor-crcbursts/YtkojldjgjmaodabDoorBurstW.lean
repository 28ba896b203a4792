/- The law CrcBursts's own walk. -/
import Derived.Test.YtkojldjgjmaodabDoorBMath
import Derived.Deep.DeepCutAuto
namespace Go.Proofs.YtkojldjgjmaodabDoor
open Go.RowKit Go.Proofs.CrcMath
set_option linter.unusedVariables false

/-- a slice of the call's own, cell by cell -/
def Cells (w : World) (g : Nat) (M : List Int) : Prop := ∀ j, j < M.length → w.cell? ⟨g, j, none⟩ = some (.int .u8 (M.getD j 0)) ∧ w.frozen? ⟨g, j, none⟩ = false
theorem Cells.set {w : World} {g j : Nat} {M : List Int} {x : Int} (h : Cells w g M) (hj : j < M.length) : Cells (w.setCell ⟨g, j, none⟩ (.int .u8 x)) g (M.set j x) := by
  intro i hi
  rw [List.length_set] at hi
  refine ⟨?_, by rw [World.frozen?_setCell]; exact (h i hi).2⟩
  by_cases e : i = j
  · subst e
    rw [World.cell?_setCell_same _ _ _ (h i hi).1, List.getD_eq_getElem?_getD, List.getElem?_set_self (by omega)]; rfl
  · rw [World.cell?_setCell_other _ _ _ _ (by simp <;> omega), (h i hi).1, List.getD_eq_getElem?_getD, List.getD_eq_getElem?_getD, List.getElem?_set_ne (by omega)]
theorem Cells.drew {w : World} {g : Nat} {M : List Int} (h : Cells w g M) : Cells w.drew g M := fun i hi => h i hi
theorem Cells.bytes {w : World} {g : Nat} {M : List Int} (h : Cells w g M) (ho : Oct M) : Bytes w (some ⟨g, 0, none⟩) M :=
  ⟨ho, fun _ => ⟨g, 0, rfl, fun i hi => by rw [Nat.zero_add]; exact (h i hi).1⟩⟩
theorem Oct.set {M : List Int} (h : Oct M) (j : Nat) (x : Int) (hx : 0 ≤ x ∧ x ≤ 255) : Oct (M.set j x) := by
  intro c hc
  rcases List.mem_or_eq_of_mem_set hc with h' | h'
  · exact h c h'
  · rw [h']; exact hx

theorem own_cells {w : World} {base : Nat} {v : Value} {M : List Int} (h : Own w base v M) (hne : 0 < M.length) (ho : Oct M) : ∃ g cap, v = .slice (some ⟨g, 0, none⟩) M.length cap ∧ base ≤ g ∧ M.length ≤ cap ∧ Cells w g M := by
  obtain ⟨a, c, e, hB, _, hc⟩ := h.sl ho
  obtain ⟨h1, h2⟩ := h
  rcases h2 with ⟨_, h0⟩ | ⟨g, cap, cur, h3, h4, h5, h6, h7, h8, h9⟩
  · omega
  · rw [e] at h3
    simp only [Value.slice.injEq, true_and] at h3
    obtain ⟨rfl, rfl⟩ := h3
    refine ⟨g, c, e, h4, hc, fun i hi => ?_⟩
    obtain ⟨b, off, e2, hcell⟩ := hB.2 (by intro e; rw [e] at hne; simp at hne)
    simp only [Option.some.injEq, Addr.mk.injEq] at e2
    obtain ⟨rfl, rfl, -⟩ := e2
    refine ⟨by have := hcell i hi; rwa [Nat.zero_add] at this, ?_⟩
    simp [World.frozen?, h5]

theorem flip_u8 (x r : Nat) (hx : x ≤ 255) (hr : r < 8) : bits .xor .u8 (x : Int) (2 ^ r % 256) = ((x ^^^ 2 ^ r : Nat) : Int) := by
  have hp : 2 ^ r ≤ 2 ^ 7 := Nat.pow_le_pow_right (by omega) (by omega)
  have e : ((2 : Int) ^ r % 256) = ((2 ^ r : Nat) : Int) := by
    rw [show ((2 : Int) ^ r) = ((2 ^ r : Nat) : Int) from by rw [Int.natCast_pow]; rfl]
    generalize 2 ^ r = y at hp
    omega
  rw [e]; exact u8_xor_nat x (2 ^ r) (by omega) (by omega)

theorem shr_and (t k : Nat) (ht : t < 2 ^ 32) : bits .and .u32 ((t : Int) / 2 ^ k) 1 = ((t / 2 ^ k % 2 : Nat) : Int) := by
  have hle := Nat.div_le_self t (2 ^ k)
  have e : ((t : Int) / 2 ^ k) = ((t / 2 ^ k : Nat) : Int) := by rw [Int.natCast_ediv, Int.natCast_pow]; rfl
  have := u32_and_nat (t / 2 ^ k) 1 (by omega) (by omega)
  rw [nat_mask1] at this
  rw [e]; exact this

set_option maxRecDepth 100000 in
set_option maxHeartbeats 2000000 in
theorem burst_walk (a0 : Option Addr) (n cap0 : Nat) (L : List Int) (a1 : Int) (t f : Nat) (w : World) (hn : n = L.length) (hT : Tab w) (hB : Bytes w a0 L) (hbig : n ≤ 600) (ht0 : t ≠ 0) (ht : t < 2 ^ 32)
    (hf : a1 % (8 * ((n : Int) + 4)) = (f : Int)) (hfl : f < 8 * (n + 4)) (p1 : 0 ≤ a1) (p2 : a1 ≤ 65535) :
    Calls Tryd.prog 3 #[.slice a0 n cap0, .int .u16 a1, .int .u32 (t : Int)] w fun e w' => e = .returned (.bool true) ∧ Below w.heap.size w w' := by
  have hseal := seal_any a0 cap0 n L w hn hT hB (by omega)
  have hvalid := seal_valid L hB.1
  obtain ⟨M, hM⟩ : ∃ M, M = L ++ leB (crcN L) 4 := ⟨_, rfl⟩
  have hMo : Oct M := by rw [hM]; exact hB.1.append (leB_oct _ _)
  have hMl : M.length = n + 4 := by rw [hM, List.length_append, leB_length, hn]
  rw [← hM] at hseal hvalid
  have HV := Lib.hid hvalid
  have HMO := Lib.hid hMo
  have HML := Lib.hid hMl
  have HSE := Lib.hid hseal
  have HT := Lib.hid hT
  have HT32 := Lib.hid ht
  have tz : ((t : Int) == 0) = false := by rw [beq_eq_false_iff_ne]; omega
  clear hseal hvalid hMo hMl hM hT hB hn ht ht0
  go_enter Tryd.func3, Tryd.ntmps3
  go_wp2_with fail
  refine HSE.out.mono ?_
  rintro e w1 ⟨v1, rfl, hown1, hb1⟩
  obtain ⟨g, cp, rfl, hg, hcp, hcl⟩ := own_cells hown1 (by rw [HML.out]; omega) HMO.out
  rw [HML.out] at hcp ⊢
  have HCL := Lib.hid hcl
  have HB1 := Lib.hid hb1
  clear hown1 hcl hb1
  go_upto_region 7 with (fail)
  rw [hf]
  go_wp2
  go_loopw [9, 10] (fun u i wr => ∃ (k : Nat) (Mk : List Int), k ≤ 32 ∧ f + k ≤ 8 * (n + 4) ∧ i = .int .i64 k ∧ u = .bool (decide (t % 2 ^ k ≠ 0)) ∧ Hid (Mk.length = n + 4) ∧ Hid (Oct Mk) ∧ Hid (Cells wr g Mk) ∧ Hid (reg 4294967295 Mk = shN 32 4294967295 ^^^ shN (8 * (n + 4) - f) (t % 2 ^ k)) ∧ Below w.heap.size w wr) (fun _ i _ => 32 - (intOf i).toNat)
  case atStart => exact ⟨0, M, by omega, by omega, rfl, by simp [Nat.mod_one], HML.out, HMO.out, HCL.out, (by show _ = _; rw [HV.out, Nat.pow_zero, Nat.mod_one, shN_zero, Nat.xor_zero]), HB1.out⟩
  case round =>
    obtain ⟨k, Mk, hk, hfk, rfl, rfl, HL, HO, HC, HR, hbel⟩ := hrel
    obtain ⟨tb, htb⟩ : ∃ tb, tb = decide (t % 2 ^ k ≠ 0) := ⟨_, rfl⟩
    rw [← htb]
    have HTB := Lib.hid htb
    clear htb
    by_cases hgo : k < 32 ∧ f + k < 8 * (n + 4)
    · obtain ⟨h32, hlt⟩ := hgo
      have hbit := shr_and t k HT32.out
      have d1 : decide ((k : Int) < 32) = true := by simp; omega
      have d2 : decide ((f : Int) + (k : Int) < 8 * ((n : Int) + 4)) = true := by simp; omega
      by_cases h1 : t / 2 ^ k % 2 = 1
      · rw [h1] at hbit
        have hj : (f + k) / 8 < n + 4 := by omega
        obtain ⟨hcell, hfz⟩ := HC.out ((f + k) / 8) (by rw [HL.out]; exact hj)
        have hbd := HO.out.getD ((f + k) / 8)
        obtain ⟨x, hx⟩ : ∃ x : Nat, Mk.getD ((f + k) / 8) 0 = (x : Int) := ⟨(Mk.getD ((f + k) / 8) 0).toNat, by omega⟩
        rw [hx] at hcell hbd
        have hr8 : (f + k) % 8 < 8 := Nat.mod_lt _ (by omega)
        have hq := flip_u8 x ((f + k) % 8) (by omega) hr8
        obtain ⟨y, hy⟩ : ∃ y, y = x ^^^ 2 ^ ((f + k) % 8) := ⟨_, rfl⟩
        rw [← hy] at hq
        have hy255 : y ≤ 255 := by
          have : 2 ^ ((f + k) % 8) ≤ 2 ^ 7 := Nat.pow_le_pow_right (by omega) (by omega)
          have : x ^^^ 2 ^ ((f + k) % 8) < 2 ^ 8 := Nat.xor_lt_two_pow (by omega) (by omega)
          omega
        have HR1 : Hid (reg 4294967295 (Mk.set ((f + k) / 8) (y : Int)) = shN 32 4294967295 ^^^ shN (8 * (n + 4) - f) (t % 2 ^ (k + 1))) := by
          show _ = _
          rw [reg_set Mk 4294967295 ((f + k) / 8) (2 ^ ((f + k) % 8)) (y : Int) (by rw [HL.out]; exact hj) (by rw [hx, Int.toNat_natCast, Int.toNat_natCast, hy]), HL.out, bit_shift (n + 4) f k hlt, HR.out, turn_bit t k h1, shN_xor, Nat.xor_assoc]
        have HT1 : Hid (decide (t % 2 ^ (k + 1) ≠ 0) = true) := by
          show _ = _
          have : t % 2 ^ (k + 1) ≠ 0 := by rw [Nat.mod_pow_succ, h1]; have := Nat.two_pow_pos k; omega
          exact decide_eq_true this
        have HY := Lib.hid hy255
        clear h1 hx hy hbd hy255
        have i1 : (0 : Int) ≤ ((f : Int) + (k : Int)) / 8 := by omega
        have i2 : ((f : Int) + (k : Int)) / 8 < (n : Int) + 4 := by omega
        go_wp2
        go_region
        all_goals go_wp2
        go_roundw
        case rel => exact ⟨k + 1, Mk.set ((f + k) / 8) (y : Int), by omega, by omega, by go_num, by rw [HT1.out], (by show _ = _; rw [List.length_set]; exact HL.out), HO.out.set _ _ (by have := HY.out; omega), (Cells.set HC.out (by rw [HL.out]; exact hj)).drew, HR1, (hbel.setCell hg _).drew⟩
        case measure => simp [intOf]; omega
      · rw [show t / 2 ^ k % 2 = 0 from by omega] at hbit
        have HS := Lib.hid (turn_same t k h1)
        clear h1
        go_wp2
        go_roundw
        case rel => exact ⟨k + 1, Mk, by omega, by omega, by go_num, by rw [HTB.out, HS.out], HL, HO, HC, (by show _ = _; rw [HS.out]; exact HR.out), hbel⟩
        case measure => simp [intOf]; omega
    · have hsz := hbel.size
      have hopen := open_any (some ⟨g, 0, none⟩) cp (n + 4) Mk wr HL.out.symm (HT.out.later hbel) (HC.out.bytes HO.out) hcp (fun h => by cases h) (by omega)
      have HTE := fun (W : World) (hb : Below w.heap.size w W) => HT.out.later hb
      have hend : (k : Int) < 32 ∧ ¬ (f : Int) + (k : Int) < 8 * ((n : Int) + 4) ∨ ¬ (k : Int) < 32 := by omega
      by_cases hturn : t % 2 ^ k = 0
      · have htb : tb = false := by rw [HTB.out]; simp [hturn]
        subst htb
        have HOP := Lib.hid hopen
        have HTE' := Lib.hid HTE
        clear hopen hturn HTE
        rcases hend with ⟨d1, d2⟩ | d1
        all_goals
          go_wp2_with fail
          refine HOP.out.mono ?_
          rintro e w5 ⟨v5, rfl, hown5, hb5⟩
          have hb6 := hbel.trans (hb5.mono hsz)
          have HT6 := Lib.hid (HTE'.out w5 hb6)
          clear hown5
          go_wp2_with (go_at_call 5; refine (awake_any _ HT6.out).mono ?_; rintro e w' ⟨rfl, hb⟩)
          go_ret
          exact ⟨rfl, hb6.trans (hb.mono hb6.size)⟩
      · have htb : tb = true := by rw [HTB.out]; simp [hturn]
        subst htb
        obtain ⟨e6, l6⟩ := turned_sum Mk (8 * (n + 4) - f) t k (by rw [HL.out]; omega) HO.out hk hturn HR.out
        rw [e6, l6] at hopen
        have HOP := Lib.hid hopen
        have HTE' := Lib.hid HTE
        clear hopen hturn e6 l6 HTE
        rcases hend with ⟨d1, d2⟩ | d1
        all_goals
          go_wp2_with fail
          refine HOP.out.mono ?_
          rintro e w5 ⟨v5, rfl, hown5, hb5⟩
          obtain ⟨a5, c5, e5, _⟩ := hown5.sl (fun c hc => by simp at hc)
          rw [List.length_nil] at e5
          subst e5
          have hb6 := hbel.trans (hb5.mono hsz)
          have HT6 := Lib.hid (HTE'.out w5 hb6)
          clear hown5
          go_wp2_with (go_at_call 5; refine (awake_any _ HT6.out).mono ?_; rintro e w' ⟨rfl, hb⟩)
          go_ret
          exact ⟨rfl, hb6.trans (hb.mono hb6.size)⟩
end Go.Proofs.YtkojldjgjmaodabDoor
