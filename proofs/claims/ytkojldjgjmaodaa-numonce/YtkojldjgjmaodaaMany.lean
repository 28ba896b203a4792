/- Numbers one behind the other: what is put, and what is got of it. -/
import Derived.Test.YtkojldjgjmaodaaPutInt
import Derived.Test.YtkojldjgjmaodaaAwake
import Derived.Test.YtkojldjgjmaodaaRow
namespace Go.Proofs.Ytkojldjgjmaodaa
open Go.RowKit Go.Proofs.NumMath
set_option linter.unusedVariables false

/-- the bytes of the first k numbers -/
def encs (z : List Int) : Nat → List Int
  | 0 => []
  | k + 1 => encs z k ++ encR (zig (z.getD k 0))

theorem encs_oct (z : List Int) (k : Nat) : Oct (encs z k) := by
  induction k with
  | zero => intro c hc; simp [encs] at hc
  | succ k ih => exact ih.append (encR_oct _)
theorem encs_len (z : List Int) (k : Nat) : (encs z k).length ≤ 9 * k := by
  induction k with
  | zero => simp [encs]
  | succ k ih =>
    have := sizeN_le 8 (zig (z.getD k 0)) (by have := zig_le (z.getD k 0); omega)
    simp only [encs, List.length_append, encR_length]; omega
theorem encs_split (z : List Int) (k n : Nat) (h : k ≤ n) : ∃ r, encs z n = encs z k ++ r := by
  induction n with
  | zero => exact ⟨[], by have : k = 0 := by omega
                          subst this; simp⟩
  | succ n ih =>
    by_cases hk : k = n + 1
    · exact ⟨[], by subst hk; simp⟩
    · obtain ⟨r, hr⟩ := ih (by omega)
      exact ⟨r ++ encR (zig (z.getD n 0)), by simp only [encs]; rw [hr, List.append_assoc]⟩

theorem G_encs (z : List Int) (k n : Nat) (h : k < n) : GI (G (encs z n) ((encs z k).length : Nat)) = (clamp (z.getD k 0), (((encs z (k + 1)).length : Nat) : Int), 0) := by
  obtain ⟨r, hr⟩ := encs_split z (k + 1) n (by omega)
  rw [hr]
  simp only [encs]
  rw [List.append_assoc, G_enc _ _ _ (zig_le _), GI_zig, List.length_append, encR_length]
theorem G_last (l : List Int) : G l (l.length : Nat) = (0, 0, 4) := by
  unfold G
  rw [if_neg (by omega)]
  simp [getR, cnt]
theorem encs_lt (z : List Int) (k : Nat) : (encs z k).length < (encs z (k + 1)).length := by
  simp only [encs, List.length_append, encR_length]
  have := sizeN_pos (zig (z.getD k 0)); omega

set_option maxHeartbeats 2000000 in
theorem many_walk (ao : Option Addr) (len cap0 : Nat) (z : List Int) (w : World) (hlen : len ≤ 1000) 
    (hz : ∀ k, k < len → ∃ b off, ao = some ⟨b, off, none⟩ ∧ ∀ i, i < len → w.cell? ⟨b, off + i, none⟩ = some (.int .i64 (z.getD i 0))) :
    Calls Try.prog 9 #[.slice ao len cap0] w fun e w' => e = .returned (.bool true) ∧ Below w.heap.size w w' := by
  by_cases h0 : len = 0
  · subst h0
    clear hz
    have HG := Lib.hid (get_empty none 0 w)
    go_enter Try.func9, Try.ntmps9
    go_wp2
    refine wp_loop_rounds 1 ?_
    rw [rounds_succ]
    go_wp2
    refine wp_loop_rounds 1 ?_
    rw [rounds_succ]
    go_wp2_with (first | (go_at_call 20; refine HG.out.mono ?_; rintro e w' ⟨rfl, rfl⟩) | (go_at_call 19; refine (awake_any _).mono ?_; rintro e w' ⟨rfl, hb⟩))
    go_ret
    exact ⟨rfl, hb⟩
  · obtain ⟨b, off, rfl, hc⟩ := hz 0 (by omega)
    have hpos : 0 < len := by omega
    have hbB : b < w.heap.size := World.block_lt_of_cell? _ _ (hc 0 hpos)
    clear hz h0
    go_enter Try.func9, Try.ntmps9
    go_wp2
    go_loopw [3, 4] (fun v i wr => ∃ (k : Nat) (a : Option Addr) (cap : Nat) (L : List Int), k ≤ len ∧ i = .int .i64 k ∧ v = .slice a L.length cap ∧ Hid (L = encs z k) ∧ Bytes wr a L ∧ L.length ≤ cap ∧ Below w.heap.size w wr) (fun _ i _ => len - (intOf i).toNat)
    case atStart => exact ⟨0, none, 0, [], by omega, rfl, rfl, rfl, ⟨fun i => by simp, fun h => absurd rfl h⟩, by simp, Below.refl _ _⟩
    case round =>
      obtain ⟨k, a, cap, L, hk, rfl, rfl, HL, hB, hcap, hbel⟩ := hrel
      have hLl : L.length ≤ 9000 := by have := encs_len z k; rw [HL.out]; omega
      have HB := Lib.hid hB; clear hB
      by_cases hlt : k < len
      · have hck : wr.cell? ⟨b, off + k, none⟩ = some (.int .i64 (z.getD k 0)) := (hbel.cell (by exact hbB)).trans (hc k hlt)
        obtain ⟨x, hx⟩ : ∃ x, x = z.getD k 0 := ⟨_, rfl⟩
        rw [← hx] at hck
        have HX := Lib.hid hx; clear hx
        go_wp2_with fail
        refine (putint_any a cap L x wr HB.out (by omega)).mono ?_
        rintro e w1 ⟨v, rfl, hown, hb1⟩
        obtain ⟨a', cap', rfl, hB'⟩ := Own.bytes hown (by rw [HL.out]; exact (encs_oct z k).append (encR_oct _))
        have HB' := Lib.hid hB'
        have hcap' : (L ++ encR (zig x)).length ≤ cap' := by
          obtain ⟨_, h2⟩ := hown
          rcases h2 with ⟨h3, h4⟩ | ⟨g, c, cur, h3, h4, h5, h6, h7, h8, h9⟩
          · rw [h4]; omega
          · simp at h3; rw [h3.2]; exact h6
        have HC' := Lib.hid hcap'
        obtain ⟨L', hL'⟩ : ∃ L', L' = L ++ encR (zig x) := ⟨_, rfl⟩
        rw [← hL'] at HB' HC' ⊢
        have HL' : Hid (L' = encs z (k + 1)) := by show _ = _; rw [hL', HL.out, HX.out]; rfl
        clear hown hB' hcap' hL'
        go_wp2
        go_roundw
        case rel => exact ⟨k + 1, a', cap', L', by omega, by go_num, rfl, HL', HB'.out, HC'.out, hbel.trans (hb1.mono hbel.size)⟩
        case measure => simp [intOf]; omega
      · have hkl : k = len := by omega
        subst hkl
        have hcw : ∀ i, i < k → wr.cell? ⟨b, off + i, none⟩ = some (.int .i64 (z.getD i 0)) := fun i hi => (hbel.cell (by exact hbB)).trans (hc i hi)
        have HC := Lib.hid hcw; clear hcw hc
        have HLAST := Lib.hid (get_any a cap L (L.length : Nat) wr (by omega) HB.out)
        rw [G_last] at HLAST
        go_wp2
        go_loop [5, 6] (fun at' i => ∃ (j A : Nat), j ≤ k ∧ i = .int .i64 j ∧ at' = .int .i64 A ∧ Hid (A = (encs z j).length) ∧ A ≤ 9000) (fun _ i => k - (intOf i).toNat)
        case atStart => exact ⟨0, 0, by omega, rfl, rfl, rfl, by omega⟩
        case round =>
          obtain ⟨j, A, hj, rfl, rfl, HA, hA⟩ := hrel
          by_cases hlt2 : j < k
          · have hcj := HC.out j hlt2
            have hg := getint_any a cap L (A : Int) wr (by omega) HB.out
            rw [HL.out, HA.out, G_encs z j k hlt2] at hg
            rw [← HL.out, ← HA.out] at hg
            simp only [trip] at hg
            have hAlt : A < (encs z (j + 1)).length := by rw [HA.out]; exact encs_lt z j
            have hAle : (encs z (j + 1)).length ≤ 9000 := by have := encs_len z (j + 1); omega
            obtain ⟨A', hA'⟩ : ∃ A', A' = (encs z (j + 1)).length := ⟨_, rfl⟩
            rw [← hA'] at hg hAlt hAle
            have HA' := Lib.hid hA'; clear hA'
            generalize z.getD j 0 = x at hg hcj
            have tA : decide (A' ≤ A) = false := by simp; omega
            have tA' : decide ((A' : Int) ≤ (A : Int)) = false := by simp; omega
            have hc3 : (x < -2305843009213693952 ∧ clamp x = -2305843009213693952) ∨ (2305843009213693951 < x ∧ clamp x = 2305843009213693951) ∨ (-2305843009213693952 ≤ x ∧ x ≤ 2305843009213693951 ∧ clamp x = x) := by unfold clamp; omega
            rcases hc3 with ⟨q1, q2⟩ | ⟨q1, q2⟩ | ⟨q1, q3, q2⟩
            all_goals
              rw [q2] at hg
              have HG := Lib.hid hg
              clear hg q2
              go_wp2_with (go_at_call 22; refine HG.out.mono ?_; rintro e w' ⟨rfl, rfl⟩)
              go_round
              case rel => exact ⟨j + 1, A', by omega, by go_num, rfl, HA', by omega⟩
              case measure => simp [intOf]; omega
          · have hjk : j = k := by omega
            subst hjk
            have hAL : A = L.length := by rw [HA.out, HL.out]
            subst hAL
            simp only [trip] at HLAST
            go_wp2_with (first | (go_at_call 20; refine HLAST.out.mono ?_; rintro e w' ⟨rfl, rfl⟩) | (go_at_call 19; refine (awake_any _).mono ?_; rintro e w' ⟨rfl, hb⟩))
            go_ret
            exact ⟨rfl, hbel.trans (hb.mono hbel.size)⟩
end Go.Proofs.Ytkojldjgjmaodaa
