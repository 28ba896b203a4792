/- the document's Get tells G. -/
import Derived.Test.YtkojldjgjmaodaaGet
namespace Go.Proofs.Ytkojldjgjmaodaa
open Go.RowKit Go.Proofs.NumMath
set_option linter.unusedVariables false

set_option maxHeartbeats 1000000 in
theorem rget_walk (b off : Nat) (len cap p k : Nat) (f : Nat → Int) (w : World) (hl : len ≤ 9223372036854775807) (hp : p ≤ len)
   (hc : ∀ i, p + i < len → w.cell? ⟨b, off + (p + i), none⟩ = some (.int .u8 (f i))) (hf : ∀ i, 0 ≤ f i ∧ f i ≤ 255)
   (hk : p + k ≤ len) (hk1 : ∀ j, j < k → 127 < f j) (hk2 : p + k < len → f k ≤ 127) :
    Calls Try.prog 21 #[.slice (some ⟨b, off, none⟩) len cap, .int .i64 p] w fun e w' => e = .returned (trip (getR p (len - p) k (f k) (Hn f 0 (k + 1)))) ∧ w = w' := by
  go_enter Try.func21, Try.ntmps21
  go_wp2
  go_loop [7] (fun c => ∃ i : Nat, i ≤ 9 ∧ i ≤ k ∧ c = .int .i64 ((p : Int) + i)) (fun c => p + 9 - (intOf c).toNat)
  case atStart => exact ⟨0, by omega, by omega, by go_num⟩
  case round =>
    obtain ⟨i, hi, hik, rfl⟩ := hrel
    have hfi := hf i
    have hci : p + i < len → w.cell? ⟨b, off + (p + i), none⟩ = some (.int .u8 (f i)) := hc i
    by_cases hgo : i < 9 ∧ i < k
    · obtain ⟨hg1, hg2⟩ := hgo
      have hgt := hk1 i hg2
      have hci := hc i (by omega)
      go_wp2
      go_round
      case rel => exact ⟨i + 1, by omega, by omega, by go_num⟩
      case measure => simp [intOf]; omega
    · by_cases h9 : 9 ≤ k
      · have hi9 : i = 9 := by omega
        subst hi9
        by_cases hlt : p + 9 < len
        · go_wp2
          go_ret3
          exact ⟨getR_nine h9, rfl⟩
        · go_wp2
          go_ret3
          exact ⟨getR_nine h9, rfl⟩
      · have hki : i = k := by omega
        subst hki
        by_cases he : p + i = len
        · have he' : ((p : Int) + (i : Int) == (len : Int)) = true := by simp; omega
          have he2 : ¬ (p : Int) + (i : Int) < (len : Int) := by omega
          have HE := Lib.hid he; clear he
          go_wp2
          go_ret3
          exact ⟨getR_end (by omega) (by have := HE.out; omega), rfl⟩
        · have hci := hc i (by omega)
          have hle := hk2 (by omega)
          have hlt : (p : Int) + (i : Int) < (len : Int) := by omega
          by_cases hz : f i = 0 ∧ 0 < i
          · obtain ⟨hz1, hz2⟩ := hz
            have hz1' : (f i == 0) = true := by simp [hz1]
            have HZ := Lib.hid hz1; clear hz1
            go_wp2
            go_ret3
            exact ⟨getR_form (by omega) (by omega) HZ.out hz2, rfl⟩
          · have HZ := Lib.hid hz; clear hz
            have hor : (f i == 0) = false ∨ ((f i == 0) = true ∧ ¬ 0 < i) := by
              by_cases h0 : f i = 0
              · exact .inr ⟨by simp [h0], fun h => HZ.out ⟨h0, h⟩⟩
              · exact .inl (by simp [h0])
            rcases hor with hb | ⟨hb, hk0⟩
            all_goals
              go_wp2
              go_loop [8, 9] (fun n c => ∃ j : Nat, j ≤ i + 1 ∧ c = .int .i64 ((p : Int) + j - 1) ∧ n = .int .i64 (Hn f j (i + 1 - j)) ∧ Hn f j (i + 1 - j) ≤ 4611686018427387903) (fun _ c => (intOf c + 1 - p).toNat)
              case atStart => exact ⟨i + 1, by omega, by go_num, by rw [Nat.sub_self]; rfl, by rw [Nat.sub_self]; simp [Hn]⟩
              case round =>
                obtain ⟨j, hj, rfl, rfl, hm⟩ := hrel
                have hn0 := (Hn_bd f (i + 1 - j) j).1
                by_cases hj0 : j = 0
                · subst hj0
                  have hm' : Hn f 0 (i + 1) ≤ 4611686018427387903 := hm
                  clear hm hn0
                  go_wp2
                  go_ret3
                  exact ⟨getR_ok (by omega) (by omega) HZ.out hm' rfl, rfl⟩
                · obtain ⟨j', rfl⟩ : ∃ j', j = j' + 1 := ⟨j - 1, by omega⟩
                  have hcj := hc j' (by omega)
                  have hfj := hf j'
                  have HH : Hid (Hn f j' (i + 1 - j') = f j' % 128 + 128 * Hn f (j' + 1) (i - j')) := by
                    show _ = _
                    rw [show i + 1 - j' = (i - j') + 1 from by omega]; rfl
                  have HB := Lib.hid (Hn_big f i j' (by omega))
                  rw [Nat.add_sub_add_right] at hm hn0
                  by_cases hbig : 36028797018963967 < Hn f (j' + 1) (i - j')
                  · go_wp2
                    go_ret3
                    exact ⟨getR_big (by omega) (by omega) HZ.out (HB.out hbig), rfl⟩
                  · go_wp2
                    go_round
                    case rel => exact ⟨j', by omega, by go_num, by rw [HH.out]; go_num, by rw [HH.out]; omega⟩
                    case measure => simp [intOf]; omega

set_option maxHeartbeats 400000 in
theorem rget_empty (a : Option Addr) (cap : Nat) (w : World) :
    Calls Try.prog 21 #[.slice a 0 cap, .int .i64 0] w fun e w' => e = .returned (.tuple #[.int .i64 0, .int .i64 0, .int .i64 4]) ∧ w = w' := by
  go_enter Try.func21, Try.ntmps21
  go_wp2
  refine wp_loop_rounds 1 ?_
  rw [rounds_succ]
  go_wp2
  go_ret3
  exact ⟨rfl, rfl⟩

set_option maxHeartbeats 400000 in
theorem rget_out (a : Option Addr) (len cap : Nat) (p : Int) (w : World) (h : p < 0 ∨ (len : Int) < p) :
    Calls Try.prog 21 #[.slice a len cap, .int .i64 p] w fun e w' => e = .returned (.tuple #[.int .i64 0, .int .i64 0, .int .i64 3]) ∧ w = w' := by
  by_cases h0 : p < 0
  · clear h
    go_enter Try.func21, Try.ntmps21
    go_wp2
    go_ret3
    exact ⟨rfl, rfl⟩
  · have h1 : (len : Int) < p := by omega
    clear h
    go_enter Try.func21, Try.ntmps21
    go_wp2
    go_ret3
    exact ⟨rfl, rfl⟩

theorem rget_any (a : Option Addr) (cap : Nat) (l : List Int) (p : Int) (w : World) (hl : l.length ≤ 9223372036854775807) (hB : Bytes w a l) :
    Calls Try.prog 21 #[.slice a l.length cap, .int .i64 p] w fun e w' => e = .returned (trip (G l p)) ∧ w = w' := by
  by_cases hp : p < 0 ∨ (l.length : Int) < p
  · refine (rget_out a l.length cap p w hp).mono ?_
    rintro e w' ⟨rfl, rfl⟩
    exact ⟨by simp [trip, G, hp], rfl⟩
  · obtain ⟨q, rfl⟩ : ∃ q : Nat, p = (q : Int) := ⟨p.toNat, by omega⟩
    have hG : G l q = getR q (l.length - q) (cnt (l.drop q)) (l.getD (q + cnt (l.drop q)) 0) (Hn (fun j => l.getD (q + j) 0) 0 (cnt (l.drop q) + 1)) := by
      unfold G; rw [if_neg hp]; simp only [Int.toNat_natCast]
    by_cases hn : l = []
    · subst hn
      have hq : q = 0 := by simp at hp; omega
      subst hq
      refine (rget_empty a cap w).mono ?_
      rintro e w' ⟨rfl, rfl⟩
      exact ⟨by rw [hG]; simp [trip, getR, cnt], rfl⟩
    · obtain ⟨b, off, rfl, hc⟩ := hB.2 hn
      have hd : ∀ j, (l.drop q).getD j 0 = l.getD (q + j) 0 := fun j => by simp [List.getD_eq_getElem?_getD]
      have hkl := cnt_le (l.drop q)
      rw [List.length_drop] at hkl
      rw [hG]
      refine rget_walk b off l.length cap q (cnt (l.drop q)) (fun j => l.getD (q + j) 0) w hl (by omega) (fun i hi => hc _ hi) (fun i => hB.1 _) (by omega) (fun j hj => ?_) (fun hj => ?_)
      · show 127 < l.getD (q + j) 0
        rw [← hd]; exact cnt_lt _ j hj
      · show l.getD (q + cnt (l.drop q)) 0 ≤ 127
        rw [← hd]; exact cnt_at _ (by rw [List.length_drop]; omega)

end Go.Proofs.Ytkojldjgjmaodaa
