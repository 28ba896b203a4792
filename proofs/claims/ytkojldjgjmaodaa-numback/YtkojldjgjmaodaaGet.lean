/- num.Get and the document's Get: both tell G. -/
import Derived.Test.YtkojldjgjmaodaaRows
import Derived.Test.YtkojldjgjmaodaaMath
import Derived.WalkKit
import Derived.WalkSpells
import Derived.WalkLawsBesides
import Derived.Lib.Hide
namespace Go.Proofs.Ytkojldjgjmaodaa
open Go.RowKit Go.Proofs.NumMath
set_option linter.unusedVariables false

/-- three results -/
def trip (g : Int × Int × Int) : Value := .tuple #[.int .i64 g.1, .int .i64 g.2.1, .int .i64 g.2.2]

theorem getR_nine {p m k : Nat} {c v : Int} (h : 9 ≤ k) : Ending.returned (.tuple #[.int .i64 0, .int .i64 0, .int .i64 5]) = .returned (trip (getR p m k c v)) := by
  simp [trip, getR, h]
theorem getR_end {p m k : Nat} {c v : Int} (h : k < 9) (h2 : k = m) : Ending.returned (.tuple #[.int .i64 0, .int .i64 0, .int .i64 4]) = .returned (trip (getR p m k c v)) := by
  subst h2; simp [trip, getR, show ¬ 9 ≤ k from by omega]
theorem getR_form {p m k : Nat} {c v : Int} (h : k < 9) (h2 : k ≠ m) (h3 : c = 0) (h4 : 0 < k) : Ending.returned (.tuple #[.int .i64 0, .int .i64 0, .int .i64 5]) = .returned (trip (getR p m k c v)) := by
  simp [trip, getR, show ¬ 9 ≤ k from by omega, h2, h3, h4]
theorem getR_big {p m k : Nat} {c v : Int} (h : k < 9) (h2 : k ≠ m) (h3 : ¬ (c = 0 ∧ 0 < k)) (h4 : 4611686018427387903 < v) : Ending.returned (.tuple #[.int .i64 0, .int .i64 0, .int .i64 7]) = .returned (trip (getR p m k c v)) := by
  simp [trip, getR, show ¬ 9 ≤ k from by omega, h2, h3, maxNum, h4]
theorem getR_ok {p m k : Nat} {c v x : Int} (h : k < 9) (h2 : k ≠ m) (h3 : ¬ (c = 0 ∧ 0 < k)) (h4 : v ≤ 4611686018427387903) (hx : x = v) : Ending.returned (.tuple #[.int .i64 x, .int .i64 ((p : Int) + k + 1), .int .i64 0]) = .returned (trip (getR p m k c v)) := by
  subst hx; simp [trip, getR, show ¬ 9 ≤ k from by omega, h2, h3, maxNum, show ¬ 4611686018427387903 < x from by omega]

set_option maxHeartbeats 1000000 in
theorem get_walk (b off : Nat) (len cap p k : Nat) (f : Nat → Int) (w : World) (hl : len ≤ 9223372036854775807) (hp : p ≤ len)
   (hc : ∀ i, p + i < len → w.cell? ⟨b, off + (p + i), none⟩ = some (.int .u8 (f i))) (hf : ∀ i, 0 ≤ f i ∧ f i ≤ 255)
   (hk : p + k ≤ len) (hk1 : ∀ j, j < k → 127 < f j) (hk2 : p + k < len → f k ≤ 127) :
    Calls Try.prog 20 #[.slice (some ⟨b, off, none⟩) len cap, .int .i64 p] w fun e w' => e = .returned (trip (getR p (len - p) k (f k) (Hn f 0 (k + 1)))) ∧ w = w' := by
  go_enter Try.func20, Try.ntmps20
  go_wp2
  go_loop [7, 18] (fun n c => ∃ i : Nat, i ≤ 9 ∧ i ≤ k ∧ c = .int .i64 i ∧ n = .int .i64 (Hn f 0 i)) (fun _ c => 9 - (intOf c).toNat)
  case atStart => exact ⟨0, by omega, by omega, rfl, rfl⟩
  case round =>
    obtain ⟨i, hi, hik, rfl, rfl⟩ := hrel
    have hfi := hf i
    have hVi := Hn_bd f i 0
    by_cases h9 : i < 9
    · have HS := Lib.hid (gstep (Hn f 0 i) (f i) i h9 hVi.1 hVi.2 hfi.1 hfi.2)
      have HT := Lib.hid (Hn_succ' f i 0)
      by_cases he : p + i = len
      · have he' : ((p : Int) + (i : Int) == (len : Int)) = true := by simp; omega
        have hie : i = k := by omega
        have HE := Lib.hid he; clear he
        have HI := Lib.hid hie; clear hie
        go_wp2
        go_ret3
        exact ⟨getR_end (by have := HI.out; omega) (by have := HE.out; have := HI.out; omega), rfl⟩
      · have hci := hc i (by omega)
        by_cases hki : i < k
        · have hgt := hk1 i hki
          go_wp2
          go_round
          case rel => exact ⟨i + 1, by omega, by omega, by go_num, by rw [HS.out, HT.out]; simp⟩
          case measure => simp [intOf]; omega
        · have hie : k = i := by omega
          subst hie
          have hle := hk2 (by omega)
          by_cases hz : f k = 0 ∧ 0 < k
          · obtain ⟨hz1, hz2⟩ := hz
            have hz1' : (f k == 0) = true := by simp [hz1]
            have HZ := Lib.hid hz1; clear hz1
            go_wp2
            go_ret3
            exact ⟨getR_form (by omega) (by omega) HZ.out hz2, rfl⟩
          · have HZ := Lib.hid hz; clear hz
            have HV : Hid (bits .or .i64 (Hn f 0 k) (wrap64 (bits .and .i64 (f k) 127 * 2 ^ (7 * k))) = Hn f 0 (k + 1)) := by
              show _ = _
              rw [HS.out, HT.out]; simp
            by_cases h0 : f k = 0
            · have hb : (f k == 0) = true := by simp [h0]
              have hk0 : ¬ 0 < k := fun h => HZ.out ⟨h0, h⟩
              clear h0
              go_wp2
              · have hbig : 4611686018427387903 < bits .or .i64 (Hn f 0 k) (wrap64 (bits .and .i64 (f k) 127 * 2 ^ (7 * k))) := by assumption
                go_ret3
                exact ⟨getR_big (by omega) (by omega) HZ.out (by rw [HV.out] at hbig; exact hbig), rfl⟩
              · have hbig : bits .or .i64 (Hn f 0 k) (wrap64 (bits .and .i64 (f k) 127 * 2 ^ (7 * k))) ≤ 4611686018427387903 := by assumption
                go_ret3
                exact ⟨getR_ok (by omega) (by omega) HZ.out (by rw [HV.out] at hbig; exact hbig) HV.out, rfl⟩
            · have hb : (f k == 0) = false := by simp [h0]
              clear h0
              go_wp2
              · have hbig : 4611686018427387903 < bits .or .i64 (Hn f 0 k) (wrap64 (bits .and .i64 (f k) 127 * 2 ^ (7 * k))) := by assumption
                go_ret3
                exact ⟨getR_big (by omega) (by omega) HZ.out (by rw [HV.out] at hbig; exact hbig), rfl⟩
              · have hbig : bits .or .i64 (Hn f 0 k) (wrap64 (bits .and .i64 (f k) 127 * 2 ^ (7 * k))) ≤ 4611686018427387903 := by assumption
                go_ret3
                exact ⟨getR_ok (by omega) (by omega) HZ.out (by rw [HV.out] at hbig; exact hbig) HV.out, rfl⟩
    · go_wp2
      go_ret3
      exact ⟨getR_nine (by omega), rfl⟩

/-- a slice's address and elements, as the walk reads them -/
def Bytes (w : World) (a : Option Addr) (l : List Int) : Prop :=
  (∀ i, 0 ≤ l.getD i 0 ∧ l.getD i 0 ≤ 255) ∧ (l ≠ [] → ∃ b off, a = some ⟨b, off, none⟩ ∧ ∀ i, i < l.length → w.cell? ⟨b, off + i, none⟩ = some (.int .u8 (l.getD i 0)))

set_option maxHeartbeats 400000 in
theorem get_empty (a : Option Addr) (cap : Nat) (w : World) :
    Calls Try.prog 20 #[.slice a 0 cap, .int .i64 0] w fun e w' => e = .returned (.tuple #[.int .i64 0, .int .i64 0, .int .i64 4]) ∧ w = w' := by
  go_enter Try.func20, Try.ntmps20
  go_wp2
  refine wp_loop_rounds 1 ?_
  rw [rounds_succ]
  go_wp2
  go_ret3
  exact ⟨rfl, rfl⟩

set_option maxHeartbeats 400000 in
theorem get_out (a : Option Addr) (len cap : Nat) (p : Int) (w : World) (h : p < 0 ∨ (len : Int) < p) :
    Calls Try.prog 20 #[.slice a len cap, .int .i64 p] w fun e w' => e = .returned (.tuple #[.int .i64 0, .int .i64 0, .int .i64 3]) ∧ w = w' := by
  by_cases h0 : p < 0
  · clear h
    go_enter Try.func20, Try.ntmps20
    go_wp2
    go_ret3
    exact ⟨rfl, rfl⟩
  · have h1 : (len : Int) < p := by omega
    clear h
    go_enter Try.func20, Try.ntmps20
    go_wp2
    go_ret3
    exact ⟨rfl, rfl⟩

theorem get_any (a : Option Addr) (cap : Nat) (l : List Int) (p : Int) (w : World) (hl : l.length ≤ 9223372036854775807) (hB : Bytes w a l) :
    Calls Try.prog 20 #[.slice a l.length cap, .int .i64 p] w fun e w' => e = .returned (trip (G l p)) ∧ w = w' := by
  by_cases hp : p < 0 ∨ (l.length : Int) < p
  · refine (get_out a l.length cap p w hp).mono ?_
    rintro e w' ⟨rfl, rfl⟩
    exact ⟨by simp [trip, G, hp], rfl⟩
  · obtain ⟨q, rfl⟩ : ∃ q : Nat, p = (q : Int) := ⟨p.toNat, by omega⟩
    have hG : G l q = getR q (l.length - q) (cnt (l.drop q)) (l.getD (q + cnt (l.drop q)) 0) (Hn (fun j => l.getD (q + j) 0) 0 (cnt (l.drop q) + 1)) := by
      unfold G; rw [if_neg hp]; simp only [Int.toNat_natCast]
    by_cases hn : l = []
    · subst hn
      have hq : q = 0 := by simp at hp; omega
      subst hq
      refine (get_empty a cap w).mono ?_
      rintro e w' ⟨rfl, rfl⟩
      exact ⟨by rw [hG]; simp [trip, getR, cnt], rfl⟩
    · obtain ⟨b, off, rfl, hc⟩ := hB.2 hn
      have hd : ∀ j, (l.drop q).getD j 0 = l.getD (q + j) 0 := fun j => by simp [List.getD_eq_getElem?_getD]
      have hkl := cnt_le (l.drop q)
      rw [List.length_drop] at hkl
      rw [hG]
      refine get_walk b off l.length cap q (cnt (l.drop q)) (fun j => l.getD (q + j) 0) w hl (by omega) (fun i hi => hc _ hi) (fun i => hB.1 _) (by omega) (fun j hj => ?_) (fun hj => ?_)
      · show 127 < l.getD (q + j) 0
        rw [← hd]; exact cnt_lt _ j hj
      · show l.getD (q + cnt (l.drop q)) 0 ≤ 127
        rw [← hd]; exact cnt_at _ (by rw [List.length_drop]; omega)
end Go.Proofs.Ytkojldjgjmaodaa
