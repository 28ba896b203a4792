/- GetText, both. -/
import Derived.Test.YtkojldjgjmaodaaRef
import Derived.Test.YtkojldjgjmaodaaStr
namespace Go.Proofs.Ytkojldjgjmaodaa
open Go.RowKit Go.Proofs.NumMath
set_option linter.unusedVariables false

/-- what GetText tells of what Get tells -/
def GT (l : List Int) (g : Int × Int × Int) (most : Int) : ByteArray × Int × Int :=
  if g.2.2 = 0 then (if max most 0 < g.1 then (ByteArray.empty, 0, 7) else if (l.length : Int) - g.2.1 < g.1 then (ByteArray.empty, 0, 4) else (strOfNums ((l.drop g.2.1.toNat).take g.1.toNat), g.2.1 + g.1, 0)) else (ByteArray.empty, 0, g.2.2)

def strip (g : ByteArray × Int × Int) : Value := .tuple #[.string g.1, .int .i64 g.2.1, .int .i64 g.2.2]

set_option maxHeartbeats 400000 in
theorem held_any (n lo hi : Int) (w : World) (hlh : lo ≤ hi) :
    Calls Try.prog 30 #[.int .i64 n, .int .i64 lo, .int .i64 hi] w fun e w' => e = .returned (.int .i64 (min (max n lo) hi)) ∧ w = w' := by
  by_cases h1 : n < lo
  · have e : min (max n lo) hi = lo := by omega
    rw [e]; clear e
    go_enter Try.func30, Try.ntmps30
    go_wp2
    go_ret
    exact ⟨rfl, rfl⟩
  · by_cases h2 : hi < n
    · have e : min (max n lo) hi = hi := by omega
      rw [e]; clear e
      go_enter Try.func30, Try.ntmps30
      go_wp2
      go_ret
      exact ⟨rfl, rfl⟩
    · have e : min (max n lo) hi = n := by omega
      rw [e]; clear e
      go_enter Try.func30, Try.ntmps30
      go_wp2
      go_ret
      exact ⟨rfl, rfl⟩

set_option maxHeartbeats 1000000 in
theorem gettext_of (a : Option Addr) (cap : Nat) (l : List Int) (p most x i er : Int) (w : World) (h0 : 0 ≤ x) (h1 : x ≤ 4611686018427387903) (hi0 : 0 ≤ i) (hi1 : i ≤ l.length) (hcap : l.length ≤ cap) (hl : l.length ≤ 9223372036854775807) (hB : Bytes w a l)
    (hG : Calls Try.prog 20 #[.slice a l.length cap, .int .i64 p] w fun e w' => e = .returned (.tuple #[.int .i64 x, .int .i64 i, .int .i64 er]) ∧ w = w') :
    Calls Try.prog 24 #[.slice a l.length cap, .int .i64 p, .int .i64 most] w fun e w' => e = .returned (strip (GT l (x, i, er) most)) ∧ w = w' := by
  have HG := Lib.hid hG
  obtain ⟨n, hn⟩ : ∃ n, n = l.length := ⟨_, rfl⟩
  have hcut := run_cut hB cap hcap i (i + x) hi0 (by omega)
  rw [← hn] at HG hcut hi1 hl ⊢
  clear hG
  by_cases he : er = 0
  · have he'' : (er != 0) = false := by simp [he]
    have he3 : (er == 0) = true := by simp [he]
    by_cases hb : max most 0 < x
    · have HE : Hid (GT l (x, i, er) most = (ByteArray.empty, 0, 7)) := by show _ = _; simp [GT, he, hb]
      by_cases hm : 0 ≤ most
      · have hb' : most < x := by omega
        clear he hb hn hcut
        go_enter Try.func24, Try.ntmps24
        go_wp2_with (go_at_call 20; refine HG.out.mono ?_; rintro e w' ⟨rfl, rfl⟩)
        go_ret3
        exact ⟨by rw [HE.out]; rfl, rfl⟩
      · have hm' : most < 0 := by omega
        have hb' : 0 < x := by omega
        clear he hb hn hcut
        go_enter Try.func24, Try.ntmps24
        go_wp2_with (go_at_call 20; refine HG.out.mono ?_; rintro e w' ⟨rfl, rfl⟩)
        go_ret3
        exact ⟨by rw [HE.out]; rfl, rfl⟩
    · by_cases hb2 : (n : Int) - i < x
      · have HE : Hid (GT l (x, i, er) most = (ByteArray.empty, 0, 4)) := by show _ = _; simp [GT, he, hb, ← hn, hb2]
        by_cases hm : 0 ≤ most
        · have hb' : x ≤ most := by omega
          clear he hb hn hcut
          go_enter Try.func24, Try.ntmps24
          go_wp2_with (go_at_call 20; refine HG.out.mono ?_; rintro e w' ⟨rfl, rfl⟩)
          go_ret3
          exact ⟨by rw [HE.out]; rfl, rfl⟩
        · exfalso; omega
      · have HE : Hid (GT l (x, i, er) most = (strOfNums ((l.drop i.toNat).take x.toNat), i + x, 0)) := by show _ = _; simp [GT, he, hb, ← hn, hb2]
        obtain ⟨a', hrun, hB'⟩ := hcut (by omega)
        rw [show i + x - i = x from by omega] at hrun hB'
        have hconv := run_str hB' x.toNat (cap - i.toNat) (by rw [List.length_take, List.length_drop, ← hn]; omega)
        generalize strOfNums ((l.drop i.toNat).take x.toNat) = S at HE hconv
        generalize x.toNat = xn at hrun hconv
        generalize cap - i.toNat = cn at hrun hconv
        by_cases hm : 0 ≤ most
        · have hb' : x ≤ most := by omega
          clear he hb hn hB'
          go_enter Try.func24, Try.ntmps24
          go_wp2_with (go_at_call 20; refine HG.out.mono ?_; rintro e w' ⟨rfl, rfl⟩)
          go_ret3
          exact ⟨by rw [HE.out]; rfl, rfl⟩
        · have hm' : most < 0 := by omega
          have hb' : x ≤ 0 := by omega
          clear he hb hn hB'
          go_enter Try.func24, Try.ntmps24
          go_wp2_with (go_at_call 20; refine HG.out.mono ?_; rintro e w' ⟨rfl, rfl⟩)
          go_ret3
          exact ⟨by rw [HE.out]; rfl, rfl⟩
  · have he'' : (er != 0) = true := by simp [he]
    have he3 : (er == 0) = false := by simp [he]
    have HE : Hid (GT l (x, i, er) most = (ByteArray.empty, 0, er)) := by show _ = _; simp [GT, he]
    clear he hn hcut
    go_enter Try.func24, Try.ntmps24
    go_wp2_with (go_at_call 20; refine HG.out.mono ?_; rintro e w' ⟨rfl, rfl⟩)
    go_ret3
    exact ⟨by rw [HE.out]; rfl, rfl⟩

set_option maxHeartbeats 1000000 in
theorem rgettext_of (a : Option Addr) (cap : Nat) (l : List Int) (p most x i er : Int) (w : World) (h0 : 0 ≤ x) (h1 : x ≤ 4611686018427387903) (hi0 : 0 ≤ i) (hi1 : i ≤ l.length) (hcap : l.length ≤ cap) (hl : l.length ≤ 9223372036854775807) (hB : Bytes w a l)
    (hG : Calls Try.prog 21 #[.slice a l.length cap, .int .i64 p] w fun e w' => e = .returned (.tuple #[.int .i64 x, .int .i64 i, .int .i64 er]) ∧ w = w') :
    Calls Try.prog 25 #[.slice a l.length cap, .int .i64 p, .int .i64 most] w fun e w' => e = .returned (strip (GT l (x, i, er) most)) ∧ w = w' := by
  have HG := Lib.hid hG
  obtain ⟨n, hn⟩ : ∃ n, n = l.length := ⟨_, rfl⟩
  have hcut := run_cut hB cap hcap i (i + x) hi0 (by omega)
  rw [← hn] at HG hcut hi1 hl ⊢
  clear hG
  by_cases he : er = 0
  · have he'' : (er != 0) = false := by simp [he]
    have he3 : (er == 0) = true := by simp [he]
    by_cases hb : max most 0 < x
    · have HE : Hid (GT l (x, i, er) most = (ByteArray.empty, 0, 7)) := by show _ = _; simp [GT, he, hb]
      by_cases hm : 0 ≤ most
      · have hb' : most < x := by omega
        clear he hb hn hcut
        go_enter Try.func25, Try.ntmps25
        go_wp2_with (first | (go_at_call 21; refine HG.out.mono ?_; rintro e w' ⟨rfl, rfl⟩) | (go_at_call 30; refine (held_any _ _ _ _ (by omega)).mono ?_; rintro e w' ⟨rfl, rfl⟩))
        go_ret3
        exact ⟨by rw [HE.out]; rfl, rfl⟩
      · have hm' : most < 0 := by omega
        have hb' : 0 < x := by omega
        clear he hb hn hcut
        go_enter Try.func25, Try.ntmps25
        go_wp2_with (first | (go_at_call 21; refine HG.out.mono ?_; rintro e w' ⟨rfl, rfl⟩) | (go_at_call 30; refine (held_any _ _ _ _ (by omega)).mono ?_; rintro e w' ⟨rfl, rfl⟩))
        go_ret3
        exact ⟨by rw [HE.out]; rfl, rfl⟩
    · by_cases hb2 : (n : Int) - i < x
      · have HE : Hid (GT l (x, i, er) most = (ByteArray.empty, 0, 4)) := by show _ = _; simp [GT, he, hb, ← hn, hb2]
        by_cases hm : 0 ≤ most
        · have hb' : x ≤ most := by omega
          clear he hb hn hcut
          go_enter Try.func25, Try.ntmps25
          go_wp2_with (first | (go_at_call 21; refine HG.out.mono ?_; rintro e w' ⟨rfl, rfl⟩) | (go_at_call 30; refine (held_any _ _ _ _ (by omega)).mono ?_; rintro e w' ⟨rfl, rfl⟩))
          go_ret3
          exact ⟨by rw [HE.out]; rfl, rfl⟩
        · exfalso; omega
      · have HE : Hid (GT l (x, i, er) most = (strOfNums ((l.drop i.toNat).take x.toNat), i + x, 0)) := by show _ = _; simp [GT, he, hb, ← hn, hb2]
        obtain ⟨a', hrun, hB'⟩ := hcut (by omega)
        rw [show i + x - i = x from by omega] at hrun hB'
        have hconv := run_str hB' x.toNat (cap - i.toNat) (by rw [List.length_take, List.length_drop, ← hn]; omega)
        generalize strOfNums ((l.drop i.toNat).take x.toNat) = S at HE hconv
        generalize x.toNat = xn at hrun hconv
        generalize cap - i.toNat = cn at hrun hconv
        by_cases hm : 0 ≤ most
        · have hb' : x ≤ most := by omega
          clear he hb hn hB'
          go_enter Try.func25, Try.ntmps25
          go_wp2_with (first | (go_at_call 21; refine HG.out.mono ?_; rintro e w' ⟨rfl, rfl⟩) | (go_at_call 30; refine (held_any _ _ _ _ (by omega)).mono ?_; rintro e w' ⟨rfl, rfl⟩))
          go_ret3
          exact ⟨by rw [HE.out]; rfl, rfl⟩
        · have hm' : most < 0 := by omega
          have hb' : x ≤ 0 := by omega
          clear he hb hn hB'
          go_enter Try.func25, Try.ntmps25
          go_wp2_with (first | (go_at_call 21; refine HG.out.mono ?_; rintro e w' ⟨rfl, rfl⟩) | (go_at_call 30; refine (held_any _ _ _ _ (by omega)).mono ?_; rintro e w' ⟨rfl, rfl⟩))
          go_ret3
          exact ⟨by rw [HE.out]; rfl, rfl⟩
  · have he'' : (er != 0) = true := by simp [he]
    have he3 : (er == 0) = false := by simp [he]
    have HE : Hid (GT l (x, i, er) most = (ByteArray.empty, 0, er)) := by show _ = _; simp [GT, he]
    clear he hn hcut
    go_enter Try.func25, Try.ntmps25
    go_wp2_with (first | (go_at_call 21; refine HG.out.mono ?_; rintro e w' ⟨rfl, rfl⟩) | (go_at_call 30; refine (held_any _ _ _ _ (by omega)).mono ?_; rintro e w' ⟨rfl, rfl⟩))
    go_ret3
    exact ⟨by rw [HE.out]; rfl, rfl⟩

theorem gettext_any (a : Option Addr) (cap : Nat) (l : List Int) (p most : Int) (w : World) (hcap : l.length ≤ cap) (hl : l.length ≤ 9223372036854775807) (hB : Bytes w a l) :
    Calls Try.prog 24 #[.slice a l.length cap, .int .i64 p, .int .i64 most] w fun e w' => e = .returned (strip (GT l (G l p) most)) ∧ w = w' := by
  have hb := G_bd l p (by omega)
  exact gettext_of a cap l p most (G l p).1 (G l p).2.1 (G l p).2.2 w hb.1 hb.2.1 hb.2.2.1 hb.2.2.2.1 hcap hl hB (get_any a cap l p w hl hB)

theorem rgettext_any (a : Option Addr) (cap : Nat) (l : List Int) (p most : Int) (w : World) (hcap : l.length ≤ cap) (hl : l.length ≤ 9223372036854775807) (hB : Bytes w a l) :
    Calls Try.prog 25 #[.slice a l.length cap, .int .i64 p, .int .i64 most] w fun e w' => e = .returned (strip (GT l (G l p) most)) ∧ w = w' := by
  have hb := G_bd l p (by omega)
  exact rgettext_of a cap l p most (G l p).1 (G l p).2.1 (G l p).2.2 w hb.1 hb.2.1 hb.2.2.1 hb.2.2.2.1 hcap hl hB (rget_any a cap l p w hl hB)
end Go.Proofs.Ytkojldjgjmaodaa
