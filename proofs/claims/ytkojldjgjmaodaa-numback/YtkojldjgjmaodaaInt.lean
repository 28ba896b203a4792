/- GetInt, both: what Get tells, with a sign. -/
import Derived.Test.YtkojldjgjmaodaaRef
namespace Go.Proofs.Ytkojldjgjmaodaa
open Go.RowKit Go.Proofs.NumMath
set_option linter.unusedVariables false

/-- what GetInt tells of what Get tells -/
def GI (g : Int × Int × Int) : Int × Int × Int :=
  if g.2.2 = 0 then (if g.1 % 2 = 1 then (-(g.1 / 2) - 1, g.2.1, 0) else (g.1 / 2, g.2.1, 0)) else (0, 0, g.2.2)

set_option maxHeartbeats 400000 in
theorem getint_of (v : Value) (p x i er : Int) (w : World) (h0 : 0 ≤ x) (h1 : x ≤ 4611686018427387903)
    (hG : Calls Try.prog 20 #[v, .int .i64 p] w fun e w' => e = .returned (.tuple #[.int .i64 x, .int .i64 i, .int .i64 er]) ∧ w = w') :
    Calls Try.prog 22 #[v, .int .i64 p] w fun e w' => e = .returned (trip (GI (x, i, er))) ∧ w = w' := by
  have HG := Lib.hid hG
  clear hG
  by_cases he : er = 0
  · have he'' : (er != 0) = false := by simp [he]
    have he3 : (er == 0) = true := by simp [he]
    by_cases ho : x % 2 = 1
    · have ho' : (x % 2 == 1) = true := by simp [ho]
      have HE : Hid (GI (x, i, er) = (-(x / 2) - 1, i, 0)) := by show _ = _; simp [GI, he, ho]
      clear he ho
      go_enter Try.func22, Try.ntmps22
      go_wp2_with (go_at_call 20; refine HG.out.mono ?_; rintro e w' ⟨rfl, rfl⟩)
      go_ret3
      exact ⟨by rw [HE.out]; rfl, rfl⟩
    · have ho' : (x % 2 == 1) = false := by simp [ho]
      have HE : Hid (GI (x, i, er) = (x / 2, i, 0)) := by show _ = _; simp [GI, he, ho]
      clear he ho
      go_enter Try.func22, Try.ntmps22
      go_wp2_with (go_at_call 20; refine HG.out.mono ?_; rintro e w' ⟨rfl, rfl⟩)
      go_ret3
      exact ⟨by rw [HE.out]; rfl, rfl⟩
  · have he'' : (er != 0) = true := by simp [he]
    have he3 : (er == 0) = false := by simp [he]
    have HE : Hid (GI (x, i, er) = (0, 0, er)) := by show _ = _; simp [GI, he]
    clear he
    go_enter Try.func22, Try.ntmps22
    go_wp2_with (go_at_call 20; refine HG.out.mono ?_; rintro e w' ⟨rfl, rfl⟩)
    go_ret3
    exact ⟨by rw [HE.out]; rfl, rfl⟩

set_option maxHeartbeats 400000 in
theorem rgetint_of (v : Value) (p x i er : Int) (w : World) (h0 : 0 ≤ x) (h1 : x ≤ 4611686018427387903)
    (hG : Calls Try.prog 21 #[v, .int .i64 p] w fun e w' => e = .returned (.tuple #[.int .i64 x, .int .i64 i, .int .i64 er]) ∧ w = w') :
    Calls Try.prog 23 #[v, .int .i64 p] w fun e w' => e = .returned (trip (GI (x, i, er))) ∧ w = w' := by
  have HG := Lib.hid hG
  clear hG
  by_cases he : er = 0
  · have he'' : (er != 0) = false := by simp [he]
    have he3 : (er == 0) = true := by simp [he]
    by_cases ho : x % 2 = 1
    · have ho' : (x % 2 == 1) = true := by simp [ho]
      have HE : Hid (GI (x, i, er) = (-(x / 2) - 1, i, 0)) := by show _ = _; simp [GI, he, ho]
      clear he ho
      go_enter Try.func23, Try.ntmps23
      go_wp2_with (go_at_call 21; refine HG.out.mono ?_; rintro e w' ⟨rfl, rfl⟩)
      go_ret3
      exact ⟨by rw [HE.out]; rfl, rfl⟩
    · have ho' : (x % 2 == 1) = false := by simp [ho]
      have HE : Hid (GI (x, i, er) = (x / 2, i, 0)) := by show _ = _; simp [GI, he, ho]
      clear he ho
      go_enter Try.func23, Try.ntmps23
      go_wp2_with (go_at_call 21; refine HG.out.mono ?_; rintro e w' ⟨rfl, rfl⟩)
      go_ret3
      exact ⟨by rw [HE.out]; rfl, rfl⟩
  · have he'' : (er != 0) = true := by simp [he]
    have he3 : (er == 0) = false := by simp [he]
    have HE : Hid (GI (x, i, er) = (0, 0, er)) := by show _ = _; simp [GI, he]
    clear he
    go_enter Try.func23, Try.ntmps23
    go_wp2_with (go_at_call 21; refine HG.out.mono ?_; rintro e w' ⟨rfl, rfl⟩)
    go_ret3
    exact ⟨by rw [HE.out]; rfl, rfl⟩

theorem getint_any (a : Option Addr) (cap : Nat) (l : List Int) (p : Int) (w : World) (hl : l.length ≤ 9223372036854775807) (hB : Bytes w a l) :
    Calls Try.prog 22 #[.slice a l.length cap, .int .i64 p] w fun e w' => e = .returned (trip (GI (G l p))) ∧ w = w' := by
  have hb := G_bd l p (by omega)
  exact getint_of _ p (G l p).1 (G l p).2.1 (G l p).2.2 w hb.1 hb.2.1 (get_any a cap l p w (by omega) hB)

theorem rgetint_any (a : Option Addr) (cap : Nat) (l : List Int) (p : Int) (w : World) (hl : l.length ≤ 9223372036854775807) (hB : Bytes w a l) :
    Calls Try.prog 23 #[.slice a l.length cap, .int .i64 p] w fun e w' => e = .returned (trip (GI (G l p))) ∧ w = w' := by
  have hb := G_bd l p (by omega)
  exact rgetint_of _ p (G l p).1 (G l p).2.1 (G l p).2.2 w hb.1 hb.2.1 (rget_any a cap l p w hl hB)
end Go.Proofs.Ytkojldjgjmaodaa
