/- Stretches of a slice; sums of one part and of three, wherever the block of parts lies. -/
import Derived.Test.YtkojldjgjmaodabDoorOwn
namespace Go.Proofs.YtkojldjgjmaodabDoor
open Go.RowKit Go.Proofs.CrcMath
set_option linter.unusedVariables false

theorem hel : Tryd.prog.elem 22 = 5 := by kernel_rfl

theorem sl_stretch {w : World} {a : Option Addr} {l : List Int} (h : Bytes w a l) (cap : Nat) (hcap : l.length ≤ cap) (hnil : a = none → cap = 0) (p m : Nat) (hm : p + m ≤ l.length) :
    Sl w (.slice (if cap = p then a else a.map (·.add (p * 1))) m (cap - p)) ((l.drop p).take m) := by
  have hlen : ((l.drop p).take m).length = m := by rw [List.length_take, List.length_drop]; omega
  refine ⟨_, _, by rw [hlen], ⟨(h.1.drop p).take m, fun hne => ?_⟩, ?_, by omega⟩
  · have hm0 : 0 < m := by
      rcases Nat.eq_zero_or_pos m with h | h
      · subst h; simp at hne
      · exact h
    have hl : l ≠ [] := by intro e; subst e; simp at hm; omega
    obtain ⟨b, off, rfl, hc⟩ := h.2 hl
    refine ⟨b, off + p, ?_, fun i hi => ?_⟩
    · rw [if_neg (by omega)]
      by_cases hp : p = 0
      · subst hp; simp [Addr.add]
      · simp [Addr.add, hp]
    · have hi' : i < m := by omega
      rw [List.getD_eq_getElem?_getD, List.getElem?_take, if_pos hi', List.getElem?_drop, ← List.getD_eq_getElem?_getD, Nat.add_assoc]
      exact hc (p + i) (by omega)
  · intro h
    split at h
    · next h0 => omega
    · simp at h; have := hnil h; omega

theorem run_cut {w : World} {a : Option Addr} {l : List Int} (h : Bytes w a l) (cap n : Nat) (hn : n = l.length) (hcap : n ≤ cap) (hnil : a = none → cap = 0) (p m : Nat) (hm : p + m ≤ n) :
    ∃ a', (∀ W, (Instr.slice 22 (.slice a n cap) (some (.int .i64 (p : Int))) (some (.int .i64 ((p : Int) + (m : Int)))) none).run Tryd.prog W = .ok (.slice a' m (cap - p)) W) ∧ Sl w (.slice a' m (cap - p)) ((l.drop p).take m) := by
  subst hn
  refine ⟨_, fun W => ?_, sl_stretch h cap hcap hnil p m hm⟩
  have hr := run_slice_lh (P := Tryd.prog) (w := W) 22 a l.length cap (by rw [hel]; exact Tryd.underlying22) .i64 .i64 (p : Int) ((p : Int) + (m : Int)) (by omega) (by omega) (by omega)
  have hsz : (sizeOf (Tryd.prog.elem 22)).run Tryd.prog W = .ok 1 W := by rw [hel]; rfl
  rw [hsz] at hr
  have e2 : ((p : Int) + (m : Int)).toNat - p = m := by omega
  simp only [Result.andThen, sliced, Int.toNat_natCast, e2] at hr
  exact hr
theorem run_from {w : World} {a : Option Addr} {l : List Int} (h : Bytes w a l) (cap n : Nat) (hn : n = l.length) (hcap : n ≤ cap) (hnil : a = none → cap = 0) (p m : Nat) (x : Int) (hx : x = ((p : Nat) : Int)) (hm : p + m = n) :
    ∃ a', (∀ W, (Instr.slice 22 (.slice a n cap) (some (.int .i64 x)) none none).run Tryd.prog W = .ok (.slice a' m (cap - p)) W) ∧ Sl w (.slice a' m (cap - p)) (l.drop p) := by
  subst hn hx
  have e0 : (l.drop p).take m = l.drop p := List.take_of_length_le (by rw [List.length_drop]; omega)
  have hs := sl_stretch h cap hcap hnil p m (by omega)
  rw [e0] at hs
  refine ⟨_, fun W => ?_, hs⟩
  have hr := run_slice_l (P := Tryd.prog) (w := W) 22 a l.length cap (by rw [hel]; exact Tryd.underlying22) .i64 (p : Int) (by omega) (by omega)
  have hsz : (sizeOf (Tryd.prog.elem 22)).run Tryd.prog W = .ok 1 W := by rw [hel]; rfl
  rw [hsz] at hr
  have e2 : l.length - p = m := by omega
  simp only [Result.andThen, sliced, Int.toNat_natCast, e2] at hr
  exact hr

/-- the sum of one part, wherever its block lies -/
theorem of_cell (W : World) (B n c : Nat) (a : Option Addr) (l : List Int) (hcell : W.cell? ⟨B, 0, none⟩ = some (.slice a n c)) (hS : Sl W (.slice a n c) l) (hl : l.length ≤ 9223372036854775807) (hT : Tab W) :
    Calls Tryd.prog 8 #[.slice (some ⟨B, 0, none⟩) 1 1] W fun e w' => e = .returned (.int .u32 ((crcN l : Nat) : Int)) ∧ W = w' := by
  obtain ⟨a1, c1, e1, hB, _, _⟩ := hS
  simp only [Value.slice.injEq] at e1
  obtain ⟨rfl, rfl, rfl⟩ := e1
  have h := of_any (some ⟨B, 0, none⟩) 1 [l] W (by simp) hT ⟨fun k => by
      cases k with
      | zero => exact hB.1
      | succ k => intro c hc; simp at hc, fun k => by
      cases k with
      | zero => exact hl
      | succ k => simp, fun _ => ⟨B, 0, rfl, fun k hk => by
      have : k = 0 := by simpa using hk
      subst this
      exact ⟨a, c, hcell, hB⟩⟩⟩
  have e : ([l] : List (List Int)).flatten = l := by simp
  rw [e] at h
  exact h
/-- .. of three -/
theorem of_cell3 (W : World) (B n1 c1 n2 c2 n3 c3 : Nat) (a1 a2 a3 : Option Addr) (l1 l2 l3 : List Int)
    (h1 : W.cell? ⟨B, 0, none⟩ = some (.slice a1 n1 c1)) (h2 : W.cell? ⟨B, 1, none⟩ = some (.slice a2 n2 c2)) (h3 : W.cell? ⟨B, 2, none⟩ = some (.slice a3 n3 c3))
    (s1 : Sl W (.slice a1 n1 c1) l1) (s2 : Sl W (.slice a2 n2 c2) l2) (s3 : Sl W (.slice a3 n3 c3) l3) (k1 : l1.length ≤ 9223372036854775807) (k2 : l2.length ≤ 9223372036854775807) (k3 : l3.length ≤ 9223372036854775807) (hT : Tab W) :
    Calls Tryd.prog 8 #[.slice (some ⟨B, 0, none⟩) 3 3] W fun e w' => e = .returned (.int .u32 ((crcN (l1 ++ (l2 ++ l3)) : Nat) : Int)) ∧ W = w' := by
  obtain ⟨b1, d1, e1, B1, _, _⟩ := s1
  simp only [Value.slice.injEq] at e1
  obtain ⟨rfl, rfl, rfl⟩ := e1
  obtain ⟨b2, d2, e2, B2, _, _⟩ := s2
  simp only [Value.slice.injEq] at e2
  obtain ⟨rfl, rfl, rfl⟩ := e2
  obtain ⟨b3, d3, e3, B3, _, _⟩ := s3
  simp only [Value.slice.injEq] at e3
  obtain ⟨rfl, rfl, rfl⟩ := e3
  have h := of_any (some ⟨B, 0, none⟩) 3 [l1, l2, l3] W (by simp) hT ⟨fun k => by
      match k with
      | 0 => exact B1.1
      | 1 => exact B2.1
      | 2 => exact B3.1
      | k + 3 => intro c hc; simp at hc, fun k => by
      match k with
      | 0 => exact k1
      | 1 => exact k2
      | 2 => exact k3
      | k + 3 => simp, fun _ => ⟨B, 0, rfl, fun k hk => by
      match k, hk with
      | 0, _ => exact ⟨_, _, h1, B1⟩
      | 1, _ => exact ⟨_, _, h2, B2⟩
      | 2, _ => exact ⟨_, _, h3, B3⟩
      | k + 3, hk => simp at hk; omega⟩⟩
  have e : ([l1, l2, l3] : List (List Int)).flatten = l1 ++ (l2 ++ l3) := by simp
  rw [e] at h
  exact h
end Go.Proofs.YtkojldjgjmaodabDoor
