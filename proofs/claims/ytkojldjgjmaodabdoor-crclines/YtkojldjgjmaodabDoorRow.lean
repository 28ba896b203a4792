/- What came in as slices of bytes, as the walks read it. -/
import Derived.Test.YtkojldjgjmaodabDoorBase
import Derived.ProofKit
import Derived.OpenShut
import Derived.ShutString
import Derived.ChangeOld
import Derived.Below
import Derived.Deep.Matrix
namespace Go.Proofs.YtkojldjgjmaodabDoor
open Go.ChangeShapes Go.WideShapes Go.ChangeAt Go.RowKit
set_option linter.unusedVariables false

/-- a slice of bytes: nil; or a row of 'cap' cells, the first 'len' its elements -/
def IsRow (k : IntKind) (w : World) (a : Option Addr) (len cap : Nat) (zs : List Int) : Prop :=
  (a = none ∧ len = 0 ∧ cap = 0 ∧ zs = []) ∨
  ∃ x, a = some x ∧ len ≤ cap ∧ cap ≤ maxLen ∧ zs.length = cap ∧ (∀ i, i < zs.length → w.cell? (x.add i) = some (.int k (zs.getD i 0))) ∧ ∀ n ∈ zs, (Lit.int k n).wf = true

theorem bytes_at {w : World} {x : Addr} {len cap : Nat} {zs : List Int} (hl : len ≤ cap) (hz : zs.length = cap) (hcell : ∀ i, i < zs.length → w.cell? (x.add i) = some (.int .u8 (zs.getD i 0))) (hwz : ∀ n ∈ zs, (Lit.int .u8 n).wf = true) :
    Bytes w (some x) (zs.take len) := by
  have hlen : (zs.take len).length = len := by rw [List.length_take]; omega
  refine ⟨fun c hc => ?_, fun hne => ?_⟩
  · have hb := bounds_u8 (hwz c (List.mem_of_mem_take hc)); exact ⟨hb.1, hb.2⟩
  · have hpos : 0 < len := by
      rcases Nat.eq_zero_or_pos len with h | h
      · subst h; simp at hne
      · exact h
    obtain ⟨b, off, spot⟩ := x
    have hc := hcell 0 (by omega)
    have hspot : spot = none := by simpa [Addr.add] using World.cell?_spot hc
    subst hspot
    refine ⟨b, off, rfl, fun i hi => ?_⟩
    rw [hlen] at hi
    have hci := hcell i (by omega)
    rw [List.getD_eq_getElem?_getD, List.getElem?_take, if_pos hi, ← List.getD_eq_getElem?_getD]
    by_cases h0 : i = 0
    · subst h0; simpa [Addr.add] using hci
    · simpa [Addr.add, h0] using hci

theorem bytes_of {w : World} {a : Option Addr} {len cap : Nat} {zs : List Int} (h : IsRow .u8 w a len cap zs) : (zs.take len).length = len ∧ len ≤ cap ∧ cap ≤ 9223372036854775807 ∧ (a = none → cap = 0) ∧ Bytes w a (zs.take len) := by
  rcases h with ⟨rfl, rfl, rfl, rfl⟩ | ⟨x, rfl, hl, hm, hz, hcell, hwz⟩
  · exact ⟨by simp, by omega, by omega, fun _ => rfl, ⟨fun c hc => by simp at hc, fun h => absurd rfl h⟩⟩
  · unfold maxLen at hm
    exact ⟨by rw [List.length_take]; omega, hl, hm, (fun h => by cases h), bytes_at hl hz hcell hwz⟩

/-- a slice of slices of bytes -/
def IsRows (w : World) (a : Option Addr) (len cap : Nat) (ps : List (List Int)) : Prop := ps.length = len ∧ len ≤ 9223372036854775807 ∧ Parts w a ps

theorem rows_none (w : World) : IsRows w none 0 0 [] := ⟨rfl, by omega, ⟨fun k c hc => by simp at hc, fun k => by simp, fun h => absurd rfl h⟩⟩

theorem rows_some {w : World} {a : Addr} {len cap : Nat} {A : Nat → Option Addr} {L C : Nat → Nat} {Z : Nat → List Int} (hl : len ≤ cap) (hm : cap ≤ maxLen)
    (h : ∀ r, r < cap → w.cell? (a.add r) = some (.slice (A r) (L r) (C r)) ∧ L r ≤ C r ∧ C r ≤ maxLen ∧ (Z r).length = C r ∧ (∀ n ∈ Z r, (Lit.int .u8 n).wf = true) ∧ (A r = none → C r = 0) ∧
        ∀ a', A r = some a' → 0 ≤ a'.block ∧ ∀ c, c < C r → w.cell? (a'.add c) = some (.int .u8 ((Z r).getD c 0))) :
    IsRows w (some a) len cap ((List.range len).map fun r => (Z r).take (L r)) := by
  unfold maxLen at *
  have hg : ∀ r, r < len → ((List.range len).map fun r => (Z r).take (L r)).getD r [] = (Z r).take (L r) := fun r hr => by
    rw [List.getD_eq_getElem?_getD]; simp [hr]
  have hn : ∀ r, ¬ r < len → ((List.range len).map fun r => (Z r).take (L r)).getD r [] = [] := fun r hr => by
    rw [List.getD_eq_getElem?_getD, List.getElem?_eq_none (by simp; omega)]; rfl
  have hB : ∀ r, r < len → Bytes w (A r) ((Z r).take (L r)) := fun r hr => by
    obtain ⟨_, h2, h3, h4, h5, h6, h7⟩ := h r (by omega)
    rcases hA : A r with _ | a'
    · have := h6 hA
      have e : (Z r).take (L r) = [] := by rw [show L r = 0 from by omega]; simp
      rw [e]
      exact ⟨fun c hc => by simp at hc, fun h => absurd rfl h⟩
    · exact bytes_at h2 h4 (fun i hi => (h7 a' hA).2 i (by omega)) h5
  refine ⟨by simp, by omega, ⟨fun k => ?_, fun k => ?_, fun hne => ?_⟩⟩
  · by_cases hk : k < len
    · rw [hg k hk]; exact (hB k hk).1
    · rw [hn k hk]; intro c hc; simp at hc
  · by_cases hk : k < len
    · obtain ⟨_, h2, h3, h4, _⟩ := h k (by omega)
      rw [hg k hk, List.length_take]; omega
    · rw [hn k hk]; simp
  · have hpos : 0 < len := by
      rcases Nat.eq_zero_or_pos len with h | h
      · subst h; simp at hne
      · exact h
    obtain ⟨b, off, spot⟩ := a
    have hc := (h 0 (by omega)).1
    have hspot : spot = none := by simpa [Addr.add] using World.cell?_spot hc
    subst hspot
    refine ⟨b, off, rfl, fun k hk => ?_⟩
    have hk' : k < len := by simpa using hk
    obtain ⟨h1, h2, h3, h4, _⟩ := h k (by omega)
    refine ⟨A k, C k, ?_, by rw [hg k hk']; exact hB k hk'⟩
    rw [hg k hk', show ((Z k).take (L k)).length = L k from by rw [List.length_take]; omega]
    by_cases h0 : k = 0
    · subst h0; simpa [Addr.add] using h1
    · simpa [Addr.add, h0] using h1
end Go.Proofs.YtkojldjgjmaodabDoor
