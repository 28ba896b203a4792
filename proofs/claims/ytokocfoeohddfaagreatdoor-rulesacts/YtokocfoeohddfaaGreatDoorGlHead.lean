/- glob: the head of signs. (A template.) -/
import Derived.Test.YtokocfoeohddfaaGreatDoorGlChecks
namespace Go.Proofs.YtokocfoeohddfaaGreatDoor.Pa
open Go.RowKit
set_option linter.unusedVariables false
set_option linter.unusedSimpArgs false
set_option maxRecDepth 100000

def ints (b : L8) : List Int := b.map fun c => (c.toNat : Int)
theorem ints_oct (b : L8) : Oct (ints b) := by
  intro c hc
  obtain ⟨x, _, rfl⟩ := List.mem_map.1 hc
  have := x.toNat_lt
  omega
theorem ints_str (b : L8) : strOfNums (ints b) = mk b := by
  unfold strOfNums ints mk
  congr 1
  simp [List.map_map, Function.comp_def]
def sgByte (x : Sg) : UInt8 := UInt8.ofNat x.c
def headL (L : List Sg) : L8 := (L.takeWhile (·.itself)).map sgByte
/-- signs of bytes that stand for themselves have a byte -/
def Fits (L : List Sg) : Prop := ∀ x ∈ L, x.c < 256
theorem sgn_fits {l : L8} {a b : Nat} {x : Sg} (h : sgn l a = some (x, b)) : x.c < 256 := by
  unfold sgn at h
  split at h
  · cases hc : cls l (l.length + 1) (if bang l a = true then a + 2 else a + 1) noneS with
    | none => rw [hc] at h; simp at h
    | some y => rw [hc] at h; simp at h; rw [← h.1]; simp [classSg]
  · split at h
    · simp at h; rw [← h.1]; simp
    · split at h
      · simp at h; rw [← h.1]; split <;> simp
      · cases hr : rbN l a with
        | none => rw [hr] at h; simp at h
        | some y =>
          rw [hr] at h
          simp at h
          rw [← h.1]
          exact (rb_some (c := y.1) (b := y.2) hr).2.1
theorem sgns_fits {l : L8} : ∀ n a L, sgns l n a = some L → Fits L := by
  intro n
  induction n with
  | zero => intro a L h; simp [sgns] at h
  | succ n ih =>
    intro a L h
    rw [sgns_eq] at h
    split at h
    · cases hs : sgn l a with
      | none => rw [hs] at h; simp at h
      | some x =>
        obtain ⟨x, b⟩ := x
        rw [hs] at h
        simp only at h
        cases hr : sgns l n b with
        | none => rw [hr] at h; simp at h
        | some M =>
          rw [hr] at h
          simp only [Option.map_some, Option.some.injEq] at h
          subst h
          intro y hy
          rcases List.mem_cons.1 hy with rfl | hy
          · exact sgn_fits hs
          · exact ih b M hr y hy
    · simp only [Option.some.injEq] at h
      subst h; intro x hx; simp at hx
theorem headL_cons (x : Sg) (L : List Sg) : headL (x :: L) = if x.itself = true then sgByte x :: headL L else [] := by
  unfold headL
  rw [List.takeWhile_cons]
  split <;> simp
/-- behind k signs, all of which stand for themselves -/
def Gone (L : List Sg) (k : Nat) (b : L8) : Prop := k ≤ L.length ∧ b.length = k ∧ headL L = b ++ headL (L.drop k)
theorem Gone.next {L : List Sg} {k : Nat} {b : L8} {x : Sg} (h : Gone L k b) (hx : L[k]? = some x) (hi : x.itself = true) : Gone L (k + 1) (b ++ [sgByte x]) := by
  obtain ⟨h1, h2⟩ := List.getElem?_eq_some_iff.1 hx
  refine ⟨h1, by simp [h.2.1], ?_⟩
  rw [h.2.2, List.drop_eq_getElem_cons h1, h2, headL_cons, if_pos hi]
  simp
theorem Gone.stop {L : List Sg} {k : Nat} {b : L8} {x : Sg} (h : Gone L k b) (hx : L[k]? = some x) (hi : x.itself = false) : headL L = b := by
  obtain ⟨h1, h2⟩ := List.getElem?_eq_some_iff.1 hx
  rw [h.2.2, List.drop_eq_getElem_cons h1, h2, headL_cons, if_neg (by rw [hi]; simp)]
  simp
theorem Gone.all {L : List Sg} {k : Nat} {b : L8} (h : Gone L k b) (hx : ¬ k < L.length) : headL L = b := by
  rw [h.2.2, List.drop_eq_nil_of_le (by omega)]
  simp [headL]
theorem GsAt.cs7 {w : World} {g i : Nat} {L : List Sg} {x : Sg} (h : GsAt w g L) (hi : L[i]? = some x) :
    w.cell? ⟨g, i * 7, none⟩ = some (.int .u64 (wd x.S 0 : Int)) ∧ w.cell? ⟨g, i * 7 + 1, none⟩ = some (.int .u64 (wd x.S 1 : Int)) ∧ w.cell? ⟨g, i * 7 + 2, none⟩ = some (.int .u64 (wd x.S 2 : Int)) ∧ w.cell? ⟨g, i * 7 + 3, none⟩ = some (.int .u64 (wd x.S 3 : Int)) ∧ w.cell? ⟨g, i * 7 + 4, none⟩ = some (.bool x.many) ∧ w.cell? ⟨g, i * 7 + 5, none⟩ = some (.bool x.itself) ∧ w.cell? ⟨g, i * 7 + 6, none⟩ = some (.int .u8 (x.c : Int)) :=
  ⟨h.cell i x hi 0 (by omega), h.cell i x hi 1 (by omega), h.cell i x hi 2 (by omega), h.cell i x hi 3 (by omega), h.cell i x hi 4 (by omega), h.cell i x hi 5 (by omega), h.cell i x hi 6 (by omega)⟩
end Go.Proofs.YtokocfoeohddfaaGreatDoor.Pa
