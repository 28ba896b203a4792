/- Slices of bytes that a call itself made: what is owned, and how it stays so; bytes as a text; the first bytes of a slice. -/
import Derived.Test.YtkojldjgjmaodabDoorBase
import Derived.Laws.CopyOwn
import Derived.Laws.AppendOwnNone
namespace Go.Proofs.YtkojldjgjmaodabDoor
open Go.RowKit Go.Proofs.CrcMath
set_option linter.unusedVariables false

theorem Tryd.info5 : (Tryd.prog.info? 5).map (fun i => (i.zero, i.size, i.bytes)) = some (some (.int .u8 0), 1, 1) := by kernel_rfl

def Own (w : World) (base : Nat) (v : Value) (l : List Int) : Prop := w.ownsRow base 5 1 v l.length (l.map (Value.int .u8))

theorem Own.below {w w' : World} {base : Nat} {v : Value} {l : List Int} (h : Own w base v l) (hb : Below w.heap.size w w') : Own w' base v l := by
  obtain ⟨h1, h2⟩ := h
  refine ⟨h1, ?_⟩
  rcases h2 with h2 | ⟨g, cap, cur, h3, h4, h5, h6, h7, h8, h9⟩
  · exact .inl h2
  · refine .inr ⟨g, cap, cur, h3, h4, ?_, h6, h7, h8, h9⟩
    have hlt : g < w.heap.size := by
      rcases Nat.lt_or_ge g w.heap.size with h | h
      · exact h
      · rw [Array.getElem?_eq_none h] at h5; cases h5
    rw [hb.block g hlt]; exact h5
theorem Own.lower {w : World} {base base' : Nat} {v : Value} {l : List Int} (h : Own w base v l) (hb : base' ≤ base) : Own w base' v l := by
  obtain ⟨h1, h2⟩ := h
  refine ⟨h1, ?_⟩
  rcases h2 with h2 | ⟨g, cap, cur, h3, h4, h5, h6, h7, h8, h9⟩
  · exact .inl h2
  · exact .inr ⟨g, cap, cur, h3, by omega, h5, h6, h7, h8, h9⟩
theorem Own.nil (w : World) (base : Nat) : Own w base (.slice none 0 0) [] := World.ownsRow_nil _ _ _ _

/-- a slice that reads as these bytes -/
def Sl (w : World) (v : Value) (l : List Int) : Prop := ∃ a cap, v = .slice a l.length cap ∧ Bytes w a l ∧ (a = none → cap = 0) ∧ l.length ≤ cap
theorem Sl.later {w w' : World} {v : Value} {l : List Int} (h : Sl w v l) (hb : Below w.heap.size w w') : Sl w' v l := by
  obtain ⟨a, cap, e, h1, h2, h3⟩ := h
  exact ⟨a, cap, e, h1.later hb, h2, h3⟩

theorem Own.sl {w : World} {base : Nat} {v : Value} {l : List Int} (h : Own w base v l) (ho : Oct l) : Sl w v l := by
  obtain ⟨h1, h2⟩ := h
  rcases h2 with ⟨rfl, h0⟩ | ⟨g, cap, cur, rfl, h4, h5, h6, h7, h8, h9⟩
  · have hl : l = [] := List.eq_nil_of_length_eq_zero h0
    subst hl
    exact ⟨none, 0, rfl, ⟨ho, fun h => absurd rfl h⟩, fun _ => rfl, by simp⟩
  · refine ⟨some ⟨g, 0, none⟩, cap, rfl, ⟨ho, fun _ => ⟨g, 0, rfl, fun i hi => ?_⟩⟩, (fun h => by cases h), h6⟩
    have hown : w.ownsRow base 5 1 (.slice (some ⟨g, 0, none⟩) l.length cap) l.length (l.map (Value.int .u8)) := ⟨h1, .inr ⟨g, cap, cur, rfl, h4, h5, h6, h7, h8, h9⟩⟩
    rw [Nat.zero_add, hown.cellAt i (by omega), List.getElem?_map, List.getElem?_eq_getElem hi, List.getD_eq_getElem?_getD, List.getElem?_eq_getElem hi]
    rfl
theorem Own.base_le {w : World} {base : Nat} {v : Value} {l : List Int} (h : Own w base v l) : ∀ k, v.ownBlock = some k → base ≤ k := fun k hk => (World.ownsRow.lt h k hk).1

theorem heap_new (w : World) (o : Obj) : (w.alloc o).heap[w.heap.size]? = some o := by
  show (w.heap.push o)[w.heap.size]? = _
  simp
theorem oneCells (l : List Int) : ∀ v ∈ l.map (Value.int .u8), v.oneCell' = true := by
  intro v hv
  obtain ⟨c, _, rfl⟩ := List.mem_map.1 hv
  rfl
theorem Bytes.at {w : World} {b off : Nat} {l : List Int} (h : ∀ i, i < l.length → w.cell? ⟨b, off + i, none⟩ = some (.int .u8 (l.getD i 0))) :
    ∀ j v, (l.map (Value.int .u8))[j]? = some v → w.cell? ((⟨b, off, none⟩ : Addr).add j) = some v := by
  intro j v hj
  rw [List.getElem?_map] at hj
  by_cases hlt : j < l.length
  · rw [List.getElem?_eq_getElem hlt] at hj
    have hc := h j hlt
    rw [List.getD_eq_getElem?_getD, List.getElem?_eq_getElem hlt] at hc
    simp at hj hc
    rw [← hj, ← hc]
    by_cases h0 : j = 0
    · subst h0; simp [Addr.add]
    · simp [Addr.add, h0]
  · rw [List.getElem?_eq_none (by omega)] at hj; cases hj
theorem Bytes.src {w : World} {ad : Addr} {l : List Int} (h : Bytes w (some ad) l) : ∀ j u, (l.map (Value.int .u8))[j]? = some u → w.cell? (ad.add j) = some u := by
  by_cases hl : l = []
  · subst hl; intro j u hj; simp at hj
  · obtain ⟨b, off, e, hc⟩ := h.2 hl
    simp at e
    subst e
    exact Bytes.at hc

theorem own_more {base : Nat} {w w' : World} {v v' : Value} {l m : List Int} (hown : Own w base v l) (hbw : base ≤ w.heap.size)
    (hown' : w'.ownsRow base 5 1 v' (l.length + m.length) (l.map (Value.int .u8) ++ m.map (Value.int .u8))) (hg : w.grownBy w' v.ownBlock) :
    Own w' base v' (l ++ m) ∧ Below base w w' := by
  refine ⟨by unfold Own; simpa using hown', ?_⟩
  exact (Below.refl _ _).grown hg (by omega) (fun j hj => hown.base_le j hj)
theorem step1 {base : Nat} {w wr w' : World} {v v' : Value} {l : List Int} {x y : Int} {o : Obj}
    (hown : Own wr base v l) (hbel : Below base w wr) (hbw : base ≤ wr.heap.size) (hxy : x = y)
    (hown' : w'.ownsRow base 5 1 v' (l.length + 1) (l.map (Value.int .u8) ++ [.int .u8 x])) (hg : (wr.alloc o).grownBy w' v.ownBlock) :
    Own w' base v' (l ++ [y]) ∧ Below base w w' ∧ base ≤ w'.heap.size := by
  have hsz := hg.size
  have h1 : (wr.alloc o).heap.size = wr.heap.size + 1 := by simp
  refine ⟨?_, ?_, by omega⟩
  · subst hxy
    unfold Own
    simpa using hown'
  · exact (hbel.alloc (by omega) o).grown hg (by omega) (fun j hj => by have := hown.base_le j hj; omega)

theorem run_str {w : World} {a : Option Addr} {l : List Int} (h : Bytes w a l) (n cap : Nat) (hn : n = l.length) :
    (convert 22 9 (.slice a n cap)).run Tryd.prog w = .ok (.string (strOfNums l)) w := by
  subst hn
  by_cases hl : l = []
  · subst hl
    rw [run_convert_bytes_string w 22 9 5 _ _ cap Tryd.underlying22 Tryd.underlying5 Tryd.underlying9]
    cases a <;> simp [Conv.bytesToString, loadCells]
    all_goals rfl
  · obtain ⟨b, off, rfl, hc⟩ := h.2 hl
    exact run_convert_bytes_arg w 22 5 Tryd.underlying22 Tryd.underlying5 b off l.length cap l rfl hc 9 Tryd.underlying9

/-- the first bytes of a slice, whatever the world -/
theorem run_first {w : World} {a : Option Addr} {l : List Int} (h : Bytes w a l) (cap : Nat) (hcap : l.length ≤ cap) (hnil : a = none → cap = 0) (m : Nat) (hm : m ≤ l.length) :
    ∃ a', (∀ W, (Instr.slice 22 (.slice a l.length cap) none (some (.int .i64 (m : Int))) none).run Tryd.prog W = .ok (.slice a' m cap) W) ∧ Sl w (.slice a' m cap) (l.take m) := by
  have hel : Tryd.prog.elem 22 = 5 := by kernel_rfl
  have hr : ∀ W, (Instr.slice 22 (.slice a l.length cap) none (some (.int .i64 (m : Int))) none).run Tryd.prog W = .ok (.slice (if cap = 0 then a else a.map (·.add (0 * 1))) m cap) W := by
    intro W
    have hr := run_slice_h (P := Tryd.prog) (w := W) 22 a l.length cap (by rw [hel]; exact Tryd.underlying22) .i64 m (by omega) (by omega)
    have hsz : (sizeOf (Tryd.prog.elem 22)).run Tryd.prog W = .ok 1 W := by rw [hel]; rfl
    rw [hsz] at hr
    simpa [Result.andThen, sliced] using hr
  have hlen : (l.take m).length = m := by rw [List.length_take]; omega
  refine ⟨_, hr, ⟨_, cap, by rw [hlen], ⟨h.1.take m, fun hne => ?_⟩, ?_, by omega⟩⟩
  · have hm0 : 0 < m := by
      rcases Nat.eq_zero_or_pos m with h | h
      · subst h; simp at hne
      · exact h
    have hl : l ≠ [] := by intro e; subst e; simp at hm; omega
    obtain ⟨b, off, rfl, hc⟩ := h.2 hl
    refine ⟨b, off, ?_, fun i hi => ?_⟩
    · split <;> simp [Addr.add]
    · have hi' : i < m := by omega
      rw [List.getD_eq_getElem?_getD, List.getElem?_take, if_pos hi', ← List.getD_eq_getElem?_getD]
      exact hc i (by omega)
  · intro h
    split at h
    · next h0 => exact h0
    · simp at h; exact hnil h

/-! ### the sum's four bytes -/

def leB (s k : Nat) : List Int := (List.range k).map fun i => ((s / 2 ^ (8 * i) % 256 : Nat) : Int)
theorem leB_succ (s k : Nat) : leB s (k + 1) = leB s k ++ [((s / 2 ^ (8 * k) % 256 : Nat) : Int)] := by simp [leB, List.range_succ]
theorem leB_length (s k : Nat) : (leB s k).length = k := by simp [leB]
theorem leB_oct (s k : Nat) : Oct (leB s k) := by
  intro c hc
  obtain ⟨i, _, rfl⟩ := List.mem_map.1 hc
  show 0 ≤ ((s / 2 ^ (8 * i) % 256 : Nat) : Int) ∧ ((s / 2 ^ (8 * i) % 256 : Nat) : Int) ≤ 255
  omega
/-- four bytes as a number -/
def leV (l : List Int) : Nat → Nat
  | 0 => 0
  | k + 1 => leV l k + (l.getD k 0).toNat * 2 ^ (8 * k)
theorem leV_lt (l : List Int) (h : Oct l) (k : Nat) : leV l k < 2 ^ (8 * k) := by
  induction k with
  | zero => simp [leV]
  | succ k ih =>
    have := h.getD k
    simp only [leV]
    rw [show 8 * (k + 1) = 8 * k + 8 from by omega, Nat.pow_add]
    generalize 2 ^ (8 * k) = p at *
    have h2 : (l.getD k 0).toNat * p ≤ 255 * p := Nat.mul_le_mul_right _ (by omega)
    omega
theorem leV_leB (s k : Nat) : ∀ m, m ≤ k → leV (leB s k) m = s % 2 ^ (8 * m) := by
  intro m
  induction m with
  | zero => intro _; simp [leV, Nat.mod_one]
  | succ m ih =>
    intro hm
    have hg : (leB s k).getD m 0 = ((s / 2 ^ (8 * m) % 256 : Nat) : Int) := by rw [List.getD_eq_getElem?_getD]; simp [leB, show m < k from by omega]
    simp only [leV]
    rw [ih (by omega), hg, Int.toNat_natCast, show 8 * (m + 1) = 8 * m + 8 from by omega, Nat.pow_add, Nat.mod_mul, Nat.mul_comm (s / 2 ^ (8 * m) % 256)]
theorem leV_inj (l m : List Int) (hl : Oct l) (hm : Oct m) (k : Nat) (h : leV l k = leV m k) : ∀ i, i < k → l.getD i 0 = m.getD i 0 := by
  induction k with
  | zero => intro i hi; omega
  | succ k ih =>
    simp only [leV] at h
    have h1 := leV_lt l hl k
    have h2 := leV_lt m hm k
    have a1 := hl.getD k
    have a2 := hm.getD k
    have hp := Nat.two_pow_pos (8 * k)
    generalize 2 ^ (8 * k) = p at *
    have e1 : (l.getD k 0).toNat = (m.getD k 0).toNat := by
      have x1 : (leV l k + (l.getD k 0).toNat * p) / p = (l.getD k 0).toNat := by rw [Nat.add_mul_div_right _ _ hp, Nat.div_eq_of_lt h1]; omega
      have x2 : (leV m k + (m.getD k 0).toNat * p) / p = (m.getD k 0).toNat := by rw [Nat.add_mul_div_right _ _ hp, Nat.div_eq_of_lt h2]; omega
      rw [← x1, ← x2, h]
    rw [e1] at h
    intro i hi
    by_cases hik : i = k
    · subst hik; omega
    · exact ih (by omega) i (by omega)
theorem strOfNums_inj (l m : List Int) (hl : Oct l) (hm : Oct m) (h : strOfNums l = strOfNums m) : l = m := by
  have h1 : (l.map fun n => UInt8.ofNat n.toNat) = (m.map fun n => UInt8.ofNat n.toNat) := by
    have := congrArg (fun b : ByteArray => b.data.toList) h
    simpa [strOfNums] using this
  have hlen : l.length = m.length := by have := congrArg List.length h1; simpa using this
  apply List.ext_getElem hlen
  intro i h2 h3
  have hi := congrArg (fun x : List UInt8 => x[i]?) h1
  simp only [List.getElem?_map, List.getElem?_eq_getElem h2, List.getElem?_eq_getElem h3, Option.map_some, Option.some.injEq] at hi
  have e := congrArg UInt8.toNat hi
  have b1 := hl _ (List.getElem_mem h2)
  have b2 := hm _ (List.getElem_mem h3)
  simp only [UInt8.toNat_ofNat'] at e
  omega
end Go.Proofs.YtkojldjgjmaodabDoor
