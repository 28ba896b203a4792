/- Bytes that came in, bytes that a call made; stretches; appends. (A template: seatgen.py fills it.) -/
import Derived.Test.YtokocfoeohddfaaGreatDoorRows
import Derived.WalkKit
import Derived.WalkSpells
import Derived.WalkLawsBesides
import Derived.Lib.Hide
import Derived.Laws.BytesArg
import Derived.Lib.SlBytesConst
import Derived.Lib.SmallJoins
import Derived.Laws.CopyOwn
import Derived.Laws.AppendOwnNone
import Derived.ProofKit
import Derived.OpenShut
import Derived.ShutString
import Derived.ChangeOld
import Derived.Below
namespace Go.Proofs.YtokocfoeohddfaaGreatDoor
open Go.ChangeShapes Go.WideShapes Go.ChangeAt Go.RowKit
set_option linter.unusedVariables false
set_option maxRecDepth 100000

def Oct (l : List Int) : Prop := ∀ c ∈ l, 0 ≤ c ∧ c ≤ 255
theorem Oct.getD {l : List Int} (h : Oct l) (i : Nat) : 0 ≤ l.getD i 0 ∧ l.getD i 0 ≤ 255 := by
  by_cases hi : i < l.length
  · rw [List.getD_eq_getElem?_getD, List.getElem?_eq_getElem hi]; exact h _ (List.getElem_mem hi)
  · rw [List.getD_eq_getElem?_getD, List.getElem?_eq_none (by omega)]; simp
theorem heap_new (w : World) (o : Obj) : (w.alloc o).heap[w.heap.size]? = some o := by
  show (w.heap.push o)[w.heap.size]? = _
  simp
theorem heap_lt {W : World} {g : Nat} {o : Obj} (h : W.heap[g]? = some o) : g < W.heap.size := by
  rcases Nat.lt_or_ge g W.heap.size with h1 | h1
  · exact h1
  · rw [Array.getElem?_eq_none h1] at h; cases h
theorem unfrozen {W : World} {g i : Nat} {cs : Array Value} {t : TypeId} (h : W.heap[g]? = some (.cells cs t)) : W.frozen? ⟨g, i, none⟩ = false := by
  simp [World.frozen?, h]
theorem Oct.append {l m : List Int} (h : Oct l) (k : Oct m) : Oct (l ++ m) := by
  intro c hc; rcases List.mem_append.1 hc with h' | h'
  · exact h c h'
  · exact k c h'
theorem Oct.take {l : List Int} (h : Oct l) (n : Nat) : Oct (l.take n) := fun c hc => h c (List.mem_of_mem_take hc)
theorem Oct.drop {l : List Int} (h : Oct l) (n : Nat) : Oct (l.drop n) := fun c hc => h c (List.mem_of_mem_drop hc)

/-- a slice's address and elements, as the walk reads them -/
def Bytes (w : World) (a : Option Addr) (l : List Int) : Prop :=
  Oct l ∧ (l ≠ [] → ∃ b off, a = some ⟨b, off, none⟩ ∧ ∀ i, i < l.length → w.cell? ⟨b, off + i, none⟩ = some (.int .u8 (l.getD i 0)))
theorem Bytes.later {w w' : World} {a : Option Addr} {l : List Int} (h : Bytes w a l) (hb : Below w.heap.size w w') : Bytes w' a l :=
  ⟨h.1, fun hne => by
    obtain ⟨b, off, e, hc⟩ := h.2 hne
    exact ⟨b, off, e, fun i hi => cell_later hb (hc i hi)⟩⟩

theorem take_snoc (l : List Int) (i : Nat) (h : i < l.length) : l.take (i + 1) = l.take i ++ [l.getD i 0] := by
  rw [List.take_succ_eq_append_getElem h, List.getD_eq_getElem?_getD, List.getElem?_eq_getElem h]; rfl

instance (l : List Int) : Decidable (Oct l) := by unfold Oct; infer_instance

theorem lit_bytes (w : World) (l : List Int) (fr : Nat × Nat) (ho : Oct l) : Bytes (w.alloc (.cells (l.map (Value.int .u8)).toArray 5 fr)) (some ⟨w.heap.size, 0, none⟩) l := by
  refine ⟨ho, fun _ => ⟨w.heap.size, 0, rfl, fun i hi => ?_⟩⟩
  have hh : (w.alloc (.cells (l.map (Value.int .u8)).toArray 5 fr)).heap[w.heap.size]? = some (.cells (l.map (Value.int .u8)).toArray 5 fr) := by
    show (w.heap.push _)[w.heap.size]? = _
    simp
  simp only [World.cell?, hh, Nat.zero_add]
  rw [List.getElem?_toArray, List.getElem?_map, List.getElem?_eq_getElem hi, List.getD_eq_getElem?_getD, List.getElem?_eq_getElem hi]; rfl

theorem Tryz.infoB : (Tryz.prog.info? 5).map (fun i => (i.zero, i.size, i.bytes)) = some (some (.int .u8 0), 1, 1) := by kernel_rfl

def Own (w : World) (base : Nat) (v : Value) (l : List Int) : Prop := w.ownsRow base 5 1 v l.length (l.map (Value.int .u8))

theorem Own.below {w w' : World} {base : Nat} {v : Value} {l : List Int} (h : Own w base v l) (hb : Below w.heap.size w w') : Own w' base v l := by
  obtain ⟨h1, h2⟩ := h
  refine ⟨h1, ?_⟩
  rcases h2 with h2 | ⟨g, cap, cur, h3, h4, h5, h6, h7, h8, h9⟩
  · exact .inl h2
  · refine .inr ⟨g, cap, cur, h3, h4, ?_, h6, h7, h8, h9⟩
    have hlt : g < w.heap.size := by
      rcases Nat.lt_or_ge g w.heap.size with h | h
      · exact h
      · rw [Array.getElem?_eq_none h] at h5; cases h5
    rw [hb.block g hlt]; exact h5
theorem Own.lower {w : World} {base base' : Nat} {v : Value} {l : List Int} (h : Own w base v l) (hb : base' ≤ base) : Own w base' v l := by
  obtain ⟨h1, h2⟩ := h
  refine ⟨h1, ?_⟩
  rcases h2 with h2 | ⟨g, cap, cur, h3, h4, h5, h6, h7, h8, h9⟩
  · exact .inl h2
  · exact .inr ⟨g, cap, cur, h3, by omega, h5, h6, h7, h8, h9⟩
theorem Own.nil (w : World) (base : Nat) : Own w base (.slice none 0 0) [] := World.ownsRow_nil _ _ _ _

/-- a slice that reads as these bytes -/
def Sl (w : World) (v : Value) (l : List Int) : Prop := ∃ a cap, v = .slice a l.length cap ∧ Bytes w a l ∧ (a = none → cap = 0) ∧ l.length ≤ cap
theorem Sl.later {w w' : World} {v : Value} {l : List Int} (h : Sl w v l) (hb : Below w.heap.size w w') : Sl w' v l := by
  obtain ⟨a, cap, e, h1, h2, h3⟩ := h
  exact ⟨a, cap, e, h1.later hb, h2, h3⟩

theorem Own.sl {w : World} {base : Nat} {v : Value} {l : List Int} (h : Own w base v l) (ho : Oct l) : Sl w v l := by
  obtain ⟨h1, h2⟩ := h
  rcases h2 with ⟨rfl, h0⟩ | ⟨g, cap, cur, rfl, h4, h5, h6, h7, h8, h9⟩
  · have hl : l = [] := List.eq_nil_of_length_eq_zero h0
    subst hl
    exact ⟨none, 0, rfl, ⟨ho, fun h => absurd rfl h⟩, fun _ => rfl, by simp⟩
  · refine ⟨some ⟨g, 0, none⟩, cap, rfl, ⟨ho, fun _ => ⟨g, 0, rfl, fun i hi => ?_⟩⟩, (fun h => by cases h), h6⟩
    have hown : w.ownsRow base 5 1 (.slice (some ⟨g, 0, none⟩) l.length cap) l.length (l.map (Value.int .u8)) := ⟨h1, .inr ⟨g, cap, cur, rfl, h4, h5, h6, h7, h8, h9⟩⟩
    rw [Nat.zero_add, hown.cellAt i (by omega), List.getElem?_map, List.getElem?_eq_getElem hi, List.getD_eq_getElem?_getD, List.getElem?_eq_getElem hi]
    rfl
theorem Own.base_le {w : World} {base : Nat} {v : Value} {l : List Int} (h : Own w base v l) : ∀ k, v.ownBlock = some k → base ≤ k := fun k hk => (World.ownsRow.lt h k hk).1

theorem oneCells (l : List Int) : ∀ v ∈ l.map (Value.int .u8), v.oneCell' = true := by
  intro v hv
  obtain ⟨c, _, rfl⟩ := List.mem_map.1 hv
  rfl
theorem Bytes.at {w : World} {b off : Nat} {l : List Int} (h : ∀ i, i < l.length → w.cell? ⟨b, off + i, none⟩ = some (.int .u8 (l.getD i 0))) :
    ∀ j v, (l.map (Value.int .u8))[j]? = some v → w.cell? ((⟨b, off, none⟩ : Addr).add j) = some v := by
  intro j v hj
  rw [List.getElem?_map] at hj
  by_cases hlt : j < l.length
  · rw [List.getElem?_eq_getElem hlt] at hj
    have hc := h j hlt
    rw [List.getD_eq_getElem?_getD, List.getElem?_eq_getElem hlt] at hc
    simp at hj hc
    rw [← hj, ← hc]
    by_cases h0 : j = 0
    · subst h0; simp [Addr.add]
    · simp [Addr.add, h0]
  · rw [List.getElem?_eq_none (by omega)] at hj; cases hj
theorem Bytes.src {w : World} {ad : Addr} {l : List Int} (h : Bytes w (some ad) l) : ∀ j u, (l.map (Value.int .u8))[j]? = some u → w.cell? (ad.add j) = some u := by
  by_cases hl : l = []
  · subst hl; intro j u hj; simp at hj
  · obtain ⟨b, off, e, hc⟩ := h.2 hl
    simp at e
    subst e
    exact Bytes.at hc

theorem own_more {base : Nat} {w w' : World} {v v' : Value} {l m : List Int} (hown : Own w base v l) (hbw : base ≤ w.heap.size)
    (hown' : w'.ownsRow base 5 1 v' (l.length + m.length) (l.map (Value.int .u8) ++ m.map (Value.int .u8))) (hg : w.grownBy w' v.ownBlock) :
    Own w' base v' (l ++ m) ∧ Below base w w' := by
  refine ⟨by unfold Own; simpa using hown', ?_⟩
  exact (Below.refl _ _).grown hg (by omega) (fun j hj => hown.base_le j hj)
theorem step1 {base : Nat} {w wr w' : World} {v v' : Value} {l : List Int} {x y : Int} {o : Obj}
    (hown : Own wr base v l) (hbel : Below base w wr) (hbw : base ≤ wr.heap.size) (hxy : x = y)
    (hown' : w'.ownsRow base 5 1 v' (l.length + 1) (l.map (Value.int .u8) ++ [.int .u8 x])) (hg : (wr.alloc o).grownBy w' v.ownBlock) :
    Own w' base v' (l ++ [y]) ∧ Below base w w' ∧ base ≤ w'.heap.size := by
  have hsz := hg.size
  have h1 : (wr.alloc o).heap.size = wr.heap.size + 1 := by simp
  refine ⟨?_, ?_, by omega⟩
  · subst hxy
    unfold Own
    simpa using hown'
  · exact (hbel.alloc (by omega) o).grown hg (by omega) (fun j hj => by have := hown.base_le j hj; omega)

theorem run_str {w : World} {a : Option Addr} {l : List Int} (h : Bytes w a l) (n cap : Nat) (hn : n = l.length) :
    (convert 68 9 (.slice a n cap)).run Tryz.prog w = .ok (.string (strOfNums l)) w := by
  subst hn
  by_cases hl : l = []
  · subst hl
    rw [run_convert_bytes_string w 68 9 5 _ _ cap Tryz.underlying68 Tryz.underlying5 Tryz.underlying9]
    cases a <;> simp [Conv.bytesToString, loadCells]
    all_goals rfl
  · obtain ⟨b, off, rfl, hc⟩ := h.2 hl
    exact run_convert_bytes_arg w 68 5 Tryz.underlying68 Tryz.underlying5 b off l.length cap l rfl hc 9 Tryz.underlying9

/-- the first bytes of a slice, whatever the world -/
theorem run_first {w : World} {a : Option Addr} {l : List Int} (h : Bytes w a l) (cap : Nat) (hcap : l.length ≤ cap) (hnil : a = none → cap = 0) (m : Nat) (hm : m ≤ l.length) :
    ∃ a', (∀ W, (Instr.slice 68 (.slice a l.length cap) none (some (.int .i64 (m : Int))) none).run Tryz.prog W = .ok (.slice a' m cap) W) ∧ Sl w (.slice a' m cap) (l.take m) := by
  have hel : Tryz.prog.elem 68 = 5 := by kernel_rfl
  have hr : ∀ W, (Instr.slice 68 (.slice a l.length cap) none (some (.int .i64 (m : Int))) none).run Tryz.prog W = .ok (.slice (if cap = 0 then a else a.map (·.add (0 * 1))) m cap) W := by
    intro W
    have hr := run_slice_h (P := Tryz.prog) (w := W) 68 a l.length cap (by rw [hel]; exact Tryz.underlying68) .i64 m (by omega) (by omega)
    have hsz : (sizeOf (Tryz.prog.elem 68)).run Tryz.prog W = .ok 1 W := by rw [hel]; rfl
    rw [hsz] at hr
    simpa [Result.andThen, sliced] using hr
  have hlen : (l.take m).length = m := by rw [List.length_take]; omega
  refine ⟨_, hr, ⟨_, cap, by rw [hlen], ⟨h.1.take m, fun hne => ?_⟩, ?_, by omega⟩⟩
  · have hm0 : 0 < m := by
      rcases Nat.eq_zero_or_pos m with h | h
      · subst h; simp at hne
      · exact h
    have hl : l ≠ [] := by intro e; subst e; simp at hm; omega
    obtain ⟨b, off, rfl, hc⟩ := h.2 hl
    refine ⟨b, off, ?_, fun i hi => ?_⟩
    · split <;> simp [Addr.add]
    · have hi' : i < m := by omega
      rw [List.getD_eq_getElem?_getD, List.getElem?_take, if_pos hi', ← List.getD_eq_getElem?_getD]
      exact hc i (by omega)
  · intro h
    split at h
    · next h0 => exact h0
    · simp at h; exact hnil h

theorem strOfNums_inj (l m : List Int) (hl : Oct l) (hm : Oct m) (h : strOfNums l = strOfNums m) : l = m := by
  have h1 : (l.map fun n => UInt8.ofNat n.toNat) = (m.map fun n => UInt8.ofNat n.toNat) := by
    have := congrArg (fun b : ByteArray => b.data.toList) h
    simpa [strOfNums] using this
  have hlen : l.length = m.length := by have := congrArg List.length h1; simpa using this
  apply List.ext_getElem hlen
  intro i h2 h3
  have hi := congrArg (fun x : List UInt8 => x[i]?) h1
  simp only [List.getElem?_map, List.getElem?_eq_getElem h2, List.getElem?_eq_getElem h3, Option.map_some, Option.some.injEq] at hi
  have e := congrArg UInt8.toNat hi
  have b1 := hl _ (List.getElem_mem h2)
  have b2 := hm _ (List.getElem_mem h3)
  simp only [UInt8.toNat_ofNat'] at e
  omega
theorem hel : Tryz.prog.elem 68 = 5 := by kernel_rfl

theorem sl_stretch {w : World} {a : Option Addr} {l : List Int} (h : Bytes w a l) (cap : Nat) (hcap : l.length ≤ cap) (hnil : a = none → cap = 0) (p m : Nat) (hm : p + m ≤ l.length) :
    Sl w (.slice (if cap = p then a else a.map (·.add (p * 1))) m (cap - p)) ((l.drop p).take m) := by
  have hlen : ((l.drop p).take m).length = m := by rw [List.length_take, List.length_drop]; omega
  refine ⟨_, _, by rw [hlen], ⟨(h.1.drop p).take m, fun hne => ?_⟩, ?_, by omega⟩
  · have hm0 : 0 < m := by
      rcases Nat.eq_zero_or_pos m with h | h
      · subst h; simp at hne
      · exact h
    have hl : l ≠ [] := by intro e; subst e; simp at hm; omega
    obtain ⟨b, off, rfl, hc⟩ := h.2 hl
    refine ⟨b, off + p, ?_, fun i hi => ?_⟩
    · rw [if_neg (by omega)]
      by_cases hp : p = 0
      · subst hp; simp [Addr.add]
      · simp [Addr.add, hp]
    · have hi' : i < m := by omega
      rw [List.getD_eq_getElem?_getD, List.getElem?_take, if_pos hi', List.getElem?_drop, ← List.getD_eq_getElem?_getD, Nat.add_assoc]
      exact hc (p + i) (by omega)
  · intro h
    split at h
    · next h0 => omega
    · simp at h; have := hnil h; omega

theorem run_cut {w : World} {a : Option Addr} {l : List Int} (h : Bytes w a l) (cap n : Nat) (hn : n = l.length) (hcap : n ≤ cap) (hnil : a = none → cap = 0) (p m : Nat) (hm : p + m ≤ n) :
    ∃ a', (∀ W, (Instr.slice 68 (.slice a n cap) (some (.int .i64 (p : Int))) (some (.int .i64 ((p : Int) + (m : Int)))) none).run Tryz.prog W = .ok (.slice a' m (cap - p)) W) ∧ Sl w (.slice a' m (cap - p)) ((l.drop p).take m) := by
  subst hn
  refine ⟨_, fun W => ?_, sl_stretch h cap hcap hnil p m hm⟩
  have hr := run_slice_lh (P := Tryz.prog) (w := W) 68 a l.length cap (by rw [hel]; exact Tryz.underlying68) .i64 .i64 (p : Int) ((p : Int) + (m : Int)) (by omega) (by omega) (by omega)
  have hsz : (sizeOf (Tryz.prog.elem 68)).run Tryz.prog W = .ok 1 W := by rw [hel]; rfl
  rw [hsz] at hr
  have e2 : ((p : Int) + (m : Int)).toNat - p = m := by omega
  simp only [Result.andThen, sliced, Int.toNat_natCast, e2] at hr
  exact hr
theorem run_from {w : World} {a : Option Addr} {l : List Int} (h : Bytes w a l) (cap n : Nat) (hn : n = l.length) (hcap : n ≤ cap) (hnil : a = none → cap = 0) (p m : Nat) (x : Int) (hx : x = ((p : Nat) : Int)) (hm : p + m = n) :
    ∃ a', (∀ W, (Instr.slice 68 (.slice a n cap) (some (.int .i64 x)) none none).run Tryz.prog W = .ok (.slice a' m (cap - p)) W) ∧ Sl w (.slice a' m (cap - p)) (l.drop p) := by
  subst hn hx
  have e0 : (l.drop p).take m = l.drop p := List.take_of_length_le (by rw [List.length_drop]; omega)
  have hs := sl_stretch h cap hcap hnil p m (by omega)
  rw [e0] at hs
  refine ⟨_, fun W => ?_, hs⟩
  have hr := run_slice_l (P := Tryz.prog) (w := W) 68 a l.length cap (by rw [hel]; exact Tryz.underlying68) .i64 (p : Int) (by omega) (by omega)
  have hsz : (sizeOf (Tryz.prog.elem 68)).run Tryz.prog W = .ok 1 W := by rw [hel]; rfl
  rw [hsz] at hr
  have e2 : l.length - p = m := by omega
  simp only [Result.andThen, sliced, Int.toNat_natCast, e2] at hr
  exact hr


/-- an append to what is owned, of bytes that lie somewhere, or of none -/
theorem append_sl {w : World} {ops : Array Oper} {rest : List Oper} {o : Oper} {a : Act} {Q : Exit → Act → World → Prop} (hgd : o.guard = none)
    (s x : Operand) (ho : o.op = Op.call { callee := Callee.builtin Builtin.append, args := #[s, x], argTypes := #[68, 68] }) (base : Nat) (v u : Value) (l m : List Int) (hs : a.eval s = v) (hown : Own w base v l)
    (hx : a.eval x = u) (hS : Sl w u m) (hlen : l.length + m.length ≤ 140737488355328) (hbase : base ≤ w.heap.size)
    (h : ∀ (v' : Value) (w' : World), Hid (Own w' base v' (l ++ m)) → Below base w w' → wpList Tryz.prog ops Q rest (a.put o.dst v') w') : wpList Tryz.prog ops Q (o :: rest) a w := by
  obtain ⟨i0, hi, hz0, hz1, hz2⟩ := info_parts Tryz.infoB
  obtain ⟨ad, cap, rfl, hB, hnil, hcap⟩ := hS
  rcases ad with _ | ad
  · have hc := hnil rfl
    subst hc
    have e2 : m = [] := List.eq_nil_of_length_eq_zero (by omega)
    subst e2
    refine wpList_append_own_none hgd s x 68 ho base 5 i0 1 Tryz.underlying68 hi v _ _ hs hown hx (h v w ?_ (Below.refl _ _))
    rw [List.append_nil]; exact hown
  · refine wpList_append_own w hgd s x 68 ho base 5 i0 (.int .u8 0) 1 1 Tryz.underlying68 hi hz0 hz1 hz2 rfl (by decide) v _ _ hs hown ad m.length cap (m.map (Value.int .u8)) hx (by simp) (Bytes.src hB) (oneCells m) (by unfold maxLen; omega) (by omega) hbase ?_
    intro v' w' hown' hg _
    have r := own_more (m := m) hown hbase hown' hg
    exact h v' w' r.1 r.2

theorem one_sl (w : World) (c : Int) (h0 : 0 ≤ c) (h1 : c ≤ 255) : Sl (w.alloc (.cells #[.int .u8 c] 5)) (.slice (some ⟨w.heap.size, 0, none⟩) 1 1) [c] := by
  refine ⟨_, 1, rfl, ?_, (fun h => by cases h), by simp⟩
  have := lit_bytes w [c] (0, 0) (by intro x hx; simp at hx; omega)
  exact this

theorem own_form {w : World} {base : Nat} {v : Value} {l : List Int} (h : Own w base v l) : ∃ a cap, v = .slice a l.length cap := by
  obtain ⟨h1, h2⟩ := h
  rcases h2 with ⟨rfl, h0⟩ | ⟨g, cap, cur, rfl, _⟩
  · exact ⟨none, 0, by rw [h0]⟩
  · exact ⟨_, cap, rfl⟩
theorem empty_own (w : World) : Own (w.alloc (.cells #[] 5)) w.heap.size (.slice (some ⟨w.heap.size, 0, none⟩) 0 0) [] :=
  World.ownsRow_lit (base := w.heap.size) (e := 5) (size := 1) w #[] 0 (Nat.le_refl _) (by decide) rfl

/-- WHAT THE WALK IS TOLD OF A SLICE OF INTEGERS THAT CAME IN: it is nil; or it leads to a row of 'cap' cells, the numbers 'zs' (the first 'len' are its elements, the rest its spare room), each fitting its kind. -/
def IsRow (k : IntKind) (w : World) (a : Option Addr) (len cap : Nat) (zs : List Int) : Prop :=
  (a = none ∧ len = 0 ∧ cap = 0 ∧ zs = []) ∨
  ∃ x, a = some x ∧ len ≤ cap ∧ cap ≤ maxLen ∧ zs.length = cap ∧ (∀ i, i < zs.length → w.cell? (x.add i) = some (.int k (zs.getD i 0))) ∧ ∀ n ∈ zs, (Lit.int k n).wf = true

/-- a row that came in, as the walks read it -/
theorem bytes_of {w : World} {a : Option Addr} {len cap : Nat} {zs : List Int} (h : IsRow .u8 w a len cap zs) : len = (zs.take len).length ∧ Bytes w a (zs.take len) ∧ (a = none → cap = 0) ∧ len ≤ cap ∧ cap ≤ 9223372036854775807 := by
  rcases h with ⟨rfl, rfl, rfl, rfl⟩ | ⟨x, rfl, hl, hm, hz, hcell, hwz⟩
  · exact ⟨by simp, ⟨fun i => by simp, fun h => absurd rfl h⟩, fun _ => rfl, by omega, by omega⟩
  · unfold maxLen at hm
    have hlen : (zs.take len).length = len := by rw [List.length_take]; omega
    refine ⟨hlen.symm, ⟨fun c hc => ?_, fun hne => ?_⟩, (fun h => by cases h), hl, hm⟩
    · have hb := bounds_u8 (hwz c (List.mem_of_mem_take hc))
      exact ⟨hb.1, hb.2⟩
    · have hpos : 0 < len := by
        rcases Nat.eq_zero_or_pos len with h | h
        · subst h; simp at hne
        · exact h
      obtain ⟨b, off, spot⟩ := x
      have hc := hcell 0 (by omega)
      have hspot : spot = none := by simpa [Addr.add] using World.cell?_spot hc
      subst hspot
      refine ⟨b, off, rfl, fun i hi => ?_⟩
      rw [hlen] at hi
      have hci := hcell i (by omega)
      rw [List.getD_eq_getElem?_getD, List.getElem?_take, if_pos hi, ← List.getD_eq_getElem?_getD]
      by_cases h0 : i = 0
      · subst h0; simpa [Addr.add] using hci
      · simpa [Addr.add, h0] using hci
end Go.Proofs.YtokocfoeohddfaaGreatDoor
