/- rules: the law's awake. (A template.) -/
import Derived.Test.YtokocfoeohddfaaDoorRuLines
namespace Go.Proofs.YtokocfoeohddfaaDoor.Pa
open Go.RowKit
set_option linter.unusedVariables false
set_option linter.unusedSimpArgs false
set_option maxRecDepth 1000000

def RA : Ru := ⟨2, [42, 46, 111], false, false⟩
def RB : Ru := ⟨2, [97], true, true⟩
def RL : List Ru := [⟨3, [107, 101, 101, 112], false, false⟩, ⟨2, [42], false, false⟩]
abbrev oA : Obj := .cells #[.int .i64 2, .string { data := #[42, 46, 111] }, .bool false, .bool false] 42
abbrev oB : Obj := .cells #[.int .i64 2, .string { data := #[97] }, .bool true, .bool true] 42
structure AW (w : World) (ga gb : Nat) (v : Value) (W : World) : Prop where
  ra : W.heap[ga]? = some oA
  rb : W.heap[gb]? = some oB
  rl : RuAt W v RL
  bel : Below w.heap.size w W
theorem AW.keep {w W W' : World} {ga gb : Nat} {v : Value} (h : AW w ga gb v W) (hb : Below W.heap.size W W') : AW w ga gb v W' :=
  ⟨(hb.block _ (Array.getElem?_eq_some_iff.1 h.ra).1).trans h.ra, (hb.block _ (Array.getElem?_eq_some_iff.1 h.rb).1).trans h.rb, h.rl.later hb, h.bel.trans (hb.mono h.bel.size)⟩
theorem AW.start {w w1 w2 w3 : World} {v : Value} (h1 : Below w.heap.size w w1) (h2 : Below (w1.alloc oA).heap.size (w1.alloc oA) w2) (h3 : Below (w2.alloc oB).heap.size (w2.alloc oB) w3) (hl : RuAt w3 v RL) : AW w w1.heap.size w2.heap.size v w3 := by
  have s1 : w1.heap.size < (w1.alloc oA).heap.size := by simp
  have s2 := h2.size
  have s3 : w2.heap.size < (w2.alloc oB).heap.size := by simp
  refine ⟨?_, ?_, hl, ?_⟩
  · rw [h3.block _ (by omega), Below.heap_alloc _ _ _ (by omega), h2.block _ s1]; exact heap_new _ _
  · rw [h3.block _ s3]; exact heap_new _ _
  · exact (((h1.trans ((Below.refl _ _).alloc h1.size _)).trans (h2.mono (by have := h1.size; omega))).trans ((Below.refl _ _).alloc (by have := h1.size; omega) _)).trans (h3.mono (by have := h1.size; omega))
theorem at_one {W : World} {act : Int} {pat : L8} {di an : Bool} {x : ByteArray} (hx : Pa.mk pat = x) : RuAt (W.alloc (.cells #[.int .i64 act, .string x, .bool di, .bool an] 42)) (.slice (some ⟨W.heap.size, 0, none⟩) 1 1) [⟨act, pat, di, an⟩] := by
  subst hx
  refine ⟨_, 1, rfl, fun _ => ⟨W.heap.size, 0, rfl, by simp, fun i r hr => ?_⟩⟩
  obtain ⟨⟨k0, k1, k2, k3⟩, -⟩ := cells4 (heap_new W (.cells #[.int .i64 act, .string (mk pat), .bool di, .bool an] 42))
  cases i with
  | zero =>
    injection hr with hr
    subst hr
    exact ⟨k0, k1, k2, k3⟩
  | succ i => simp at hr
theorem lightOf {L : List Ru} (h : L.length ≤ 1000) (h2 : ∀ r ∈ L, r.pat.length ≤ 1000) : LightR L := ⟨by omega, fun r hr => by have := h2 r hr; omega⟩
theorem hidA {w : World} (p : L8) (dir r : Bool) (h : hiddenB [RA] p dir = r) (hp : p.length ≤ 1000) (x : ByteArray) (hx : Pa.mk p = x) : ∀ ga gb v W, AW w ga gb v W → Calls Tryd.prog 39 #[.slice (some ⟨W.heap.size, 0, none⟩) 1 1, .string x, .bool dir] (W.alloc oA) fun e w' => e = .returned (.bool r) ∧ AW w ga gb v w' := by
  intro ga gb v W hw
  subst hx
  have hb : Below W.heap.size W (W.alloc oA) := (Below.refl _ _).alloc (Nat.le_refl _) _
  have := hidden_any [RA] _ p dir (W.alloc oA) (at_one rfl) (lightOf (by decide) (by decide)) (by omega)
  rw [h] at this
  exact this.mono fun e w' ⟨h1, h2⟩ => ⟨h1, hw.keep (hb.trans (h2.mono hb.size))⟩
theorem hidB {w : World} (p : L8) (dir r : Bool) (h : hiddenB [RB] p dir = r) (hp : p.length ≤ 1000) (x : ByteArray) (hx : Pa.mk p = x) : ∀ ga gb v W, AW w ga gb v W → Calls Tryd.prog 39 #[.slice (some ⟨W.heap.size, 0, none⟩) 1 1, .string x, .bool dir] (W.alloc oB) fun e w' => e = .returned (.bool r) ∧ AW w ga gb v w' := by
  intro ga gb v W hw
  subst hx
  have hb : Below W.heap.size W (W.alloc oB) := (Below.refl _ _).alloc (Nat.le_refl _) _
  have := hidden_any [RB] _ p dir (W.alloc oB) (at_one rfl) (lightOf (by decide) (by decide)) (by omega)
  rw [h] at this
  exact this.mono fun e w' ⟨h1, h2⟩ => ⟨h1, hw.keep (hb.trans (h2.mono hb.size))⟩
theorem k1 : parseR [45, 32, 42, 46, 111] = (RA, 0) := by kernel_rfl
theorem k2 : parseR [45, 32, 47, 97, 47] = (RB, 0) := by kernel_rfl
theorem k3 : linesR [80, 32, 107, 101, 101, 112, 10, 10, 35, 32, 115, 111, 10, 45, 32, 42, 10] = (RL, 0, 0) := by kernel_rfl
theorem k4 : hiddenB [RA] [97, 47, 120, 46, 111] false = true := by kernel_rfl
theorem k5 : hiddenB [RA] [120, 46, 111, 111] false = false := by kernel_rfl
theorem k6 : hiddenB [RB] [97, 47, 120] false = true := by kernel_rfl
theorem k7 : hiddenB [RB] [98, 47, 97] true = false := by kernel_rfl
theorem k8 : safeB RL [107, 101, 101, 112] false = true := by kernel_rfl
theorem k9 : hiddenB RL [107, 101, 101, 112] false = true := by kernel_rfl
theorem lightRL : LightR RL := lightOf (by decide) (by decide)
set_option maxHeartbeats 8000000 in
theorem awake_ru (w : World) : Calls Tryd.prog 23 #[] w fun e w' => e = .returned (.bool true) ∧ Below w.heap.size w w' := by
  have HP1 : Hid (∀ W, Calls Tryd.prog 30 #[.string { data := #[45, 32, 42, 46, 111] }] W fun e w' => e = .returned (.tuple #[.agg #[.int .i64 2, .string { data := #[42, 46, 111] }, .bool false, .bool false], .int .i64 0]) ∧ Below W.heap.size W w') := fun W => by
    have := parse_ru [45, 32, 42, 46, 111] W (by decide)
    rwa [k1] at this
  have HP2 : Hid (∀ W, Calls Tryd.prog 30 #[.string { data := #[45, 32, 47, 97, 47] }] W fun e w' => e = .returned (.tuple #[.agg #[.int .i64 2, .string { data := #[97] }, .bool true, .bool true], .int .i64 0]) ∧ Below W.heap.size W w') := fun W => by
    have := parse_ru [45, 32, 47, 97, 47] W (by decide)
    rwa [k2] at this
  have HLN : Hid (∀ W, Calls Tryd.prog 32 #[.string { data := #[80, 32, 107, 101, 101, 112, 10, 10, 35, 32, 115, 111, 10, 45, 32, 42, 10] }] W fun e w' => ∃ a c, e = .returned (.tuple #[.slice a 2 c, .int .i64 0, .int .i64 0]) ∧ RuAt w' (.slice a 2 c) RL ∧ Below W.heap.size W w') := fun W => by
    have := lines_any [80, 32, 107, 101, 101, 112, 10, 10, 35, 32, 115, 111, 10, 45, 32, 42, 10] W (by decide)
    rw [k3] at this
    refine Calls.mono this ?_
    rintro e w' ⟨v, h1, h2, h3⟩
    obtain ⟨a, c, rfl⟩ := h2.slice
    exact ⟨a, c, h1, h2.at, h3⟩
  have H1 := Lib.hid (hidA (w := w) _ _ _ k4 (by decide) { data := #[97, 47, 120, 46, 111] } rfl)
  have H2 := Lib.hid (hidA (w := w) _ _ _ k5 (by decide) { data := #[120, 46, 111, 111] } rfl)
  have H3 := Lib.hid (hidB (w := w) _ _ _ k6 (by decide) { data := #[97, 47, 120] } rfl)
  have H4 := Lib.hid (hidB (w := w) _ _ _ k7 (by decide) { data := #[98, 47, 97] } rfl)
  have H5 : Hid (∀ ga gb v W, AW w ga gb v W → Calls Tryd.prog 38 #[v, .string { data := #[107, 101, 101, 112] }, .bool false] W fun e w' => e = .returned (.bool true) ∧ AW w ga gb v w') := by
    intro ga gb v W hw
    have := safe_any RL v [107, 101, 101, 112] false W hw.rl lightRL (by decide)
    rw [k8] at this
    exact this.mono fun e w' ⟨h1, h2⟩ => ⟨h1, hw.keep h2⟩
  have H6 : Hid (∀ ga gb v W, AW w ga gb v W → Calls Tryd.prog 39 #[v, .string { data := #[107, 101, 101, 112] }, .bool false] W fun e w' => e = .returned (.bool true) ∧ AW w ga gb v w') := by
    intro ga gb v W hw
    have := hidden_any RL v [107, 101, 101, 112] false W hw.rl lightRL (by decide)
    rw [k9] at this
    exact this.mono fun e w' ⟨h1, h2⟩ => ⟨h1, hw.keep h2⟩
  go_enter Tryd.func23, Tryd.ntmps23
  go_wp2_with (first
    | (go_at_call 30; with_reducible refine (HP1.out _).mono ?_; rintro e w1 ⟨rfl, hb⟩; have HB1 := Lib.hid hb; clear hb HP1)
    | (go_at_call 30; with_reducible refine (HP2.out _).mono ?_; rintro e w2 ⟨rfl, hb⟩; have HB2 := Lib.hid hb; clear hb HP2)
    | (go_at_call 32; with_reducible refine (HLN.out _).mono ?_; rintro e w3 ⟨a, c, rfl, hl, hb⟩; have haw := AW.start HB1.out HB2.out hb hl; obtain ⟨⟨k0, k1, k2, k3⟩, -⟩ := cells4 haw.ra; obtain ⟨⟨j0, j1, j2, j3⟩, -⟩ := cells4 haw.rb; have HAW := Lib.hid haw; clear haw hb hl)
    | (go_at_call 39; with_reducible refine (H1.out _ _ _ _ HAW.out).mono ?_; rintro e w4 ⟨rfl, haw⟩; obtain ⟨⟨k0, k1, k2, k3⟩, -⟩ := cells4 haw.ra; obtain ⟨⟨j0, j1, j2, j3⟩, -⟩ := cells4 haw.rb; have HAW := Lib.hid haw; clear haw H1)
    | (go_at_call 39; with_reducible refine (H2.out _ _ _ _ HAW.out).mono ?_; rintro e w5 ⟨rfl, haw⟩; obtain ⟨⟨k0, k1, k2, k3⟩, -⟩ := cells4 haw.ra; obtain ⟨⟨j0, j1, j2, j3⟩, -⟩ := cells4 haw.rb; have HAW := Lib.hid haw; clear haw H2)
    | (go_at_call 39; with_reducible refine (H3.out _ _ _ _ HAW.out).mono ?_; rintro e w6 ⟨rfl, haw⟩; obtain ⟨⟨k0, k1, k2, k3⟩, -⟩ := cells4 haw.ra; obtain ⟨⟨j0, j1, j2, j3⟩, -⟩ := cells4 haw.rb; have HAW := Lib.hid haw; clear haw H3)
    | (go_at_call 39; with_reducible refine (H4.out _ _ _ _ HAW.out).mono ?_; rintro e w7 ⟨rfl, haw⟩; have HAW := Lib.hid haw; clear haw H4)
    | (go_at_call 38; with_reducible refine (H5.out _ _ _ _ HAW.out).mono ?_; rintro e w8 ⟨rfl, haw⟩; have HAW := Lib.hid haw; clear haw H5)
    | (go_at_call 39; with_reducible refine (H6.out _ _ _ _ HAW.out).mono ?_; rintro e w9 ⟨rfl, haw⟩; have HAW := Lib.hid haw; clear haw H6))
  go_ret
  exact ⟨rfl, HAW.out.bel⟩
end Go.Proofs.YtokocfoeohddfaaDoor.Pa
