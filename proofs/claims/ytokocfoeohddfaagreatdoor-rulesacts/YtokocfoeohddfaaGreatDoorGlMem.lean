/- glob: where a class begins, and a member of it. (A template.) -/
import Derived.Test.YtokocfoeohddfaaGreatDoorGlSpec
import Derived.Test.YtokocfoeohddfaaGreatDoorGlHas
namespace Go.Proofs.YtokocfoeohddfaaGreatDoor.Pa
open Go.RowKit
set_option linter.unusedVariables false
set_option linter.unusedSimpArgs false
set_option maxRecDepth 100000

theorem begin_any (l : L8) (g a : Nat) (b0 : Bool) (w : World) (ha : a < l.length) (hl : l.length ≤ 4611686018427387904) (hc : w.cell? ⟨g, 0, none⟩ = some (.bool b0)) (hf : w.frozen? ⟨g, 0, none⟩ = false) :
    Calls Tryz.prog 60 #[.pointer (some ⟨g, 0, none⟩), .string (mk l), .int .i64 (a : Int)] w fun e w' => e = .returned (.int .i64 ((if bang l a then a + 2 else a + 1 : Nat) : Int)) ∧ (w' = w.setCell ⟨g, 0, none⟩ (.bool (bang l a)) ∨ w' = (w.setCell ⟨g, 0, none⟩ (.bool (bang l a))).drew) := by
  have hs : (mk l).size = l.length := mk_size l
  have hw1 : IntKind.i64.wrap ((a : Int) + 1) = (a : Int) + 1 := IntWalk.i64_in _ (by omega)
  have hw2 : IntKind.i64.wrap ((a : Int) + 1 + 1) = (a : Int) + 1 + 1 := IntWalk.i64_in _ (by omega)
  have hx := run_tl l (a + 1) (by omega)
  rw [show ((a + 1 : Nat) : Int) = (a : Int) + 1 from by omega] at hx
  have HP := Lib.hid (fun W => hasp_any (l.drop (a + 1)) [33] W)
  obtain ⟨B, hB⟩ : ∃ B, B = bang l a := ⟨_, rfl⟩
  have HB : Hid ([33].isPrefixOf (l.drop (a + 1)) = B) := by show _ = _; rw [hB]; rfl
  rw [← hB]
  rw [HB.out] at HP
  generalize l.drop (a + 1) = d at *
  have e33 : (mk [33]) = { data := #[33] } := rfl
  rw [e33] at HP
  clear hB hs ha hl
  cases B
  · go_enter Tryz.func60, Tryz.ntmps60
    go_wp2_with (go_at_call 78; refine (HP.out _).mono ?_; rintro e w' ⟨rfl, rfl⟩)
    all_goals go_ret
    all_goals exact ⟨by simp, by first | exact .inl rfl | exact .inr rfl⟩
  · go_enter Tryz.func60, Tryz.ntmps60
    go_wp2_with (go_at_call 78; refine (HP.out _).mono ?_; rintro e w' ⟨rfl, rfl⟩)
    all_goals go_ret
    all_goals exact ⟨by simp; omega, by first | exact .inl rfl | exact .inr rfl⟩

/-- what readMember answers -/
def RM (l : L8) (a : Nat) (v : Value) : Prop := match rm l a with
  | none => ∃ x y z, v = .tuple #[.int .u8 x, .int .u8 y, .int .i64 z, .bool false]
  | some (f, g, b) => v = .tuple #[.int .u8 (f : Int), .int .u8 (g : Int), .int .i64 (b : Int), .bool true]
set_option maxHeartbeats 4000000 in
theorem readMember_any (l : L8) (a : Nat) (w : World) (ha : a < l.length) (hl : l.length ≤ 4611686018427387904) :
    Calls Tryz.prog 63 #[.string (mk l), .int .i64 (a : Int)] w fun e w' => ∃ v, e = .returned v ∧ RM l a v ∧ Below w.heap.size w w' := by
  have hs : (mk l).size = l.length := mk_size l
  have H1 := readByte_any l a w (by omega) hl
  cases hx : rbN l a with
  | none =>
    rw [rb_none hx] at H1
    have HR : Hid (∀ x y z, RM l a (.tuple #[.int .u8 x, .int .u8 y, .int .i64 z, .bool false])) := by
      intro x y z; unfold RM rm; rw [hx]; exact ⟨x, y, z, rfl⟩
    have H1 := Lib.hid H1
    clear hs ha hl hx
    go_enter Tryz.func63, Tryz.ntmps63
    go_wp2_with (go_at_call 76; refine H1.out.mono ?_; rintro e w' ⟨rfl, rfl⟩)
    try simp only [Exit.inBlock, Exit.then]
    refine bodyPost_ret (v := .tuple #[.int .u8 0, .int .u8 0, .int .i64 0, .bool false]) (by simp [results, Tryz.results63, go_sem]) rfl ?_
    exact ⟨_, rfl, HR.out _ _ _, Below.refl _ _⟩
  | some x =>
    obtain ⟨f, b⟩ := x
    obtain ⟨h1, h2, h3, h4, h5⟩ := rb_some hx
    rw [h1] at H1
    have H1 := Lib.hid H1
    have hxb := run_tl l b h4
    have HP1 := Lib.hid (fun W => hasp_any (l.drop b) [45] W)
    have HP2 := Lib.hid (fun W => hasp_any (l.drop b) [45, 93] W)
    have hbb : [45, 93].isPrefixOf (l.drop b) = true → [45].isPrefixOf (l.drop b) = true := by
      intro h
      cases hd : l.drop b with
      | nil => rw [hd] at h; simp [List.isPrefixOf] at h
      | cons c r => rw [hd] at h; cases r <;> simp_all [List.isPrefixOf]
    have HRM : Hid (rm l a = if ([45].isPrefixOf (l.drop b) = false) ∨ [45, 93].isPrefixOf (l.drop b) = true then some (f, f, b) else match rbN l (b + 1) with | none => none | some (g, d) => if f ≤ g then some (f, g, d) else none) := by
      show _ = _; unfold rm; rw [hx]; rfl
    have e45 : (mk [45]) = { data := #[45] } := rfl
    have e4593 : (mk [45, 93]) = { data := #[45, 93] } := rfl
    rw [e45] at HP1
    rw [e4593] at HP2
    by_cases hq : ([45].isPrefixOf (l.drop b) = false) ∨ [45, 93].isPrefixOf (l.drop b) = true
    · have HR : Hid (RM l a (.tuple #[.int .u8 (f : Int), .int .u8 (f : Int), .int .i64 (b : Int), .bool true])) := by
        show RM _ _ _
        unfold RM; rw [HRM.out, if_pos hq]
      clear HRM
      cases hp : [45].isPrefixOf (l.drop b) with
      | false =>
        rw [hp] at HP1
        clear hbb hq hs ha hl hx h1 h2 h3 h4 h5 hp HP2
        generalize l.drop b = d at *
        go_enter Tryz.func63, Tryz.ntmps63
        go_wp2_with (first
          | (go_at_call 76; refine H1.out.mono ?_; rintro e w' ⟨rfl, rfl⟩)
          | (go_at_call 78; refine (HP1.out _).mono ?_; rintro e w' ⟨rfl, rfl⟩))
        try simp only [Exit.inBlock, Exit.then]
        refine bodyPost_ret (v := .tuple #[.int .u8 (f : Int), .int .u8 (f : Int), .int .i64 (b : Int), .bool true]) (by simp [results, Tryz.results63, go_sem]) rfl ?_
        exact ⟨_, rfl, HR.out, Below.refl _ _⟩
      | true =>
        have hp2 : [45, 93].isPrefixOf (l.drop b) = true := by rcases hq with h | h; rw [hp] at h; cases h; exact h
        rw [hp] at HP1
        rw [hp2] at HP2
        clear hbb hq hs ha hl hx h1 h2 h3 h4 h5 hp hp2
        generalize l.drop b = d at *
        go_enter Tryz.func63, Tryz.ntmps63
        go_wp2_with (first
          | (go_at_call 76; refine H1.out.mono ?_; rintro e w' ⟨rfl, rfl⟩)
          | (go_at_call 78; with_reducible refine (HP1.out _).mono ?_; rintro e w' ⟨rfl, rfl⟩)
          | (go_at_call 78; with_reducible refine (HP2.out _).mono ?_; rintro e w' ⟨rfl, rfl⟩))
        try simp only [Exit.inBlock, Exit.then]
        refine bodyPost_ret (v := .tuple #[.int .u8 (f : Int), .int .u8 (f : Int), .int .i64 (b : Int), .bool true]) (by simp [results, Tryz.results63, go_sem]) rfl ?_
        exact ⟨_, rfl, HR.out, Below.refl _ _⟩
    · have hq1 : [45].isPrefixOf (l.drop b) = true := by cases h : [45].isPrefixOf (l.drop b) with
        | true => rfl
        | false => exact absurd (.inl h) hq
      have hq2 : [45, 93].isPrefixOf (l.drop b) = false := by cases h : [45, 93].isPrefixOf (l.drop b) with
        | false => rfl
        | true => exact absurd (.inr h) hq
      have hbl : b + 1 ≤ l.length := by
        rcases Nat.lt_or_ge b l.length with h | h
        · exact h
        · rw [List.drop_eq_nil_of_le h] at hq1; simp [List.isPrefixOf] at hq1
      have HRM2 : Hid (rm l a = match rbN l (b + 1) with | none => none | some (g, d) => if f ≤ g then some (f, g, d) else none) := by show _ = _; rw [HRM.out, if_neg hq]
      rw [hq1] at HP1
      rw [hq2] at HP2
      have H2 := fun W => readByte_any l (b + 1) W hbl hl
      rw [show ((b + 1 : Nat) : Int) = (b : Int) + 1 from by omega] at H2
      have hw1 : IntKind.i64.wrap ((b : Int) + 1) = (b : Int) + 1 := IntWalk.i64_in _ (by omega)
      cases hy : rbN l (b + 1) with
      | none =>
        rw [rb_none hy] at H2
        have H2 := Lib.hid H2
        have HR : Hid (∀ x y z, RM l a (.tuple #[.int .u8 x, .int .u8 y, .int .i64 z, .bool false])) := by
          intro x y z; unfold RM; rw [HRM2.out, hy]; exact ⟨x, y, z, rfl⟩
        clear hbb hq hs ha hl hx h1 h2 h3 h4 h5 hq1 hq2 hbl HRM HRM2 hy
        generalize l.drop b = d at *
        go_enter Tryz.func63, Tryz.ntmps63
        go_wp2_with (first
          | (go_at_call 76; with_reducible refine H1.out.mono ?_; rintro e w' ⟨rfl, rfl⟩)
          | (go_at_call 76; with_reducible refine (H2.out _).mono ?_; rintro e w' ⟨rfl, rfl⟩)
          | (go_at_call 78; with_reducible refine (HP1.out _).mono ?_; rintro e w' ⟨rfl, rfl⟩)
          | (go_at_call 78; with_reducible refine (HP2.out _).mono ?_; rintro e w' ⟨rfl, rfl⟩))
        try simp only [Exit.inBlock, Exit.then]
        refine bodyPost_ret (v := .tuple #[.int .u8 (f : Int), .int .u8 0, .int .i64 0, .bool false]) (by simp [results, Tryz.results63, go_sem]) rfl ?_
        exact ⟨_, rfl, HR.out _ _ _, Below.refl _ _⟩
      | some y =>
        obtain ⟨g, d⟩ := y
        obtain ⟨k1, k2, k3, k4, k5⟩ := rb_some hy
        rw [k1] at H2
        have H2 := Lib.hid H2
        have HR : Hid (RM l a (.tuple #[.int .u8 (f : Int), .int .u8 (g : Int), .int .i64 (d : Int), .bool (decide ((f : Int) ≤ (g : Int)))])) := by
          show RM _ _ _
          unfold RM; rw [HRM2.out, hy]
          by_cases hfg : f ≤ g
          · simp only [if_pos hfg, Int.ofNat_le, decide_eq_true hfg]
          · simp only [if_neg hfg, Int.ofNat_le, decide_eq_false hfg]; exact ⟨_, _, _, rfl⟩
        clear hbb hq hs ha hl hx h1 h2 h3 h4 h5 hq1 hq2 hbl HRM HRM2 hy k1 k2 k3 k4 k5
        generalize l.drop b = dd at *
        go_enter Tryz.func63, Tryz.ntmps63
        go_wp2_with (first
          | (go_at_call 76; with_reducible refine H1.out.mono ?_; rintro e w' ⟨rfl, rfl⟩)
          | (go_at_call 76; with_reducible refine (H2.out _).mono ?_; rintro e w' ⟨rfl, rfl⟩)
          | (go_at_call 78; with_reducible refine (HP1.out _).mono ?_; rintro e w' ⟨rfl, rfl⟩)
          | (go_at_call 78; with_reducible refine (HP2.out _).mono ?_; rintro e w' ⟨rfl, rfl⟩))
        try simp only [Exit.inBlock, Exit.then]
        refine bodyPost_ret (v := .tuple #[.int .u8 (f : Int), .int .u8 (g : Int), .int .i64 (d : Int), .bool (decide ((f : Int) ≤ (g : Int)))]) (by simp [results, Tryz.results63, go_sem]) rfl ?_
        exact ⟨_, rfl, HR.out, Below.refl _ _⟩
end Go.Proofs.YtokocfoeohddfaaGreatDoor.Pa
