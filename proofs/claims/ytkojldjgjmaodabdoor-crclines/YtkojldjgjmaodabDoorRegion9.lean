/- The law CrcLines's last region, whatever order its operations come in: ways that differ in the new blocks' numbers only are one. -/
import Derived.Test.YtkojldjgjmaodabDoorBMath
import Derived.Test.YtkojldjgjmaodabDoorCut
import Derived.Deep.DeepCutAuto
import Derived.Deep.RegionHeld3
namespace Go.Proofs.YtkojldjgjmaodabDoor
open Go.RowKit Go.Proofs.CrcMath
set_option linter.unusedVariables false

def ops9 : Array Oper := #[{ dst := some 44, op := Op.move (Operand.tmp 8), type := 22, pos := "theorems.go:52", after := #[], guard := none },
  { dst := some 45, op := Op.buildSlice 33 1 #[(0, Operand.tmp 44)], type := 33, pos := "theorems.go:52", after := #[{ on := 0, ground := Ground.data }], guard := none },
  { dst := some 46, op := Op.call { callee := Callee.value (Operand.func 8), args := #[Operand.tmp 45], argTypes := #[33] }, type := 24, pos := "theorems.go:52", after := #[{ on := 1, ground := Ground.data }], guard := none },
  { dst := some 47, op := Op.move (Operand.tmp 0), type := 22, pos := "theorems.go:52", after := #[], guard := none },
  { dst := some 48, op := Op.move (Operand.tmp 7), type := 3, pos := "theorems.go:52", after := #[], guard := none },
  { dst := some 49, op := Op.slice 22 (Operand.tmp 47) none (some (Operand.tmp 48)) none, type := 22, pos := "theorems.go:52", after := #[{ on := 3, ground := Ground.data }, { on := 4, ground := Ground.data }], guard := none },
  { dst := some 50, op := Op.buildSlice 33 1 #[(0, Operand.tmp 49)], type := 33, pos := "theorems.go:52", after := #[{ on := 5, ground := Ground.data }], guard := none },
  { dst := some 51, op := Op.call { callee := Callee.value (Operand.func 8), args := #[Operand.tmp 50], argTypes := #[33] }, type := 24, pos := "theorems.go:52", after := #[{ on := 6, ground := Ground.data }, { on := 2, ground := Ground.chain }], guard := none },
  { dst := some 52, op := Op.move (Operand.tmp 1), type := 22, pos := "theorems.go:52", after := #[], guard := none },
  { dst := some 53, op := Op.move (Operand.tmp 7), type := 3, pos := "theorems.go:52", after := #[], guard := none },
  { dst := some 54, op := Op.slice 22 (Operand.tmp 52) none (some (Operand.tmp 53)) none, type := 22, pos := "theorems.go:52", after := #[{ on := 8, ground := Ground.data }, { on := 9, ground := Ground.data }], guard := none },
  { dst := some 55, op := Op.buildSlice 33 1 #[(0, Operand.tmp 54)], type := 33, pos := "theorems.go:52", after := #[{ on := 10, ground := Ground.data }], guard := none },
  { dst := some 56, op := Op.call { callee := Callee.value (Operand.func 8), args := #[Operand.tmp 55], argTypes := #[33] }, type := 24, pos := "theorems.go:52", after := #[{ on := 11, ground := Ground.data }, { on := 7, ground := Ground.chain }], guard := none },
  { dst := some 57, op := Op.binOp BinOp.xor 24 (Operand.tmp 51) (Operand.tmp 56) 24, type := 24, pos := "theorems.go:52", after := #[{ on := 7, ground := Ground.data }, { on := 12, ground := Ground.data }], guard := none },
  { dst := some 58, op := Op.move (Operand.tmp 2), type := 22, pos := "theorems.go:52", after := #[], guard := none },
  { dst := some 59, op := Op.move (Operand.tmp 7), type := 3, pos := "theorems.go:52", after := #[], guard := none },
  { dst := some 60, op := Op.slice 22 (Operand.tmp 58) none (some (Operand.tmp 59)) none, type := 22, pos := "theorems.go:52", after := #[{ on := 14, ground := Ground.data }, { on := 15, ground := Ground.data }], guard := none },
  { dst := some 61, op := Op.buildSlice 33 1 #[(0, Operand.tmp 60)], type := 33, pos := "theorems.go:52", after := #[{ on := 16, ground := Ground.data }], guard := none },
  { dst := some 62, op := Op.call { callee := Callee.value (Operand.func 8), args := #[Operand.tmp 61], argTypes := #[33] }, type := 24, pos := "theorems.go:52", after := #[{ on := 17, ground := Ground.data }, { on := 12, ground := Ground.chain }], guard := none },
  { dst := some 63, op := Op.binOp BinOp.xor 24 (Operand.tmp 57) (Operand.tmp 62) 24, type := 24, pos := "theorems.go:52", after := #[{ on := 13, ground := Ground.data }, { on := 18, ground := Ground.data }], guard := none },
  { dst := some 64, op := Op.binOp BinOp.eql 24 (Operand.tmp 46) (Operand.tmp 63) 24, type := 4, pos := "theorems.go:52", after := #[{ on := 2, ground := Ground.data }, { on := 19, ground := Ground.data }], guard := none },
  { dst := some 65, op := Op.move (Operand.tmp 64), type := 4, pos := "theorems.go:52", after := #[{ on := 20, ground := Ground.data }, { on := 18, ground := Ground.chain }], guard := none },
  { dst := some 66, op := Op.call { callee := Callee.value (Operand.func 5), args := #[], argTypes := #[] }, type := 4, pos := "theorems.go:52", after := #[{ on := 21, ground := Ground.chain }, { on := 21, ground := Ground.guard }], guard := some (21, true) },
  { dst := some 67, op := Op.pick (Operand.tmp 65) (Operand.tmp 66) (Operand.const (Value.bool false)), type := 4, pos := "theorems.go:52", after := #[{ on := 21, ground := Ground.data }, { on := 22, ground := Ground.data }], guard := none },
  { dst := some 6, op := Op.assign (Operand.tmp 67), type := 4, pos := "theorems.go:52", after := #[{ on := 23, ground := Ground.data }, { on := 22, ground := Ground.chain }, { on := 0, ground := Ground.phase }, { on := 1, ground := Ground.phase }, { on := 2, ground := Ground.phase }, { on := 3, ground := Ground.phase }, { on := 4, ground := Ground.phase }, { on := 5, ground := Ground.phase }, { on := 6, ground := Ground.phase }, { on := 7, ground := Ground.phase }, { on := 8, ground := Ground.phase }, { on := 9, ground := Ground.phase }, { on := 10, ground := Ground.phase }, { on := 11, ground := Ground.phase }, { on := 12, ground := Ground.phase }, { on := 13, ground := Ground.phase }, { on := 14, ground := Ground.phase }, { on := 15, ground := Ground.phase }, { on := 16, ground := Ground.phase }, { on := 17, ground := Ground.phase }, { on := 18, ground := Ground.phase }, { on := 19, ground := Ground.phase }, { on := 20, ground := Ground.phase }, { on := 21, ground := Ground.phase }, { on := 22, ground := Ground.phase }, { on := 23, ground := Ground.phase }], guard := none }]

theorem cell_keep {W : World} {a : Addr} {v : Value} (h : W.cell? a = some v) (o : Obj) : (W.alloc o).cell? a = some v := by
  rw [World.cell?_alloc_some W a o (by rw [h]; rfl)]; exact h

set_option maxRecDepth 1000000 in
set_option maxHeartbeats 8000000 in
theorem region9 (Q : Exit → Act → World → Prop) (hpan : ∀ c a d v w, Q (.panic c) (a.put d v) w → Q (.panic c) a w) (wr : World) (x0 x1 x2 a0 a1 a2 : Option Addr) (g n n0 n1 n2 c0 c1 c2 : Nat) (cX cP cQ cR V : Int)
    (r0 : ∀ W, (Instr.slice 22 (.slice a0 n0 c0) none (some (.int .i64 (n : Int))) none).run Tryd.prog W = .ok (.slice x0 n c0) W)
    (r1 : ∀ W, (Instr.slice 22 (.slice a1 n1 c1) none (some (.int .i64 (n : Int))) none).run Tryd.prog W = .ok (.slice x1 n c1) W)
    (r2 : ∀ W, (Instr.slice 22 (.slice a2 n2 c2) none (some (.int .i64 (n : Int))) none).run Tryd.prog W = .ok (.slice x2 n c2) W)
    (KX : ∀ (W : World) (B : Nat), W.cell? ⟨B, 0, none⟩ = some (.slice (some ⟨g, 0, none⟩) n n) → Below wr.heap.size wr W → Calls Tryd.prog 8 #[.slice (some ⟨B, 0, none⟩) 1 1] W fun e w' => e = .returned (.int .u32 cX) ∧ W = w')
    (KP : ∀ (W : World) (B : Nat), W.cell? ⟨B, 0, none⟩ = some (.slice x0 n c0) → Below wr.heap.size wr W → Calls Tryd.prog 8 #[.slice (some ⟨B, 0, none⟩) 1 1] W fun e w' => e = .returned (.int .u32 cP) ∧ W = w')
    (KQ : ∀ (W : World) (B : Nat), W.cell? ⟨B, 0, none⟩ = some (.slice x1 n c1) → Below wr.heap.size wr W → Calls Tryd.prog 8 #[.slice (some ⟨B, 0, none⟩) 1 1] W fun e w' => e = .returned (.int .u32 cQ) ∧ W = w')
    (KR : ∀ (W : World) (B : Nat), W.cell? ⟨B, 0, none⟩ = some (.slice x2 n c2) → Below wr.heap.size wr W → Calls Tryd.prog 8 #[.slice (some ⟨B, 0, none⟩) 1 1] W fun e w' => e = .returned (.int .u32 cR) ∧ W = w')
    (HAK : ∀ W : World, Below wr.heap.size wr W → Calls Tryd.prog 5 #[] W fun e w' => e = .returned (.bool true) ∧ Below W.heap.size W w')
    (e1 : bits .xor .u32 cP cQ = V) (e2 : bits .xor .u32 V cR = cX) {s3 s4 s5 s6 s9 s10 s11 s12 s13 s14 s15 s16 s17 s18 s19 s20 s21 s22 s23 s24 s25 s26 s27 s28 s29 s30 s31 s32 s33 s34 s35 s36 s37 s38 s39 s40 s41 s42 s43 s44 s45 s46 s47 s48 s49 s50 s51 s52 s53 s54 s55 s56 s57 s58 s59 s60 s61 s62 s63 s64 s65 s66 s67 : Value}
    (fin : ∀ (t44 t45 t46 t47 t48 t49 t50 t51 t52 t53 t54 t55 t56 t57 t58 t59 t60 t61 t62 t63 t64 t65 t66 t67 : Value) (W : World), Below wr.heap.size wr W → Q .normal ⟨#[.slice a0 n0 c0, .slice a1 n1 c1, .slice a2 n2 c2, s3, s4, s5, .bool true, .int .i64 (n : Int), .slice (some ⟨g, 0, none⟩) n n, s9, s10, s11, s12, s13, s14, s15, s16, s17, s18, s19, s20, s21, s22, s23, s24, s25, s26, s27, s28, s29, s30, s31, s32, s33, s34, s35, s36, s37, s38, s39, s40, s41, s42, s43, t44, t45, t46, t47, t48, t49, t50, t51, t52, t53, t54, t55, t56, t57, t58, t59, t60, t61, t62, t63, t64, t65, t66, t67], []⟩ W) :
    (Code.region 9 ops9 true).wp Tryd.prog Q ⟨#[.slice a0 n0 c0, .slice a1 n1 c1, .slice a2 n2 c2, s3, s4, s5, s6, .int .i64 (n : Int), .slice (some ⟨g, 0, none⟩) n n, s9, s10, s11, s12, s13, s14, s15, s16, s17, s18, s19, s20, s21, s22, s23, s24, s25, s26, s27, s28, s29, s30, s31, s32, s33, s34, s35, s36, s37, s38, s39, s40, s41, s42, s43, s44, s45, s46, s47, s48, s49, s50, s51, s52, s53, s54, s55, s56, s57, s58, s59, s60, s61, s62, s63, s64, s65, s66, s67], []⟩ wr := by
  have KKX := Lib.hid KX
  have KKP := Lib.hid KP
  have KKQ := Lib.hid KQ
  have KKR := Lib.hid KR
  have KKA := Lib.hid HAK
  have FIN := Lib.hid fin
  clear KX KP KQ KR HAK fin
  have st4 : ∀ (W : World) (v1 : Value) (v2 : Value) (v3 : Value) (v4 : Value), Below wr.heap.size wr W → wpAnyH Tryd.prog .any ops9 Q (fun W => Below wr.heap.size wr W) 6 #[true, true, true, true, true, true, true, true, true, true, true, true, true, true, true, true, true, true, true, false, false, false, false, false, false] ⟨#[.slice a0 n0 c0, .slice a1 n1 c1, .slice a2 n2 c2, s3, s4, s5, s6, .int .i64 (n : Int), .slice (some ⟨g, 0, none⟩) n n, s9, s10, s11, s12, s13, s14, s15, s16, s17, s18, s19, s20, s21, s22, s23, s24, s25, s26, s27, s28, s29, s30, s31, s32, s33, s34, s35, s36, s37, s38, s39, s40, s41, s42, s43, .slice (some ⟨g, 0, none⟩) n n, v1, .int .u32 cX, .slice a0 n0 c0, .int .i64 (n : Int), .slice x0 n c0, v2, .int .u32 cP, .slice a1 n1 c1, .int .i64 (n : Int), .slice x1 n c1, v3, .int .u32 cQ, .int .u32 V, .slice a2 n2 c2, .int .i64 (n : Int), .slice x2 n c2, v4, .int .u32 cR, s63, s64, s65, s66, s67], []⟩ W := by
    intro W v1 v2 v3 v4 hb
    refine wpAnyH_take (i := 19) (oi := { dst := some 63, op := Op.binOp BinOp.xor 24 (Operand.tmp 57) (Operand.tmp 62) 24, type := 24, pos := "theorems.go:52", after := #[{ on := 13, ground := Ground.data }, { on := 18, ground := Ground.data }], guard := none }) (v := .int .u32 cX) rfl (by kernel_rfl) (by kernel_rfl) (by kernel_rfl) (fun c a w h => hpan c a _ _ w h) (Or.inl ⟨by rfl, fun w hw => ?_⟩) (by assumption) ?_
    · (go_simp; done)
    (try simp only [Act.put, List.setIfInBounds_toArray, List.set_cons_zero, List.set_cons_succ])
    refine wpAnyH_take (i := 20) (oi := { dst := some 64, op := Op.binOp BinOp.eql 24 (Operand.tmp 46) (Operand.tmp 63) 24, type := 4, pos := "theorems.go:52", after := #[{ on := 2, ground := Ground.data }, { on := 19, ground := Ground.data }], guard := none }) (v := .bool true) rfl (by kernel_rfl) (by kernel_rfl) (by kernel_rfl) (fun c a w h => hpan c a _ _ w h) (Or.inl ⟨by rfl, fun w hw => ?_⟩) (by assumption) ?_
    · (go_simp; done)
    (try simp only [Act.put, List.setIfInBounds_toArray, List.set_cons_zero, List.set_cons_succ])
    refine wpAnyH_take (i := 21) (oi := { dst := some 65, op := Op.move (Operand.tmp 64), type := 4, pos := "theorems.go:52", after := #[{ on := 20, ground := Ground.data }, { on := 18, ground := Ground.chain }], guard := none }) (v := .bool true) rfl (by kernel_rfl) (by kernel_rfl) (by kernel_rfl) (fun c a w h => hpan c a _ _ w h) (Or.inl ⟨by rfl, fun w hw => ?_⟩) (by assumption) ?_
    · (go_simp; done)
    (try simp only [Act.put, List.setIfInBounds_toArray, List.set_cons_zero, List.set_cons_succ])
    refine wpAnyH_ready (rs := [22]) (by kernel_rfl) (by simp) ?_
    refine AllReadyH.cons (o := { dst := some 66, op := Op.call { callee := Callee.value (Operand.func 5), args := #[], argTypes := #[] }, type := 4, pos := "theorems.go:52", after := #[{ on := 21, ground := Ground.chain }, { on := 21, ground := Ground.guard }], guard := some (21, true) }) rfl (fun K hK => ?_) AllReadyH.nil
    go_simp
    refine (KKA.out W hb).mono ?_
    rintro e w9 ⟨rfl, hb9⟩
    have hb11 : Below wr.heap.size wr w9 := hb.trans (hb9.mono hb.size)
    refine hK.out _ _ hb11 (fun hH => ?_)
    clear hK K hb hb9
    (try simp only [List.setIfInBounds_toArray, List.set_cons_zero, List.set_cons_succ])
    refine wpAnyH_take (i := 23) (oi := { dst := some 67, op := Op.pick (Operand.tmp 65) (Operand.tmp 66) (Operand.const (Value.bool false)), type := 4, pos := "theorems.go:52", after := #[{ on := 21, ground := Ground.data }, { on := 22, ground := Ground.data }], guard := none }) (v := .bool true) rfl (by kernel_rfl) (by kernel_rfl) (by kernel_rfl) (fun c a w h => hpan c a _ _ w h) (Or.inl ⟨by rfl, fun w hw => ?_⟩) (by assumption) ?_
    · (go_simp; done)
    (try simp only [Act.put, List.setIfInBounds_toArray, List.set_cons_zero, List.set_cons_succ])
    refine wpAnyH_take (i := 24) (oi := { dst := some 6, op := Op.assign (Operand.tmp 67), type := 4, pos := "theorems.go:52", after := #[{ on := 23, ground := Ground.data }, { on := 22, ground := Ground.chain }, { on := 0, ground := Ground.phase }, { on := 1, ground := Ground.phase }, { on := 2, ground := Ground.phase }, { on := 3, ground := Ground.phase }, { on := 4, ground := Ground.phase }, { on := 5, ground := Ground.phase }, { on := 6, ground := Ground.phase }, { on := 7, ground := Ground.phase }, { on := 8, ground := Ground.phase }, { on := 9, ground := Ground.phase }, { on := 10, ground := Ground.phase }, { on := 11, ground := Ground.phase }, { on := 12, ground := Ground.phase }, { on := 13, ground := Ground.phase }, { on := 14, ground := Ground.phase }, { on := 15, ground := Ground.phase }, { on := 16, ground := Ground.phase }, { on := 17, ground := Ground.phase }, { on := 18, ground := Ground.phase }, { on := 19, ground := Ground.phase }, { on := 20, ground := Ground.phase }, { on := 21, ground := Ground.phase }, { on := 22, ground := Ground.phase }, { on := 23, ground := Ground.phase }], guard := none }) (v := .bool true) rfl (by kernel_rfl) (by kernel_rfl) (by kernel_rfl) (fun c a w h => hpan c a _ _ w h) (Or.inl ⟨by rfl, fun w hw => ?_⟩) (by assumption) ?_
    · (go_simp; done)
    (try simp only [Act.put, List.setIfInBounds_toArray, List.set_cons_zero, List.set_cons_succ])
    refine wpAnyH_done (by kernel_rfl) ?_ _
    exact FIN.out _ _ _ _ _ _ _ _ _ _ _ _ _ _ _ _ _ _ _ _ _ _ _ _ _ hb11
  have st3x4 : ∀ (W : World) (v1 : Value) (v2 : Value) (v3 : Value) (B4 : Nat), Below wr.heap.size wr W → W.cell? ⟨B4, 0, none⟩ = some (.slice x2 n c2) → wpAnyH Tryd.prog .any ops9 Q (fun W => Below wr.heap.size wr W) 7 #[true, true, true, true, true, true, true, true, true, true, true, true, true, true, true, true, true, true, false, false, false, false, false, false, false] ⟨#[.slice a0 n0 c0, .slice a1 n1 c1, .slice a2 n2 c2, s3, s4, s5, s6, .int .i64 (n : Int), .slice (some ⟨g, 0, none⟩) n n, s9, s10, s11, s12, s13, s14, s15, s16, s17, s18, s19, s20, s21, s22, s23, s24, s25, s26, s27, s28, s29, s30, s31, s32, s33, s34, s35, s36, s37, s38, s39, s40, s41, s42, s43, .slice (some ⟨g, 0, none⟩) n n, v1, .int .u32 cX, .slice a0 n0 c0, .int .i64 (n : Int), .slice x0 n c0, v2, .int .u32 cP, .slice a1 n1 c1, .int .i64 (n : Int), .slice x1 n c1, v3, .int .u32 cQ, .int .u32 V, .slice a2 n2 c2, .int .i64 (n : Int), .slice x2 n c2, .slice (some ⟨B4, 0, none⟩) 1 1, s62, s63, s64, s65, s66, s67], []⟩ W := by
    intro W v1 v2 v3 B4 hb hc4
    refine wpAnyH_ready (rs := [18]) (by kernel_rfl) (by simp) ?_
    refine AllReadyH.cons (o := { dst := some 62, op := Op.call { callee := Callee.value (Operand.func 8), args := #[Operand.tmp 61], argTypes := #[33] }, type := 24, pos := "theorems.go:52", after := #[{ on := 17, ground := Ground.data }, { on := 12, ground := Ground.chain }], guard := none }) rfl (fun K hK => ?_) AllReadyH.nil
    go_simp
    refine (KKR.out W B4 hc4 hb).mono ?_
    rintro e w' ⟨rfl, rfl⟩
    refine hK.out _ _ hb (fun hH => ?_)
    (try simp only [List.setIfInBounds_toArray, List.set_cons_zero, List.set_cons_succ])
    exact st4 _ _ _ _ _ hH
  have st34 : ∀ (W : World) (v1 : Value) (v2 : Value) (v3 : Value) (B4 : Nat), Below wr.heap.size wr W → W.cell? ⟨B4, 0, none⟩ = some (.slice x2 n c2) → wpAnyH Tryd.prog .any ops9 Q (fun W => Below wr.heap.size wr W) 8 #[true, true, true, true, true, true, true, true, true, true, true, true, true, false, true, true, true, true, false, false, false, false, false, false, false] ⟨#[.slice a0 n0 c0, .slice a1 n1 c1, .slice a2 n2 c2, s3, s4, s5, s6, .int .i64 (n : Int), .slice (some ⟨g, 0, none⟩) n n, s9, s10, s11, s12, s13, s14, s15, s16, s17, s18, s19, s20, s21, s22, s23, s24, s25, s26, s27, s28, s29, s30, s31, s32, s33, s34, s35, s36, s37, s38, s39, s40, s41, s42, s43, .slice (some ⟨g, 0, none⟩) n n, v1, .int .u32 cX, .slice a0 n0 c0, .int .i64 (n : Int), .slice x0 n c0, v2, .int .u32 cP, .slice a1 n1 c1, .int .i64 (n : Int), .slice x1 n c1, v3, .int .u32 cQ, s57, .slice a2 n2 c2, .int .i64 (n : Int), .slice x2 n c2, .slice (some ⟨B4, 0, none⟩) 1 1, s62, s63, s64, s65, s66, s67], []⟩ W := by
    intro W v1 v2 v3 B4 hb hc4
    refine wpAnyH_take (i := 13) (oi := { dst := some 57, op := Op.binOp BinOp.xor 24 (Operand.tmp 51) (Operand.tmp 56) 24, type := 24, pos := "theorems.go:52", after := #[{ on := 7, ground := Ground.data }, { on := 12, ground := Ground.data }], guard := none }) (v := .int .u32 V) rfl (by kernel_rfl) (by kernel_rfl) (by kernel_rfl) (fun c a w h => hpan c a _ _ w h) (Or.inl ⟨by rfl, fun w hw => ?_⟩) (by assumption) ?_
    · (go_simp; done)
    (try simp only [Act.put, List.setIfInBounds_toArray, List.set_cons_zero, List.set_cons_succ])
    exact st3x4 _ _ _ _ _ hb hc4
  have st3 : ∀ (W : World) (v1 : Value) (v2 : Value) (v3 : Value), Below wr.heap.size wr W → wpAnyH Tryd.prog .any ops9 Q (fun W => Below wr.heap.size wr W) 9 #[true, true, true, true, true, true, true, true, true, true, true, true, true, false, true, true, true, false, false, false, false, false, false, false, false] ⟨#[.slice a0 n0 c0, .slice a1 n1 c1, .slice a2 n2 c2, s3, s4, s5, s6, .int .i64 (n : Int), .slice (some ⟨g, 0, none⟩) n n, s9, s10, s11, s12, s13, s14, s15, s16, s17, s18, s19, s20, s21, s22, s23, s24, s25, s26, s27, s28, s29, s30, s31, s32, s33, s34, s35, s36, s37, s38, s39, s40, s41, s42, s43, .slice (some ⟨g, 0, none⟩) n n, v1, .int .u32 cX, .slice a0 n0 c0, .int .i64 (n : Int), .slice x0 n c0, v2, .int .u32 cP, .slice a1 n1 c1, .int .i64 (n : Int), .slice x1 n c1, v3, .int .u32 cQ, s57, .slice a2 n2 c2, .int .i64 (n : Int), .slice x2 n c2, s61, s62, s63, s64, s65, s66, s67], []⟩ W := by
    intro W v1 v2 v3 hb
    refine wpAnyH_take (i := 13) (oi := { dst := some 57, op := Op.binOp BinOp.xor 24 (Operand.tmp 51) (Operand.tmp 56) 24, type := 24, pos := "theorems.go:52", after := #[{ on := 7, ground := Ground.data }, { on := 12, ground := Ground.data }], guard := none }) (v := .int .u32 V) rfl (by kernel_rfl) (by kernel_rfl) (by kernel_rfl) (fun c a w h => hpan c a _ _ w h) (Or.inl ⟨by rfl, fun w hw => ?_⟩) (by assumption) ?_
    · (go_simp; done)
    (try simp only [Act.put, List.setIfInBounds_toArray, List.set_cons_zero, List.set_cons_succ])
    refine wpAnyH_ready (rs := [17]) (by kernel_rfl) (by simp) ?_
    refine AllReadyH.cons (o := { dst := some 61, op := Op.buildSlice 33 1 #[(0, Operand.tmp 60)], type := 33, pos := "theorems.go:52", after := #[{ on := 16, ground := Ground.data }], guard := none }) rfl (fun K hK => ?_) ?_
    · go_simp
      refine hK.out _ _ (Below.alloc hb hb.size _) (fun hH => ?_)
      (try simp only [List.setIfInBounds_toArray, List.set_cons_zero, List.set_cons_succ])
      exact st3x4 _ _ _ _ _ hH (by first | (go_simp; done) | (simp [World.cell?]; done))
    exact AllReadyH.nil
  have st234 : ∀ (W : World) (v1 : Value) (v2 : Value) (B3 : Nat) (B4 : Nat), Below wr.heap.size wr W → W.cell? ⟨B3, 0, none⟩ = some (.slice x1 n c1) → W.cell? ⟨B4, 0, none⟩ = some (.slice x2 n c2) → wpAnyH Tryd.prog .any ops9 Q (fun W => Below wr.heap.size wr W) 9 #[true, true, true, true, true, true, true, true, true, true, true, true, false, false, true, true, true, true, false, false, false, false, false, false, false] ⟨#[.slice a0 n0 c0, .slice a1 n1 c1, .slice a2 n2 c2, s3, s4, s5, s6, .int .i64 (n : Int), .slice (some ⟨g, 0, none⟩) n n, s9, s10, s11, s12, s13, s14, s15, s16, s17, s18, s19, s20, s21, s22, s23, s24, s25, s26, s27, s28, s29, s30, s31, s32, s33, s34, s35, s36, s37, s38, s39, s40, s41, s42, s43, .slice (some ⟨g, 0, none⟩) n n, v1, .int .u32 cX, .slice a0 n0 c0, .int .i64 (n : Int), .slice x0 n c0, v2, .int .u32 cP, .slice a1 n1 c1, .int .i64 (n : Int), .slice x1 n c1, .slice (some ⟨B3, 0, none⟩) 1 1, s56, s57, .slice a2 n2 c2, .int .i64 (n : Int), .slice x2 n c2, .slice (some ⟨B4, 0, none⟩) 1 1, s62, s63, s64, s65, s66, s67], []⟩ W := by
    intro W v1 v2 B3 B4 hb hc3 hc4
    refine wpAnyH_ready (rs := [12]) (by kernel_rfl) (by simp) ?_
    refine AllReadyH.cons (o := { dst := some 56, op := Op.call { callee := Callee.value (Operand.func 8), args := #[Operand.tmp 55], argTypes := #[33] }, type := 24, pos := "theorems.go:52", after := #[{ on := 11, ground := Ground.data }, { on := 7, ground := Ground.chain }], guard := none }) rfl (fun K hK => ?_) ?_
    · go_simp
      refine (KKQ.out W B3 hc3 hb).mono ?_
      rintro e w' ⟨rfl, rfl⟩
      refine hK.out _ _ hb (fun hH => ?_)
      (try simp only [List.setIfInBounds_toArray, List.set_cons_zero, List.set_cons_succ])
      exact st34 _ _ _ _ _ hH hc4
    exact AllReadyH.nil
  have st23 : ∀ (W : World) (v1 : Value) (v2 : Value) (B3 : Nat), Below wr.heap.size wr W → W.cell? ⟨B3, 0, none⟩ = some (.slice x1 n c1) → wpAnyH Tryd.prog .any ops9 Q (fun W => Below wr.heap.size wr W) 10 #[true, true, true, true, true, true, true, true, true, true, true, true, false, false, true, true, true, false, false, false, false, false, false, false, false] ⟨#[.slice a0 n0 c0, .slice a1 n1 c1, .slice a2 n2 c2, s3, s4, s5, s6, .int .i64 (n : Int), .slice (some ⟨g, 0, none⟩) n n, s9, s10, s11, s12, s13, s14, s15, s16, s17, s18, s19, s20, s21, s22, s23, s24, s25, s26, s27, s28, s29, s30, s31, s32, s33, s34, s35, s36, s37, s38, s39, s40, s41, s42, s43, .slice (some ⟨g, 0, none⟩) n n, v1, .int .u32 cX, .slice a0 n0 c0, .int .i64 (n : Int), .slice x0 n c0, v2, .int .u32 cP, .slice a1 n1 c1, .int .i64 (n : Int), .slice x1 n c1, .slice (some ⟨B3, 0, none⟩) 1 1, s56, s57, .slice a2 n2 c2, .int .i64 (n : Int), .slice x2 n c2, s61, s62, s63, s64, s65, s66, s67], []⟩ W := by
    intro W v1 v2 B3 hb hc3
    refine wpAnyH_ready (rs := [12, 17]) (by kernel_rfl) (by simp) ?_
    refine AllReadyH.cons (o := { dst := some 56, op := Op.call { callee := Callee.value (Operand.func 8), args := #[Operand.tmp 55], argTypes := #[33] }, type := 24, pos := "theorems.go:52", after := #[{ on := 11, ground := Ground.data }, { on := 7, ground := Ground.chain }], guard := none }) rfl (fun K hK => ?_) ?_
    · go_simp
      refine (KKQ.out W B3 hc3 hb).mono ?_
      rintro e w' ⟨rfl, rfl⟩
      refine hK.out _ _ hb (fun hH => ?_)
      (try simp only [List.setIfInBounds_toArray, List.set_cons_zero, List.set_cons_succ])
      exact st3 _ _ _ _ hH 
    refine AllReadyH.cons (o := { dst := some 61, op := Op.buildSlice 33 1 #[(0, Operand.tmp 60)], type := 33, pos := "theorems.go:52", after := #[{ on := 16, ground := Ground.data }], guard := none }) rfl (fun K hK => ?_) ?_
    · go_simp
      refine hK.out _ _ (Below.alloc hb hb.size _) (fun hH => ?_)
      (try simp only [List.setIfInBounds_toArray, List.set_cons_zero, List.set_cons_succ])
      exact st234 _ _ _ _ _ hH (cell_keep hc3 _) (by first | (go_simp; done) | (simp [World.cell?]; done))
    exact AllReadyH.nil
  have st24 : ∀ (W : World) (v1 : Value) (v2 : Value) (B4 : Nat), Below wr.heap.size wr W → W.cell? ⟨B4, 0, none⟩ = some (.slice x2 n c2) → wpAnyH Tryd.prog .any ops9 Q (fun W => Below wr.heap.size wr W) 10 #[true, true, true, true, true, true, true, true, true, true, true, false, false, false, true, true, true, true, false, false, false, false, false, false, false] ⟨#[.slice a0 n0 c0, .slice a1 n1 c1, .slice a2 n2 c2, s3, s4, s5, s6, .int .i64 (n : Int), .slice (some ⟨g, 0, none⟩) n n, s9, s10, s11, s12, s13, s14, s15, s16, s17, s18, s19, s20, s21, s22, s23, s24, s25, s26, s27, s28, s29, s30, s31, s32, s33, s34, s35, s36, s37, s38, s39, s40, s41, s42, s43, .slice (some ⟨g, 0, none⟩) n n, v1, .int .u32 cX, .slice a0 n0 c0, .int .i64 (n : Int), .slice x0 n c0, v2, .int .u32 cP, .slice a1 n1 c1, .int .i64 (n : Int), .slice x1 n c1, s55, s56, s57, .slice a2 n2 c2, .int .i64 (n : Int), .slice x2 n c2, .slice (some ⟨B4, 0, none⟩) 1 1, s62, s63, s64, s65, s66, s67], []⟩ W := by
    intro W v1 v2 B4 hb hc4
    refine wpAnyH_ready (rs := [11]) (by kernel_rfl) (by simp) ?_
    refine AllReadyH.cons (o := { dst := some 55, op := Op.buildSlice 33 1 #[(0, Operand.tmp 54)], type := 33, pos := "theorems.go:52", after := #[{ on := 10, ground := Ground.data }], guard := none }) rfl (fun K hK => ?_) ?_
    · go_simp
      refine hK.out _ _ (Below.alloc hb hb.size _) (fun hH => ?_)
      (try simp only [List.setIfInBounds_toArray, List.set_cons_zero, List.set_cons_succ])
      exact st234 _ _ _ _ _ hH (by first | (go_simp; done) | (simp [World.cell?]; done)) (cell_keep hc4 _)
    exact AllReadyH.nil
  have st2 : ∀ (W : World) (v1 : Value) (v2 : Value), Below wr.heap.size wr W → wpAnyH Tryd.prog .any ops9 Q (fun W => Below wr.heap.size wr W) 11 #[true, true, true, true, true, true, true, true, true, true, true, false, false, false, true, true, true, false, false, false, false, false, false, false, false] ⟨#[.slice a0 n0 c0, .slice a1 n1 c1, .slice a2 n2 c2, s3, s4, s5, s6, .int .i64 (n : Int), .slice (some ⟨g, 0, none⟩) n n, s9, s10, s11, s12, s13, s14, s15, s16, s17, s18, s19, s20, s21, s22, s23, s24, s25, s26, s27, s28, s29, s30, s31, s32, s33, s34, s35, s36, s37, s38, s39, s40, s41, s42, s43, .slice (some ⟨g, 0, none⟩) n n, v1, .int .u32 cX, .slice a0 n0 c0, .int .i64 (n : Int), .slice x0 n c0, v2, .int .u32 cP, .slice a1 n1 c1, .int .i64 (n : Int), .slice x1 n c1, s55, s56, s57, .slice a2 n2 c2, .int .i64 (n : Int), .slice x2 n c2, s61, s62, s63, s64, s65, s66, s67], []⟩ W := by
    intro W v1 v2 hb
    refine wpAnyH_ready (rs := [11, 17]) (by kernel_rfl) (by simp) ?_
    refine AllReadyH.cons (o := { dst := some 55, op := Op.buildSlice 33 1 #[(0, Operand.tmp 54)], type := 33, pos := "theorems.go:52", after := #[{ on := 10, ground := Ground.data }], guard := none }) rfl (fun K hK => ?_) ?_
    · go_simp
      refine hK.out _ _ (Below.alloc hb hb.size _) (fun hH => ?_)
      (try simp only [List.setIfInBounds_toArray, List.set_cons_zero, List.set_cons_succ])
      exact st23 _ _ _ _ hH (by first | (go_simp; done) | (simp [World.cell?]; done))
    refine AllReadyH.cons (o := { dst := some 61, op := Op.buildSlice 33 1 #[(0, Operand.tmp 60)], type := 33, pos := "theorems.go:52", after := #[{ on := 16, ground := Ground.data }], guard := none }) rfl (fun K hK => ?_) ?_
    · go_simp
      refine hK.out _ _ (Below.alloc hb hb.size _) (fun hH => ?_)
      (try simp only [List.setIfInBounds_toArray, List.set_cons_zero, List.set_cons_succ])
      exact st24 _ _ _ _ hH (by first | (go_simp; done) | (simp [World.cell?]; done))
    exact AllReadyH.nil
  have st1234 : ∀ (W : World) (v1 : Value) (B2 : Nat) (B3 : Nat) (B4 : Nat), Below wr.heap.size wr W → W.cell? ⟨B2, 0, none⟩ = some (.slice x0 n c0) → W.cell? ⟨B3, 0, none⟩ = some (.slice x1 n c1) → W.cell? ⟨B4, 0, none⟩ = some (.slice x2 n c2) → wpAnyH Tryd.prog .any ops9 Q (fun W => Below wr.heap.size wr W) 10 #[true, true, true, true, true, true, true, false, true, true, true, true, false, false, true, true, true, true, false, false, false, false, false, false, false] ⟨#[.slice a0 n0 c0, .slice a1 n1 c1, .slice a2 n2 c2, s3, s4, s5, s6, .int .i64 (n : Int), .slice (some ⟨g, 0, none⟩) n n, s9, s10, s11, s12, s13, s14, s15, s16, s17, s18, s19, s20, s21, s22, s23, s24, s25, s26, s27, s28, s29, s30, s31, s32, s33, s34, s35, s36, s37, s38, s39, s40, s41, s42, s43, .slice (some ⟨g, 0, none⟩) n n, v1, .int .u32 cX, .slice a0 n0 c0, .int .i64 (n : Int), .slice x0 n c0, .slice (some ⟨B2, 0, none⟩) 1 1, s51, .slice a1 n1 c1, .int .i64 (n : Int), .slice x1 n c1, .slice (some ⟨B3, 0, none⟩) 1 1, s56, s57, .slice a2 n2 c2, .int .i64 (n : Int), .slice x2 n c2, .slice (some ⟨B4, 0, none⟩) 1 1, s62, s63, s64, s65, s66, s67], []⟩ W := by
    intro W v1 B2 B3 B4 hb hc2 hc3 hc4
    refine wpAnyH_ready (rs := [7]) (by kernel_rfl) (by simp) ?_
    refine AllReadyH.cons (o := { dst := some 51, op := Op.call { callee := Callee.value (Operand.func 8), args := #[Operand.tmp 50], argTypes := #[33] }, type := 24, pos := "theorems.go:52", after := #[{ on := 6, ground := Ground.data }, { on := 2, ground := Ground.chain }], guard := none }) rfl (fun K hK => ?_) ?_
    · go_simp
      refine (KKP.out W B2 hc2 hb).mono ?_
      rintro e w' ⟨rfl, rfl⟩
      refine hK.out _ _ hb (fun hH => ?_)
      (try simp only [List.setIfInBounds_toArray, List.set_cons_zero, List.set_cons_succ])
      exact st234 _ _ _ _ _ hH hc3 hc4
    exact AllReadyH.nil
  have st123 : ∀ (W : World) (v1 : Value) (B2 : Nat) (B3 : Nat), Below wr.heap.size wr W → W.cell? ⟨B2, 0, none⟩ = some (.slice x0 n c0) → W.cell? ⟨B3, 0, none⟩ = some (.slice x1 n c1) → wpAnyH Tryd.prog .any ops9 Q (fun W => Below wr.heap.size wr W) 11 #[true, true, true, true, true, true, true, false, true, true, true, true, false, false, true, true, true, false, false, false, false, false, false, false, false] ⟨#[.slice a0 n0 c0, .slice a1 n1 c1, .slice a2 n2 c2, s3, s4, s5, s6, .int .i64 (n : Int), .slice (some ⟨g, 0, none⟩) n n, s9, s10, s11, s12, s13, s14, s15, s16, s17, s18, s19, s20, s21, s22, s23, s24, s25, s26, s27, s28, s29, s30, s31, s32, s33, s34, s35, s36, s37, s38, s39, s40, s41, s42, s43, .slice (some ⟨g, 0, none⟩) n n, v1, .int .u32 cX, .slice a0 n0 c0, .int .i64 (n : Int), .slice x0 n c0, .slice (some ⟨B2, 0, none⟩) 1 1, s51, .slice a1 n1 c1, .int .i64 (n : Int), .slice x1 n c1, .slice (some ⟨B3, 0, none⟩) 1 1, s56, s57, .slice a2 n2 c2, .int .i64 (n : Int), .slice x2 n c2, s61, s62, s63, s64, s65, s66, s67], []⟩ W := by
    intro W v1 B2 B3 hb hc2 hc3
    refine wpAnyH_ready (rs := [7, 17]) (by kernel_rfl) (by simp) ?_
    refine AllReadyH.cons (o := { dst := some 51, op := Op.call { callee := Callee.value (Operand.func 8), args := #[Operand.tmp 50], argTypes := #[33] }, type := 24, pos := "theorems.go:52", after := #[{ on := 6, ground := Ground.data }, { on := 2, ground := Ground.chain }], guard := none }) rfl (fun K hK => ?_) ?_
    · go_simp
      refine (KKP.out W B2 hc2 hb).mono ?_
      rintro e w' ⟨rfl, rfl⟩
      refine hK.out _ _ hb (fun hH => ?_)
      (try simp only [List.setIfInBounds_toArray, List.set_cons_zero, List.set_cons_succ])
      exact st23 _ _ _ _ hH hc3
    refine AllReadyH.cons (o := { dst := some 61, op := Op.buildSlice 33 1 #[(0, Operand.tmp 60)], type := 33, pos := "theorems.go:52", after := #[{ on := 16, ground := Ground.data }], guard := none }) rfl (fun K hK => ?_) ?_
    · go_simp
      refine hK.out _ _ (Below.alloc hb hb.size _) (fun hH => ?_)
      (try simp only [List.setIfInBounds_toArray, List.set_cons_zero, List.set_cons_succ])
      exact st1234 _ _ _ _ _ hH (cell_keep hc2 _) (cell_keep hc3 _) (by first | (go_simp; done) | (simp [World.cell?]; done))
    exact AllReadyH.nil
  have st124 : ∀ (W : World) (v1 : Value) (B2 : Nat) (B4 : Nat), Below wr.heap.size wr W → W.cell? ⟨B2, 0, none⟩ = some (.slice x0 n c0) → W.cell? ⟨B4, 0, none⟩ = some (.slice x2 n c2) → wpAnyH Tryd.prog .any ops9 Q (fun W => Below wr.heap.size wr W) 11 #[true, true, true, true, true, true, true, false, true, true, true, false, false, false, true, true, true, true, false, false, false, false, false, false, false] ⟨#[.slice a0 n0 c0, .slice a1 n1 c1, .slice a2 n2 c2, s3, s4, s5, s6, .int .i64 (n : Int), .slice (some ⟨g, 0, none⟩) n n, s9, s10, s11, s12, s13, s14, s15, s16, s17, s18, s19, s20, s21, s22, s23, s24, s25, s26, s27, s28, s29, s30, s31, s32, s33, s34, s35, s36, s37, s38, s39, s40, s41, s42, s43, .slice (some ⟨g, 0, none⟩) n n, v1, .int .u32 cX, .slice a0 n0 c0, .int .i64 (n : Int), .slice x0 n c0, .slice (some ⟨B2, 0, none⟩) 1 1, s51, .slice a1 n1 c1, .int .i64 (n : Int), .slice x1 n c1, s55, s56, s57, .slice a2 n2 c2, .int .i64 (n : Int), .slice x2 n c2, .slice (some ⟨B4, 0, none⟩) 1 1, s62, s63, s64, s65, s66, s67], []⟩ W := by
    intro W v1 B2 B4 hb hc2 hc4
    refine wpAnyH_ready (rs := [7, 11]) (by kernel_rfl) (by simp) ?_
    refine AllReadyH.cons (o := { dst := some 51, op := Op.call { callee := Callee.value (Operand.func 8), args := #[Operand.tmp 50], argTypes := #[33] }, type := 24, pos := "theorems.go:52", after := #[{ on := 6, ground := Ground.data }, { on := 2, ground := Ground.chain }], guard := none }) rfl (fun K hK => ?_) ?_
    · go_simp
      refine (KKP.out W B2 hc2 hb).mono ?_
      rintro e w' ⟨rfl, rfl⟩
      refine hK.out _ _ hb (fun hH => ?_)
      (try simp only [List.setIfInBounds_toArray, List.set_cons_zero, List.set_cons_succ])
      exact st24 _ _ _ _ hH hc4
    refine AllReadyH.cons (o := { dst := some 55, op := Op.buildSlice 33 1 #[(0, Operand.tmp 54)], type := 33, pos := "theorems.go:52", after := #[{ on := 10, ground := Ground.data }], guard := none }) rfl (fun K hK => ?_) ?_
    · go_simp
      refine hK.out _ _ (Below.alloc hb hb.size _) (fun hH => ?_)
      (try simp only [List.setIfInBounds_toArray, List.set_cons_zero, List.set_cons_succ])
      exact st1234 _ _ _ _ _ hH (cell_keep hc2 _) (by first | (go_simp; done) | (simp [World.cell?]; done)) (cell_keep hc4 _)
    exact AllReadyH.nil
  have st134 : ∀ (W : World) (v1 : Value) (B3 : Nat) (B4 : Nat), Below wr.heap.size wr W → W.cell? ⟨B3, 0, none⟩ = some (.slice x1 n c1) → W.cell? ⟨B4, 0, none⟩ = some (.slice x2 n c2) → wpAnyH Tryd.prog .any ops9 Q (fun W => Below wr.heap.size wr W) 11 #[true, true, true, true, true, true, false, false, true, true, true, true, false, false, true, true, true, true, false, false, false, false, false, false, false] ⟨#[.slice a0 n0 c0, .slice a1 n1 c1, .slice a2 n2 c2, s3, s4, s5, s6, .int .i64 (n : Int), .slice (some ⟨g, 0, none⟩) n n, s9, s10, s11, s12, s13, s14, s15, s16, s17, s18, s19, s20, s21, s22, s23, s24, s25, s26, s27, s28, s29, s30, s31, s32, s33, s34, s35, s36, s37, s38, s39, s40, s41, s42, s43, .slice (some ⟨g, 0, none⟩) n n, v1, .int .u32 cX, .slice a0 n0 c0, .int .i64 (n : Int), .slice x0 n c0, s50, s51, .slice a1 n1 c1, .int .i64 (n : Int), .slice x1 n c1, .slice (some ⟨B3, 0, none⟩) 1 1, s56, s57, .slice a2 n2 c2, .int .i64 (n : Int), .slice x2 n c2, .slice (some ⟨B4, 0, none⟩) 1 1, s62, s63, s64, s65, s66, s67], []⟩ W := by
    intro W v1 B3 B4 hb hc3 hc4
    refine wpAnyH_ready (rs := [6]) (by kernel_rfl) (by simp) ?_
    refine AllReadyH.cons (o := { dst := some 50, op := Op.buildSlice 33 1 #[(0, Operand.tmp 49)], type := 33, pos := "theorems.go:52", after := #[{ on := 5, ground := Ground.data }], guard := none }) rfl (fun K hK => ?_) ?_
    · go_simp
      refine hK.out _ _ (Below.alloc hb hb.size _) (fun hH => ?_)
      (try simp only [List.setIfInBounds_toArray, List.set_cons_zero, List.set_cons_succ])
      exact st1234 _ _ _ _ _ hH (by first | (go_simp; done) | (simp [World.cell?]; done)) (cell_keep hc3 _) (cell_keep hc4 _)
    exact AllReadyH.nil
  have st12 : ∀ (W : World) (v1 : Value) (B2 : Nat), Below wr.heap.size wr W → W.cell? ⟨B2, 0, none⟩ = some (.slice x0 n c0) → wpAnyH Tryd.prog .any ops9 Q (fun W => Below wr.heap.size wr W) 12 #[true, true, true, true, true, true, true, false, true, true, true, false, false, false, true, true, true, false, false, false, false, false, false, false, false] ⟨#[.slice a0 n0 c0, .slice a1 n1 c1, .slice a2 n2 c2, s3, s4, s5, s6, .int .i64 (n : Int), .slice (some ⟨g, 0, none⟩) n n, s9, s10, s11, s12, s13, s14, s15, s16, s17, s18, s19, s20, s21, s22, s23, s24, s25, s26, s27, s28, s29, s30, s31, s32, s33, s34, s35, s36, s37, s38, s39, s40, s41, s42, s43, .slice (some ⟨g, 0, none⟩) n n, v1, .int .u32 cX, .slice a0 n0 c0, .int .i64 (n : Int), .slice x0 n c0, .slice (some ⟨B2, 0, none⟩) 1 1, s51, .slice a1 n1 c1, .int .i64 (n : Int), .slice x1 n c1, s55, s56, s57, .slice a2 n2 c2, .int .i64 (n : Int), .slice x2 n c2, s61, s62, s63, s64, s65, s66, s67], []⟩ W := by
    intro W v1 B2 hb hc2
    refine wpAnyH_ready (rs := [7, 11, 17]) (by kernel_rfl) (by simp) ?_
    refine AllReadyH.cons (o := { dst := some 51, op := Op.call { callee := Callee.value (Operand.func 8), args := #[Operand.tmp 50], argTypes := #[33] }, type := 24, pos := "theorems.go:52", after := #[{ on := 6, ground := Ground.data }, { on := 2, ground := Ground.chain }], guard := none }) rfl (fun K hK => ?_) ?_
    · go_simp
      refine (KKP.out W B2 hc2 hb).mono ?_
      rintro e w' ⟨rfl, rfl⟩
      refine hK.out _ _ hb (fun hH => ?_)
      (try simp only [List.setIfInBounds_toArray, List.set_cons_zero, List.set_cons_succ])
      exact st2 _ _ _ hH 
    refine AllReadyH.cons (o := { dst := some 55, op := Op.buildSlice 33 1 #[(0, Operand.tmp 54)], type := 33, pos := "theorems.go:52", after := #[{ on := 10, ground := Ground.data }], guard := none }) rfl (fun K hK => ?_) ?_
    · go_simp
      refine hK.out _ _ (Below.alloc hb hb.size _) (fun hH => ?_)
      (try simp only [List.setIfInBounds_toArray, List.set_cons_zero, List.set_cons_succ])
      exact st123 _ _ _ _ hH (cell_keep hc2 _) (by first | (go_simp; done) | (simp [World.cell?]; done))
    refine AllReadyH.cons (o := { dst := some 61, op := Op.buildSlice 33 1 #[(0, Operand.tmp 60)], type := 33, pos := "theorems.go:52", after := #[{ on := 16, ground := Ground.data }], guard := none }) rfl (fun K hK => ?_) ?_
    · go_simp
      refine hK.out _ _ (Below.alloc hb hb.size _) (fun hH => ?_)
      (try simp only [List.setIfInBounds_toArray, List.set_cons_zero, List.set_cons_succ])
      exact st124 _ _ _ _ hH (cell_keep hc2 _) (by first | (go_simp; done) | (simp [World.cell?]; done))
    exact AllReadyH.nil
  have st13 : ∀ (W : World) (v1 : Value) (B3 : Nat), Below wr.heap.size wr W → W.cell? ⟨B3, 0, none⟩ = some (.slice x1 n c1) → wpAnyH Tryd.prog .any ops9 Q (fun W => Below wr.heap.size wr W) 12 #[true, true, true, true, true, true, false, false, true, true, true, true, false, false, true, true, true, false, false, false, false, false, false, false, false] ⟨#[.slice a0 n0 c0, .slice a1 n1 c1, .slice a2 n2 c2, s3, s4, s5, s6, .int .i64 (n : Int), .slice (some ⟨g, 0, none⟩) n n, s9, s10, s11, s12, s13, s14, s15, s16, s17, s18, s19, s20, s21, s22, s23, s24, s25, s26, s27, s28, s29, s30, s31, s32, s33, s34, s35, s36, s37, s38, s39, s40, s41, s42, s43, .slice (some ⟨g, 0, none⟩) n n, v1, .int .u32 cX, .slice a0 n0 c0, .int .i64 (n : Int), .slice x0 n c0, s50, s51, .slice a1 n1 c1, .int .i64 (n : Int), .slice x1 n c1, .slice (some ⟨B3, 0, none⟩) 1 1, s56, s57, .slice a2 n2 c2, .int .i64 (n : Int), .slice x2 n c2, s61, s62, s63, s64, s65, s66, s67], []⟩ W := by
    intro W v1 B3 hb hc3
    refine wpAnyH_ready (rs := [6, 17]) (by kernel_rfl) (by simp) ?_
    refine AllReadyH.cons (o := { dst := some 50, op := Op.buildSlice 33 1 #[(0, Operand.tmp 49)], type := 33, pos := "theorems.go:52", after := #[{ on := 5, ground := Ground.data }], guard := none }) rfl (fun K hK => ?_) ?_
    · go_simp
      refine hK.out _ _ (Below.alloc hb hb.size _) (fun hH => ?_)
      (try simp only [List.setIfInBounds_toArray, List.set_cons_zero, List.set_cons_succ])
      exact st123 _ _ _ _ hH (by first | (go_simp; done) | (simp [World.cell?]; done)) (cell_keep hc3 _)
    refine AllReadyH.cons (o := { dst := some 61, op := Op.buildSlice 33 1 #[(0, Operand.tmp 60)], type := 33, pos := "theorems.go:52", after := #[{ on := 16, ground := Ground.data }], guard := none }) rfl (fun K hK => ?_) ?_
    · go_simp
      refine hK.out _ _ (Below.alloc hb hb.size _) (fun hH => ?_)
      (try simp only [List.setIfInBounds_toArray, List.set_cons_zero, List.set_cons_succ])
      exact st134 _ _ _ _ hH (cell_keep hc3 _) (by first | (go_simp; done) | (simp [World.cell?]; done))
    exact AllReadyH.nil
  have st14 : ∀ (W : World) (v1 : Value) (B4 : Nat), Below wr.heap.size wr W → W.cell? ⟨B4, 0, none⟩ = some (.slice x2 n c2) → wpAnyH Tryd.prog .any ops9 Q (fun W => Below wr.heap.size wr W) 12 #[true, true, true, true, true, true, false, false, true, true, true, false, false, false, true, true, true, true, false, false, false, false, false, false, false] ⟨#[.slice a0 n0 c0, .slice a1 n1 c1, .slice a2 n2 c2, s3, s4, s5, s6, .int .i64 (n : Int), .slice (some ⟨g, 0, none⟩) n n, s9, s10, s11, s12, s13, s14, s15, s16, s17, s18, s19, s20, s21, s22, s23, s24, s25, s26, s27, s28, s29, s30, s31, s32, s33, s34, s35, s36, s37, s38, s39, s40, s41, s42, s43, .slice (some ⟨g, 0, none⟩) n n, v1, .int .u32 cX, .slice a0 n0 c0, .int .i64 (n : Int), .slice x0 n c0, s50, s51, .slice a1 n1 c1, .int .i64 (n : Int), .slice x1 n c1, s55, s56, s57, .slice a2 n2 c2, .int .i64 (n : Int), .slice x2 n c2, .slice (some ⟨B4, 0, none⟩) 1 1, s62, s63, s64, s65, s66, s67], []⟩ W := by
    intro W v1 B4 hb hc4
    refine wpAnyH_ready (rs := [6, 11]) (by kernel_rfl) (by simp) ?_
    refine AllReadyH.cons (o := { dst := some 50, op := Op.buildSlice 33 1 #[(0, Operand.tmp 49)], type := 33, pos := "theorems.go:52", after := #[{ on := 5, ground := Ground.data }], guard := none }) rfl (fun K hK => ?_) ?_
    · go_simp
      refine hK.out _ _ (Below.alloc hb hb.size _) (fun hH => ?_)
      (try simp only [List.setIfInBounds_toArray, List.set_cons_zero, List.set_cons_succ])
      exact st124 _ _ _ _ hH (by first | (go_simp; done) | (simp [World.cell?]; done)) (cell_keep hc4 _)
    refine AllReadyH.cons (o := { dst := some 55, op := Op.buildSlice 33 1 #[(0, Operand.tmp 54)], type := 33, pos := "theorems.go:52", after := #[{ on := 10, ground := Ground.data }], guard := none }) rfl (fun K hK => ?_) ?_
    · go_simp
      refine hK.out _ _ (Below.alloc hb hb.size _) (fun hH => ?_)
      (try simp only [List.setIfInBounds_toArray, List.set_cons_zero, List.set_cons_succ])
      exact st134 _ _ _ _ hH (by first | (go_simp; done) | (simp [World.cell?]; done)) (cell_keep hc4 _)
    exact AllReadyH.nil
  have st1 : ∀ (W : World) (v1 : Value), Below wr.heap.size wr W → wpAnyH Tryd.prog .any ops9 Q (fun W => Below wr.heap.size wr W) 13 #[true, true, true, true, true, true, false, false, true, true, true, false, false, false, true, true, true, false, false, false, false, false, false, false, false] ⟨#[.slice a0 n0 c0, .slice a1 n1 c1, .slice a2 n2 c2, s3, s4, s5, s6, .int .i64 (n : Int), .slice (some ⟨g, 0, none⟩) n n, s9, s10, s11, s12, s13, s14, s15, s16, s17, s18, s19, s20, s21, s22, s23, s24, s25, s26, s27, s28, s29, s30, s31, s32, s33, s34, s35, s36, s37, s38, s39, s40, s41, s42, s43, .slice (some ⟨g, 0, none⟩) n n, v1, .int .u32 cX, .slice a0 n0 c0, .int .i64 (n : Int), .slice x0 n c0, s50, s51, .slice a1 n1 c1, .int .i64 (n : Int), .slice x1 n c1, s55, s56, s57, .slice a2 n2 c2, .int .i64 (n : Int), .slice x2 n c2, s61, s62, s63, s64, s65, s66, s67], []⟩ W := by
    intro W v1 hb
    refine wpAnyH_ready (rs := [6, 11, 17]) (by kernel_rfl) (by simp) ?_
    refine AllReadyH.cons (o := { dst := some 50, op := Op.buildSlice 33 1 #[(0, Operand.tmp 49)], type := 33, pos := "theorems.go:52", after := #[{ on := 5, ground := Ground.data }], guard := none }) rfl (fun K hK => ?_) ?_
    · go_simp
      refine hK.out _ _ (Below.alloc hb hb.size _) (fun hH => ?_)
      (try simp only [List.setIfInBounds_toArray, List.set_cons_zero, List.set_cons_succ])
      exact st12 _ _ _ hH (by first | (go_simp; done) | (simp [World.cell?]; done))
    refine AllReadyH.cons (o := { dst := some 55, op := Op.buildSlice 33 1 #[(0, Operand.tmp 54)], type := 33, pos := "theorems.go:52", after := #[{ on := 10, ground := Ground.data }], guard := none }) rfl (fun K hK => ?_) ?_
    · go_simp
      refine hK.out _ _ (Below.alloc hb hb.size _) (fun hH => ?_)
      (try simp only [List.setIfInBounds_toArray, List.set_cons_zero, List.set_cons_succ])
      exact st13 _ _ _ hH (by first | (go_simp; done) | (simp [World.cell?]; done))
    refine AllReadyH.cons (o := { dst := some 61, op := Op.buildSlice 33 1 #[(0, Operand.tmp 60)], type := 33, pos := "theorems.go:52", after := #[{ on := 16, ground := Ground.data }], guard := none }) rfl (fun K hK => ?_) ?_
    · go_simp
      refine hK.out _ _ (Below.alloc hb hb.size _) (fun hH => ?_)
      (try simp only [List.setIfInBounds_toArray, List.set_cons_zero, List.set_cons_succ])
      exact st14 _ _ _ hH (by first | (go_simp; done) | (simp [World.cell?]; done))
    exact AllReadyH.nil
  have st01234 : ∀ (W : World) (B1 : Nat) (B2 : Nat) (B3 : Nat) (B4 : Nat), Below wr.heap.size wr W → W.cell? ⟨B1, 0, none⟩ = some (.slice (some ⟨g, 0, none⟩) n n) → W.cell? ⟨B2, 0, none⟩ = some (.slice x0 n c0) → W.cell? ⟨B3, 0, none⟩ = some (.slice x1 n c1) → W.cell? ⟨B4, 0, none⟩ = some (.slice x2 n c2) → wpAnyH Tryd.prog .any ops9 Q (fun W => Below wr.heap.size wr W) 11 #[true, true, false, true, true, true, true, false, true, true, true, true, false, false, true, true, true, true, false, false, false, false, false, false, false] ⟨#[.slice a0 n0 c0, .slice a1 n1 c1, .slice a2 n2 c2, s3, s4, s5, s6, .int .i64 (n : Int), .slice (some ⟨g, 0, none⟩) n n, s9, s10, s11, s12, s13, s14, s15, s16, s17, s18, s19, s20, s21, s22, s23, s24, s25, s26, s27, s28, s29, s30, s31, s32, s33, s34, s35, s36, s37, s38, s39, s40, s41, s42, s43, .slice (some ⟨g, 0, none⟩) n n, .slice (some ⟨B1, 0, none⟩) 1 1, s46, .slice a0 n0 c0, .int .i64 (n : Int), .slice x0 n c0, .slice (some ⟨B2, 0, none⟩) 1 1, s51, .slice a1 n1 c1, .int .i64 (n : Int), .slice x1 n c1, .slice (some ⟨B3, 0, none⟩) 1 1, s56, s57, .slice a2 n2 c2, .int .i64 (n : Int), .slice x2 n c2, .slice (some ⟨B4, 0, none⟩) 1 1, s62, s63, s64, s65, s66, s67], []⟩ W := by
    intro W B1 B2 B3 B4 hb hc1 hc2 hc3 hc4
    refine wpAnyH_ready (rs := [2]) (by kernel_rfl) (by simp) ?_
    refine AllReadyH.cons (o := { dst := some 46, op := Op.call { callee := Callee.value (Operand.func 8), args := #[Operand.tmp 45], argTypes := #[33] }, type := 24, pos := "theorems.go:52", after := #[{ on := 1, ground := Ground.data }], guard := none }) rfl (fun K hK => ?_) ?_
    · go_simp
      refine (KKX.out W B1 hc1 hb).mono ?_
      rintro e w' ⟨rfl, rfl⟩
      refine hK.out _ _ hb (fun hH => ?_)
      (try simp only [List.setIfInBounds_toArray, List.set_cons_zero, List.set_cons_succ])
      exact st1234 _ _ _ _ _ hH hc2 hc3 hc4
    exact AllReadyH.nil
  have st0123 : ∀ (W : World) (B1 : Nat) (B2 : Nat) (B3 : Nat), Below wr.heap.size wr W → W.cell? ⟨B1, 0, none⟩ = some (.slice (some ⟨g, 0, none⟩) n n) → W.cell? ⟨B2, 0, none⟩ = some (.slice x0 n c0) → W.cell? ⟨B3, 0, none⟩ = some (.slice x1 n c1) → wpAnyH Tryd.prog .any ops9 Q (fun W => Below wr.heap.size wr W) 12 #[true, true, false, true, true, true, true, false, true, true, true, true, false, false, true, true, true, false, false, false, false, false, false, false, false] ⟨#[.slice a0 n0 c0, .slice a1 n1 c1, .slice a2 n2 c2, s3, s4, s5, s6, .int .i64 (n : Int), .slice (some ⟨g, 0, none⟩) n n, s9, s10, s11, s12, s13, s14, s15, s16, s17, s18, s19, s20, s21, s22, s23, s24, s25, s26, s27, s28, s29, s30, s31, s32, s33, s34, s35, s36, s37, s38, s39, s40, s41, s42, s43, .slice (some ⟨g, 0, none⟩) n n, .slice (some ⟨B1, 0, none⟩) 1 1, s46, .slice a0 n0 c0, .int .i64 (n : Int), .slice x0 n c0, .slice (some ⟨B2, 0, none⟩) 1 1, s51, .slice a1 n1 c1, .int .i64 (n : Int), .slice x1 n c1, .slice (some ⟨B3, 0, none⟩) 1 1, s56, s57, .slice a2 n2 c2, .int .i64 (n : Int), .slice x2 n c2, s61, s62, s63, s64, s65, s66, s67], []⟩ W := by
    intro W B1 B2 B3 hb hc1 hc2 hc3
    refine wpAnyH_ready (rs := [2, 17]) (by kernel_rfl) (by simp) ?_
    refine AllReadyH.cons (o := { dst := some 46, op := Op.call { callee := Callee.value (Operand.func 8), args := #[Operand.tmp 45], argTypes := #[33] }, type := 24, pos := "theorems.go:52", after := #[{ on := 1, ground := Ground.data }], guard := none }) rfl (fun K hK => ?_) ?_
    · go_simp
      refine (KKX.out W B1 hc1 hb).mono ?_
      rintro e w' ⟨rfl, rfl⟩
      refine hK.out _ _ hb (fun hH => ?_)
      (try simp only [List.setIfInBounds_toArray, List.set_cons_zero, List.set_cons_succ])
      exact st123 _ _ _ _ hH hc2 hc3
    refine AllReadyH.cons (o := { dst := some 61, op := Op.buildSlice 33 1 #[(0, Operand.tmp 60)], type := 33, pos := "theorems.go:52", after := #[{ on := 16, ground := Ground.data }], guard := none }) rfl (fun K hK => ?_) ?_
    · go_simp
      refine hK.out _ _ (Below.alloc hb hb.size _) (fun hH => ?_)
      (try simp only [List.setIfInBounds_toArray, List.set_cons_zero, List.set_cons_succ])
      exact st01234 _ _ _ _ _ hH (cell_keep hc1 _) (cell_keep hc2 _) (cell_keep hc3 _) (by first | (go_simp; done) | (simp [World.cell?]; done))
    exact AllReadyH.nil
  have st0124 : ∀ (W : World) (B1 : Nat) (B2 : Nat) (B4 : Nat), Below wr.heap.size wr W → W.cell? ⟨B1, 0, none⟩ = some (.slice (some ⟨g, 0, none⟩) n n) → W.cell? ⟨B2, 0, none⟩ = some (.slice x0 n c0) → W.cell? ⟨B4, 0, none⟩ = some (.slice x2 n c2) → wpAnyH Tryd.prog .any ops9 Q (fun W => Below wr.heap.size wr W) 12 #[true, true, false, true, true, true, true, false, true, true, true, false, false, false, true, true, true, true, false, false, false, false, false, false, false] ⟨#[.slice a0 n0 c0, .slice a1 n1 c1, .slice a2 n2 c2, s3, s4, s5, s6, .int .i64 (n : Int), .slice (some ⟨g, 0, none⟩) n n, s9, s10, s11, s12, s13, s14, s15, s16, s17, s18, s19, s20, s21, s22, s23, s24, s25, s26, s27, s28, s29, s30, s31, s32, s33, s34, s35, s36, s37, s38, s39, s40, s41, s42, s43, .slice (some ⟨g, 0, none⟩) n n, .slice (some ⟨B1, 0, none⟩) 1 1, s46, .slice a0 n0 c0, .int .i64 (n : Int), .slice x0 n c0, .slice (some ⟨B2, 0, none⟩) 1 1, s51, .slice a1 n1 c1, .int .i64 (n : Int), .slice x1 n c1, s55, s56, s57, .slice a2 n2 c2, .int .i64 (n : Int), .slice x2 n c2, .slice (some ⟨B4, 0, none⟩) 1 1, s62, s63, s64, s65, s66, s67], []⟩ W := by
    intro W B1 B2 B4 hb hc1 hc2 hc4
    refine wpAnyH_ready (rs := [2, 11]) (by kernel_rfl) (by simp) ?_
    refine AllReadyH.cons (o := { dst := some 46, op := Op.call { callee := Callee.value (Operand.func 8), args := #[Operand.tmp 45], argTypes := #[33] }, type := 24, pos := "theorems.go:52", after := #[{ on := 1, ground := Ground.data }], guard := none }) rfl (fun K hK => ?_) ?_
    · go_simp
      refine (KKX.out W B1 hc1 hb).mono ?_
      rintro e w' ⟨rfl, rfl⟩
      refine hK.out _ _ hb (fun hH => ?_)
      (try simp only [List.setIfInBounds_toArray, List.set_cons_zero, List.set_cons_succ])
      exact st124 _ _ _ _ hH hc2 hc4
    refine AllReadyH.cons (o := { dst := some 55, op := Op.buildSlice 33 1 #[(0, Operand.tmp 54)], type := 33, pos := "theorems.go:52", after := #[{ on := 10, ground := Ground.data }], guard := none }) rfl (fun K hK => ?_) ?_
    · go_simp
      refine hK.out _ _ (Below.alloc hb hb.size _) (fun hH => ?_)
      (try simp only [List.setIfInBounds_toArray, List.set_cons_zero, List.set_cons_succ])
      exact st01234 _ _ _ _ _ hH (cell_keep hc1 _) (cell_keep hc2 _) (by first | (go_simp; done) | (simp [World.cell?]; done)) (cell_keep hc4 _)
    exact AllReadyH.nil
  have st0134 : ∀ (W : World) (B1 : Nat) (B3 : Nat) (B4 : Nat), Below wr.heap.size wr W → W.cell? ⟨B1, 0, none⟩ = some (.slice (some ⟨g, 0, none⟩) n n) → W.cell? ⟨B3, 0, none⟩ = some (.slice x1 n c1) → W.cell? ⟨B4, 0, none⟩ = some (.slice x2 n c2) → wpAnyH Tryd.prog .any ops9 Q (fun W => Below wr.heap.size wr W) 12 #[true, true, false, true, true, true, false, false, true, true, true, true, false, false, true, true, true, true, false, false, false, false, false, false, false] ⟨#[.slice a0 n0 c0, .slice a1 n1 c1, .slice a2 n2 c2, s3, s4, s5, s6, .int .i64 (n : Int), .slice (some ⟨g, 0, none⟩) n n, s9, s10, s11, s12, s13, s14, s15, s16, s17, s18, s19, s20, s21, s22, s23, s24, s25, s26, s27, s28, s29, s30, s31, s32, s33, s34, s35, s36, s37, s38, s39, s40, s41, s42, s43, .slice (some ⟨g, 0, none⟩) n n, .slice (some ⟨B1, 0, none⟩) 1 1, s46, .slice a0 n0 c0, .int .i64 (n : Int), .slice x0 n c0, s50, s51, .slice a1 n1 c1, .int .i64 (n : Int), .slice x1 n c1, .slice (some ⟨B3, 0, none⟩) 1 1, s56, s57, .slice a2 n2 c2, .int .i64 (n : Int), .slice x2 n c2, .slice (some ⟨B4, 0, none⟩) 1 1, s62, s63, s64, s65, s66, s67], []⟩ W := by
    intro W B1 B3 B4 hb hc1 hc3 hc4
    refine wpAnyH_ready (rs := [2, 6]) (by kernel_rfl) (by simp) ?_
    refine AllReadyH.cons (o := { dst := some 46, op := Op.call { callee := Callee.value (Operand.func 8), args := #[Operand.tmp 45], argTypes := #[33] }, type := 24, pos := "theorems.go:52", after := #[{ on := 1, ground := Ground.data }], guard := none }) rfl (fun K hK => ?_) ?_
    · go_simp
      refine (KKX.out W B1 hc1 hb).mono ?_
      rintro e w' ⟨rfl, rfl⟩
      refine hK.out _ _ hb (fun hH => ?_)
      (try simp only [List.setIfInBounds_toArray, List.set_cons_zero, List.set_cons_succ])
      exact st134 _ _ _ _ hH hc3 hc4
    refine AllReadyH.cons (o := { dst := some 50, op := Op.buildSlice 33 1 #[(0, Operand.tmp 49)], type := 33, pos := "theorems.go:52", after := #[{ on := 5, ground := Ground.data }], guard := none }) rfl (fun K hK => ?_) ?_
    · go_simp
      refine hK.out _ _ (Below.alloc hb hb.size _) (fun hH => ?_)
      (try simp only [List.setIfInBounds_toArray, List.set_cons_zero, List.set_cons_succ])
      exact st01234 _ _ _ _ _ hH (cell_keep hc1 _) (by first | (go_simp; done) | (simp [World.cell?]; done)) (cell_keep hc3 _) (cell_keep hc4 _)
    exact AllReadyH.nil
  have st0234 : ∀ (W : World) (B2 : Nat) (B3 : Nat) (B4 : Nat), Below wr.heap.size wr W → W.cell? ⟨B2, 0, none⟩ = some (.slice x0 n c0) → W.cell? ⟨B3, 0, none⟩ = some (.slice x1 n c1) → W.cell? ⟨B4, 0, none⟩ = some (.slice x2 n c2) → wpAnyH Tryd.prog .any ops9 Q (fun W => Below wr.heap.size wr W) 12 #[true, false, false, true, true, true, true, false, true, true, true, true, false, false, true, true, true, true, false, false, false, false, false, false, false] ⟨#[.slice a0 n0 c0, .slice a1 n1 c1, .slice a2 n2 c2, s3, s4, s5, s6, .int .i64 (n : Int), .slice (some ⟨g, 0, none⟩) n n, s9, s10, s11, s12, s13, s14, s15, s16, s17, s18, s19, s20, s21, s22, s23, s24, s25, s26, s27, s28, s29, s30, s31, s32, s33, s34, s35, s36, s37, s38, s39, s40, s41, s42, s43, .slice (some ⟨g, 0, none⟩) n n, s45, s46, .slice a0 n0 c0, .int .i64 (n : Int), .slice x0 n c0, .slice (some ⟨B2, 0, none⟩) 1 1, s51, .slice a1 n1 c1, .int .i64 (n : Int), .slice x1 n c1, .slice (some ⟨B3, 0, none⟩) 1 1, s56, s57, .slice a2 n2 c2, .int .i64 (n : Int), .slice x2 n c2, .slice (some ⟨B4, 0, none⟩) 1 1, s62, s63, s64, s65, s66, s67], []⟩ W := by
    intro W B2 B3 B4 hb hc2 hc3 hc4
    refine wpAnyH_ready (rs := [1]) (by kernel_rfl) (by simp) ?_
    refine AllReadyH.cons (o := { dst := some 45, op := Op.buildSlice 33 1 #[(0, Operand.tmp 44)], type := 33, pos := "theorems.go:52", after := #[{ on := 0, ground := Ground.data }], guard := none }) rfl (fun K hK => ?_) ?_
    · go_simp
      refine hK.out _ _ (Below.alloc hb hb.size _) (fun hH => ?_)
      (try simp only [List.setIfInBounds_toArray, List.set_cons_zero, List.set_cons_succ])
      exact st01234 _ _ _ _ _ hH (by first | (go_simp; done) | (simp [World.cell?]; done)) (cell_keep hc2 _) (cell_keep hc3 _) (cell_keep hc4 _)
    exact AllReadyH.nil
  have st012 : ∀ (W : World) (B1 : Nat) (B2 : Nat), Below wr.heap.size wr W → W.cell? ⟨B1, 0, none⟩ = some (.slice (some ⟨g, 0, none⟩) n n) → W.cell? ⟨B2, 0, none⟩ = some (.slice x0 n c0) → wpAnyH Tryd.prog .any ops9 Q (fun W => Below wr.heap.size wr W) 13 #[true, true, false, true, true, true, true, false, true, true, true, false, false, false, true, true, true, false, false, false, false, false, false, false, false] ⟨#[.slice a0 n0 c0, .slice a1 n1 c1, .slice a2 n2 c2, s3, s4, s5, s6, .int .i64 (n : Int), .slice (some ⟨g, 0, none⟩) n n, s9, s10, s11, s12, s13, s14, s15, s16, s17, s18, s19, s20, s21, s22, s23, s24, s25, s26, s27, s28, s29, s30, s31, s32, s33, s34, s35, s36, s37, s38, s39, s40, s41, s42, s43, .slice (some ⟨g, 0, none⟩) n n, .slice (some ⟨B1, 0, none⟩) 1 1, s46, .slice a0 n0 c0, .int .i64 (n : Int), .slice x0 n c0, .slice (some ⟨B2, 0, none⟩) 1 1, s51, .slice a1 n1 c1, .int .i64 (n : Int), .slice x1 n c1, s55, s56, s57, .slice a2 n2 c2, .int .i64 (n : Int), .slice x2 n c2, s61, s62, s63, s64, s65, s66, s67], []⟩ W := by
    intro W B1 B2 hb hc1 hc2
    refine wpAnyH_ready (rs := [2, 11, 17]) (by kernel_rfl) (by simp) ?_
    refine AllReadyH.cons (o := { dst := some 46, op := Op.call { callee := Callee.value (Operand.func 8), args := #[Operand.tmp 45], argTypes := #[33] }, type := 24, pos := "theorems.go:52", after := #[{ on := 1, ground := Ground.data }], guard := none }) rfl (fun K hK => ?_) ?_
    · go_simp
      refine (KKX.out W B1 hc1 hb).mono ?_
      rintro e w' ⟨rfl, rfl⟩
      refine hK.out _ _ hb (fun hH => ?_)
      (try simp only [List.setIfInBounds_toArray, List.set_cons_zero, List.set_cons_succ])
      exact st12 _ _ _ hH hc2
    refine AllReadyH.cons (o := { dst := some 55, op := Op.buildSlice 33 1 #[(0, Operand.tmp 54)], type := 33, pos := "theorems.go:52", after := #[{ on := 10, ground := Ground.data }], guard := none }) rfl (fun K hK => ?_) ?_
    · go_simp
      refine hK.out _ _ (Below.alloc hb hb.size _) (fun hH => ?_)
      (try simp only [List.setIfInBounds_toArray, List.set_cons_zero, List.set_cons_succ])
      exact st0123 _ _ _ _ hH (cell_keep hc1 _) (cell_keep hc2 _) (by first | (go_simp; done) | (simp [World.cell?]; done))
    refine AllReadyH.cons (o := { dst := some 61, op := Op.buildSlice 33 1 #[(0, Operand.tmp 60)], type := 33, pos := "theorems.go:52", after := #[{ on := 16, ground := Ground.data }], guard := none }) rfl (fun K hK => ?_) ?_
    · go_simp
      refine hK.out _ _ (Below.alloc hb hb.size _) (fun hH => ?_)
      (try simp only [List.setIfInBounds_toArray, List.set_cons_zero, List.set_cons_succ])
      exact st0124 _ _ _ _ hH (cell_keep hc1 _) (cell_keep hc2 _) (by first | (go_simp; done) | (simp [World.cell?]; done))
    exact AllReadyH.nil
  have st013 : ∀ (W : World) (B1 : Nat) (B3 : Nat), Below wr.heap.size wr W → W.cell? ⟨B1, 0, none⟩ = some (.slice (some ⟨g, 0, none⟩) n n) → W.cell? ⟨B3, 0, none⟩ = some (.slice x1 n c1) → wpAnyH Tryd.prog .any ops9 Q (fun W => Below wr.heap.size wr W) 13 #[true, true, false, true, true, true, false, false, true, true, true, true, false, false, true, true, true, false, false, false, false, false, false, false, false] ⟨#[.slice a0 n0 c0, .slice a1 n1 c1, .slice a2 n2 c2, s3, s4, s5, s6, .int .i64 (n : Int), .slice (some ⟨g, 0, none⟩) n n, s9, s10, s11, s12, s13, s14, s15, s16, s17, s18, s19, s20, s21, s22, s23, s24, s25, s26, s27, s28, s29, s30, s31, s32, s33, s34, s35, s36, s37, s38, s39, s40, s41, s42, s43, .slice (some ⟨g, 0, none⟩) n n, .slice (some ⟨B1, 0, none⟩) 1 1, s46, .slice a0 n0 c0, .int .i64 (n : Int), .slice x0 n c0, s50, s51, .slice a1 n1 c1, .int .i64 (n : Int), .slice x1 n c1, .slice (some ⟨B3, 0, none⟩) 1 1, s56, s57, .slice a2 n2 c2, .int .i64 (n : Int), .slice x2 n c2, s61, s62, s63, s64, s65, s66, s67], []⟩ W := by
    intro W B1 B3 hb hc1 hc3
    refine wpAnyH_ready (rs := [2, 6, 17]) (by kernel_rfl) (by simp) ?_
    refine AllReadyH.cons (o := { dst := some 46, op := Op.call { callee := Callee.value (Operand.func 8), args := #[Operand.tmp 45], argTypes := #[33] }, type := 24, pos := "theorems.go:52", after := #[{ on := 1, ground := Ground.data }], guard := none }) rfl (fun K hK => ?_) ?_
    · go_simp
      refine (KKX.out W B1 hc1 hb).mono ?_
      rintro e w' ⟨rfl, rfl⟩
      refine hK.out _ _ hb (fun hH => ?_)
      (try simp only [List.setIfInBounds_toArray, List.set_cons_zero, List.set_cons_succ])
      exact st13 _ _ _ hH hc3
    refine AllReadyH.cons (o := { dst := some 50, op := Op.buildSlice 33 1 #[(0, Operand.tmp 49)], type := 33, pos := "theorems.go:52", after := #[{ on := 5, ground := Ground.data }], guard := none }) rfl (fun K hK => ?_) ?_
    · go_simp
      refine hK.out _ _ (Below.alloc hb hb.size _) (fun hH => ?_)
      (try simp only [List.setIfInBounds_toArray, List.set_cons_zero, List.set_cons_succ])
      exact st0123 _ _ _ _ hH (cell_keep hc1 _) (by first | (go_simp; done) | (simp [World.cell?]; done)) (cell_keep hc3 _)
    refine AllReadyH.cons (o := { dst := some 61, op := Op.buildSlice 33 1 #[(0, Operand.tmp 60)], type := 33, pos := "theorems.go:52", after := #[{ on := 16, ground := Ground.data }], guard := none }) rfl (fun K hK => ?_) ?_
    · go_simp
      refine hK.out _ _ (Below.alloc hb hb.size _) (fun hH => ?_)
      (try simp only [List.setIfInBounds_toArray, List.set_cons_zero, List.set_cons_succ])
      exact st0134 _ _ _ _ hH (cell_keep hc1 _) (cell_keep hc3 _) (by first | (go_simp; done) | (simp [World.cell?]; done))
    exact AllReadyH.nil
  have st014 : ∀ (W : World) (B1 : Nat) (B4 : Nat), Below wr.heap.size wr W → W.cell? ⟨B1, 0, none⟩ = some (.slice (some ⟨g, 0, none⟩) n n) → W.cell? ⟨B4, 0, none⟩ = some (.slice x2 n c2) → wpAnyH Tryd.prog .any ops9 Q (fun W => Below wr.heap.size wr W) 13 #[true, true, false, true, true, true, false, false, true, true, true, false, false, false, true, true, true, true, false, false, false, false, false, false, false] ⟨#[.slice a0 n0 c0, .slice a1 n1 c1, .slice a2 n2 c2, s3, s4, s5, s6, .int .i64 (n : Int), .slice (some ⟨g, 0, none⟩) n n, s9, s10, s11, s12, s13, s14, s15, s16, s17, s18, s19, s20, s21, s22, s23, s24, s25, s26, s27, s28, s29, s30, s31, s32, s33, s34, s35, s36, s37, s38, s39, s40, s41, s42, s43, .slice (some ⟨g, 0, none⟩) n n, .slice (some ⟨B1, 0, none⟩) 1 1, s46, .slice a0 n0 c0, .int .i64 (n : Int), .slice x0 n c0, s50, s51, .slice a1 n1 c1, .int .i64 (n : Int), .slice x1 n c1, s55, s56, s57, .slice a2 n2 c2, .int .i64 (n : Int), .slice x2 n c2, .slice (some ⟨B4, 0, none⟩) 1 1, s62, s63, s64, s65, s66, s67], []⟩ W := by
    intro W B1 B4 hb hc1 hc4
    refine wpAnyH_ready (rs := [2, 6, 11]) (by kernel_rfl) (by simp) ?_
    refine AllReadyH.cons (o := { dst := some 46, op := Op.call { callee := Callee.value (Operand.func 8), args := #[Operand.tmp 45], argTypes := #[33] }, type := 24, pos := "theorems.go:52", after := #[{ on := 1, ground := Ground.data }], guard := none }) rfl (fun K hK => ?_) ?_
    · go_simp
      refine (KKX.out W B1 hc1 hb).mono ?_
      rintro e w' ⟨rfl, rfl⟩
      refine hK.out _ _ hb (fun hH => ?_)
      (try simp only [List.setIfInBounds_toArray, List.set_cons_zero, List.set_cons_succ])
      exact st14 _ _ _ hH hc4
    refine AllReadyH.cons (o := { dst := some 50, op := Op.buildSlice 33 1 #[(0, Operand.tmp 49)], type := 33, pos := "theorems.go:52", after := #[{ on := 5, ground := Ground.data }], guard := none }) rfl (fun K hK => ?_) ?_
    · go_simp
      refine hK.out _ _ (Below.alloc hb hb.size _) (fun hH => ?_)
      (try simp only [List.setIfInBounds_toArray, List.set_cons_zero, List.set_cons_succ])
      exact st0124 _ _ _ _ hH (cell_keep hc1 _) (by first | (go_simp; done) | (simp [World.cell?]; done)) (cell_keep hc4 _)
    refine AllReadyH.cons (o := { dst := some 55, op := Op.buildSlice 33 1 #[(0, Operand.tmp 54)], type := 33, pos := "theorems.go:52", after := #[{ on := 10, ground := Ground.data }], guard := none }) rfl (fun K hK => ?_) ?_
    · go_simp
      refine hK.out _ _ (Below.alloc hb hb.size _) (fun hH => ?_)
      (try simp only [List.setIfInBounds_toArray, List.set_cons_zero, List.set_cons_succ])
      exact st0134 _ _ _ _ hH (cell_keep hc1 _) (by first | (go_simp; done) | (simp [World.cell?]; done)) (cell_keep hc4 _)
    exact AllReadyH.nil
  have st023 : ∀ (W : World) (B2 : Nat) (B3 : Nat), Below wr.heap.size wr W → W.cell? ⟨B2, 0, none⟩ = some (.slice x0 n c0) → W.cell? ⟨B3, 0, none⟩ = some (.slice x1 n c1) → wpAnyH Tryd.prog .any ops9 Q (fun W => Below wr.heap.size wr W) 13 #[true, false, false, true, true, true, true, false, true, true, true, true, false, false, true, true, true, false, false, false, false, false, false, false, false] ⟨#[.slice a0 n0 c0, .slice a1 n1 c1, .slice a2 n2 c2, s3, s4, s5, s6, .int .i64 (n : Int), .slice (some ⟨g, 0, none⟩) n n, s9, s10, s11, s12, s13, s14, s15, s16, s17, s18, s19, s20, s21, s22, s23, s24, s25, s26, s27, s28, s29, s30, s31, s32, s33, s34, s35, s36, s37, s38, s39, s40, s41, s42, s43, .slice (some ⟨g, 0, none⟩) n n, s45, s46, .slice a0 n0 c0, .int .i64 (n : Int), .slice x0 n c0, .slice (some ⟨B2, 0, none⟩) 1 1, s51, .slice a1 n1 c1, .int .i64 (n : Int), .slice x1 n c1, .slice (some ⟨B3, 0, none⟩) 1 1, s56, s57, .slice a2 n2 c2, .int .i64 (n : Int), .slice x2 n c2, s61, s62, s63, s64, s65, s66, s67], []⟩ W := by
    intro W B2 B3 hb hc2 hc3
    refine wpAnyH_ready (rs := [1, 17]) (by kernel_rfl) (by simp) ?_
    refine AllReadyH.cons (o := { dst := some 45, op := Op.buildSlice 33 1 #[(0, Operand.tmp 44)], type := 33, pos := "theorems.go:52", after := #[{ on := 0, ground := Ground.data }], guard := none }) rfl (fun K hK => ?_) ?_
    · go_simp
      refine hK.out _ _ (Below.alloc hb hb.size _) (fun hH => ?_)
      (try simp only [List.setIfInBounds_toArray, List.set_cons_zero, List.set_cons_succ])
      exact st0123 _ _ _ _ hH (by first | (go_simp; done) | (simp [World.cell?]; done)) (cell_keep hc2 _) (cell_keep hc3 _)
    refine AllReadyH.cons (o := { dst := some 61, op := Op.buildSlice 33 1 #[(0, Operand.tmp 60)], type := 33, pos := "theorems.go:52", after := #[{ on := 16, ground := Ground.data }], guard := none }) rfl (fun K hK => ?_) ?_
    · go_simp
      refine hK.out _ _ (Below.alloc hb hb.size _) (fun hH => ?_)
      (try simp only [List.setIfInBounds_toArray, List.set_cons_zero, List.set_cons_succ])
      exact st0234 _ _ _ _ hH (cell_keep hc2 _) (cell_keep hc3 _) (by first | (go_simp; done) | (simp [World.cell?]; done))
    exact AllReadyH.nil
  have st024 : ∀ (W : World) (B2 : Nat) (B4 : Nat), Below wr.heap.size wr W → W.cell? ⟨B2, 0, none⟩ = some (.slice x0 n c0) → W.cell? ⟨B4, 0, none⟩ = some (.slice x2 n c2) → wpAnyH Tryd.prog .any ops9 Q (fun W => Below wr.heap.size wr W) 13 #[true, false, false, true, true, true, true, false, true, true, true, false, false, false, true, true, true, true, false, false, false, false, false, false, false] ⟨#[.slice a0 n0 c0, .slice a1 n1 c1, .slice a2 n2 c2, s3, s4, s5, s6, .int .i64 (n : Int), .slice (some ⟨g, 0, none⟩) n n, s9, s10, s11, s12, s13, s14, s15, s16, s17, s18, s19, s20, s21, s22, s23, s24, s25, s26, s27, s28, s29, s30, s31, s32, s33, s34, s35, s36, s37, s38, s39, s40, s41, s42, s43, .slice (some ⟨g, 0, none⟩) n n, s45, s46, .slice a0 n0 c0, .int .i64 (n : Int), .slice x0 n c0, .slice (some ⟨B2, 0, none⟩) 1 1, s51, .slice a1 n1 c1, .int .i64 (n : Int), .slice x1 n c1, s55, s56, s57, .slice a2 n2 c2, .int .i64 (n : Int), .slice x2 n c2, .slice (some ⟨B4, 0, none⟩) 1 1, s62, s63, s64, s65, s66, s67], []⟩ W := by
    intro W B2 B4 hb hc2 hc4
    refine wpAnyH_ready (rs := [1, 11]) (by kernel_rfl) (by simp) ?_
    refine AllReadyH.cons (o := { dst := some 45, op := Op.buildSlice 33 1 #[(0, Operand.tmp 44)], type := 33, pos := "theorems.go:52", after := #[{ on := 0, ground := Ground.data }], guard := none }) rfl (fun K hK => ?_) ?_
    · go_simp
      refine hK.out _ _ (Below.alloc hb hb.size _) (fun hH => ?_)
      (try simp only [List.setIfInBounds_toArray, List.set_cons_zero, List.set_cons_succ])
      exact st0124 _ _ _ _ hH (by first | (go_simp; done) | (simp [World.cell?]; done)) (cell_keep hc2 _) (cell_keep hc4 _)
    refine AllReadyH.cons (o := { dst := some 55, op := Op.buildSlice 33 1 #[(0, Operand.tmp 54)], type := 33, pos := "theorems.go:52", after := #[{ on := 10, ground := Ground.data }], guard := none }) rfl (fun K hK => ?_) ?_
    · go_simp
      refine hK.out _ _ (Below.alloc hb hb.size _) (fun hH => ?_)
      (try simp only [List.setIfInBounds_toArray, List.set_cons_zero, List.set_cons_succ])
      exact st0234 _ _ _ _ hH (cell_keep hc2 _) (by first | (go_simp; done) | (simp [World.cell?]; done)) (cell_keep hc4 _)
    exact AllReadyH.nil
  have st034 : ∀ (W : World) (B3 : Nat) (B4 : Nat), Below wr.heap.size wr W → W.cell? ⟨B3, 0, none⟩ = some (.slice x1 n c1) → W.cell? ⟨B4, 0, none⟩ = some (.slice x2 n c2) → wpAnyH Tryd.prog .any ops9 Q (fun W => Below wr.heap.size wr W) 13 #[true, false, false, true, true, true, false, false, true, true, true, true, false, false, true, true, true, true, false, false, false, false, false, false, false] ⟨#[.slice a0 n0 c0, .slice a1 n1 c1, .slice a2 n2 c2, s3, s4, s5, s6, .int .i64 (n : Int), .slice (some ⟨g, 0, none⟩) n n, s9, s10, s11, s12, s13, s14, s15, s16, s17, s18, s19, s20, s21, s22, s23, s24, s25, s26, s27, s28, s29, s30, s31, s32, s33, s34, s35, s36, s37, s38, s39, s40, s41, s42, s43, .slice (some ⟨g, 0, none⟩) n n, s45, s46, .slice a0 n0 c0, .int .i64 (n : Int), .slice x0 n c0, s50, s51, .slice a1 n1 c1, .int .i64 (n : Int), .slice x1 n c1, .slice (some ⟨B3, 0, none⟩) 1 1, s56, s57, .slice a2 n2 c2, .int .i64 (n : Int), .slice x2 n c2, .slice (some ⟨B4, 0, none⟩) 1 1, s62, s63, s64, s65, s66, s67], []⟩ W := by
    intro W B3 B4 hb hc3 hc4
    refine wpAnyH_ready (rs := [1, 6]) (by kernel_rfl) (by simp) ?_
    refine AllReadyH.cons (o := { dst := some 45, op := Op.buildSlice 33 1 #[(0, Operand.tmp 44)], type := 33, pos := "theorems.go:52", after := #[{ on := 0, ground := Ground.data }], guard := none }) rfl (fun K hK => ?_) ?_
    · go_simp
      refine hK.out _ _ (Below.alloc hb hb.size _) (fun hH => ?_)
      (try simp only [List.setIfInBounds_toArray, List.set_cons_zero, List.set_cons_succ])
      exact st0134 _ _ _ _ hH (by first | (go_simp; done) | (simp [World.cell?]; done)) (cell_keep hc3 _) (cell_keep hc4 _)
    refine AllReadyH.cons (o := { dst := some 50, op := Op.buildSlice 33 1 #[(0, Operand.tmp 49)], type := 33, pos := "theorems.go:52", after := #[{ on := 5, ground := Ground.data }], guard := none }) rfl (fun K hK => ?_) ?_
    · go_simp
      refine hK.out _ _ (Below.alloc hb hb.size _) (fun hH => ?_)
      (try simp only [List.setIfInBounds_toArray, List.set_cons_zero, List.set_cons_succ])
      exact st0234 _ _ _ _ hH (by first | (go_simp; done) | (simp [World.cell?]; done)) (cell_keep hc3 _) (cell_keep hc4 _)
    exact AllReadyH.nil
  have st01 : ∀ (W : World) (B1 : Nat), Below wr.heap.size wr W → W.cell? ⟨B1, 0, none⟩ = some (.slice (some ⟨g, 0, none⟩) n n) → wpAnyH Tryd.prog .any ops9 Q (fun W => Below wr.heap.size wr W) 14 #[true, true, false, true, true, true, false, false, true, true, true, false, false, false, true, true, true, false, false, false, false, false, false, false, false] ⟨#[.slice a0 n0 c0, .slice a1 n1 c1, .slice a2 n2 c2, s3, s4, s5, s6, .int .i64 (n : Int), .slice (some ⟨g, 0, none⟩) n n, s9, s10, s11, s12, s13, s14, s15, s16, s17, s18, s19, s20, s21, s22, s23, s24, s25, s26, s27, s28, s29, s30, s31, s32, s33, s34, s35, s36, s37, s38, s39, s40, s41, s42, s43, .slice (some ⟨g, 0, none⟩) n n, .slice (some ⟨B1, 0, none⟩) 1 1, s46, .slice a0 n0 c0, .int .i64 (n : Int), .slice x0 n c0, s50, s51, .slice a1 n1 c1, .int .i64 (n : Int), .slice x1 n c1, s55, s56, s57, .slice a2 n2 c2, .int .i64 (n : Int), .slice x2 n c2, s61, s62, s63, s64, s65, s66, s67], []⟩ W := by
    intro W B1 hb hc1
    refine wpAnyH_ready (rs := [2, 6, 11, 17]) (by kernel_rfl) (by simp) ?_
    refine AllReadyH.cons (o := { dst := some 46, op := Op.call { callee := Callee.value (Operand.func 8), args := #[Operand.tmp 45], argTypes := #[33] }, type := 24, pos := "theorems.go:52", after := #[{ on := 1, ground := Ground.data }], guard := none }) rfl (fun K hK => ?_) ?_
    · go_simp
      refine (KKX.out W B1 hc1 hb).mono ?_
      rintro e w' ⟨rfl, rfl⟩
      refine hK.out _ _ hb (fun hH => ?_)
      (try simp only [List.setIfInBounds_toArray, List.set_cons_zero, List.set_cons_succ])
      exact st1 _ _ hH 
    refine AllReadyH.cons (o := { dst := some 50, op := Op.buildSlice 33 1 #[(0, Operand.tmp 49)], type := 33, pos := "theorems.go:52", after := #[{ on := 5, ground := Ground.data }], guard := none }) rfl (fun K hK => ?_) ?_
    · go_simp
      refine hK.out _ _ (Below.alloc hb hb.size _) (fun hH => ?_)
      (try simp only [List.setIfInBounds_toArray, List.set_cons_zero, List.set_cons_succ])
      exact st012 _ _ _ hH (cell_keep hc1 _) (by first | (go_simp; done) | (simp [World.cell?]; done))
    refine AllReadyH.cons (o := { dst := some 55, op := Op.buildSlice 33 1 #[(0, Operand.tmp 54)], type := 33, pos := "theorems.go:52", after := #[{ on := 10, ground := Ground.data }], guard := none }) rfl (fun K hK => ?_) ?_
    · go_simp
      refine hK.out _ _ (Below.alloc hb hb.size _) (fun hH => ?_)
      (try simp only [List.setIfInBounds_toArray, List.set_cons_zero, List.set_cons_succ])
      exact st013 _ _ _ hH (cell_keep hc1 _) (by first | (go_simp; done) | (simp [World.cell?]; done))
    refine AllReadyH.cons (o := { dst := some 61, op := Op.buildSlice 33 1 #[(0, Operand.tmp 60)], type := 33, pos := "theorems.go:52", after := #[{ on := 16, ground := Ground.data }], guard := none }) rfl (fun K hK => ?_) ?_
    · go_simp
      refine hK.out _ _ (Below.alloc hb hb.size _) (fun hH => ?_)
      (try simp only [List.setIfInBounds_toArray, List.set_cons_zero, List.set_cons_succ])
      exact st014 _ _ _ hH (cell_keep hc1 _) (by first | (go_simp; done) | (simp [World.cell?]; done))
    exact AllReadyH.nil
  have st02 : ∀ (W : World) (B2 : Nat), Below wr.heap.size wr W → W.cell? ⟨B2, 0, none⟩ = some (.slice x0 n c0) → wpAnyH Tryd.prog .any ops9 Q (fun W => Below wr.heap.size wr W) 14 #[true, false, false, true, true, true, true, false, true, true, true, false, false, false, true, true, true, false, false, false, false, false, false, false, false] ⟨#[.slice a0 n0 c0, .slice a1 n1 c1, .slice a2 n2 c2, s3, s4, s5, s6, .int .i64 (n : Int), .slice (some ⟨g, 0, none⟩) n n, s9, s10, s11, s12, s13, s14, s15, s16, s17, s18, s19, s20, s21, s22, s23, s24, s25, s26, s27, s28, s29, s30, s31, s32, s33, s34, s35, s36, s37, s38, s39, s40, s41, s42, s43, .slice (some ⟨g, 0, none⟩) n n, s45, s46, .slice a0 n0 c0, .int .i64 (n : Int), .slice x0 n c0, .slice (some ⟨B2, 0, none⟩) 1 1, s51, .slice a1 n1 c1, .int .i64 (n : Int), .slice x1 n c1, s55, s56, s57, .slice a2 n2 c2, .int .i64 (n : Int), .slice x2 n c2, s61, s62, s63, s64, s65, s66, s67], []⟩ W := by
    intro W B2 hb hc2
    refine wpAnyH_ready (rs := [1, 11, 17]) (by kernel_rfl) (by simp) ?_
    refine AllReadyH.cons (o := { dst := some 45, op := Op.buildSlice 33 1 #[(0, Operand.tmp 44)], type := 33, pos := "theorems.go:52", after := #[{ on := 0, ground := Ground.data }], guard := none }) rfl (fun K hK => ?_) ?_
    · go_simp
      refine hK.out _ _ (Below.alloc hb hb.size _) (fun hH => ?_)
      (try simp only [List.setIfInBounds_toArray, List.set_cons_zero, List.set_cons_succ])
      exact st012 _ _ _ hH (by first | (go_simp; done) | (simp [World.cell?]; done)) (cell_keep hc2 _)
    refine AllReadyH.cons (o := { dst := some 55, op := Op.buildSlice 33 1 #[(0, Operand.tmp 54)], type := 33, pos := "theorems.go:52", after := #[{ on := 10, ground := Ground.data }], guard := none }) rfl (fun K hK => ?_) ?_
    · go_simp
      refine hK.out _ _ (Below.alloc hb hb.size _) (fun hH => ?_)
      (try simp only [List.setIfInBounds_toArray, List.set_cons_zero, List.set_cons_succ])
      exact st023 _ _ _ hH (cell_keep hc2 _) (by first | (go_simp; done) | (simp [World.cell?]; done))
    refine AllReadyH.cons (o := { dst := some 61, op := Op.buildSlice 33 1 #[(0, Operand.tmp 60)], type := 33, pos := "theorems.go:52", after := #[{ on := 16, ground := Ground.data }], guard := none }) rfl (fun K hK => ?_) ?_
    · go_simp
      refine hK.out _ _ (Below.alloc hb hb.size _) (fun hH => ?_)
      (try simp only [List.setIfInBounds_toArray, List.set_cons_zero, List.set_cons_succ])
      exact st024 _ _ _ hH (cell_keep hc2 _) (by first | (go_simp; done) | (simp [World.cell?]; done))
    exact AllReadyH.nil
  have st03 : ∀ (W : World) (B3 : Nat), Below wr.heap.size wr W → W.cell? ⟨B3, 0, none⟩ = some (.slice x1 n c1) → wpAnyH Tryd.prog .any ops9 Q (fun W => Below wr.heap.size wr W) 14 #[true, false, false, true, true, true, false, false, true, true, true, true, false, false, true, true, true, false, false, false, false, false, false, false, false] ⟨#[.slice a0 n0 c0, .slice a1 n1 c1, .slice a2 n2 c2, s3, s4, s5, s6, .int .i64 (n : Int), .slice (some ⟨g, 0, none⟩) n n, s9, s10, s11, s12, s13, s14, s15, s16, s17, s18, s19, s20, s21, s22, s23, s24, s25, s26, s27, s28, s29, s30, s31, s32, s33, s34, s35, s36, s37, s38, s39, s40, s41, s42, s43, .slice (some ⟨g, 0, none⟩) n n, s45, s46, .slice a0 n0 c0, .int .i64 (n : Int), .slice x0 n c0, s50, s51, .slice a1 n1 c1, .int .i64 (n : Int), .slice x1 n c1, .slice (some ⟨B3, 0, none⟩) 1 1, s56, s57, .slice a2 n2 c2, .int .i64 (n : Int), .slice x2 n c2, s61, s62, s63, s64, s65, s66, s67], []⟩ W := by
    intro W B3 hb hc3
    refine wpAnyH_ready (rs := [1, 6, 17]) (by kernel_rfl) (by simp) ?_
    refine AllReadyH.cons (o := { dst := some 45, op := Op.buildSlice 33 1 #[(0, Operand.tmp 44)], type := 33, pos := "theorems.go:52", after := #[{ on := 0, ground := Ground.data }], guard := none }) rfl (fun K hK => ?_) ?_
    · go_simp
      refine hK.out _ _ (Below.alloc hb hb.size _) (fun hH => ?_)
      (try simp only [List.setIfInBounds_toArray, List.set_cons_zero, List.set_cons_succ])
      exact st013 _ _ _ hH (by first | (go_simp; done) | (simp [World.cell?]; done)) (cell_keep hc3 _)
    refine AllReadyH.cons (o := { dst := some 50, op := Op.buildSlice 33 1 #[(0, Operand.tmp 49)], type := 33, pos := "theorems.go:52", after := #[{ on := 5, ground := Ground.data }], guard := none }) rfl (fun K hK => ?_) ?_
    · go_simp
      refine hK.out _ _ (Below.alloc hb hb.size _) (fun hH => ?_)
      (try simp only [List.setIfInBounds_toArray, List.set_cons_zero, List.set_cons_succ])
      exact st023 _ _ _ hH (by first | (go_simp; done) | (simp [World.cell?]; done)) (cell_keep hc3 _)
    refine AllReadyH.cons (o := { dst := some 61, op := Op.buildSlice 33 1 #[(0, Operand.tmp 60)], type := 33, pos := "theorems.go:52", after := #[{ on := 16, ground := Ground.data }], guard := none }) rfl (fun K hK => ?_) ?_
    · go_simp
      refine hK.out _ _ (Below.alloc hb hb.size _) (fun hH => ?_)
      (try simp only [List.setIfInBounds_toArray, List.set_cons_zero, List.set_cons_succ])
      exact st034 _ _ _ hH (cell_keep hc3 _) (by first | (go_simp; done) | (simp [World.cell?]; done))
    exact AllReadyH.nil
  have st04 : ∀ (W : World) (B4 : Nat), Below wr.heap.size wr W → W.cell? ⟨B4, 0, none⟩ = some (.slice x2 n c2) → wpAnyH Tryd.prog .any ops9 Q (fun W => Below wr.heap.size wr W) 14 #[true, false, false, true, true, true, false, false, true, true, true, false, false, false, true, true, true, true, false, false, false, false, false, false, false] ⟨#[.slice a0 n0 c0, .slice a1 n1 c1, .slice a2 n2 c2, s3, s4, s5, s6, .int .i64 (n : Int), .slice (some ⟨g, 0, none⟩) n n, s9, s10, s11, s12, s13, s14, s15, s16, s17, s18, s19, s20, s21, s22, s23, s24, s25, s26, s27, s28, s29, s30, s31, s32, s33, s34, s35, s36, s37, s38, s39, s40, s41, s42, s43, .slice (some ⟨g, 0, none⟩) n n, s45, s46, .slice a0 n0 c0, .int .i64 (n : Int), .slice x0 n c0, s50, s51, .slice a1 n1 c1, .int .i64 (n : Int), .slice x1 n c1, s55, s56, s57, .slice a2 n2 c2, .int .i64 (n : Int), .slice x2 n c2, .slice (some ⟨B4, 0, none⟩) 1 1, s62, s63, s64, s65, s66, s67], []⟩ W := by
    intro W B4 hb hc4
    refine wpAnyH_ready (rs := [1, 6, 11]) (by kernel_rfl) (by simp) ?_
    refine AllReadyH.cons (o := { dst := some 45, op := Op.buildSlice 33 1 #[(0, Operand.tmp 44)], type := 33, pos := "theorems.go:52", after := #[{ on := 0, ground := Ground.data }], guard := none }) rfl (fun K hK => ?_) ?_
    · go_simp
      refine hK.out _ _ (Below.alloc hb hb.size _) (fun hH => ?_)
      (try simp only [List.setIfInBounds_toArray, List.set_cons_zero, List.set_cons_succ])
      exact st014 _ _ _ hH (by first | (go_simp; done) | (simp [World.cell?]; done)) (cell_keep hc4 _)
    refine AllReadyH.cons (o := { dst := some 50, op := Op.buildSlice 33 1 #[(0, Operand.tmp 49)], type := 33, pos := "theorems.go:52", after := #[{ on := 5, ground := Ground.data }], guard := none }) rfl (fun K hK => ?_) ?_
    · go_simp
      refine hK.out _ _ (Below.alloc hb hb.size _) (fun hH => ?_)
      (try simp only [List.setIfInBounds_toArray, List.set_cons_zero, List.set_cons_succ])
      exact st024 _ _ _ hH (by first | (go_simp; done) | (simp [World.cell?]; done)) (cell_keep hc4 _)
    refine AllReadyH.cons (o := { dst := some 55, op := Op.buildSlice 33 1 #[(0, Operand.tmp 54)], type := 33, pos := "theorems.go:52", after := #[{ on := 10, ground := Ground.data }], guard := none }) rfl (fun K hK => ?_) ?_
    · go_simp
      refine hK.out _ _ (Below.alloc hb hb.size _) (fun hH => ?_)
      (try simp only [List.setIfInBounds_toArray, List.set_cons_zero, List.set_cons_succ])
      exact st034 _ _ _ hH (by first | (go_simp; done) | (simp [World.cell?]; done)) (cell_keep hc4 _)
    exact AllReadyH.nil
  have st0 : ∀ (W : World), Below wr.heap.size wr W → wpAnyH Tryd.prog .any ops9 Q (fun W => Below wr.heap.size wr W) 15 #[true, false, false, true, true, true, false, false, true, true, true, false, false, false, true, true, true, false, false, false, false, false, false, false, false] ⟨#[.slice a0 n0 c0, .slice a1 n1 c1, .slice a2 n2 c2, s3, s4, s5, s6, .int .i64 (n : Int), .slice (some ⟨g, 0, none⟩) n n, s9, s10, s11, s12, s13, s14, s15, s16, s17, s18, s19, s20, s21, s22, s23, s24, s25, s26, s27, s28, s29, s30, s31, s32, s33, s34, s35, s36, s37, s38, s39, s40, s41, s42, s43, .slice (some ⟨g, 0, none⟩) n n, s45, s46, .slice a0 n0 c0, .int .i64 (n : Int), .slice x0 n c0, s50, s51, .slice a1 n1 c1, .int .i64 (n : Int), .slice x1 n c1, s55, s56, s57, .slice a2 n2 c2, .int .i64 (n : Int), .slice x2 n c2, s61, s62, s63, s64, s65, s66, s67], []⟩ W := by
    intro W hb
    refine wpAnyH_ready (rs := [1, 6, 11, 17]) (by kernel_rfl) (by simp) ?_
    refine AllReadyH.cons (o := { dst := some 45, op := Op.buildSlice 33 1 #[(0, Operand.tmp 44)], type := 33, pos := "theorems.go:52", after := #[{ on := 0, ground := Ground.data }], guard := none }) rfl (fun K hK => ?_) ?_
    · go_simp
      refine hK.out _ _ (Below.alloc hb hb.size _) (fun hH => ?_)
      (try simp only [List.setIfInBounds_toArray, List.set_cons_zero, List.set_cons_succ])
      exact st01 _ _ hH (by first | (go_simp; done) | (simp [World.cell?]; done))
    refine AllReadyH.cons (o := { dst := some 50, op := Op.buildSlice 33 1 #[(0, Operand.tmp 49)], type := 33, pos := "theorems.go:52", after := #[{ on := 5, ground := Ground.data }], guard := none }) rfl (fun K hK => ?_) ?_
    · go_simp
      refine hK.out _ _ (Below.alloc hb hb.size _) (fun hH => ?_)
      (try simp only [List.setIfInBounds_toArray, List.set_cons_zero, List.set_cons_succ])
      exact st02 _ _ hH (by first | (go_simp; done) | (simp [World.cell?]; done))
    refine AllReadyH.cons (o := { dst := some 55, op := Op.buildSlice 33 1 #[(0, Operand.tmp 54)], type := 33, pos := "theorems.go:52", after := #[{ on := 10, ground := Ground.data }], guard := none }) rfl (fun K hK => ?_) ?_
    · go_simp
      refine hK.out _ _ (Below.alloc hb hb.size _) (fun hH => ?_)
      (try simp only [List.setIfInBounds_toArray, List.set_cons_zero, List.set_cons_succ])
      exact st03 _ _ hH (by first | (go_simp; done) | (simp [World.cell?]; done))
    refine AllReadyH.cons (o := { dst := some 61, op := Op.buildSlice 33 1 #[(0, Operand.tmp 60)], type := 33, pos := "theorems.go:52", after := #[{ on := 16, ground := Ground.data }], guard := none }) rfl (fun K hK => ?_) ?_
    · go_simp
      refine hK.out _ _ (Below.alloc hb hb.size _) (fun hH => ?_)
      (try simp only [List.setIfInBounds_toArray, List.set_cons_zero, List.set_cons_succ])
      exact st04 _ _ hH (by first | (go_simp; done) | (simp [World.cell?]; done))
    exact AllReadyH.nil
  refine wp_region_held_drew (S := fun W => Below wr.heap.size wr W) (by kernel_rfl) (Below.refl _ _).drew (fun hH => ?_)
  show wpAnyH Tryd.prog .any ops9 Q (fun W => Below wr.heap.size wr W) 25 #[false, false, false, false, false, false, false, false, false, false, false, false, false, false, false, false, false, false, false, false, false, false, false, false, false] _ _
  refine wpAnyH_take (i := 0) (oi := { dst := some 44, op := Op.move (Operand.tmp 8), type := 22, pos := "theorems.go:52", after := #[], guard := none }) (v := .slice (some ⟨g, 0, none⟩) n n) rfl (by kernel_rfl) (by kernel_rfl) (by kernel_rfl) (fun c a w h => hpan c a _ _ w h) (Or.inl ⟨by rfl, fun w hw => ?_⟩) (by assumption) ?_
  · (go_simp; done)
  (try simp only [Act.put, List.setIfInBounds_toArray, List.set_cons_zero, List.set_cons_succ])
  refine wpAnyH_take (i := 3) (oi := { dst := some 47, op := Op.move (Operand.tmp 0), type := 22, pos := "theorems.go:52", after := #[], guard := none }) (v := .slice a0 n0 c0) rfl (by kernel_rfl) (by kernel_rfl) (by kernel_rfl) (fun c a w h => hpan c a _ _ w h) (Or.inl ⟨by rfl, fun w hw => ?_⟩) (by assumption) ?_
  · (go_simp; done)
  (try simp only [Act.put, List.setIfInBounds_toArray, List.set_cons_zero, List.set_cons_succ])
  refine wpAnyH_take (i := 4) (oi := { dst := some 48, op := Op.move (Operand.tmp 7), type := 3, pos := "theorems.go:52", after := #[], guard := none }) (v := .int .i64 (n : Int)) rfl (by kernel_rfl) (by kernel_rfl) (by kernel_rfl) (fun c a w h => hpan c a _ _ w h) (Or.inl ⟨by rfl, fun w hw => ?_⟩) (by assumption) ?_
  · (go_simp; done)
  (try simp only [Act.put, List.setIfInBounds_toArray, List.set_cons_zero, List.set_cons_succ])
  refine wpAnyH_take (i := 5) (oi := { dst := some 49, op := Op.slice 22 (Operand.tmp 47) none (some (Operand.tmp 48)) none, type := 22, pos := "theorems.go:52", after := #[{ on := 3, ground := Ground.data }, { on := 4, ground := Ground.data }], guard := none }) (v := .slice x0 n c0) rfl (by kernel_rfl) (by kernel_rfl) (by kernel_rfl) (fun c a w h => hpan c a _ _ w h) (Or.inl ⟨by rfl, fun w hw => ?_⟩) (by assumption) ?_
  · (go_simp; done)
  (try simp only [Act.put, List.setIfInBounds_toArray, List.set_cons_zero, List.set_cons_succ])
  refine wpAnyH_take (i := 8) (oi := { dst := some 52, op := Op.move (Operand.tmp 1), type := 22, pos := "theorems.go:52", after := #[], guard := none }) (v := .slice a1 n1 c1) rfl (by kernel_rfl) (by kernel_rfl) (by kernel_rfl) (fun c a w h => hpan c a _ _ w h) (Or.inl ⟨by rfl, fun w hw => ?_⟩) (by assumption) ?_
  · (go_simp; done)
  (try simp only [Act.put, List.setIfInBounds_toArray, List.set_cons_zero, List.set_cons_succ])
  refine wpAnyH_take (i := 9) (oi := { dst := some 53, op := Op.move (Operand.tmp 7), type := 3, pos := "theorems.go:52", after := #[], guard := none }) (v := .int .i64 (n : Int)) rfl (by kernel_rfl) (by kernel_rfl) (by kernel_rfl) (fun c a w h => hpan c a _ _ w h) (Or.inl ⟨by rfl, fun w hw => ?_⟩) (by assumption) ?_
  · (go_simp; done)
  (try simp only [Act.put, List.setIfInBounds_toArray, List.set_cons_zero, List.set_cons_succ])
  refine wpAnyH_take (i := 10) (oi := { dst := some 54, op := Op.slice 22 (Operand.tmp 52) none (some (Operand.tmp 53)) none, type := 22, pos := "theorems.go:52", after := #[{ on := 8, ground := Ground.data }, { on := 9, ground := Ground.data }], guard := none }) (v := .slice x1 n c1) rfl (by kernel_rfl) (by kernel_rfl) (by kernel_rfl) (fun c a w h => hpan c a _ _ w h) (Or.inl ⟨by rfl, fun w hw => ?_⟩) (by assumption) ?_
  · (go_simp; done)
  (try simp only [Act.put, List.setIfInBounds_toArray, List.set_cons_zero, List.set_cons_succ])
  refine wpAnyH_take (i := 14) (oi := { dst := some 58, op := Op.move (Operand.tmp 2), type := 22, pos := "theorems.go:52", after := #[], guard := none }) (v := .slice a2 n2 c2) rfl (by kernel_rfl) (by kernel_rfl) (by kernel_rfl) (fun c a w h => hpan c a _ _ w h) (Or.inl ⟨by rfl, fun w hw => ?_⟩) (by assumption) ?_
  · (go_simp; done)
  (try simp only [Act.put, List.setIfInBounds_toArray, List.set_cons_zero, List.set_cons_succ])
  refine wpAnyH_take (i := 15) (oi := { dst := some 59, op := Op.move (Operand.tmp 7), type := 3, pos := "theorems.go:52", after := #[], guard := none }) (v := .int .i64 (n : Int)) rfl (by kernel_rfl) (by kernel_rfl) (by kernel_rfl) (fun c a w h => hpan c a _ _ w h) (Or.inl ⟨by rfl, fun w hw => ?_⟩) (by assumption) ?_
  · (go_simp; done)
  (try simp only [Act.put, List.setIfInBounds_toArray, List.set_cons_zero, List.set_cons_succ])
  refine wpAnyH_take (i := 16) (oi := { dst := some 60, op := Op.slice 22 (Operand.tmp 58) none (some (Operand.tmp 59)) none, type := 22, pos := "theorems.go:52", after := #[{ on := 14, ground := Ground.data }, { on := 15, ground := Ground.data }], guard := none }) (v := .slice x2 n c2) rfl (by kernel_rfl) (by kernel_rfl) (by kernel_rfl) (fun c a w h => hpan c a _ _ w h) (Or.inl ⟨by rfl, fun w hw => ?_⟩) (by assumption) ?_
  · (go_simp; done)
  (try simp only [Act.put, List.setIfInBounds_toArray, List.set_cons_zero, List.set_cons_succ])
  exact st0 _ hH
end Go.Proofs.YtkojldjgjmaodabDoor
