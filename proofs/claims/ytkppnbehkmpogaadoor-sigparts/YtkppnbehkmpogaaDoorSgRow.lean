/- What came in, as the walks read it; the tables that the rows list. -/
import Derived.Test.YtkppnbehkmpogaaDoorSgAwake
import Derived.Test.YtkppnbehkmpogaaDoorSgRef
import Derived.Test.YtkppnbehkmpogaaDoorSgSame
import Derived.ProofKit
import Derived.OpenShut
import Derived.ShutString
import Derived.ChangeOld
import Derived.Below
import Derived.Lib.LaidTab
namespace Go.Proofs.YtkppnbehkmpogaaDoor
open Go.ChangeShapes Go.WideShapes Go.ChangeAt Go.RowKit Go.Proofs.BlkMath
set_option linter.unusedVariables false
set_option maxRecDepth 100000

def Ks : List Int := [1116352408, 1899447441, 3049323471, 3921009573, 961987163, 1508970993, 2453635748, 2870763221, 3624381080, 310598401, 607225278, 1426881987, 1925078388, 2162078206, 2614888103, 3248222580, 3835390401, 4022224774, 264347078, 604807628, 770255983, 1249150122, 1555081692, 1996064986, 2554220882, 2821834349, 2952996808, 3210313671, 3336571891, 3584528711, 113926993, 338241895, 666307205, 773529912, 1294757372, 1396182291, 1695183700, 1986661051, 2177026350, 2456956037, 2730485921, 2820302411, 3259730800, 3345764771, 3516065817, 3600352804, 4094571909, 275423344, 430227734, 506948616, 659060556, 883997877, 958139571, 1322822218, 1537002063, 1747873779, 1955562222, 2024104815, 2227730452, 2361852424, 2428436474, 2756734187, 3204031479, 3329325298]
def Ts : List Int := [0, 498536548, 997073096, 651767980, 1994146192, 1802195444, 1303535960, 1342533948, 3988292384, 4027552580, 3604390888, 3412177804, 2607071920, 2262029012, 2685067896, 3183342108]
def Tab (W : World) (g : Nat) (K : List Int) : Prop := ∀ j, j < K.length → W.cell? ⟨g, j, none⟩ = some (.int .u32 (K.getD j 0))
theorem tab_is {W : World} {name : String} {g : Nat} {K : List Int} (h : Lib.TabIs Tryd.prog W name .u32 K) (hg : Tryd.prog.globalNamed name = some g) : Tab W g K := fun j hj => h.cell hg j hj
theorem Tab.sha {W : World} {g : Nat} (h : Tab W g Ks) : Sha.Tab W g Ks := by
  refine ⟨World.block_lt_of_cell? _ _ (h 0 (by decide)), rfl, ?_, fun j hj => h j hj⟩
  unfold Go.Proofs.ShaMath.U32
  decide
theorem Tab.crc {W : World} (h : Tab W 0 Ts) : Crc.Tab W := by
  refine ⟨World.block_lt_of_cell? _ _ (h 0 (by decide)), fun j hj => ?_⟩
  rw [h j hj]
  have : j = 0 ∨ j = 1 ∨ j = 2 ∨ j = 3 ∨ j = 4 ∨ j = 5 ∨ j = 6 ∨ j = 7 ∨ j = 8 ∨ j = 9 ∨ j = 10 ∨ j = 11 ∨ j = 12 ∨ j = 13 ∨ j = 14 ∨ j = 15 := by omega
  rcases this with rfl | rfl | rfl | rfl | rfl | rfl | rfl | rfl | rfl | rfl | rfl | rfl | rfl | rfl | rfl | rfl <;> rfl

/-- the block length that is taken of a right one, or of none -/
theorem blk_of (len : Nat) (hl : len ≤ 131072) (b0 : Int) (h : b0 = 0 ∨ (16 ≤ b0 ∧ b0 ≤ 4096)) :
    ∃ blk : Nat, Rt len blk ∧ ((b0 = 0 ∧ (blk : Int) = lenOf len) ∨ (b0 ≠ 0 ∧ b0 = blk)) := by
  rcases h with rfl | ⟨h1, h2⟩
  · have hb := lenOf_bd len
    refine ⟨(lenOf len).toNat, ⟨⟨by omega, by omega⟩, by omega, by omega⟩, .inl ⟨rfl, by omega⟩⟩
  · exact ⟨b0.toNat, ⟨⟨by omega, by omega⟩, by omega, by omega⟩, .inr ⟨by omega, by omega⟩⟩

set_option maxRecDepth 1000000 in
set_option maxHeartbeats 8000000 in
theorem sigOf_walk (a : Option Addr) (len cap : Nat) (l : List Int) (b0 st : Int) (w : World) (hT0 : Crc.Tab w) (hT1 : TabD w Ks) (hT2 : TabR w Ks) (hl : len = l.length) (hB : Bytes w a l) (hnil : a = none → cap = 0) (hcap : len ≤ cap) :
    Calls Tryd.prog 3 #[.slice a len cap, .int .i64 b0, .int .i64 st] w fun e w' => e = .returned (.bool true) ∧ Below w.heap.size w w' := by
  have HAW : Hid (∀ W, Below w.heap.size w W → Calls Tryd.prog 10 #[] W fun e w' => e = .returned (.bool true) ∧ Below W.heap.size W w') := fun W hb => awake_sig Ks W (hT2.later hb) (hT0.later hb)
  by_cases hbig : 1000 < len
  · clear hB hT0 hT1 hT2 hl
    go_enter Tryd.func3, Tryd.ntmps3
    go_wp2_with (go_at_call 10; refine (HAW.out _ (Below.refl _ _)).mono ?_; rintro e w' ⟨rfl, hb⟩)
    go_ret
    exact ⟨rfl, hb⟩
  · -- both answers
    have HPAIR : ∃ (sz bk s er : Int) (n : Nat) (ms : List Mk), n = ms.length ∧ n ≤ 131072 ∧ (∀ m ∈ ms, 0 ≤ m.1 ∧ m.1 ≤ 4294967295) ∧
        Hid (∀ W, Below w.heap.size w W → Calls Tryd.prog 11 #[.slice a len cap, .int .i64 b0, .int .i64 st] W fun e w' => ∃ av cv, e = .returned (.tuple #[sigV sz bk s (.slice av n cv), .int .i64 er]) ∧ Marks w' av ms ∧ Below W.heap.size W w') ∧
        Hid (∀ W, Below w.heap.size w W → Calls Tryd.prog 12 #[.slice a len cap, .int .i64 b0, .int .i64 st] W fun e w' => ∃ av cv, e = .returned (.tuple #[sigV sz bk s (.slice av n cv), .int .i64 er]) ∧ Marks w' av ms ∧ Below W.heap.size W w') := by
      by_cases hok : (1 ≤ st ∧ st ≤ 32) ∧ (b0 = 0 ∨ (16 ≤ b0 ∧ b0 ≤ 4096))
      · obtain ⟨blk, hR, hbk⟩ := blk_of len (by omega) b0 hok.2
        obtain ⟨s, hs⟩ : ∃ s : Nat, st = s := ⟨st.toNat, by omega⟩
        subst hs
        have hcs := cnt_spec hR
        have hS : ∀ W, Below w.heap.size w W → Sl W (.slice a len cap) l := fun W hb => ⟨a, cap, by rw [hl], hB.later hb, hnil, by omega⟩
        refine ⟨len, blk, s, 0, (cnt len blk).toNat, mks Ks l blk s (cnt len blk).toNat, (mks_length _ _ _ _ _).symm, by omega, mks_bd _ _ _ _ _, fun W hb => ?_, fun W hb => ?_⟩
        · have h := sigof_yes (.slice a len cap) Ks l b0 blk s W (hS W hb) hB.1 (by rw [← hl]; exact hR) (hT2.later hb) (by omega) (by omega) (by
            rcases hbk with ⟨h1, h2⟩ | h
            · exact .inl ⟨h1, fun W => by rw [← hl, h2]; exact length_any len W⟩
            · exact .inr h)
          rw [← hl] at h
          refine h.mono ?_
          rintro e w' ⟨v, rfl, hmo, hb'⟩
          obtain ⟨av, cv, ev, hM⟩ := hmo.sl (mks_bd _ _ _ _ _)
          rw [mks_length] at ev
          subst ev
          exact ⟨av, cv, rfl, hM, hb'⟩
        · have h := rof_yes a len cap Ks l b0 blk s W hl (hS W hb) hB.1 hR (hT1.later hb) (by omega) (by omega) (by
            rcases hbk with ⟨h1, h2⟩ | h
            · exact .inl ⟨h1, fun W => by rw [h2]; exact rlength_any len W⟩
            · exact .inr h)
          refine h.mono ?_
          rintro e w' ⟨v, rfl, hmo, hb'⟩
          obtain ⟨av, cv, ev, hM⟩ := hmo.sl (mks_bd _ _ _ _ _)
          rw [mks_length] at ev
          subst ev
          exact ⟨av, cv, rfl, hM, hb'⟩
      · refine ⟨0, 0, 0, 2, 0, [], rfl, by omega, (fun m hm => by simp at hm), fun W hb => ?_, fun W hb => ?_⟩
        · refine (sigof_no a len cap b0 st W hok).mono ?_
          rintro e w' ⟨rfl, hb'⟩
          exact ⟨none, 0, rfl, ⟨fun m hm => by simp at hm, fun h => absurd rfl h⟩, hb'⟩
        · refine (rof_no a len cap b0 st W hok).mono ?_
          rintro e w' ⟨rfl, hb'⟩
          exact ⟨none, 0, rfl, ⟨fun m hm => by simp at hm, fun h => absurd rfl h⟩, hb'⟩
    obtain ⟨sz, bk, s, er, n, ms, hn, hnb, hbd, H1, H2⟩ := HPAIR
    have HSM : Hid (∀ W av cv au cu, Marks W av ms → Marks W au ms → Calls Tryd.prog 13 #[sigV sz bk s (.slice av n cv), sigV sz bk s (.slice au n cu)] W fun e w' => e = .returned (.bool true) ∧ Below W.heap.size W w') := fun W av cv au cu h1 h2 => rsame_yes sz bk s av au cv cu n ms W hn h1 h2 (by omega)
    unfold sigV at *
    clear hB hT0 hT1 hT2 hl hnil hcap hn hbd
    go_enter Tryd.func3, Tryd.ntmps3
    go_wp2_with fail
    refine (H1.out _ (Below.refl _ _)).mono ?_
    rintro e w1 ⟨av, cv, rfl, hM1, hb1⟩
    have B1 := Lib.hid hb1
    have M1 := Lib.hid hM1
    clear hM1 hb1
    go_wp2_with fail
    have hbA : Below w1.heap.size w1 (w1.alloc (Obj.cells #[Value.int IntKind.i64 sz, Value.int IntKind.i64 bk, Value.int IntKind.i64 s, Value.slice av n cv] 26)) := (Below.refl _ _).alloc (Nat.le_refl _) _
    have hhA := heap_new w1 (Obj.cells #[Value.int IntKind.i64 sz, Value.int IntKind.i64 bk, Value.int IntKind.i64 s, Value.slice av n cv] 26)
    refine (H2.out _ (B1.out.trans (hbA.mono B1.out.size))).mono ?_
    rintro e w2 ⟨au, cu, rfl, hM2, hb2⟩
    have hb12 : Below w1.heap.size w1 w2 := hbA.trans (hb2.mono hbA.size)
    have B2 : Hid (Below w.heap.size w w2) := B1.out.trans (hb12.mono B1.out.size)
    have hh2 := (KeepC.of_below hb2).2 _ _ _ _ hhA
    have q0 : ∀ o, (w2.alloc o).cell? ⟨w1.heap.size, 0, none⟩ = some (.int .i64 sz) := fun o => cell_later ((Below.refl _ _).alloc (Nat.le_refl _) o) (by rw [cell_of_row w2 _ 0 _ _ (0, 0) hh2]; rfl)
    have q1 : ∀ o, (w2.alloc o).cell? ⟨w1.heap.size, 1, none⟩ = some (.int .i64 bk) := fun o => cell_later ((Below.refl _ _).alloc (Nat.le_refl _) o) (by rw [cell_of_row w2 _ 1 _ _ (0, 0) hh2]; rfl)
    have q2 : ∀ o, (w2.alloc o).cell? ⟨w1.heap.size, 2, none⟩ = some (.int .i64 s) := fun o => cell_later ((Below.refl _ _).alloc (Nat.le_refl _) o) (by rw [cell_of_row w2 _ 2 _ _ (0, 0) hh2]; rfl)
    have q3 : ∀ o, (w2.alloc o).cell? ⟨w1.heap.size, 3, none⟩ = some (.slice av n cv) := fun o => cell_later ((Below.refl _ _).alloc (Nat.le_refl _) o) (by rw [cell_of_row w2 _ 3 _ _ (0, 0) hh2]; rfl)
    have hbB : Below w2.heap.size w2 (w2.alloc (Obj.cells #[Value.int IntKind.i64 sz, Value.int IntKind.i64 bk, Value.int IntKind.i64 s, Value.slice au n cu] 26)) := (Below.refl _ _).alloc (Nat.le_refl _) _
    have HSQ := Lib.hid (HSM.out _ av cv au cu ((M1.out.later hb12).later hbB) (hM2.later hbB))
    have BB := Lib.hid (B2.out.trans (hbB.mono B2.out.size))
    clear hM2 hb2 hb12 hh2 hhA hbA hbB
    go_wp2_with fail
    refine HSQ.out.mono ?_
    rintro e w3 ⟨rfl, hb3⟩
    have B3 : Hid (Below w.heap.size w w3) := BB.out.trans (hb3.mono BB.out.size)
    have HA3 := Lib.hid (HAW.out _ B3.out)
    clear hb3 q0 q1 q2 q3
    go_wp2_with (go_at_call 10; refine HA3.out.mono ?_; rintro e w4 ⟨rfl, hb4⟩)
    go_ret
    exact ⟨rfl, B3.out.trans (hb4.mono B3.out.size)⟩
end Go.Proofs.YtkppnbehkmpogaaDoor
