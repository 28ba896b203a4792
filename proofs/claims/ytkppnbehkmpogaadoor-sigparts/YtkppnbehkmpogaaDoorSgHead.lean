/- SigHead: a signature's bytes, opened and read. -/
import Derived.Test.YtkppnbehkmpogaaDoorSgRow
namespace Go.Proofs.YtkppnbehkmpogaaDoor
open Go.RowKit Go.Proofs.BlkMath
open Num (encR heldN)
open Crc (leB leV openE openL)
open Go.Proofs.CrcMath (crcN)
set_option linter.unusedVariables false
set_option maxRecDepth 100000

theorem open_sealed (L : List Int) (ho : Oct L) : openE (L ++ leB (crcN L) 4) = 0 ∧ openL (L ++ leB (crcN L) 4) = L := by
  have hlen : (L ++ leB (crcN L) 4).length - 4 = L.length := by rw [List.length_append, Crc.leB_length]; omega
  have ht : (L ++ leB (crcN L) 4).take L.length = L := List.take_left
  have hd : (L ++ leB (crcN L) 4).drop L.length = leB (crcN L) 4 := List.drop_left
  have hc := Go.Proofs.CrcMath.crcN_lt L ho
  have hE : openE (L ++ leB (crcN L) 4) = 0 := by
    unfold Crc.openE
    rw [hlen, ht, hd, Crc.leV_leB (crcN L) 4 4 (by omega), if_neg (by rw [List.length_append, Crc.leB_length]; omega), if_pos]
    exact Nat.mod_eq_of_lt (by simpa using hc)
  refine ⟨hE, ?_⟩
  unfold Crc.openL
  rw [if_pos hE, hlen, ht]

/-- numbers that stand at the beginning of a signature's bytes are read -/
theorem three_read (x y z : Int) (P : List Int) (hx : 0 ≤ x ∧ x ≤ 4611686018427387903) (hy : 0 ≤ y ∧ y ≤ 4611686018427387903) (hz : 0 ≤ z ∧ z ≤ 4611686018427387903) :
    ∃ p1 p2 p3 : Nat, Go.Proofs.NumMath.G (encAll [x, y, z] ++ P) 0 = (x, (p1 : Int), 0) ∧ Go.Proofs.NumMath.G (encAll [x, y, z] ++ P) p1 = (y, (p2 : Int), 0) ∧ Go.Proofs.NumMath.G (encAll [x, y, z] ++ P) p2 = (z, (p3 : Int), 0) ∧ (encAll [x, y, z] ++ P).length = p3 + P.length ∧ p3 ≤ 27 := by
  have hx' : ((heldN x : Nat) : Int) = x := by unfold Num.heldN; omega
  have hy' : ((heldN y : Nat) : Int) = y := by unfold Num.heldN; omega
  have hz' : ((heldN z : Nat) : Int) = z := by unfold Num.heldN; omega
  have e : encAll [x, y, z] ++ P = encR (heldN x) ++ (encR (heldN y) ++ (encR (heldN z) ++ P)) := by simp [encAll]
  have g1 := Num.G_enc [] (encR (heldN y) ++ (encR (heldN z) ++ P)) (heldN x) (Num.heldN_le x)
  have g2 := Num.G_enc (encR (heldN x)) (encR (heldN z) ++ P) (heldN y) (Num.heldN_le y)
  have g3 := Num.G_enc (encR (heldN x) ++ encR (heldN y)) P (heldN z) (Num.heldN_le z)
  have l1 := enc_le x
  have l2 := enc_le y
  have l3 := enc_le z
  rw [Num.encR_length] at l1 l2 l3
  refine ⟨Go.Proofs.NumMath.sizeN (heldN x), Go.Proofs.NumMath.sizeN (heldN x) + Go.Proofs.NumMath.sizeN (heldN y), Go.Proofs.NumMath.sizeN (heldN x) + Go.Proofs.NumMath.sizeN (heldN y) + Go.Proofs.NumMath.sizeN (heldN z), ?_, ?_, ?_, ?_, ?_⟩
  · rw [List.nil_append, List.length_nil, Nat.zero_add, hx'] at g1
    rw [e]; exact g1
  · rw [Num.encR_length, hy'] at g2
    rw [e]; exact g2
  · rw [List.append_assoc, List.length_append, Num.encR_length, Num.encR_length, hz'] at g3
    rw [e]; exact g3
  · rw [e]; simp only [List.length_append, Num.encR_length]; omega
  · omega

theorem chk_of (K l : List Int) (len blk st : Nat) (hR : Rt len blk) (h1 : 1 ≤ st) (h2 : st ≤ 32) : chkE len blk st (mks K l blk st (cnt len blk).toNat) = 0 := by
  have hc := cnt_spec hR
  have e1 : numE len blk st = 0 := by unfold numE; rw [if_pos ⟨by omega, hR⟩]
  unfold chkE
  rw [if_pos e1, mks_length, if_pos (by unfold cntB; rw [if_pos hR]; omega), if_pos]
  intro m hm
  rw [mks_st K l blk st _ h2 m hm]
theorem sigL_length (K l : List Int) (len blk st N : Nat) (h2 : st ≤ 32) : (sigL len blk st (mks K l blk st N)).length = (encAll [(len : Int), (blk : Int), (st : Int)]).length + N * (4 + st) := by
  unfold sigL sigParts
  rw [List.flatten_cons, List.length_append, mflat_length _ st (mks_st K l blk st N h2), mks_length]
theorem get_own (v : Value) (base : Nat) (l : List Int) (p : Int) (w : World) (h : Own w base v l) (ho : Oct l) (hl : l.length ≤ 1000000) :
    Calls Tryd.prog 29 #[v, .int .i64 p] w fun e w' => e = .returned (.tuple #[.int .i64 (Go.Proofs.NumMath.G l p).1, .int .i64 (Go.Proofs.NumMath.G l p).2.1, .int .i64 (Go.Proofs.NumMath.G l p).2.2]) ∧ w = w' := by
  obtain ⟨a, cap, rfl, hB, _, _⟩ := h.sl ho
  exact Num.get_any a cap l p w (by omega) ⟨fun i => hB.1.getD i, hB.2⟩

set_option maxRecDepth 1000000 in
set_option maxHeartbeats 8000000 in
theorem sigHead_walk (a : Option Addr) (len cap : Nat) (l : List Int) (b0 st : Int) (w : World) (hT0 : Crc.Tab w) (hT2 : TabR w Ks) (hl : len = l.length) (hB : Bytes w a l) (hnil : a = none → cap = 0) (hcap : len ≤ cap) :
    Calls Tryd.prog 9 #[.slice a len cap, .int .i64 b0, .int .i64 st] w fun e w' => e = .returned (.bool true) ∧ Below w.heap.size w w' := by
  have HAW : Hid (∀ W, Below w.heap.size w W → Calls Tryd.prog 10 #[] W fun e w' => e = .returned (.bool true) ∧ Below W.heap.size W w') := fun W hb => awake_sig Ks W (hT2.later hb) (hT0.later hb)
  by_cases hbig : 1000 < len
  · clear hB hT0 hT2 hl
    go_enter Tryd.func9, Tryd.ntmps9
    go_wp2_with (go_at_call 10; refine (HAW.out _ (Below.refl _ _)).mono ?_; rintro e w' ⟨rfl, hb⟩)
    go_ret
    exact ⟨rfl, hb⟩
  · by_cases hok : (1 ≤ st ∧ st ≤ 32) ∧ (b0 = 0 ∨ (16 ≤ b0 ∧ b0 ≤ 4096))
    · obtain ⟨blk, hR, hbk⟩ := blk_of len (by omega) b0 hok.2
      obtain ⟨s, hs⟩ : ∃ s : Nat, st = s := ⟨st.toNat, by omega⟩
      have hcs := cnt_spec hR
      obtain ⟨N, hN⟩ : ∃ N : Nat, N = (cnt len blk).toNat := ⟨_, rfl⟩
      have hNb : N ≤ 1000 := by omega
      have hS : Sl w (.slice a len cap) l := ⟨a, cap, by rw [hl], hB, hnil, by omega⟩
      have hOf := sigof_yes (.slice a len cap) Ks l b0 blk s w hS hB.1 (by rw [← hl]; exact hR) hT2 (by omega) (by omega) (by
        rcases hbk with ⟨h1, h2⟩ | h
        · exact .inl ⟨h1, fun W => by rw [← hl, h2]; exact length_any len W⟩
        · exact .inr h)
      rw [← hl, ← hN, ← hs] at hOf
      have hck := chk_of Ks l len blk s hR (by omega) (by omega)
      rw [← hN] at hck
      have hln := sigL_length Ks l len blk s N (by omega)
      obtain ⟨p1, p2, p3, G1, G2, G3, hl3, hp3⟩ := three_read (len : Int) (blk : Int) (s : Int) (mparts (mks Ks l blk s N)).flatten (by omega) (by have := hR.2; omega) (by omega)
      have hmf := mflat_length (mks Ks l blk s N) s (mks_st Ks l blk s N (by omega))
      rw [mks_length] at hmf
      rw [hmf] at hl3
      have hNs : N * (4 + s) ≤ 1000 * 36 := Nat.mul_le_mul hNb (by omega)
      obtain ⟨M, hM⟩ : ∃ M, M = N * (4 + s) := ⟨_, rfl⟩
      rw [← hM] at hl3 hNs
      have hLe : encAll [(len : Int), (blk : Int), (s : Int)] ++ (mparts (mks Ks l blk s N)).flatten = sigL len blk s (mks Ks l blk s N) := by unfold sigL sigParts; rw [List.flatten_cons]
      rw [hLe] at G1 G2 G3 hl3
      obtain ⟨L, hL⟩ : ∃ L, L = sigL len blk s (mks Ks l blk s N) := ⟨_, rfl⟩
      have hLo : Oct L := by rw [hL]; exact sigL_oct _ _ _ _
      have HBY : Hid (∀ W av cv, Below w.heap.size w W → Marks W av (mks Ks l blk s N) → Calls Tryd.prog 15 #[sigV len blk st (.slice av N cv)] W fun e w' => ∃ v, e = .returned (.tuple #[v, .int .i64 0]) ∧ Own w' W.heap.size v (L ++ leB (crcN L) 4) ∧ Below W.heap.size W w') := by
        intro W av cv hb hm
        have h := bytes_yes len blk s av cv N (mks Ks l blk s N) W (mks_length _ _ _ _ _).symm hm (by omega) (fun m hmm => by rw [mks_st Ks l blk s N (by omega) m hmm]; omega) hck (hT0.later hb) (by rw [hl3]; omega)
        rw [← hL, ← hs] at h
        exact h
      rw [← hL] at G1 G2 G3 hl3
      have hos := open_sealed L hLo
      have HOP : Hid (∀ W base v, Below w.heap.size w W → Own W base v (L ++ leB (crcN L) 4) → Calls Tryd.prog 28 #[v] W fun e w' => ∃ u, e = .returned (.tuple #[u, .int .i64 0]) ∧ Own w' W.heap.size u L ∧ Below W.heap.size W w') := by
        intro W base v hb ho
        obtain ⟨a1, c1, rfl, hB1, hn1, hc1⟩ := ho.sl (hLo.append (Crc.leB_oct _ _))
        have h := Crc.open_any a1 c1 _ (L ++ leB (crcN L) 4) W rfl (hT0.later hb) hB1 hc1 hn1 (by rw [List.length_append, Crc.leB_length, hl3]; omega)
        rw [hos.1, hos.2] at h
        exact h
      have HGT : Hid (∀ W base u, Own W base u L → (Calls Tryd.prog 29 #[u, .int .i64 0] W fun e w' => e = .returned (.tuple #[.int .i64 (len : Int), .int .i64 (p1 : Int), .int .i64 0]) ∧ W = w') ∧ (Calls Tryd.prog 29 #[u, .int .i64 (p1 : Int)] W fun e w' => e = .returned (.tuple #[.int .i64 (blk : Int), .int .i64 (p2 : Int), .int .i64 0]) ∧ W = w') ∧ (Calls Tryd.prog 29 #[u, .int .i64 (p2 : Int)] W fun e w' => e = .returned (.tuple #[.int .i64 st, .int .i64 (p3 : Int), .int .i64 0]) ∧ W = w')) := by
        intro W base u ho
        have h1 := get_own u base L 0 W ho hLo (by rw [hl3]; omega)
        have h2 := get_own u base L p1 W ho hLo (by rw [hl3]; omega)
        have h3 := get_own u base L p2 W ho hLo (by rw [hl3]; omega)
        rw [G1] at h1
        rw [G2] at h2
        rw [G3, ← hs] at h3
        exact ⟨h1, h2, h3⟩
      have hmul : IntKind.i64.wrap ((N : Int) * (4 + st)) = (M : Int) := by
        rw [hs, hM]
        have : (N : Int) * (4 + (s : Int)) = ((N * (4 + s) : Nat) : Int) := by simp
        rw [this, IntKind.wrap_i64]; omega
      have hst1 : 1 ≤ st := hok.1.1
      have hst2 : st ≤ 32 := hok.1.2
      have HOF := Lib.hid hOf
      have HMUL := Lib.hid hmul
      have HLL := Lib.hid hl3
      obtain ⟨bI, hbI⟩ : ∃ bI : Int, bI = blk := ⟨_, rfl⟩
      rw [← hbI] at HBY HGT HOF
      unfold sigV at *
      clear hB hT0 hT2 hl hnil hcap hok hbk hcs hS hOf hck hln G1 G2 G3 hl3 hmf hLe hL hos hmul hR hM hN hs hbI
      go_enter Tryd.func9, Tryd.ntmps9
      go_wp2_with fail
      refine HOF.out.mono ?_
      rintro e w1 ⟨v1, rfl, hmo, hb1⟩
      obtain ⟨av, cv, ev, hM1⟩ := hmo.sl (mks_bd _ _ _ _ _)
      rw [mks_length] at ev
      subst ev
      have B1 := Lib.hid hb1
      have hbA : Below w1.heap.size w1 (w1.alloc (Obj.cells #[Value.int IntKind.i64 (len : Int), Value.int IntKind.i64 bI, Value.int IntKind.i64 st, Value.slice av N cv] 26)) := (Below.refl _ _).alloc (Nat.le_refl _) _
      have hhA := heap_new w1 (Obj.cells #[Value.int IntKind.i64 (len : Int), Value.int IntKind.i64 bI, Value.int IntKind.i64 st, Value.slice av N cv] 26)
      have BA := Lib.hid (B1.out.trans (hbA.mono B1.out.size))
      have HQ := Lib.hid (HBY.out _ av cv BA.out (hM1.later hbA))
      have HHA := Lib.hid hhA
      clear hmo hM1 hb1 hbA hhA
      go_wp2_with fail
      refine HQ.out.mono ?_
      rintro e w2 ⟨v2, rfl, hv2, hb2⟩
      have B2 : Hid (Below w.heap.size w w2) := BA.out.trans (hb2.mono BA.out.size)
      have HH2 := Lib.hid ((KeepC.of_below hb2).2 _ _ _ _ HHA.out)
      have HO2 := Lib.hid (HOP.out w2 _ v2 B2.out hv2)
      clear hv2 hb2 HQ HHA HBY HOF
      go_wp2_with fail
      refine HO2.out.mono ?_
      rintro e w3 ⟨u3, rfl, hu3, hb3⟩
      have B3 : Hid (Below w.heap.size w w3) := B2.out.trans (hb3.mono B2.out.size)
      have hh3 := (KeepC.of_below hb3).2 _ _ _ _ HH2.out
      obtain ⟨g1, g2, g3⟩ := HGT.out w3 _ u3 hu3
      obtain ⟨a3, c3, e3⟩ := own_form hu3
      rw [HLL.out] at e3
      subst e3
      have K1 := Lib.hid g1
      have K2 := Lib.hid g2
      have K3 := Lib.hid g3
      have q1 : w3.cell? ⟨w1.heap.size, 1, none⟩ = some (.int .i64 bI) := by rw [cell_of_row w3 _ 1 _ _ (0, 0) hh3]; rfl
      have q3 : w3.cell? ⟨w1.heap.size, 3, none⟩ = some (.slice av N cv) := by rw [cell_of_row w3 _ 3 _ _ (0, 0) hh3]; rfl
      have HA3 := Lib.hid (HAW.out _ B3.out)
      obtain ⟨ly, hly⟩ : ∃ ly, ly = p3 + M := ⟨_, rfl⟩
      have hmul := HMUL.out
      have hsub : ((ly : Int) - (p3 : Int)) = (M : Int) := by omega
      have hlyb : ly ≤ 100000 := by omega
      rw [← hly] at K1 K2 K3 ⊢
      clear hu3 hb3 hh3 g1 g2 g3 HO2 HH2 HOP HGT HLL hly hp3 hNs
      go_wp2_with (first
        | (go_at_call 29; with_reducible refine K1.out.mono ?_; rintro e w9 ⟨rfl, rfl⟩)
        | (go_at_call 29; with_reducible refine K2.out.mono ?_; rintro e w9 ⟨rfl, rfl⟩)
        | (go_at_call 29; with_reducible refine K3.out.mono ?_; rintro e w9 ⟨rfl, rfl⟩)
        | (go_at_call 10; refine HA3.out.mono ?_; rintro e w4 ⟨rfl, hb4⟩))
      go_ret
      exact ⟨rfl, B3.out.trans (hb4.mono B3.out.size)⟩
    · have HNO : Hid (Calls Tryd.prog 11 #[.slice a len cap, .int .i64 b0, .int .i64 st] w fun e w' => e = .returned (.tuple #[sigV 0 0 0 (.slice none 0 0), .int .i64 2]) ∧ Below w.heap.size w w') := sigof_no a len cap b0 st w hok
      unfold sigV at HNO
      clear hB hT0 hT2 hl hnil hcap hok
      go_enter Tryd.func9, Tryd.ntmps9
      go_wp2_with fail
      refine HNO.out.mono ?_
      rintro e w1 ⟨rfl, hb1⟩
      have B1 := Lib.hid (hb1.alloc hb1.size (Obj.cells #[Value.int IntKind.i64 0, Value.int IntKind.i64 0, Value.int IntKind.i64 0, Value.slice none 0 0] 26))
      have HA1 := Lib.hid (HAW.out _ B1.out)
      clear hb1 HNO
      go_wp2_with (go_at_call 10; refine HA1.out.mono ?_; rintro e w4 ⟨rfl, hb4⟩)
      go_ret
      exact ⟨rfl, B1.out.trans (hb4.mono B1.out.size)⟩
end Go.Proofs.YtkppnbehkmpogaaDoor
