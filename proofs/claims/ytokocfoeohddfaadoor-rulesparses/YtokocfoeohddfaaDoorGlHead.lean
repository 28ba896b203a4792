/- glob: the head of signs. (A template.) -/
import Derived.Test.YtokocfoeohddfaaDoorGlChecks
namespace Go.Proofs.YtokocfoeohddfaaDoor.Pa
open Go.RowKit
set_option linter.unusedVariables false
set_option linter.unusedSimpArgs false
set_option maxRecDepth 100000

def ints (b : L8) : List Int := b.map fun c => (c.toNat : Int)
theorem ints_oct (b : L8) : Oct (ints b) := by
  intro c hc
  obtain ⟨x, _, rfl⟩ := List.mem_map.1 hc
  have := x.toNat_lt
  omega
theorem ints_str (b : L8) : strOfNums (ints b) = mk b := by
  unfold strOfNums ints mk
  congr 1
  simp [List.map_map, Function.comp_def]
def sgByte (x : Sg) : UInt8 := UInt8.ofNat x.c
def headL (L : List Sg) : L8 := (L.takeWhile (·.itself)).map sgByte
/-- signs of bytes that stand for themselves have a byte -/
def Fits (L : List Sg) : Prop := ∀ x ∈ L, x.c < 256
theorem sgn_fits {l : L8} {a b : Nat} {x : Sg} (h : sgn l a = some (x, b)) : x.c < 256 := by
  unfold sgn at h
  split at h
  · cases hc : cls l (l.length + 1) (if bang l a = true then a + 2 else a + 1) noneS with
    | none => rw [hc] at h; simp at h
    | some y => rw [hc] at h; simp at h; rw [← h.1]; simp [classSg]
  · split at h
    · simp at h; rw [← h.1]; simp
    · split at h
      · simp at h; rw [← h.1]; split <;> simp
      · cases hr : rbN l a with
        | none => rw [hr] at h; simp at h
        | some y =>
          rw [hr] at h
          simp at h
          rw [← h.1]
          exact (rb_some (c := y.1) (b := y.2) hr).2.1
theorem sgns_fits {l : L8} : ∀ n a L, sgns l n a = some L → Fits L := by
  intro n
  induction n with
  | zero => intro a L h; simp [sgns] at h
  | succ n ih =>
    intro a L h
    rw [sgns_eq] at h
    split at h
    · cases hs : sgn l a with
      | none => rw [hs] at h; simp at h
      | some x =>
        obtain ⟨x, b⟩ := x
        rw [hs] at h
        simp only at h
        cases hr : sgns l n b with
        | none => rw [hr] at h; simp at h
        | some M =>
          rw [hr] at h
          simp only [Option.map_some, Option.some.injEq] at h
          subst h
          intro y hy
          rcases List.mem_cons.1 hy with rfl | hy
          · exact sgn_fits hs
          · exact ih b M hr y hy
    · simp only [Option.some.injEq] at h
      subst h; intro x hx; simp at hx
theorem headL_cons (x : Sg) (L : List Sg) : headL (x :: L) = if x.itself = true then sgByte x :: headL L else [] := by
  unfold headL
  rw [List.takeWhile_cons]
  split <;> simp
/-- behind k signs, all of which stand for themselves -/
def Gone (L : List Sg) (k : Nat) (b : L8) : Prop := k ≤ L.length ∧ b.length = k ∧ headL L = b ++ headL (L.drop k)
theorem Gone.next {L : List Sg} {k : Nat} {b : L8} {x : Sg} (h : Gone L k b) (hx : L[k]? = some x) (hi : x.itself = true) : Gone L (k + 1) (b ++ [sgByte x]) := by
  obtain ⟨h1, h2⟩ := List.getElem?_eq_some_iff.1 hx
  refine ⟨h1, by simp [h.2.1], ?_⟩
  rw [h.2.2, List.drop_eq_getElem_cons h1, h2, headL_cons, if_pos hi]
  simp
theorem Gone.stop {L : List Sg} {k : Nat} {b : L8} {x : Sg} (h : Gone L k b) (hx : L[k]? = some x) (hi : x.itself = false) : headL L = b := by
  obtain ⟨h1, h2⟩ := List.getElem?_eq_some_iff.1 hx
  rw [h.2.2, List.drop_eq_getElem_cons h1, h2, headL_cons, if_neg (by rw [hi]; simp)]
  simp
theorem Gone.all {L : List Sg} {k : Nat} {b : L8} (h : Gone L k b) (hx : ¬ k < L.length) : headL L = b := by
  rw [h.2.2, List.drop_eq_nil_of_le (by omega)]
  simp [headL]
theorem GsAt.cs7 {w : World} {g i : Nat} {L : List Sg} {x : Sg} (h : GsAt w g L) (hi : L[i]? = some x) :
    w.cell? ⟨g, i * 7, none⟩ = some (.int .u64 (wd x.S 0 : Int)) ∧ w.cell? ⟨g, i * 7 + 1, none⟩ = some (.int .u64 (wd x.S 1 : Int)) ∧ w.cell? ⟨g, i * 7 + 2, none⟩ = some (.int .u64 (wd x.S 2 : Int)) ∧ w.cell? ⟨g, i * 7 + 3, none⟩ = some (.int .u64 (wd x.S 3 : Int)) ∧ w.cell? ⟨g, i * 7 + 4, none⟩ = some (.bool x.many) ∧ w.cell? ⟨g, i * 7 + 5, none⟩ = some (.bool x.itself) ∧ w.cell? ⟨g, i * 7 + 6, none⟩ = some (.int .u8 (x.c : Int)) :=
  ⟨h.cell i x hi 0 (by omega), h.cell i x hi 1 (by omega), h.cell i x hi 2 (by omega), h.cell i x hi 3 (by omega), h.cell i x hi 4 (by omega), h.cell i x hi 5 (by omega), h.cell i x hi 6 (by omega)⟩
set_option maxHeartbeats 8000000 in
theorem head_any (L : List Sg) (g c : Nat) (w : World) (hG : GsAt w g L) (hL : L.length ≤ 100) (hF : Fits L) :
    Calls Tryd.prog 43 #[.slice (some ⟨g, 0, none⟩) L.length c] w fun e w' => e = .returned (.string (mk (headL L))) ∧ Below w.heap.size w w' := by
  have HG0 := Lib.hid hG
  have HLL := Lib.hid hL
  have HFF := Lib.hid hF
  have HGL : Hid (g < w.heap.size) := hG.lt
  clear hG hL hF
  go_enter Tryd.func43, Tryd.ntmps43
  go_wp2
  go_loopw [3, 8] (fun v i wr => ∃ (k : Nat) (b : L8), i = .int .i64 k ∧ (∃ a cc, v = .slice a k cc) ∧ Hid (Gone L k b) ∧ Hid (Own wr w.heap.size v (ints b)) ∧ Hid (GsAt wr g L) ∧ Hid (Below w.heap.size w wr)) (fun _ i _ => L.length - (intOf i).toNat)
  case atStart => exact ⟨0, [], rfl, ⟨none, 0, rfl⟩, ⟨Nat.zero_le _, rfl, rfl⟩, Own.nil _ _, HG0.out, Below.refl _ _⟩
  case round =>
    clear HG0
    obtain ⟨k, b, rfl, ⟨a3, c3, rfl⟩, HGo, HO, HG, HB⟩ := hrel
    have hsl := HO.out.sl (ints_oct b)
    obtain ⟨a', c', e', hby, hnil, hcap⟩ := hsl
    have hbk : b.length = k := HGo.out.2.1
    have hib : (ints b).length = k := by unfold ints; rw [List.length_map]; exact hbk
    rw [hib] at e'
    simp only [Value.slice.injEq, true_and] at e'
    obtain ⟨rfl, rfl⟩ := e'
    have hstr : ∀ (W : World), Below wr.heap.size wr W → (convert 36 9 (.slice a3 k c3)).run Tryd.prog W = .ok (.string (mk b)) W := by
      intro W hW
      rw [← ints_str b]
      exact run_str (hby.later hW) k c3 hib.symm
    by_cases hk : k < L.length
    · have hIk : (k : Int) < (L.length : Int) := by omega
      obtain ⟨x, hx⟩ : ∃ x, L[k]? = some x := ⟨_, List.getElem?_eq_getElem hk⟩
      have hLL := HLL.out
      have hw1 : IntKind.i64.wrap ((k : Int) + 1) = (k : Int) + 1 := IntWalk.i64_in _ (by omega)
      obtain ⟨k0, k1, k2, k3, k4, k5, k6⟩ := HG.out.cs7 hx
      have hxf : x.c < 256 := HFF.out x (List.mem_of_getElem? hx)
      have HKL := Lib.hid hk
      cases hit : x.itself with
      | false =>
        have HE : Hid (headL L = b) := HGo.out.stop hx hit
        rw [hit] at k5
        have hst := hstr (wr.alloc (.cells #[.int .u64 (wd x.S 0 : Int), .int .u64 (wd x.S 1 : Int), .int .u64 (wd x.S 2 : Int), .int .u64 (wd x.S 3 : Int), .bool x.many, .bool false, .int .u8 (x.c : Int)] 85)) ((Below.refl _ _).alloc (Nat.le_refl _) _)
        clear hk hx hLL hstr hby hnil hcap hbk hib hit hxf
        go_wp2
        go_ret
        exact ⟨by rw [HE.out]; rfl, HB.out.alloc HB.out.size _⟩
      | true =>
        have HNG : Hid (Gone L (k + 1) (b ++ [sgByte x])) := HGo.out.next hx hit
        rw [hit] at k5
        have hxi : ints [sgByte x] = [(x.c : Int)] := by
          unfold ints sgByte; simp; omega
        have HIA : Hid (ints (b ++ [sgByte x]) = ints b ++ [(x.c : Int)]) := by show _ = _; rw [← hxi]; simp [ints]
        obtain ⟨w2, hw2⟩ : ∃ w2, w2 = wr.alloc (.cells #[.int .u64 (wd x.S 0 : Int), .int .u64 (wd x.S 1 : Int), .int .u64 (wd x.S 2 : Int), .int .u64 (wd x.S 3 : Int), .bool x.many, .bool true, .int .u8 (x.c : Int)] 85) := ⟨_, rfl⟩
        have hb2 : Below wr.heap.size wr w2 := by rw [hw2]; exact (Below.refl _ _).alloc (Nat.le_refl _) _
        have hs2 : w2.heap.size = wr.heap.size + 1 := by rw [hw2]; simp
        have hb3 : Below wr.heap.size wr (w2.alloc (.cells #[.int .u8 (x.c : Int)] 5)) := hb2.alloc (by omega) _
        have HO3 := Lib.hid (HO.out.below hb3)
        have HB3 := Lib.hid (HB.out.trans (hb3.mono HB.out.size))
        have HG3 := Lib.hid (HG.out.later hb3 HG.out.lt)
        have HSL := Lib.hid (one_sl w2 (x.c : Int) (by omega) (by omega))
        have HSZ : Hid (w.heap.size ≤ (w2.alloc (.cells #[.int .u8 (x.c : Int)] 5)).heap.size) := HB3.out.size
        have HLN : Hid ((ints b).length + [(x.c : Int)].length ≤ 140737488355328) := by show _ ≤ _; rw [hib]; simp; omega
        have HBI := Lib.hid hib
        rw [hw2, World.size_alloc] at HSL
        rw [hw2] at HO3 HB3 HG3 HSZ
        clear hk hx hLL hstr hby hnil hcap hbk hib hit hxf hxi hw2 hb2 hs2 hb3
        go_wp2_with (at_builtin; go_must (refine append_sl rfl (.tmp 15) (.tmp 18) rfl w.heap.size (.slice a3 k c3) (.slice (some ⟨wr.heap.size + 1, 0, none⟩) 1 1) (ints b) [(x.c : Int)] rfl HO3.out rfl HSL.out HLN.out HSZ.out ?_); intro v5 w5 HO5 hb5; have HB5 := Lib.hid (HB3.out.trans hb5); have HG5 := Lib.hid (HG3.out.later hb5 HGL.out); clear hb5)
        obtain ⟨a5, c5, rfl⟩ : ∃ a cc, v5 = .slice a (k + 1) cc := by
          obtain ⟨a, cc, h⟩ := own_form HO5.out
          rw [List.length_append, HBI.out] at h
          exact ⟨a, cc, h⟩
        go_roundw
        case rel => exact ⟨k + 1, b ++ [sgByte x], by go_num, ⟨_, _, rfl⟩, HNG, by rw [HIA.out]; exact HO5, HG5, HB5⟩
        case measure => have := HKL.out; simp [intOf]; omega
    · have hIk : ¬ (k : Int) < (L.length : Int) := by omega
      have HE : Hid (headL L = b) := HGo.out.all hk
      have hst := hstr wr (Below.refl _ _)
      clear hk hstr hby hnil hcap hbk hib
      go_wp2
      go_ret
      exact ⟨by rw [HE.out]; rfl, HB.out⟩
end Go.Proofs.YtokocfoeohddfaaDoor.Pa
