/- glob: strings.TrimLeft of one byte; stars; results in a block of their own and in slots. (A template.) -/
import Derived.Test.YtokocfoeohddfaaGreatDoorGlMem
import Derived.Test.YtokocfoeohddfaaGreatDoorGlSign
namespace Go.Proofs.YtokocfoeohddfaaGreatDoor.Pa
open Go.RowKit
set_option linter.unusedVariables false
set_option linter.unusedSimpArgs false
set_option maxRecDepth 100000

section
variable {P : Program}
theorem results_cell2_row {fn : Func} {p u : Tmp} {ty : TypeId} (h : fn.results = #[.cell p ty, .tmp u]) (tmps : Array Value) (w : World) (g : Nat) (t : TypeId) (cs : Array Value) (fr : Nat × Nat) (d : TypeDesc)
    (hp : tmps.getD p undef = .pointer (some ⟨g, 0, none⟩)) (hg : w.heap[g]? = some (.cells cs t fr))
    (hu : P.underlying ty = some d) (hd : (match d with | .struct _ | .array _ _ => true | _ => false) = true) (hi : (P.info? ty).map (·.size) = some cs.size) :
    (results fn tmps).run P w = .ok (.tuple #[.agg cs, tmps.getD u undef]) w := by
  have hp' : tmps[p]?.getD undef = .pointer (some ⟨g, 0, none⟩) := by simpa using hp
  simp [results, h, hp', asAddr, run_loadVar_row w g t ty cs fr d hg hu hd hi, Sem.run_bind, Result.andThen]
theorem results_cell3_row {fn : Func} {p u v : Tmp} {ty : TypeId} (h : fn.results = #[.cell p ty, .tmp u, .tmp v]) (tmps : Array Value) (w : World) (g : Nat) (t : TypeId) (cs : Array Value) (fr : Nat × Nat) (d : TypeDesc)
    (hp : tmps.getD p undef = .pointer (some ⟨g, 0, none⟩)) (hg : w.heap[g]? = some (.cells cs t fr))
    (hu : P.underlying ty = some d) (hd : (match d with | .struct _ | .array _ _ => true | _ => false) = true) (hi : (P.info? ty).map (·.size) = some cs.size) :
    (results fn tmps).run P w = .ok (.tuple #[.agg cs, tmps.getD u undef, tmps.getD v undef]) w := by
  have hp' : tmps[p]?.getD undef = .pointer (some ⟨g, 0, none⟩) := by simpa using hp
  simp [results, h, hp', asAddr, run_loadVar_row w g t ty cs fr d hg hu hd hi, Sem.run_bind, Result.andThen]
end

def cut42 (l : L8) : L8 := l.dropWhile (· == 42)
theorem cut42_step {l : L8} (h : 0 < l.length) (h2 : bt l 0 = 42) : cut42 (l.drop 1) = cut42 l := by
  cases l with
  | nil => simp at h
  | cons c r =>
    have hc : c = 42 := UInt8.toNat_inj.1 (by have : (c.toNat : Int) = 42 := h2; show c.toNat = 42; omega)
    subst hc
    simp [cut42]
theorem cut42_end {l : L8} (h : l.length = 0 ∨ bt l 0 ≠ 42) : cut42 l = l := by
  cases l with
  | nil => rfl
  | cons c r =>
    have hc : c ≠ 42 := by
      intro e; subst e
      rcases h with h | h
      · simp at h
      · exact h rfl
    unfold cut42
    rw [List.dropWhile_cons, if_neg (by simpa using hc)]
theorem trimByte_any (l : L8) (w : World) (hl : l.length ≤ 4611686018427387904) :
    Calls Tryz.prog 93 #[.string (mk l), .int .u8 42] w fun e w' => e = .returned (.string (mk (cut42 l))) ∧ w = w' := by
  obtain ⟨R, hR⟩ : ∃ R, R = cut42 l := ⟨_, rfl⟩
  rw [← hR]
  have H0 : Hid (cut42 l = R ∧ l.length ≤ 4611686018427387904) := ⟨hR.symm, hl⟩
  clear hR hl
  go_enter Tryz.func93, Tryz.ntmps93
  go_wp2
  go_loopw [0] (fun c wr => ∃ d : L8, c = .string (mk d) ∧ Hid (cut42 d = R ∧ d.length ≤ 4611686018427387904) ∧ w = wr) (fun c _ => match c with | .string s => s.size | _ => 0)
  case atStart => exact ⟨l, rfl, H0, rfl⟩
  case round =>
    obtain ⟨d, rfl, HD, rfl⟩ := hrel
    clear H0
    have hs : (mk d).size = d.length := mk_size d
    have hdl := HD.out.2
    by_cases h0 : 0 < d.length
    · have hI : (0 : Int) < ((mk d).size : Int) := by omega
      have hx := run_at d 0 h0
      by_cases h1 : bt d 0 = 42
      · rw [h1] at hx
        have ht := run_tl d 1 h0
        have HN : Hid (cut42 d.tail = R ∧ d.tail.length ≤ 4611686018427387904) := ⟨by rw [← List.drop_one]; exact (cut42_step h0 h1).trans HD.out.1, by rw [← List.drop_one, List.length_drop]; omega⟩
        have HSZ : Hid ((mk d.tail).size < (mk d).size) := by show _ < _; rw [mk_size, mk_size, ← List.drop_one, List.length_drop]; omega
        simp only [Int.cast_ofNat_Int, List.drop_one] at hx ht
        clear hs hdl h0 h1
        go_wp2
        go_roundw
        case rel => exact ⟨d.tail, rfl, HN, by first | rfl | trivial⟩
        case measure => exact HSZ.out
      · have hne : (bt d 0 == 42) = false := by simpa using h1
        have HE : Hid (d = R) := by show _ = _; rw [← HD.out.1, cut42_end (.inr h1)]
        generalize bt d 0 = c at *
        simp only [Int.cast_ofNat_Int] at hx
        clear hs hdl h0 h1
        go_wp2
        go_ret
        exact ⟨by rw [HE.out]; rfl, rfl⟩
    · have hI : ¬ (0 : Int) < ((mk d).size : Int) := by omega
      have HE : Hid (d = R) := by show _ = _; rw [← HD.out.1, cut42_end (.inl (by omega))]
      clear hs hdl h0
      go_wp2
      go_ret
      exact ⟨by rw [HE.out]; rfl, rfl⟩
theorem trim_any (l : L8) (w : World) (h0 : 0 < l.length) (hl : l.length ≤ 4611686018427387904) :
    Calls Tryz.prog 89 #[.string (mk l), .string { data := #[42] }] w fun e w' => e = .returned (.string (mk (cut42 l))) ∧ w = w' := by
  have H := Lib.hid (trimByte_any l w hl)
  have e1 : (({ data := #[42] } : ByteArray)) = mk [42] := rfl
  have he : (mk l).toList.isEmpty = false := by
    rw [mk_toList]; cases l with
    | nil => simp at h0
    | cons c r => rfl
  have he1 : (mk [42]).toList.isEmpty = false := by rw [mk_toList]; rfl
  have hz : (mk [42]).size = 1 := rfl
  have hx := run_at [42] 0 (by decide)
  have hb : bt [42] 0 = 42 := rfl
  rw [hb] at hx
  simp only [Int.cast_ofNat_Int] at hx
  rw [e1]
  generalize mk [42] = q at *
  clear h0 hl
  go_enter Tryz.func89, Tryz.ntmps89
  go_wp2_with (go_at_call 93; refine H.out.mono ?_; rintro e w' ⟨rfl, rfl⟩)
  go_ret
  exact ⟨rfl, rfl⟩

def Sg.val (x : Sg) : Value := signV x.S x.many x.itself (x.c : Int)
theorem cut42_len (l : L8) (a : Nat) (h : a ≤ l.length) : ((cut42 (l.drop a)).length : Int) = (l.length : Int) - ((a + stars l a : Nat) : Int) := by
  have e : (l.drop a).takeWhile (· == 42) ++ cut42 (l.drop a) = l.drop a := List.takeWhile_append_dropWhile
  have e2 := congrArg List.length e
  rw [List.length_append, List.length_drop] at e2
  unfold stars
  omega
end Go.Proofs.YtokocfoeohddfaaGreatDoor.Pa
