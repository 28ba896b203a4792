/- path: its small functions. (A template.) -/
import Derived.Test.YtokocfoeohddfaaGreatDoorPaStr
import Derived.Test.YtokocfoeohddfaaGreatDoorShelf
import Derived.WalkSmall
import Derived.BigQuiet
import Derived.Deep.QuietTactic
namespace Go.Proofs.YtokocfoeohddfaaGreatDoor.Pa
open Go.RowKit
set_option linter.unusedVariables false
set_option linter.unusedSimpArgs false
set_option maxRecDepth 1000000

theorem mk_lit (l : L8) : ({ data := l.toArray } : ByteArray) = mk l := rfl
theorem emptyT {l : L8} (h : l = []) : (mk l).toList.isEmpty = true := by subst h; rw [mk_toList]; rfl
theorem emptyF {l : L8} (h : l ≠ []) : (mk l).toList.isEmpty = false := by rw [mk_toList]; cases l with | nil => exact absurd rfl h | cons c l => rfl

def lastS (l : L8) : Int := Lib.lastIndexByte (mk l) 47
theorem lastS_spec (l : L8) : (lastS l = -1 ∧ ∀ j : Nat, l[j]? ≠ some 47) ∨ (∃ i : Nat, i < l.length ∧ lastS l = i ∧ l[i]? = some 47 ∧ ∀ j : Nat, i < j → l[j]? ≠ some 47) := by
  have hb : ∀ j, j < l.length → (((mk l).data[j]!).toNat : Int) = bt l j := by
    intro j hj
    have e : (mk l).data[j]! = l.getD j 0 := by
      show (l.toArray)[j]! = _
      rw [getElem!_pos l.toArray j (by simpa using hj), List.getD_eq_getElem?_getD, List.getElem?_eq_getElem hj]
      simp
    rw [e]; rfl
  have hs : (mk l).size = l.length := mk_size l
  rcases Lib.lastIdx_spec (mk l) 47 (mk l).size with ⟨h1, h2⟩ | ⟨i, h1, h2, h3, h4⟩
  · left
    refine ⟨h1, fun j hj => ?_⟩
    have hlt : j < l.length := by
      rcases Nat.lt_or_ge j l.length with h | h
      · exact h
      · rw [List.getElem?_eq_none h] at hj; cases hj
    have := h2 j (by omega)
    rw [hb j hlt] at this
    exact this ((bt_slash hlt).2 hj)
  · right
    refine ⟨i, by omega, h2, ?_, fun j hij hj => ?_⟩
    · rw [hb i (by omega)] at h3
      exact (bt_slash (by omega)).1 h3
    · have hlt : j < l.length := by
        rcases Nat.lt_or_ge j l.length with h | h
        · exact h
        · rw [List.getElem?_eq_none h] at hj; cases hj
      have := h4 j hij (by omega)
      rw [hb j hlt] at this
      exact this ((bt_slash hlt).2 hj)
def parentL (l : L8) : L8 := l.take (lastS l).toNat
def baseL (l : L8) : L8 := l.drop (lastS l + 1).toNat
theorem last_any (l : L8) (w : World) (hl : l.length ≤ 140737488355328) :
    Calls Tryz.prog 40 #[.string (mk l), .int .u8 47] w fun e w' => e = .returned (.int .i64 (lastS l)) ∧ w' = w :=
  Tryz.strings_LastIndexByte (mk l) 47 (by rw [mk_size]; omega) w
theorem parent_any (l : L8) (w : World) (hl : l.length ≤ 140737488355328) :
    Calls Tryz.prog 24 #[.string (mk l)] w fun e w' => e = .returned (.string (mk (parentL l))) ∧ w = w' := by
  have HC := Lib.hid (fun w => last_any l w hl)
  obtain ⟨m, hm, hmx⟩ : ∃ m : Nat, m ≤ l.length ∧ ((m : Int) = max (lastS l) 0 ∧ m = (lastS l).toNat ∧ -1 ≤ lastS l) := by
    rcases lastS_spec l with ⟨h, _⟩ | ⟨i, h1, h2, _⟩
    · exact ⟨0, by omega, by omega, by omega, by omega⟩
    · exact ⟨i, by omega, by omega, by omega, by omega⟩
  obtain ⟨hm1, hm2, hm3⟩ := hmx
  have hr := run_hd l m hm
  have e : l.take m = parentL l := by unfold parentL; rw [hm2]
  rw [e] at hr
  have hmax : ∀ W, (Builtin.max_ #[3, 3] 3 #[.int .i64 (lastS l), .int .i64 0]).run Tryz.prog W = .ok (.int .i64 (m : Int)) W := by
    intro W
    by_cases hq : (0 : Int) ≤ lastS l
    · have e : (m : Int) = lastS l := by omega
      rw [e]
      simp [Builtin.max_, Builtin.max2]
      try omega
    · have e : (m : Int) = 0 := by omega
      rw [e]
      simp [Builtin.max_, Builtin.max2]
      try omega
  clear hm1 hm2 hm e
  generalize lastS l = x at *
  generalize parentL l = r at *
  go_enter Tryz.func24, Tryz.ntmps24
  go_wp2_with (go_at_call 40; refine (HC.out _).mono ?_; rintro e w' ⟨rfl, rfl⟩)
  go_ret
  exact ⟨rfl, rfl⟩
theorem base_any (l : L8) (w : World) (hl : l.length ≤ 140737488355328) :
    Calls Tryz.prog 33 #[.string (mk l)] w fun e w' => e = .returned (.string (mk (baseL l))) ∧ w = w' := by
  have HC := Lib.hid (fun w => last_any l w hl)
  obtain ⟨m, hm, hm1⟩ : ∃ m : Nat, m ≤ l.length ∧ lastS l + 1 = (m : Int) := by
    rcases lastS_spec l with ⟨h, _⟩ | ⟨i, h1, h2, _⟩
    · exact ⟨0, by omega, by omega⟩
    · exact ⟨i + 1, by omega, by omega⟩
  have hr := run_tl l m hm
  have e : l.drop m = baseL l := by unfold baseL; rw [hm1]; rfl
  rw [e] at hr
  have hx : lastS l = (m : Int) - 1 := by omega
  rw [hx] at HC
  clear hm1 hx e
  generalize baseL l = r at *
  go_enter Tryz.func33, Tryz.ntmps33
  go_wp2_with (go_at_call 40; refine (HC.out _).mono ?_; rintro e w' ⟨rfl, rfl⟩)
  go_ret
  exact ⟨rfl, rfl⟩

def rank (l : L8) (i : Nat) : Int := if i = l.length then 0 else if bt l i = 47 then 1 else 2 + bt l i
def alikeN : L8 → L8 → Nat
  | x :: a, y :: b => if x = y then alikeN a b + 1 else 0
  | _, _ => 0
theorem alikeN_le (a b : L8) : alikeN a b ≤ a.length ∧ alikeN a b ≤ b.length := by
  induction a generalizing b with
  | nil => simp [alikeN]
  | cons x a ih =>
    cases b with
    | nil => simp [alikeN]
    | cons y b =>
      rw [alikeN]
      split
      · have := ih b; simp; omega
      · simp
theorem alikeN_same (a b : L8) : ∀ j, j < alikeN a b → a[j]? = b[j]? := by
  induction a generalizing b with
  | nil => intro j h; simp [alikeN] at h
  | cons x a ih =>
    cases b with
    | nil => intro j h; simp [alikeN] at h
    | cons y b =>
      rw [alikeN]
      split
      · next e =>
        subst e
        intro j h
        cases j with
        | zero => rfl
        | succ j => simpa using ih b j (by omega)
      · intro j h; omega
theorem alikeN_unlike (a b : L8) (h1 : alikeN a b < a.length) (h2 : alikeN a b < b.length) : a[alikeN a b]? ≠ b[alikeN a b]? := by
  induction a generalizing b with
  | nil => simp at h1
  | cons x a ih =>
    cases b with
    | nil => simp at h2
    | cons y b =>
      rw [alikeN] at h1 h2 ⊢
      split
      · next e =>
        rw [if_pos e] at h1 h2
        simp at h1 h2
        simpa using ih b (by omega) (by omega)
      · next e => simpa using e
theorem bt_eq {a b : L8} {i : Nat} (ha : i < a.length) (hb : i < b.length) : bt a i = bt b i ↔ a[i]? = b[i]? := by
  rw [List.getElem?_eq_getElem ha, List.getElem?_eq_getElem hb, bt_of (List.getElem?_eq_getElem ha), bt_of (List.getElem?_eq_getElem hb)]
  constructor
  · intro e; congr 1; exact UInt8.toNat_inj.1 (by omega)
  · intro e; injection e with e; rw [e]
def Drew (w w' : World) : Prop := ∃ n, w' = w.drewN n
theorem Drew.refl (w : World) : Drew w w := ⟨0, rfl⟩
theorem Drew.trans {a b c : World} (h : Drew a b) (k : Drew b c) : Drew a c := by
  obtain ⟨n, rfl⟩ := h; obtain ⟨m, rfl⟩ := k; exact ⟨n + m, by simp⟩
theorem Drew.more {a b : World} (h : Drew a b) (m : Nat) : Drew a (b.drewN m) := h.trans ⟨m, rfl⟩
theorem Drew.below {w w' : World} (h : Drew w w') : Below w.heap.size w w' := by
  obtain ⟨n, rfl⟩ := h; exact below_drewN (Below.refl _ _) n
theorem alike_stop {a b : L8} {i : Nat} (h : ∀ j, j < i → a[j]? = b[j]?) (hn : i = a.length ∨ i = b.length ∨ a[i]? ≠ b[i]?) (ha : i ≤ a.length) (hb : i ≤ b.length) : alikeN a b = i := by
  have h1 := alikeN_le a b
  rcases Nat.lt_trichotomy (alikeN a b) i with g | g | g
  · exact absurd (h _ g) (alikeN_unlike a b (by omega) (by omega))
  · exact g
  · have := alikeN_same a b i g
    rcases hn with e | e | e
    · omega
    · omega
    · exact absurd this e
def orderV (a b : L8) : Int := rank a (alikeN a b) - rank b (alikeN a b)
theorem rank_bounds (l : L8) (i : Nat) : 0 ≤ rank l i ∧ rank l i ≤ 257 := by
  have := bt_bounds l i
  unfold rank
  repeat' split
  all_goals omega
def lessB (a b : L8) : Bool := decide (orderV a b < 0)
def endsB (l : L8) (i : Nat) : Bool := decide (i = l.length ∨ bt l i = 47)
theorem hp_any (a b : L8) (w : World) : Calls Tryz.prog 78 #[.string (mk a), .string (mk b)] w fun e w' => e = .returned (.bool (b.isPrefixOf a)) ∧ w' = w := by
  have h := Tryz.strings_HasPrefix (mk a) (mk b) w
  rw [mk_list, mk_list] at h
  exact h
def underB (p top : L8) : Bool := decide (top = [] ∨ (top.isPrefixOf p = true ∧ endsB p top.length = true))
theorem prefix_len {a b : L8} (h : b.isPrefixOf a = true) : b.length ≤ a.length := (List.isPrefixOf_iff_prefix.1 h).length_le
end Go.Proofs.YtokocfoeohddfaaGreatDoor.Pa
