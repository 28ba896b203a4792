/- path: Sort, its pieces. (A template.) -/
import Derived.Test.YteimbdbnipfmkaaPaSlsf
import Derived.Test.YteimbdbnipfmkaaPaRSa
namespace Go.Proofs.Yteimbdbnipfmkaa.Pa
open Go.RowKit
set_option linter.unusedVariables false
set_option linter.unusedSimpArgs false
set_option maxRecDepth 1000000

abbrev Tx : Type := { s : L8 // s.length ≤ 4000 }
instance : Inhabited Tx := ⟨⟨[], by simp⟩⟩
def encT (s : Tx) : Value := .string (mk s.1)
def cfT (x y : Tx) : Int := orderV x.1 y.1
theorem ltT (x y : Tx) : ltOf cfT x y = lessB x.1 y.1 := rfl
theorem swoT : «Sort».SWO (ltOf cfT) where
  irrefl x := by rw [ltT]; exact ord3 _
  trans x y z h1 h2 := by rw [ltT] at *; exact ord1 _ _ _ h1 h2
  ntrans x y z h1 h2 := by
    rw [ltT] at *
    have := le_trans8 z.1 y.1 x.1 (by unfold le8; rw [h2]; rfl) (by unfold le8; rw [h1]; rfl)
    unfold le8 at this
    simpa using this
theorem cmpT (blk off size : Nat) (w : World) : CmpReads Try.prog 46 #[] encT cfT blk off size w := fun _ _ _ _ x y => order_any x.1 y.1 _ (by have := x.2; omega) (by have := y.2; omega)
theorem egT : ∀ args w, (callFunc 46 args).run Try.prog w = .ok (.enter 46 args) w := enters_of Try.func46 (by kernel_rfl) rfl

theorem below_sortT (w : World) (g n : Nat) (d : Array Tx) (os : Array Obj) (base : Nat) (hb : base ≤ g) (hg : g < w.heap.size) : Below base w (sortWorld encT w g 0 n d os) := by
  refine ⟨rfl, rfl, rfl, ?_, fun k hk => ?_⟩
  · show w.heap.size ≤ ((w.heap.modify g _) ++ os).size
    rw [Array.size_append, Array.size_modify]; omega
  · show ((w.heap.modify g _) ++ os)[k]? = w.heap[k]?
    rw [Array.getElem?_append_left (by rw [Array.size_modify]; omega), Array.getElem?_modify, if_neg (by omega)]
theorem texts_T {ss : List L8} (hP : ∀ s ∈ ss, s.length ≤ 4000) : ∃ ts : List Tx, ts.map (·.1) = ss := by
  induction ss with
  | nil => exact ⟨[], rfl⟩
  | cons s ss ih =>
    obtain ⟨ts, h⟩ := ih (fun x hx => hP x (by simp [hx]))
    exact ⟨⟨s, hP s (by simp)⟩ :: ts, by simp [h]⟩
theorem unfrozenT {w : World} {g : Nat} {cur : Array Value} {e : TypeId} (h : w.heap[g]? = some (.cells cur e)) (j : Nat) : w.frozen? ⟨g, j, none⟩ = false := by
  simp [World.frozen?, h]
/-- slices.SortFunc of a row of one's own -/
theorem sortRow (g cap : Nat) (ss : List L8) (w : World) (base : Nat) (hO : SOwn w base (.slice (some ⟨g, 0, none⟩) ss.length cap) ss) (hP : ∀ s ∈ ss, s.length ≤ 4000) (hN : ss.length ≤ 300) :
    Calls Try.prog 51 #[.slice (some ⟨g, 0, none⟩) ss.length cap, .func (.func 46) #[] #[]] w fun e w' => e = .returned (.tuple #[]) ∧ Txt w' (.slice (some ⟨g, 0, none⟩) ss.length cap) (msort ss.length ss) ∧ Below base w w' := by
  obtain ⟨ts, rfl⟩ := texts_T hP
  rcases hO.form with ⟨_, h⟩ | ⟨g', cap', e, hbg, hg, hcap, ⟨cur, hcur⟩, hc⟩
  · cases h
  simp only [Value.slice.injEq, Option.some.injEq, Addr.mk.injEq] at e
  obtain ⟨⟨rfl, -, -⟩, -, rfl⟩ := e
  have hsz : ts.toArray.size = (ts.map (·.1)).length := by simp
  have hH : «Sort».Holds encT w g 0 ts.toArray := by
    intro j hj
    refine ⟨?_, unfrozenT hcur _⟩
    have hj' : j < ts.length := by simpa using hj
    have := hc j (ts[j].1) (by simp [hj'])
    rw [this]
    unfold encT
    simp [hj']
  have hcon := Any.slices_SortFunc sortStr encT (fun _ => rfl) cfT swoT 46 #[] g 0 cap ts.toArray w egT (cmpT g 0 ts.toArray.size w).lays hH hg (by rw [hsz]; omega)
  rw [hsz] at hcon
  refine Calls.mono (show Calls Try.prog 51 _ _ _ from hcon) ?_
  rintro e w' ⟨rfl, d', n, os, ⟨hp1, hp2, hp3⟩, hs, rfl⟩
  have hd : d'.size = (ts.map (·.1)).length := by rw [hp1, hsz]
  have e1 : d'.extract 0 (ts.map (·.1)).length = d' := by rw [← hd]; simp
  have e2 : ts.toArray.extract 0 (ts.map (·.1)).length = ts.toArray := by rw [← hsz]; simp
  rw [e1, e2] at hp3
  have hperm : (d'.toList.map (·.1)).Perm (ts.map (·.1)) := by simpa using hp3.map (·.1)
  have hsorted : (d'.toList.map (·.1)).Pairwise (fun a b => le8 a b = true) := by
    rw [List.pairwise_iff_getElem]
    intro i j hi hj hij
    have hi' : i < d'.size := by simpa using hi
    have hj' : j < d'.size := by simpa using hj
    have := hs i j (Nat.zero_le _) hij (by rw [← hd]; exact hj')
    rw [ltT, getElem!_pos d' i hi', getElem!_pos d' j hj'] at this
    unfold le8
    simp [this]
  have heq : msort (ts.map (·.1)).length (ts.map (·.1)) = d'.toList.map (·.1) := sorted_eq (msort_sorted _ _ (by omega)) hsorted ((msort_perm _ _).trans hperm.symm)
  refine ⟨rfl, ?_, below_sortT w g n d' os base hbg hg⟩
  rw [heq]
  have hH' := holds_sortWorld encT w g 0 n ts.toArray d' os hg hH hp1
  refine ⟨_, cap, by rw [show (d'.toList.map (·.1)).length = (ts.map (·.1)).length from by rw [← hd]; simp], fun _ => ⟨g, 0, rfl, fun j x hj => ?_⟩⟩
  rw [List.getElem?_map] at hj
  cases hq : d'.toList[j]? with
  | none => rw [hq] at hj; cases hj
  | some y =>
    rw [hq] at hj
    injection hj with hj
    subst hj
    have hjl : j < d'.size := by
      rcases Nat.lt_or_ge j d'.size with h | h
      · exact h
      · rw [List.getElem?_eq_none (by simpa using h)] at hq; cases hq
    rw [(hH' j hjl).1]
    unfold encT
    rw [getElem!_pos d' j hjl]
    have : d'[j] = y := by
      rw [Array.getElem?_toList, Array.getElem?_eq_getElem hjl] at hq
      injection hq
    rw [this]
end Go.Proofs.Yteimbdbnipfmkaa.Pa
