/-
  The walks of layer 12's code: the library's slices.IndexFunc and slices.ContainsFunc at widths; mayBe, isRoom, Total. The walks of layer 12's code: the library's slices.Clone at bools; with, behind.
-/
import Derived.Test.YtkaepadkdohmpaaSubRefA
import Derived.Test.YtkaepadkdohmpaaSubPlain
import Derived.Shelf.Abstract
import Derived.StillTailTactics
import Derived.Deep.RegionHeld3
import Derived.IntWalk
namespace Go.Proofs.Ytkaepadkdohmpaa.SubWalk
open Go.RowKit Go.Proofs.Ytkaepadkdohmpaa.SubPlain Go.Proofs.Ytkaepadkdohmpaa.Mem Go.Proofs.Ytkaepadkdohmpaa.SubRef
/-- A place of a width that may not be, or -1. -/
def FirstIs (ws : List Int) (w : World) (e : Ending) (w' : World) : Prop := ∃ n : Int, e = .returned (.int .i64 n) ∧ decide (0 ≤ n) = !(ws.all wideB) ∧ w = w'
theorem all_not {ws : List Int} {k : Nat} (hk : k < ws.length) (hx : wideB (ws.getD k 0) = false) : ws.all wideB = false := by
  rw [List.all_eq_false]
  exact ⟨ws[k], List.getElem_mem _, by rw [← getD_at hk, hx]; decide⟩
def roomB (n : Int) : Bool := decide (0 ≤ n) && decide (n ≤ 256)
/-- Where the places so far are places, and what comes of the next one. -/
theorem ok_not {ws ps : List Int} {k : Nat} (hk : k < ps.length) (h : upB ws (lastAt ps k) (ps.getD k 0) = false) : okP ws ps = false := by
  cases ho : okP ws ps
  · rfl
  · have := ok_mono (k := k + 1) (by omega) ho
    unfold okTo at this
    rw [h, Bool.and_false] at this
    cases this
theorem ok_next {ws ps : List Int} {k : Nat} (h : okTo ws ps k = true) (h2 : upB ws (lastAt ps k) (ps.getD k 0) = true) : okTo ws ps (k + 1) = true := by unfold okTo; rw [h, h2]; rfl
theorem last_next (ps : List Int) (k : Nat) : lastAt ps (k + 1) = ps.getD k 0 := by unfold lastAt; rw [if_neg (by omega)]; rfl
theorem step_ways (ws : List Int) (last p : Int) : (decide (p ≤ last) = true ∧ upB ws last p = false) ∨ (decide (p ≤ last) = false ∧ decide ((ws.length : Int) ≤ p) = true ∧ upB ws last p = false) ∨ (decide (p ≤ last) = false ∧ decide ((ws.length : Int) ≤ p) = false ∧ upB ws last p = true) := by
  unfold upB
  by_cases h1 : p ≤ last
  · exact .inl ⟨decide_eq_true h1, by rw [decide_eq_false (by omega)]; rfl⟩
  · by_cases h2 : (ws.length : Int) ≤ p
    · exact .inr (.inl ⟨decide_eq_false h1, decide_eq_true h2, by rw [decide_eq_false (p := p < _) (by omega), Bool.and_false]⟩)
    · exact .inr (.inr ⟨decide_eq_false h1, decide_eq_false h2, by rw [decide_eq_true (by omega), decide_eq_true (by omega)]; rfl⟩)
end Go.Proofs.Ytkaepadkdohmpaa.SubWalk
namespace Go.Proofs.Ytkaepadkdohmpaa.SubWalk
open Go.RowKit Go.Proofs.Ytkaepadkdohmpaa.SubPlain Go.Proofs.Ytkaepadkdohmpaa.Mem Go.Proofs.Ytkaepadkdohmpaa.SubRef
def bvals (n : Nat) (f : Nat → Bool) : List Value := (List.range n).map fun i => .bool (f i)
theorem bvals_len (n : Nat) (f : Nat → Bool) : (bvals n f).length = n := by simp [bvals]
theorem bvals_at {n : Nat} (f : Nat → Bool) {i : Nat} (h : i < n) : (bvals n f)[i]? = some (.bool (f i)) := by simp [bvals, h]
theorem bvals_cell (n : Nat) (f : Nat → Bool) : ∀ u ∈ bvals n f, u.oneCell' = true := by
  intro u hu
  obtain ⟨i, _, rfl⟩ := List.mem_map.1 hu
  rfl
theorem bvals_set {n k : Nat} (f : Nat → Bool) (b : Bool) (h : k < n) : (bvals n f).set k (.bool b) = bvals n (fun i => if i = k then b else f i) := by
  refine List.ext_getElem (by simp [bvals]) fun i h1 h2 => ?_
  simp only [bvals, List.getElem_set, List.getElem_map, List.getElem_range]
  by_cases e : k = i
  · subst e; simp
  · rw [if_neg e, if_neg (fun h => e h.symm)]
theorem bvals_congr {n : Nat} {f g : Nat → Bool} (h : ∀ i, i < n → f i = g i) : bvals n f = bvals n g := List.map_congr_left fun i hi => by rw [h i (List.mem_range.1 hi)]
theorem raw_bools {n : Nat} {f : Nat → Bool} {w : World} {a : Addr} (h : Cells w (some a) n (fun i => .bool (f i))) : Raw w a (bvals n f) := by
  intro j u hu
  have hj : j < n := by have := (List.getElem?_eq_some_iff.1 hu).1; rwa [bvals_len] at this
  rw [bvals_at f hj] at hu
  injection hu with hu
  subst hu
  obtain ⟨a2, e, hl, hc⟩ := h j hj
  injection e with e
  subst e
  exact ⟨hl, hc⟩
/-- A new row of bools. -/
def BoolsNew (n : Nat) (f : Nat → Bool) (w : World) (e : Ending) (w' : World) : Prop := ∃ v', e = .returned v' ∧ OwnR 4 1 w.heap.size w' v' n (bvals n f) ∧ Below w.heap.size w w'
/-- Which sums there are if one more width may be taken. -/
def withF (f : Nat → Bool) (x : Nat) (i : Nat) : Bool := if x ≤ i then f i || f (i - x) else f i
/-- The same, up to k. -/
def mixF (f : Nat → Bool) (x k : Nat) (i : Nat) : Bool := if i < k then withF f x i else f i
theorem mix_zero (f : Nat → Bool) (x i : Nat) : mixF f x x i = f i := by
  unfold mixF withF
  by_cases h : i < x
  · rw [if_pos h, if_neg (by omega)]
  · rw [if_neg h]
theorem mix_succ {f : Nat → Bool} {x k : Nat} (h : x ≤ k) (i : Nat) : (if i = k then f k || f (k - x) else mixF f x k i) = mixF f x (k + 1) i := by
  unfold mixF withF
  by_cases e : i = k
  · subst e; rw [if_pos rfl, if_pos (by omega), if_pos h]
  · rw [if_neg e]
    by_cases h2 : i < k
    · rw [if_pos h2, if_pos (show i < k + 1 by omega)]
    · rw [if_neg h2, if_neg (show ¬ i < k + 1 by omega)]
theorem mix_end {f : Nat → Bool} {x k n : Nat} (h : n ≤ k) : bvals n (mixF f x k) = bvals n (withF f x) := bvals_congr fun i hi => by unfold mixF; rw [if_pos (by omega)]
/-- How the loop stands. -/
structure MoreAt (w : World) (n : Nat) (f : Nat → Bool) (x k : Nat) (v : Value) (wr : World) : Prop where
  own : OwnR 4 1 w.heap.size wr v n (bvals n (mixF f x k))
  below : Below w.heap.size w wr
theorem MoreAt.next {w wr : World} {n g c x k : Nat} {f : Nat → Bool} (h : MoreAt w n f x k (.slice (some ⟨g, 0, none⟩) n c) wr) (hx : x ≤ k) (hk : k < n) (hg : w.heap.size ≤ g) (b : Bool) (hb : b = (f k || f (k - x))) : MoreAt w n f x (k + 1) (.slice (some ⟨g, 0, none⟩) n c) (wr.setCell ⟨g, k, none⟩ (.bool b)) :=
  ⟨(h.own.set k (.bool b)).cast rfl (by rw [bvals_set _ _ hk]; exact bvals_congr fun i _ => by rw [hb]; exact mix_succ hx i), h.below.setCell hg _⟩
end Go.Proofs.Ytkaepadkdohmpaa.SubWalk
