/-
  What layer 9's functions answer: the posts that the law texts name; slices of slices of jobs; the example of the statements.
-/
import Derived.Test.YtmggmaackgnicaaQueRefB
import Derived.Test.YtmggmaackgnicaaOrdMem
namespace Go.Proofs.Ytmggmaackgnicaa.QueWalk
open Go.RowKit Go.Proofs.Ytmggmaackgnicaa.JobPlain Go.Proofs.Ytmggmaackgnicaa.ApiPlain Go.Proofs.Ytmggmaackgnicaa.QuePlain Go.Proofs.Ytmggmaackgnicaa.Mem Go.Proofs.Ytmggmaackgnicaa.ApiMem Go.Proofs.Ytmggmaackgnicaa.OrdMem Go.Proofs.Ytmggmaackgnicaa.QueRef
def TrueIs (w : World) (e : Ending) (w' : World) : Prop := e = .returned (.bool true) ∧ Below w.heap.size w w'
def FindSays (l : List Cl) (wd e : Int) (w : World) (x : Ending) (w' : World) : Prop := x = .returned (.tuple #[.int .i64 (findN l wd e), .bool (findB l wd e)]) ∧ Below w.heap.size w w'
/-- A slice of slices of jobs, nil let in. -/
def ListsIs (ll : List (List Jb)) (w : World) (v : Value) : Prop := (v = .slice none 0 0 ∧ ll = []) ∨ ∃ a c vs, v = .slice (some a) ll.length c ∧ ll.length ≤ c ∧ Raw w a vs ∧ vs.length = ll.length ∧ ∀ (i : Nat) (x : List Jb) (u : Value), ll[i]? = some x → vs[i]? = some u → JobsIs x w u
theorem ListsIs.below {ll : List (List Jb)} {w w' : World} {v : Value} (h : ListsIs ll w v) (hb : Below w.heap.size w w') : ListsIs ll w' v := by
  rcases h with h | ⟨a, c, vs, e, hc, hr, hn, hx⟩
  · exact .inl h
  · exact .inr ⟨a, c, vs, e, hc, hr.below hb, hn, fun i x u h1 h2 => (hx i x u h1 h2).below hb⟩
theorem ListsIs.open_ {ll : List (List Jb)} {w : World} {v : Value} (h : ListsIs ll w v) : ∃ A c, v = .slice A ll.length c ∧ ll.length ≤ c ∧ ∀ (i : Nat) (x : List Jb), ll[i]? = some x → ∃ a u, A = some a ∧ a.block < w.heap.size ∧ w.cell? (a.add i) = some u ∧ JobsIs x w u := by
  rcases h with ⟨rfl, rfl⟩ | ⟨a, c, vs, e, hc, hr, hn, hx⟩
  · exact ⟨none, 0, rfl, Nat.le_refl _, fun i x h => by simp at h⟩
  · refine ⟨some a, c, e, hc, fun i x h => ?_⟩
    have hi : i < vs.length := by rw [hn]; exact (List.getElem?_eq_some_iff.1 h).1
    have hu : vs[i]? = some vs[i] := List.getElem?_eq_getElem hi
    obtain ⟨h1, h2⟩ := hr i _ hu
    exact ⟨a, vs[i], rfl, h1, h2, hx i x _ h hu⟩
def SplitSays (l : List Cl) (js : List Jb) (w : World) (x : Ending) (w' : World) : Prop := ∃ v u ll r, x = .returned (.tuple #[v, u, .int .i64 (checkC l)]) ∧ ListsIs ll w' v ∧ JobsIs r w' u ∧ ((checkC l = 0 ∧ ll = splitC l js ∧ r = pickJ l (-1) js) ∨ (checkC l ≠ 0 ∧ ll = [] ∧ r = [])) ∧ Below w.heap.size w w'
def exA : Cl := ⟨⟨#[97]⟩, 1, 4, 1, 9⟩
def exB : Cl := ⟨⟨#[98]⟩, 5, 8, 1, 9⟩
def exB4 : Cl := ⟨⟨#[98]⟩, 4, 8, 1, 9⟩
def exL : List Cl := [exA, exB]
def exL4 : List Cl := [exA, exB4]
theorem name_a : nameB ⟨#[97]⟩ = true := by rfl
theorem name_b : nameB ⟨#[98]⟩ = true := by rfl
theorem may_a : mayC exA = true := (mayC_iff _).2 ⟨name_a, by decide, by decide, by decide, by decide, by decide, by decide⟩
theorem may_b : mayC exB = true := (mayC_iff _).2 ⟨name_b, by decide, by decide, by decide, by decide, by decide, by decide⟩
theorem may_b4 : mayC exB4 = true := (mayC_iff _).2 ⟨name_b, by decide, by decide, by decide, by decide, by decide, by decide⟩
theorem not_meet : meetC exB exA = false := by
  unfold meetC
  have h : hasC exA (max exB.minW exA.minW) (max exB.minE exA.minE) = false := by
    cases hb : hasC exA (max exB.minW exA.minW) (max exB.minE exA.minE) with
    | false => rfl
    | true =>
      have := ((hasC_iff _ _ _).1 hb).2.2.1
      exact absurd this (by decide)
  rw [h, Bool.and_false]
theorem ex_meets : meetC exA exB4 = true := meet_of (w := 4) (e := 1) ((hasC_iff _ _ _).2 ⟨may_a, by decide, by decide, by decide, by decide⟩) ((hasC_iff _ _ _).2 ⟨may_b4, by decide, by decide, by decide, by decide⟩)
theorem ex_meets2 : meetC exB4 exA = true := meet_of (w := 4) (e := 1) ((hasC_iff _ _ _).2 ⟨may_b4, by decide, by decide, by decide, by decide⟩) ((hasC_iff _ _ _).2 ⟨may_a, by decide, by decide, by decide, by decide⟩)
theorem ex_names : ((⟨#[98]⟩ : ByteArray).toList == (⟨#[97]⟩ : ByteArray).toList) = false := by rw [ByteArray.toList_eq, ByteArray.toList_eq]; rfl
theorem ex_zero : checkC exL = 0 := by
  refine checkC_ok (by decide) (by unfold exL; simp [may_a, may_b]) ?_
  have h : clash exB exA = false := by unfold clash; rw [not_meet]; exact (Bool.or_false _).trans ex_names
  unfold apartTo apartAt exL
  show ((List.range 2).all fun i => (List.range i).all fun j => !clash (nthC [exA, exB] i) (nthC [exA, exB] j)) = true
  simp [List.range, List.range.loop, nthC, h]
theorem ex_there : checkC exL4 = 7 := by
  refine checkC_there (by decide) (by unfold exL4; simp [may_a, may_b4]) ?_
  have h : clash exB4 exA = true := by unfold clash; rw [ex_meets2, Bool.or_true]
  unfold apartTo apartAt exL4
  show ((List.range 2).all fun i => (List.range i).all fun j => !clash (nthC [exA, exB4] i) (nthC [exA, exB4] j)) = false
  simp [List.range, List.range.loop, nthC, h]
theorem ex_of : ofC exL 6 3 = 1 := by
  unfold ofC
  have h0 : hasC (nthC exL 0) 6 3 = false := by
    cases hb : hasC (nthC exL 0) 6 3 with
    | false => rfl
    | true => exact absurd ((hasC_iff _ _ _).1 hb).2.2.1 (by decide)
  have h1 : hasC (nthC exL 1) 6 3 = true := (hasC_iff _ _ _).2 ⟨may_b, by decide, by decide, by decide, by decide⟩
  rw [of_next (by decide) h0, of_yes (by decide) h1]
  rfl
theorem ex_findB : findB exL 6 3 = true := by unfold findB; rw [ex_zero, ex_of]; rfl
theorem ex_findN : findN exL 6 3 = 1 := by unfold findN; rw [if_pos ex_findB, ex_of]
theorem ex_short : Short exL := fun c hc => by
  simp [exL] at hc
  rcases hc with rfl | rfl <;> exact ⟨by decide, by decide, by decide, by decide, by decide⟩
theorem ex_short4 : Short exL4 := fun c hc => by
  simp [exL4] at hc
  rcases hc with rfl | rfl <;> exact ⟨by decide, by decide, by decide, by decide, by decide⟩
end Go.Proofs.Ytmggmaackgnicaa.QueWalk
