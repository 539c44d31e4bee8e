/-
  The walks of the document's answers for layer 7: Ran. What layer 7's functions answer: the posts that the law texts name; the example of the statements.
-/
import Derived.Test.YtjegkddpaampmaaJobRefB
import Derived.Test.YtjegkddpaampmaaJobRefC
namespace Go.Proofs.Ytjegkddpaampmaa.JobRef
open Go.RowKit Go.Proofs.Ytjegkddpaampmaa.JobPlain Go.Proofs.Ytjegkddpaampmaa.Mem Go.Proofs.Ytjegkddpaampmaa.JobMem
def IntB (n : Int) (w : World) (e : Ending) (w' : World) : Prop := e = .returned (.int .i64 n) ∧ Below w.heap.size w w'
theorem ran_ways (j : Jb) (t E : Int) (he : E = endJ j) : (decide (E < t) = true ∧ decide (E ≤ j.start) = true ∧ ranL j t = 0) ∨ (decide (E < t) = true ∧ decide (E ≤ j.start) = false ∧ ranL j t = E - j.start) ∨
    (decide (E < t) = false ∧ decide (t ≤ j.start) = true ∧ ranL j t = 0) ∨ (decide (E < t) = false ∧ decide (t ≤ j.start) = false ∧ (t ≤ E ∧ j.start < t) ∧ ranL j t = t - j.start) := by
  subst he
  unfold ranL
  by_cases h1 : endJ j < t
  · rw [if_pos h1]
    by_cases h2 : endJ j ≤ j.start
    · exact .inl ⟨decide_eq_true h1, decide_eq_true h2, if_pos h2⟩
    · exact .inr (.inl ⟨decide_eq_true h1, decide_eq_false h2, if_neg h2⟩)
  · rw [if_neg h1]
    by_cases h2 : t ≤ j.start
    · exact .inr (.inr (.inl ⟨decide_eq_false h1, decide_eq_true h2, if_pos h2⟩))
    · exact .inr (.inr (.inr ⟨decide_eq_false h1, decide_eq_false h2, ⟨by omega, by omega⟩, if_neg h2⟩))
end Go.Proofs.Ytjegkddpaampmaa.JobRef
namespace Go.Proofs.Ytjegkddpaampmaa.JobWalk
open Go.RowKit Go.Proofs.Ytjegkddpaampmaa.JobPlain Go.Proofs.Ytjegkddpaampmaa.Mem Go.Proofs.Ytjegkddpaampmaa.JobMem Go.Proofs.Ytjegkddpaampmaa.JobRef
def StrB (s : ByteArray) (w : World) (e : Ending) (w' : World) : Prop := e = .returned (.string s) ∧ Below w.heap.size w w'
def TrueIs (w : World) (e : Ending) (w' : World) : Prop := e = .returned (.bool true) ∧ Below w.heap.size w w'
/-- What Check tells. -/
def checkN (j : Jb) : Int := if mayJ j then 0 else 1
/-- The example of the statements. -/
def exJ : Jb := ⟨1, ⟨#[97, 110, 110]⟩, 2, 9, 0, 0, 1, 0, 0⟩
def exK : Jb := ⟨1, ⟨#[97, 110, 110]⟩, 2, 9, 0, 0, 2, 5, 0⟩
theorem ex_turn : turnL exJ 3 5 = (exK, 0) := by kernel_rfl
theorem ex_word : wordL 2 = ⟨#[114, 117, 110, 110, 105, 110, 103]⟩ := by kernel_rfl
theorem ex_ran : ranJ exK 7 = 2 := by kernel_rfl
theorem ex_fit : Fit exJ := ⟨by decide, by decide, by decide⟩
theorem ex_fit2 : Fit exK := ⟨by decide, by decide, by decide⟩
theorem turn_fit {j : Jb} {ev t : Int} (hf : Fit j) (ht : -9223372036854775808 ≤ t ∧ t ≤ 9223372036854775807) : Fit (turnL j ev t).1 := by
  unfold turnL
  have h0 : Fit noJb := ⟨by decide, by decide, by decide⟩
  have h1 : Fit (nextJ j ev t) := by
    unfold nextJ Fit
    dsimp only
    refine ⟨?_, ?_, hf.2.2⟩
    · split
      · exact ht.1
      · exact hf.1
    · split
      · exact ht.2
      · exact hf.2.1
  split
  · exact h0
  split
  · exact h0
  split
  · exact h1
  · exact h0
end Go.Proofs.Ytjegkddpaampmaa.JobWalk
