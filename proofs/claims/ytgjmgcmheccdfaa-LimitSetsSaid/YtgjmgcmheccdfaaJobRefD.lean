/-
  The walks of the document's answers for layer 7: Ran.
-/
import Derived.Test.YtgjmgcmheccdfaaJobRefB
namespace Go.Proofs.Ytgjmgcmheccdfaa.JobRef
open Go.RowKit Go.Proofs.Ytgjmgcmheccdfaa.JobPlain Go.Proofs.Ytgjmgcmheccdfaa.Mem Go.Proofs.Ytgjmgcmheccdfaa.JobMem
def IntB (n : Int) (w : World) (e : Ending) (w' : World) : Prop := e = .returned (.int .i64 n) ∧ Below w.heap.size w w'
theorem ran_ways (j : Jb) (t E : Int) (he : E = endJ j) : (decide (E < t) = true ∧ decide (E ≤ j.start) = true ∧ ranL j t = 0) ∨ (decide (E < t) = true ∧ decide (E ≤ j.start) = false ∧ ranL j t = E - j.start) ∨
    (decide (E < t) = false ∧ decide (t ≤ j.start) = true ∧ ranL j t = 0) ∨ (decide (E < t) = false ∧ decide (t ≤ j.start) = false ∧ (t ≤ E ∧ j.start < t) ∧ ranL j t = t - j.start) := by
  subst he
  unfold ranL
  by_cases h1 : endJ j < t
  · rw [if_pos h1]
    by_cases h2 : endJ j ≤ j.start
    · exact .inl ⟨decide_eq_true h1, decide_eq_true h2, if_pos h2⟩
    · exact .inr (.inl ⟨decide_eq_true h1, decide_eq_false h2, if_neg h2⟩)
  · rw [if_neg h1]
    by_cases h2 : t ≤ j.start
    · exact .inr (.inr (.inl ⟨decide_eq_false h1, decide_eq_true h2, if_pos h2⟩))
    · exact .inr (.inr (.inr ⟨decide_eq_false h1, decide_eq_false h2, ⟨by omega, by omega⟩, if_neg h2⟩))
end Go.Proofs.Ytgjmgcmheccdfaa.JobRef
