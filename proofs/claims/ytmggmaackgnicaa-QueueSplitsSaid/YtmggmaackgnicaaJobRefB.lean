/-
  The walks of the document's answers for layer 7: May.
-/
import Derived.Test.YtmggmaackgnicaaJobRefA
import Derived.Deep.CutBlock
import Derived.Deep.DeepCutAuto
namespace Go.Proofs.Ytmggmaackgnicaa.JobRef
open Go.RowKit Go.Proofs.Ytmggmaackgnicaa.JobPlain Go.Proofs.Ytmggmaackgnicaa.Mem Go.Proofs.Ytmggmaackgnicaa.JobMem
def BoolIs (b : Bool) (w : World) (e : Ending) (w' : World) : Prop := e = .returned (.bool b) ∧ Below w.heap.size w w'
theorem over_ways (j : Jb) (h : Fit j) (hs : 0 ≤ j.sub) : (ranB j = false ∧ overB j = false) ∨ (ranB j = true ∧ decide (j.start ≤ j.fin) = false ∧ overB j = false) ∨
    (ranB j = true ∧ decide (j.start ≤ j.fin) = true ∧ IntKind.i64.wrap (j.fin - j.start) = j.fin - j.start ∧ decide (j.fin - j.start ≤ j.est) = overB j) := by
  obtain ⟨h1, h2, _⟩ := h
  unfold overB
  cases hr : ranB j with
  | false => exact .inl ⟨rfl, rfl⟩
  | true =>
    have h3 := (ran_iff j).1 hr
    by_cases h4 : j.start ≤ j.fin
    · refine .inr (.inr ⟨rfl, decide_eq_true h4, by rw [IntKind.wrap_i64]; omega, ?_⟩)
      rw [decide_eq_true h4]; rfl
    · exact .inr (.inl ⟨rfl, decide_eq_false h4, by rw [decide_eq_false h4]; rfl⟩)
theorem over_wrap {j : Jb} (h : Fit j) (hs : 0 ≤ j.sub) (ho : overB j = true) : IntKind.i64.wrap (j.fin - j.start) = j.fin - j.start := by
  rcases over_ways j h hs with ⟨_, h1⟩ | ⟨_, _, h1⟩ | ⟨_, _, h1, _⟩
  · rw [ho] at h1; cases h1
  · rw [ho] at h1; cases h1
  · exact h1
theorem switch_ways (j : Jb) : ((j.state == 0) = true ∧ stateB j = noneB j) ∨ ((j.state == 0) = false ∧ (j.state == 1) = true ∧ stateB j = noneB j) ∨ ((j.state == 0) = false ∧ (j.state == 1) = false ∧ (j.state == 2) = true ∧ stateB j = (ranB j && (j.fin == 0))) ∨
    ((j.state == 0) = false ∧ (j.state == 1) = false ∧ (j.state == 2) = false ∧ (j.state == 3) = true ∧ stateB j = overB j) ∨
    ((j.state == 0) = false ∧ (j.state == 1) = false ∧ (j.state == 2) = false ∧ (j.state == 3) = false ∧ (j.state == 4) = true ∧ stateB j = (overB j && (j.fin - j.start == j.est))) ∨
    ((j.state == 0) = false ∧ (j.state == 1) = false ∧ (j.state == 2) = false ∧ (j.state == 3) = false ∧ (j.state == 4) = false ∧ (j.state == 5) = true ∧ stateB j = (noneB j || overB j)) ∨
    ((j.state == 0) = false ∧ (j.state == 1) = false ∧ (j.state == 2) = false ∧ (j.state == 3) = false ∧ (j.state == 4) = false ∧ (j.state == 5) = false ∧ stateB j = false) := by
  unfold stateB
  by_cases h0 : j.state = 0
  · exact .inl ⟨by simp [h0], by rw [if_pos h0]⟩
  by_cases h1 : j.state = 1
  · exact .inr (.inl ⟨by simp [h1], by simp [h1], by rw [if_neg h0, if_pos h1]⟩)
  by_cases h2 : j.state = 2
  · exact .inr (.inr (.inl ⟨by simp [h2], by simp [h2], by simp [h2], by rw [if_neg h0, if_neg h1, if_pos h2]⟩))
  by_cases h3 : j.state = 3
  · exact .inr (.inr (.inr (.inl ⟨by simp [h3], by simp [h3], by simp [h3], by simp [h3], by rw [if_neg h0, if_neg h1, if_neg h2, if_pos h3]⟩)))
  by_cases h4 : j.state = 4
  · exact .inr (.inr (.inr (.inr (.inl ⟨by simp [h4], by simp [h4], by simp [h4], by simp [h4], by simp [h4], by rw [if_neg h0, if_neg h1, if_neg h2, if_neg h3, if_pos h4]⟩))))
  by_cases h5 : j.state = 5
  · exact .inr (.inr (.inr (.inr (.inr (.inl ⟨by simp [h5], by simp [h5], by simp [h5], by simp [h5], by simp [h5], by simp [h5], by rw [if_neg h0, if_neg h1, if_neg h2, if_neg h3, if_neg h4, if_pos h5]⟩)))))
  · exact .inr (.inr (.inr (.inr (.inr (.inr ⟨by simpa using h0, by simpa using h1, by simpa using h2, by simpa using h3, by simpa using h4, by simpa using h5, by rw [if_neg h0, if_neg h1, if_neg h2, if_neg h3, if_neg h4, if_neg h5]⟩)))))
theorem may_no {j : Jb} (h : baseB j = false) : mayJ j = false := by unfold mayJ; rw [h]; rfl
end Go.Proofs.Ytmggmaackgnicaa.JobRef
