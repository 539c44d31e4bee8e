/-
  The walk of the document's answer for layer 4: Of.
-/
import Derived.Test.YtonapgbokbeopaaStepRefA
import Derived.Test.YtonapgbokbeopaaStepRefG
import Derived.Test.YtonapgbokbeopaaStepRefB
namespace Go.Proofs.Ytonapgbokbeopaa.StepRef
open Go.RowKit Go.Proofs.Ytonapgbokbeopaa.SpanPlain Go.Proofs.Ytonapgbokbeopaa.StepPlain Go.Proofs.Ytonapgbokbeopaa.Mem Go.Proofs.Ytonapgbokbeopaa.SpanMem Go.Proofs.Ytonapgbokbeopaa.StepMem Go.Proofs.Ytonapgbokbeopaa.SpanRef
/-- What Of answers. -/
def OfTells (p t : Int) (l : List By) (w : World) (e : Ending) (w' : World) : Prop := ∃ v s c, e = .returned (.tuple #[v, .int .i64 c]) ∧ OfIs p t l s c ∧ SpansIs s w' v ∧ s.length ≤ 700 ∧ Below w.heap.size w w'
theorem ofs_arg {p t : Int} {l : List By} {w w' : World} (h : ofBad p t l) (hb : Below w.heap.size w w') : OfTells p t l w (.returned (.tuple #[.slice none 0 0, .int .i64 1])) w' := ⟨_, [], 1, rfl, .inl ⟨h, rfl, rfl⟩, .inl ⟨rfl, rfl⟩, by simp, hb⟩
def OfLoop (p t : Int) (l : List By) (w wr : World) (v : Value) (k : Nat) : Prop :=
  OwnN 42 2 w.heap.size wr v (buildL (freeL p l) ((turnsL t l).take k)).length (svals (buildL (freeL p l) ((turnsL t l).take k))) ∧ (∀ x ∈ (turnsL t l).take k, 0 ≤ freeL p l x) ∧ Below w.heap.size w wr
theorem of_ways (p t : Int) {l : List By} (h : ∀ b ∈ l, byB b = true) : (decide (p < 1) = true ∧ Hid (ofBad p t l)) ∨ (decide (p < 1) = false ∧ decide (256 < p) = true ∧ Hid (ofBad p t l)) ∨ (decide (p < 1) = false ∧ decide (256 < p) = false ∧ decide (t < 0) = true ∧ Hid (ofBad p t l)) ∨
    (decide (p < 1) = false ∧ decide (256 < p) = false ∧ decide (t < 0) = false ∧ decide ((1125899906842624 : Int) < t) = true ∧ Hid (ofBad p t l)) ∨
    (decide (p < 1) = false ∧ decide (256 < p) = false ∧ decide (t < 0) = false ∧ decide ((1125899906842624 : Int) < t) = false ∧ decide ((300 : Int) < (l.length : Int)) = true ∧ Hid (ofBad p t l)) ∨
    (decide (p < 1) = false ∧ decide (256 < p) = false ∧ decide (t < 0) = false ∧ decide ((1125899906842624 : Int) < t) = false ∧ decide ((300 : Int) < (l.length : Int)) = false ∧ Hid (¬ ofBad p t l)) := by
  by_cases h1 : p < 1
  · exact .inl ⟨decide_eq_true h1, .inr (.inl h1)⟩
  · by_cases h2 : 256 < p
    · exact .inr (.inl ⟨decide_eq_false h1, decide_eq_true h2, .inr (.inr (.inl h2))⟩)
    · by_cases h3 : t < 0
      · exact .inr (.inr (.inl ⟨decide_eq_false h1, decide_eq_false h2, decide_eq_true h3, .inr (.inr (.inr (.inl h3)))⟩))
      · by_cases h4 : 1125899906842624 < t
        · exact .inr (.inr (.inr (.inl ⟨decide_eq_false h1, decide_eq_false h2, decide_eq_false h3, decide_eq_true h4, .inr (.inr (.inr (.inr (.inl h4))))⟩)))
        · by_cases h5 : 300 < l.length
          · exact .inr (.inr (.inr (.inr (.inl ⟨decide_eq_false h1, decide_eq_false h2, decide_eq_false h3, decide_eq_false h4, decide_eq_true (by omega), .inr (.inr (.inr (.inr (.inr h5))))⟩))))
          · refine .inr (.inr (.inr (.inr (.inr ⟨decide_eq_false h1, decide_eq_false h2, decide_eq_false h3, decide_eq_false h4, decide_eq_false (by omega), fun hb => ?_⟩))))
            rcases hb with ⟨b, hb, hx⟩ | hb | hb | hb | hb | hb
            · rw [h b hb] at hx; cases hx
            all_goals omega
end Go.Proofs.Ytonapgbokbeopaa.StepRef
