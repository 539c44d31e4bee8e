/-
  The walk of the document's answer for layer 4: Same.
-/
import Derived.Test.YtalopnkdnlkdoaaStepRef0
namespace Go.Proofs.Ytalopnkdnlkdoaa.StepRef
open Go.RowKit Go.Proofs.Ytalopnkdnlkdoaa.SpanPlain Go.Proofs.Ytalopnkdnlkdoaa.StepPlain Go.Proofs.Ytalopnkdnlkdoaa.Mem Go.Proofs.Ytalopnkdnlkdoaa.SpanMem Go.Proofs.Ytalopnkdnlkdoaa.StepMem Go.Proofs.Ytalopnkdnlkdoaa.SpanRef
theorem same_take {a b : List Sp} {k : Nat} (ha : k < a.length) (hb : k < b.length) (h : a.take k = b.take k) (he : a.getD k (0, 0) = b.getD k (0, 0)) : a.take (k + 1) = b.take (k + 1) := by
  rw [List.take_succ_eq_append_getElem ha, List.take_succ_eq_append_getElem hb, h]
  simp [List.getD, ha, hb] at he
  rw [he]
theorem same_not {a b : List Sp} {k : Nat} (he : a.getD k (0, 0) ≠ b.getD k (0, 0)) : a ≠ b := fun h => by subst h; exact he rfl
end Go.Proofs.Ytalopnkdnlkdoaa.StepRef
