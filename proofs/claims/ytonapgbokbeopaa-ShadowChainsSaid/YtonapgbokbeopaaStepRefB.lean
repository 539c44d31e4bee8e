/-
  The walk of the document's answer for layer 4: Turns.
-/
import Derived.Test.YtonapgbokbeopaaStepRef0
import Derived.Test.YtonapgbokbeopaaSpanRef0
namespace Go.Proofs.Ytonapgbokbeopaa.StepRef
open Go.RowKit Go.Proofs.Ytonapgbokbeopaa.SpanPlain Go.Proofs.Ytonapgbokbeopaa.StepPlain Go.Proofs.Ytonapgbokbeopaa.Mem Go.Proofs.Ytonapgbokbeopaa.SpanMem Go.Proofs.Ytonapgbokbeopaa.StepMem Go.Proofs.Ytonapgbokbeopaa.SpanRef
theorem OwnR.one (w : World) (e : TypeId) (k : IntKind) (n : Int) : OwnR e 1 w.heap.size (w.alloc (.cells #[.int k n] e)) (.slice (some ⟨w.heap.size, 0, none⟩) 1 1) 1 [.int k n] :=
  ⟨World.ownsRow_lit w #[.int k n] 1 (Nat.le_refl _) (by decide) rfl, by simp, by simp⟩
end Go.Proofs.Ytonapgbokbeopaa.StepRef
