/-
  The walk of the document's answer for layer 4: Free.
-/
import Derived.Test.YtonapgbokbeopaaStepRef0
namespace Go.Proofs.Ytonapgbokbeopaa.StepRef
open Go.RowKit Go.Proofs.Ytonapgbokbeopaa.SpanPlain Go.Proofs.Ytonapgbokbeopaa.StepPlain Go.Proofs.Ytonapgbokbeopaa.Mem Go.Proofs.Ytonapgbokbeopaa.SpanMem Go.Proofs.Ytonapgbokbeopaa.StepMem Go.Proofs.Ytonapgbokbeopaa.SpanRef
end Go.Proofs.Ytonapgbokbeopaa.StepRef
