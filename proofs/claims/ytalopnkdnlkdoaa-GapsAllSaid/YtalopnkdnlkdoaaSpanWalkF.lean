/-
  The walks of layer 3's code: Total, Less.
-/
import Derived.Test.YtalopnkdnlkdoaaSpanWalkE
namespace Go.Proofs.Ytalopnkdnlkdoaa.SpanWalk
open Go.RowKit Go.Proofs.Ytalopnkdnlkdoaa.SpanPlain Go.Proofs.Ytalopnkdnlkdoaa.Mem Go.Proofs.Ytalopnkdnlkdoaa.SpanMem Go.Proofs.Ytalopnkdnlkdoaa.SpanRef
theorem cover_is (l : List Sp) (v : Value) (w : World) (hv : SpansIs l w v) (hl : l.length ≤ 2000) : Calls Try.prog 28 #[v] w (CoverIs l w) :=
  cover_of l v w hl (risS l v w hv (by omega))
theorem coverS (l : List Sp) (v : Value) (w : World) (hv : SpansIs l w v) (hl : l.length ≤ 2000) : Calls Try.prog 28 #[v] w (LessIs l [] w) :=
  (cover_is l v w hv hl).mono fun _ _ ⟨_, _, he, h1, h2, h3, _⟩ => he ▸ less_is h1 h2 h3
end Go.Proofs.Ytalopnkdnlkdoaa.SpanWalk
