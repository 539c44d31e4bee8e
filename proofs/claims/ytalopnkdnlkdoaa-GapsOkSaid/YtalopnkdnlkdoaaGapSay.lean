/-
  What layer 6's functions answer: the posts that the law texts name; the example of the statements.
-/
import Derived.Test.YtalopnkdnlkdoaaGapRefB
import Derived.Test.YtalopnkdnlkdoaaGapRefC
import Derived.Test.YtalopnkdnlkdoaaStepRefS
import Derived.Test.YtalopnkdnlkdoaaSpanRefS
namespace Go.Proofs.Ytalopnkdnlkdoaa.GapWalk
open Go.RowKit Go.Proofs.Ytalopnkdnlkdoaa.SpanPlain Go.Proofs.Ytalopnkdnlkdoaa.StepPlain Go.Proofs.Ytalopnkdnlkdoaa.GapPlain Go.Proofs.Ytalopnkdnlkdoaa.Mem Go.Proofs.Ytalopnkdnlkdoaa.SpanMem Go.Proofs.Ytalopnkdnlkdoaa.StepMem Go.Proofs.Ytalopnkdnlkdoaa.SpanRef Go.Proofs.Ytalopnkdnlkdoaa.StepRef Go.Proofs.Ytalopnkdnlkdoaa.GapRef
def TrueIs (w : World) (e : Ending) (w' : World) : Prop := e = .returned (.bool true) ∧ Below w.heap.size w w'
def FitSays (s : List Sp) (f m n : Int) (w : World) (e : Ending) (w' : World) : Prop := ∃ r b, e = .returned (.tuple #[.int .i64 r, .bool b]) ∧ FitIs s f m n r b ∧ Below w.heap.size w w'
def AllTells (s : List Sp) (m : Int) (w : World) (e : Ending) (w' : World) : Prop := ∃ v c, e = .returned v ∧ SpansIs c w' v ∧ AllSays s m c ∧ Below w.heap.size w w'
def WideSays (s : List Sp) (a n : Int) (w : World) (e : Ending) (w' : World) : Prop := ∃ m, e = .returned (.int .i64 m) ∧ WideIs s a n m ∧ Below w.heap.size w w'
def LongSays (s : List Sp) (a m : Int) (w : World) (e : Ending) (w' : World) : Prop := ∃ k, e = .returned (.int .i64 k) ∧ LongIs s a m k ∧ Below w.heap.size w w'
def exG : List Sp := [(0, 5), (2, 2), (4, 5)]
theorem ex_may : mayG exG 3 3 = true := by decide
theorem ex_fit {r : Int} {b : Bool} (h : FitIs exG 0 3 3 r b) : r = 4 ∧ b = true := by
  have h1 := (fit_spec (f := 0) ex_may).1 (by decide)
  obtain ⟨h2, h3⟩ := h.unique h1
  exact ⟨h2.trans (by decide), h3⟩
theorem ex_ok : okG exG 0 3 2 = true := by decide
theorem ex_wide {m : Int} (h : WideIs exG 1 5 m) : m = 2 := (h.unique (wide_is (by decide) (by decide) (by decide))).trans (by decide)
theorem ex_long {m : Int} (h : LongIs exG 1 3 m) : m = 1 := by
  refine h.unique (.inl ⟨by decide, by decide, by decide, fun t h1 h2 => ?_, by decide⟩)
  obtain rfl : t = 1 := by omega
  decide
end Go.Proofs.Ytalopnkdnlkdoaa.GapWalk
