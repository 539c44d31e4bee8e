/-
  The walk of layer 3's code: without.
-/
import Derived.Test.YtalopnkdnlkdoaaSpanWalkA
import Derived.Test.YtalopnkdnlkdoaaBase
namespace Go.Proofs.Ytalopnkdnlkdoaa.SpanWalk
open Go.RowKit Go.Proofs.Ytalopnkdnlkdoaa.SpanPlain Go.Proofs.Ytalopnkdnlkdoaa.Mem Go.Proofs.Ytalopnkdnlkdoaa.SpanMem Go.Proofs.Ytalopnkdnlkdoaa.SpanRef
theorem OwnN.spans {base n : Nat} {w : World} {v : Value} {l : List Sp} {e : TypeId} (h : OwnN e 2 base w v n (svals l)) (hn : n = l.length) : SpansIs l w v := by
  subst hn
  rcases h.form with ⟨h1, h2, _⟩ | ⟨g, c, hv, _, _, hn, _, hr, _⟩
  · exact .inl ⟨h1, List.eq_nil_of_length_eq_zero h2⟩
  · exact .inr ⟨_, c, hv, hr, hn⟩
/-- How the loop of without stands. -/
def WithLoop (s : Sp) (g : List Sp) (w wr : World) (v : Value) (j : Nat) : Prop :=
  ∃ c f, OwnN 36 2 (w.heap.size + 1) wr v c.length (svals c) ∧ WithAt s g j f c ∧ c.length ≤ j ∧ Box2 wr w.heap.size (.int .i64 f) (.int .i64 s.2) ∧ Below w.heap.size w wr
def WithDone (s : Sp) (g : List Sp) (w wr : World) (v : Value) : Prop := ∃ j, WithLoop s g w wr v j ∧ Over s g j ∧ j ≤ g.length
theorem below_two_then {w wr w2 : World} {B : Nat} {a b : Obj} (h : Below w.heap.size w wr) (k : Below B ((wr.alloc a).alloc b) w2) (hB : w.heap.size ≤ B) : Below w.heap.size w w2 :=
  ((h.alloc h.size _).alloc (by have := h.size; simp; omega) _).trans (k.mono hB)
end Go.Proofs.Ytalopnkdnlkdoaa.SpanWalk
