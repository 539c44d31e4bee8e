/-
  What an argument reads as, down in memory: a span, by value.
-/
import Derived.Test.YtjkninldenoanaaReadInt
namespace Go.Proofs.Ytjkninldenoanaa.Read
open Go.RowKit Go.Proofs.Ytjkninldenoanaa.SpanPlain Go.Proofs.Ytjkninldenoanaa.StepPlain Go.Proofs.Ytjkninldenoanaa.Mem Go.Proofs.Ytjkninldenoanaa.SpanMem Go.Proofs.Ytjkninldenoanaa.StepMem
open Go.ChangeShapes Go.WideShapes Go.Deep

theorem cells_span : Try.prog.cellsOf 25 = 2 := by kernel_rfl
set_option maxRecDepth 100000 in
theorem span_read {H : Type} {enc : TypeId × Value → H} {W : World} {sp : Nat → Bool} {base n : Nat} {cs : List Value} {y : DataW H × List MemPlace} (h : DataW.trod enc Try.prog W base sp true n 25 cs = some y) : ∃ s : Sp, cs = spCells s := by
  obtain ⟨y0, y1, n', _, hl, h0, h1⟩ := trod_struct2 Try.underlying25 h
  rw [cells_span] at hl
  match cs, hl with
  | [c0, c1], _ =>
    dsimp only at h0 h1
    rw [cells_int1] at h0 h1
    obtain ⟨x0, f0, _, _⟩ := DataW.trod_int Try.underlying3 h0
    obtain ⟨x1, f1, _, _⟩ := DataW.trod_int Try.underlying3 h1
    simp at f0 f1
    subst f0 f1
    exact ⟨(x0, x1), rfl⟩
set_option maxRecDepth 100000 in
theorem span_val {H : Type} {enc : TypeId × Value → H} {W : World} {base : Nat} {v : Value} {d : DataW H} {p : List MemPlace} (hv : Value.okWide Try.prog W .any base 25 v)
    (h : DataW.Trod enc Try.prog W 0 (fun _ => true) true 25 v d p) : ∃ s, v = spV s := by
  obtain ⟨cs, rfl, hsz⟩ := okWide_struct Try.underlying25 hv
  obtain ⟨fuel, hf⟩ := h
  obtain ⟨s, hs⟩ := span_read hf
  obtain ⟨l⟩ := cs
  simp [Value.cells] at hs
  subst hs
  exact ⟨s, rfl⟩
end Go.Proofs.Ytjkninldenoanaa.Read
