/-
  What an argument reads as, down in memory: an array of two integers.
-/
import Derived.Test.YtonapgbokbeopaaStepMem
import Derived.Test.YtonapgbokbeopaaReadInt
namespace Go.Proofs.Ytonapgbokbeopaa.Read
open Go.RowKit Go.Proofs.Ytonapgbokbeopaa.SpanPlain Go.Proofs.Ytonapgbokbeopaa.StepPlain Go.Proofs.Ytonapgbokbeopaa.Mem Go.Proofs.Ytonapgbokbeopaa.SpanMem Go.Proofs.Ytonapgbokbeopaa.StepMem
open Go.ChangeShapes Go.WideShapes Go.Deep
theorem cells_arr2 : Try.prog.cellsOf 23 = 2 := by kernel_rfl
set_option maxRecDepth 100000 in
theorem arr2_val {H : Type} {enc : TypeId × Value → H} {W : World} {base : Nat} {v : Value} {d : DataW H} {p : List MemPlace} (hv : Value.okWide Try.prog W .any base 23 v)
    (h : DataW.Trod enc Try.prog W 0 (fun _ => true) true 23 v d p) : ∃ a b, v = .agg #[.int .i64 a, .int .i64 b] := by
  obtain ⟨cs, rfl, hsz, _⟩ : ∃ cs, v = .agg cs ∧ cs.size = Try.prog.cellsOf 23 ∧ Row.okWide Try.prog W .any base 23 cs := by
    simpa [Value.okWide, Try.underlying23] using hv
  rw [cells_arr2] at hsz
  obtain ⟨l⟩ := cs
  match l, hsz with
  | [c0, c1], _ =>
    obtain ⟨fuel, hf⟩ := h
    obtain ⟨xs, m, _, _, _, hl, hel⟩ := DataW.trod_array Try.underlying23 hf
    have e0 := hel 0 (by omega)
    have e1 := hel 1 (by omega)
    match xs, hl with
    | [y0, y1], _ =>
      rw [cells_int1] at e0 e1
      obtain ⟨x0, f0, _, _⟩ := DataW.trod_int Try.underlying3 e0
      obtain ⟨x1, f1, _, _⟩ := DataW.trod_int Try.underlying3 e1
      simp [Value.cells] at f0 f1
      subst f0 f1
      exact ⟨x0, x1, rfl⟩
end Go.Proofs.Ytonapgbokbeopaa.Read
