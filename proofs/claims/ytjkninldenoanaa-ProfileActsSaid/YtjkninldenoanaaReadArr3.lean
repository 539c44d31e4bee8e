/-
  What an argument reads as, down in memory: an array of three integers.
-/
import Derived.Test.YtjkninldenoanaaReadInt
namespace Go.Proofs.Ytjkninldenoanaa.Read
open Go.RowKit Go.Proofs.Ytjkninldenoanaa.SpanPlain Go.Proofs.Ytjkninldenoanaa.StepPlain Go.Proofs.Ytjkninldenoanaa.Mem Go.Proofs.Ytjkninldenoanaa.SpanMem Go.Proofs.Ytjkninldenoanaa.StepMem
open Go.ChangeShapes Go.WideShapes Go.Deep

theorem cells_arr3 : Try.prog.cellsOf 22 = 3 := by kernel_rfl
set_option maxRecDepth 100000 in
theorem arr_val {H : Type} {enc : TypeId × Value → H} {W : World} {base : Nat} {v : Value} {d : DataW H} {p : List MemPlace} (hv : Value.okWide Try.prog W .any base 22 v)
    (h : DataW.Trod enc Try.prog W 0 (fun _ => true) true 22 v d p) : ∃ a b c, v = .agg #[.int .i64 a, .int .i64 b, .int .i64 c] := by
  obtain ⟨cs, rfl, hsz, _⟩ : ∃ cs, v = .agg cs ∧ cs.size = Try.prog.cellsOf 22 ∧ Row.okWide Try.prog W .any base 22 cs := by
    simpa [Value.okWide, Try.underlying22] using hv
  rw [cells_arr3] at hsz
  obtain ⟨l⟩ := cs
  match l, hsz with
  | [c0, c1, c2], _ =>
    obtain ⟨fuel, hf⟩ := h
    obtain ⟨xs, m, _, _, _, hl, hel⟩ := DataW.trod_array Try.underlying22 hf
    have e0 := hel 0 (by omega)
    have e1 := hel 1 (by omega)
    have e2 := hel 2 (by omega)
    match xs, hl with
    | [y0, y1, y2], _ =>
      rw [cells_int1] at e0 e1 e2
      obtain ⟨x0, f0, _, _⟩ := DataW.trod_int Try.underlying3 e0
      obtain ⟨x1, f1, _, _⟩ := DataW.trod_int Try.underlying3 e1
      obtain ⟨x2, f2, _, _⟩ := DataW.trod_int Try.underlying3 e2
      simp [Value.cells] at f0 f1 f2
      subst f0 f1 f2
      exact ⟨x0, x1, x2, rfl⟩
end Go.Proofs.Ytjkninldenoanaa.Read
