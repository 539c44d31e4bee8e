/-
  What an argument reads as, down in memory: a slice of steps.
-/
import Derived.Test.YtonapgbokbeopaaStepMem
import Derived.Test.YtonapgbokbeopaaReadInt
namespace Go.Proofs.Ytonapgbokbeopaa.Read
open Go.RowKit Go.Proofs.Ytonapgbokbeopaa.SpanPlain Go.Proofs.Ytonapgbokbeopaa.StepPlain Go.Proofs.Ytonapgbokbeopaa.Mem Go.Proofs.Ytonapgbokbeopaa.SpanMem Go.Proofs.Ytonapgbokbeopaa.StepMem
open Go.ChangeShapes Go.WideShapes Go.Deep
set_option maxRecDepth 100000 in
theorem cells_step : Try.prog.cellsOf 42 = 2 := by kernel_rfl
set_option maxRecDepth 100000 in
theorem step_read {H : Type} {enc : TypeId × Value → H} {W : World} {sp : Nat → Bool} {base n : Nat} {cs : List Value} {y : DataW H × List MemPlace} (h : DataW.trod enc Try.prog W base sp true n 42 cs = some y) : ∃ s : Sp, cs = spCells s := by
  obtain ⟨y0, y1, n', _, hl, h0, h1⟩ := trod_struct2 Try.underlying42 h
  rw [cells_step] at hl
  match cs, hl with
  | [c0, c1], _ =>
    dsimp only at h0 h1
    rw [cells_int1] at h0 h1
    obtain ⟨x0, f0, _, _⟩ := DataW.trod_int Try.underlying3 h0
    obtain ⟨x1, f1, _, _⟩ := DataW.trod_int Try.underlying3 h1
    simp at f0 f1
    subst f0 f1
    exact ⟨(x0, x1), rfl⟩
set_option maxRecDepth 100000 in
theorem steps_read {H : Type} {enc : TypeId × Value → H} {W : World} {base : Nat} {v : Value} {d : DataW H} {p : List MemPlace} (hv : Value.okWide Try.prog W .any base 22 v)
    (h : DataW.Trod enc Try.prog W 0 (fun _ => true) true 22 v d p) : ∃ l, SpansIs l W v := by
  obtain ⟨A, len, cap, rfl⟩ := okWide_slice Try.underlying22 hv
  obtain ⟨fuel, hf⟩ := h
  rcases open_slice Try.underlying22 hf with ⟨h0, _⟩ | ⟨a, ln, cp, m, n, D, Pl, hcs, _, hl, hm, hmm, _, hi⟩
  · refine ⟨[], .inl ⟨?_, rfl⟩⟩
    simpa [Value.cells] using h0
  · simp [Value.cells] at hcs
    obtain ⟨rfl, rfl, rfl⟩ := hcs
    obtain ⟨l, hl', hp⟩ := list_of (P := fun i (s : Sp) => a.block < W.heap.size ∧ W.cell? (a.add (i * 2)) = some (.int .i64 s.1) ∧ W.cell? (a.add (i * 2 + 1)) = some (.int .i64 s.2)) len (fun i hi' => by
      obtain ⟨cs', hc, ht⟩ := hi i (by rw [hmm]; simp; omega)
      rw [cells_step] at hc
      obtain ⟨s, rfl⟩ := step_read ht
      obtain ⟨_, _, hat⟩ := World.cells?_some hc
      have h0 := hat 0 (by omega)
      have h1 := hat 1 (by omega)
      rw [Mem.add_add] at h0 h1
      have e0 : W.cell? (a.add (i * 2)) = some (.int .i64 s.1) := h0
      have e1 : W.cell? (a.add (i * 2 + 1)) = some (.int .i64 s.2) := h1
      have lt := World.block_lt_of_cell? _ _ e0
      rw [add_block] at lt
      exact ⟨s, lt, e0, e1⟩)
    subst hl'
    exact ⟨l, .inr ⟨a, cap, rfl, svals_raw hp, by omega⟩⟩
end Go.Proofs.Ytonapgbokbeopaa.Read
