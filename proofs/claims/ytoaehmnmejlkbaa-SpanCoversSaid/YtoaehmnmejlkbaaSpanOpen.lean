/-
  The frame of layer 3's statements hands over spans and slices of spans: what lies in memory.
-/
import Derived.Test.YtoaehmnmejlkbaaSpanLawD
import Derived.OpenShut
import Derived.Lib.SmallJoins
namespace Go.Proofs.Ytoaehmnmejlkbaa.SpanWalk
open Go.RowKit Go.Proofs.Ytoaehmnmejlkbaa.SpanPlain Go.Proofs.Ytoaehmnmejlkbaa.Mem Go.Proofs.Ytoaehmnmejlkbaa.SpanMem Go.Proofs.Ytoaehmnmejlkbaa.SpanRef
open Go.ChangeShapes Go.WideShapes Go.Deep

theorem cells_span : Try.prog.cellsOf 23 = 2 := by kernel_rfl
theorem cells_int1 : Try.prog.cellsOf 3 = 1 := by kernel_rfl
/-- A span in two cells. -/
theorem span_read {H : Type} {enc : TypeId × Value → H} {W : World} {sp : Nat → Bool} {base n : Nat} {cs : List Value} {y : DataW H × List MemPlace} (h : DataW.trod enc Try.prog W base sp true n 23 cs = some y) :
    ∃ s : Sp, cs = spCells s := by
  obtain ⟨y0, y1, n', _, hl, h0, h1⟩ := trod_struct2 Try.underlying23 h
  rw [cells_span] at hl
  match cs, hl with
  | [c0, c1], _ =>
    dsimp only at h0 h1
    rw [cells_int1] at h0 h1
    obtain ⟨x0, f0, _, _⟩ := DataW.trod_int Try.underlying3 h0
    obtain ⟨x1, f1, _, _⟩ := DataW.trod_int Try.underlying3 h1
    simp at f0 f1
    subst f0 f1
    exact ⟨(x0, x1), rfl⟩
theorem spans_read {H : Type} {enc : TypeId × Value → H} {W : World} {base : Nat} {v : Value} {d : DataW H} {p : List MemPlace} (hv : Value.okWide Try.prog W .any base 28 v)
    (h : DataW.Trod enc Try.prog W 0 (fun _ => true) true 28 v d p) : ∃ l, SpansIs l W v := by
  obtain ⟨A, len, cap, rfl⟩ := okWide_slice Try.underlying28 hv
  obtain ⟨fuel, hf⟩ := h
  rcases open_slice Try.underlying28 hf with ⟨h0, _⟩ | ⟨a, ln, cp, m, n, D, Pl, hcs, _, hl, hm, hmm, _, hi⟩
  · refine ⟨[], .inl ⟨?_, rfl⟩⟩
    simpa [Value.cells] using h0
  · simp [Value.cells] at hcs
    obtain ⟨rfl, rfl, rfl⟩ := hcs
    obtain ⟨l, hl', hp⟩ := list_of (P := fun i (s : Sp) => a.block < W.heap.size ∧ W.cell? (a.add (i * 2)) = some (.int .i64 s.1) ∧ W.cell? (a.add (i * 2 + 1)) = some (.int .i64 s.2)) len (fun i hi' => by
      obtain ⟨cs', hc, ht⟩ := hi i (by rw [hmm]; simp; omega)
      rw [cells_span] at hc
      obtain ⟨s, rfl⟩ := span_read ht
      obtain ⟨_, _, hat⟩ := World.cells?_some hc
      have h0 := hat 0 (by omega)
      have h1 := hat 1 (by omega)
      rw [Mem.add_add] at h0 h1
      have e0 : W.cell? (a.add (i * 2)) = some (.int .i64 s.1) := h0
      have e1 : W.cell? (a.add (i * 2 + 1)) = some (.int .i64 s.2) := h1
      have lt := World.block_lt_of_cell? _ _ e0
      rw [add_block] at lt
      exact ⟨s, lt, e0, e1⟩)
    subst hl'
    exact ⟨l, .inr ⟨a, cap, rfl, svals_raw hp⟩⟩
theorem span_val {H : Type} {enc : TypeId × Value → H} {W : World} {base : Nat} {v : Value} {d : DataW H} {p : List MemPlace} (hv : Value.okWide Try.prog W .any base 23 v)
    (h : DataW.Trod enc Try.prog W 0 (fun _ => true) true 23 v d p) : ∃ s, v = spV s := by
  obtain ⟨cs, rfl, hsz⟩ := okWide_struct Try.underlying23 hv
  obtain ⟨fuel, hf⟩ := h
  obtain ⟨s, hs⟩ := span_read hf
  obtain ⟨l⟩ := cs
  simp [Value.cells] at hs
  subst hs
  exact ⟨s, rfl⟩
theorem int_val {H : Type} {enc : TypeId × Value → H} {W : World} {base : Nat} {v : Value} {d : DataW H} {p : List MemPlace} (hv : Value.okWide Try.prog W .any base 3 v)
    (h : DataW.Trod enc Try.prog W 0 (fun _ => true) true 3 v d p) : ∃ n, v = .int .i64 n := okWide_int Try.underlying3 hv

theorem tells_open {H : Type} {enc : TypeId × Value → H} {d0 d1 d2 : DataW H} {p0 p1 p2 : List MemPlace} (W : World) (base : Nat) (v0 v1 v2 : Value) (g0 : Value.okWide Try.prog W .any base 23 v0) (g1 : Value.okWide Try.prog W .any base 23 v1) (g2 : Value.okWide Try.prog W .any base 3 v2)
    (h0 : DataW.Trod enc Try.prog W 0 (fun _ => true) true 23 v0 d0 p0) (h1 : DataW.Trod enc Try.prog W 0 (fun _ => true) true 23 v1 d1 p1) (h2 : DataW.Trod enc Try.prog W 0 (fun _ => true) true 3 v2 d2 p2) :
    Calls Try.prog 3 #[v0, v1, v2] W (TrueIs W) := by
  obtain ⟨a, rfl⟩ := span_val g0 h0
  obtain ⟨b, rfl⟩ := span_val g1 h1
  obtain ⟨t, rfl⟩ := int_val g2 h2
  exact tells_any a b t W
theorem covers_open {H : Type} {enc : TypeId × Value → H} {d0 d1 : DataW H} {p0 p1 : List MemPlace} (W : World) (base : Nat) (v0 v1 : Value) (g0 : Value.okWide Try.prog W .any base 28 v0) (g1 : Value.okWide Try.prog W .any base 28 v1)
    (h0 : DataW.Trod enc Try.prog W 0 (fun _ => true) true 28 v0 d0 p0) (h1 : DataW.Trod enc Try.prog W 0 (fun _ => true) true 28 v1 d1 p1) : Calls Try.prog 4 #[v0, v1] W (TrueIs W) := by
  obtain ⟨l, hl⟩ := spans_read g0 h0
  obtain ⟨m, hm⟩ := spans_read g1 h1
  exact covers_any l m _ _ W hl hm
theorem parts_open {H : Type} {enc : TypeId × Value → H} {d0 d1 : DataW H} {p0 p1 : List MemPlace} (W : World) (base : Nat) (v0 v1 : Value) (g0 : Value.okWide Try.prog W .any base 28 v0) (g1 : Value.okWide Try.prog W .any base 28 v1)
    (h0 : DataW.Trod enc Try.prog W 0 (fun _ => true) true 28 v0 d0 p0) (h1 : DataW.Trod enc Try.prog W 0 (fun _ => true) true 28 v1 d1 p1) : Calls Try.prog 5 #[v0, v1] W (TrueIs W) := by
  obtain ⟨l, hl⟩ := spans_read g0 h0
  obtain ⟨m, hm⟩ := spans_read g1 h1
  exact parts_any l m _ _ W hl hm
end Go.Proofs.Ytoaehmnmejlkbaa.SpanWalk
