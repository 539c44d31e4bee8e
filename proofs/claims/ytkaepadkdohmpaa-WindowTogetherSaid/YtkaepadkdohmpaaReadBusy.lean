/-
  What an argument reads as, down in memory: a slice of busy times.
-/
import Derived.Test.YtkaepadkdohmpaaStepMem
import Derived.Test.YtkaepadkdohmpaaReadInt
namespace Go.Proofs.Ytkaepadkdohmpaa.Read
open Go.RowKit Go.Proofs.Ytkaepadkdohmpaa.SpanPlain Go.Proofs.Ytkaepadkdohmpaa.StepPlain Go.Proofs.Ytkaepadkdohmpaa.Mem Go.Proofs.Ytkaepadkdohmpaa.SpanMem Go.Proofs.Ytkaepadkdohmpaa.StepMem
open Go.ChangeShapes Go.WideShapes Go.Deep
set_option maxRecDepth 100000 in
theorem cells_busy : Try.prog.cellsOf 50 = 3 := by kernel_rfl
set_option maxRecDepth 100000 in
theorem busy_read {H : Type} {enc : TypeId × Value → H} {W : World} {sp : Nat → Bool} {base n : Nat} {cs : List Value} {y : DataW H × List MemPlace} (h : DataW.trod enc Try.prog W base sp true n 50 cs = some y) : ∃ b : By, cs = byCells b := by
  obtain ⟨y0, y1, y2, n', _, hl, h0, h1, h2⟩ := trod_struct3 Try.underlying50 h
  rw [cells_busy] at hl
  match cs, hl with
  | [c0, c1, c2], _ =>
    dsimp only at h0 h1 h2
    rw [cells_int1] at h0 h1 h2
    obtain ⟨x0, f0, _, _⟩ := DataW.trod_int Try.underlying3 h0
    obtain ⟨x1, f1, _, _⟩ := DataW.trod_int Try.underlying3 h1
    obtain ⟨x2, f2, _, _⟩ := DataW.trod_int Try.underlying3 h2
    simp at f0 f1 f2
    subst f0 f1 f2
    exact ⟨(x0, x1, x2), rfl⟩
set_option maxRecDepth 100000 in
theorem bvals_raw {l : List By} {w : World} {a : Addr} (h : ∀ i b, l[i]? = some b → a.block < w.heap.size ∧ w.cell? (a.add (i * 3)) = some (.int .i64 b.1) ∧ w.cell? (a.add (i * 3 + 1)) = some (.int .i64 b.2.1) ∧ w.cell? (a.add (i * 3 + 2)) = some (.int .i64 b.2.2)) : Raw w a (bvals l) := by
  intro j u hu
  have hj : j < l.length * 3 := by
    have := (List.getElem?_eq_some_iff.1 hu).1
    rwa [bvals_len] at this
  have hi : j / 3 < l.length := by omega
  obtain ⟨h1, h2, h3⟩ := bvals_at l (j / 3) hi
  have hg : l[j / 3]? = some (byCell l (j / 3)) := by unfold byCell; simp [List.getD, hi]
  obtain ⟨g1, g2, g3, g4⟩ := h _ _ hg
  refine ⟨g1, ?_⟩
  have hm : j % 3 = 0 ∨ j % 3 = 1 ∨ j % 3 = 2 := by omega
  rcases hm with he | he | he
  · have e : j = j / 3 * 3 := by omega
    rw [← e] at h1 g2
    rw [h1] at hu
    injection hu with hu
    subst hu
    exact g2
  · have e : j = j / 3 * 3 + 1 := by omega
    rw [← e] at h2 g3
    rw [h2] at hu
    injection hu with hu
    subst hu
    exact g3
  · have e : j = j / 3 * 3 + 2 := by omega
    rw [← e] at h3 g4
    rw [h3] at hu
    injection hu with hu
    subst hu
    exact g4
set_option maxRecDepth 100000 in
theorem busies_read {H : Type} {enc : TypeId × Value → H} {W : World} {base : Nat} {v : Value} {d : DataW H} {p : List MemPlace} (hv : Value.okWide Try.prog W .any base 48 v)
    (h : DataW.Trod enc Try.prog W 0 (fun _ => true) true 48 v d p) : ∃ l, BusyIs l W v := by
  obtain ⟨A, len, cap, rfl⟩ := okWide_slice Try.underlying48 hv
  obtain ⟨fuel, hf⟩ := h
  rcases open_slice Try.underlying48 hf with ⟨h0, _⟩ | ⟨a, ln, cp, m, n, D, Pl, hcs, _, hl, hm, hmm, _, hi⟩
  · refine ⟨[], .inl ⟨?_, rfl⟩⟩
    simpa [Value.cells] using h0
  · simp [Value.cells] at hcs
    obtain ⟨rfl, rfl, rfl⟩ := hcs
    obtain ⟨l, hl', hp⟩ := list_of (P := fun i (b : By) => a.block < W.heap.size ∧ W.cell? (a.add (i * 3)) = some (.int .i64 b.1) ∧ W.cell? (a.add (i * 3 + 1)) = some (.int .i64 b.2.1) ∧ W.cell? (a.add (i * 3 + 2)) = some (.int .i64 b.2.2)) len (fun i hi' => by
      obtain ⟨cs', hc, ht⟩ := hi i (by rw [hmm]; simp; omega)
      rw [cells_busy] at hc
      obtain ⟨b, rfl⟩ := busy_read ht
      obtain ⟨_, _, hat⟩ := World.cells?_some hc
      have h0 := hat 0 (by omega)
      have h1 := hat 1 (by omega)
      have h2 := hat 2 (by omega)
      rw [Mem.add_add] at h0 h1 h2
      have e0 : W.cell? (a.add (i * 3)) = some (.int .i64 b.1) := h0
      have e1 : W.cell? (a.add (i * 3 + 1)) = some (.int .i64 b.2.1) := h1
      have e2 : W.cell? (a.add (i * 3 + 2)) = some (.int .i64 b.2.2) := h2
      have lt := World.block_lt_of_cell? _ _ e0
      rw [add_block] at lt
      exact ⟨b, lt, e0, e1, e2⟩)
    subst hl'
    exact ⟨l, .inr ⟨a, cap, rfl, bvals_raw hp⟩⟩
set_option maxRecDepth 100000 in
theorem busy_val {H : Type} {enc : TypeId × Value → H} {W : World} {base : Nat} {v : Value} {d : DataW H} {p : List MemPlace} (hv : Value.okWide Try.prog W .any base 50 v)
    (h : DataW.Trod enc Try.prog W 0 (fun _ => true) true 50 v d p) : ∃ b, v = byV b := by
  obtain ⟨cs, rfl, hsz⟩ := okWide_struct Try.underlying50 hv
  obtain ⟨fuel, hf⟩ := h
  obtain ⟨b, hb⟩ := busy_read hf
  obtain ⟨l⟩ := cs
  simp [Value.cells] at hb
  subst hb
  exact ⟨b, rfl⟩
end Go.Proofs.Ytkaepadkdohmpaa.Read
