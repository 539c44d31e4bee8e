/-
  What an argument reads as, down in memory: a slice of arrays of two integers.
-/
import Derived.Test.YtclpbmhmfddifaaDoorJobRead
namespace Go.Proofs.YtclpbmhmfddifaaDoor.Read
open Go.RowKit Go.Proofs.YtclpbmhmfddifaaDoor.JobPlain Go.Proofs.YtclpbmhmfddifaaDoor.Mem Go.Proofs.YtclpbmhmfddifaaDoor.JobMem
open Go.ChangeShapes Go.WideShapes Go.Deep Go.ChangeMaps
theorem cells_two : Tryd.prog.cellsOf 37 = 2 := by kernel_rfl
set_option maxRecDepth 100000 in
theorem two_read {H : Type} {enc : TypeId × Value → H} {W : World} {sp : Nat → Bool} {base n : Nat} {cs : List Value} {y : DataW H × List MemPlace} (h : DataW.trod enc Tryd.prog W base sp true n 37 cs = some y) :
    ∃ s : Int × Int, cs = [.int .i64 s.1, .int .i64 s.2] ∧ -9223372036854775808 ≤ s.2 ∧ s.2 ≤ 9223372036854775807 := by
  obtain ⟨xs, m, _, _, hl, hlen, hel⟩ := DataW.trod_array Tryd.underlying37 h
  rw [cells_two] at hl
  match cs, hl, xs, hlen with
  | [c0, c1], _, [y0, y1], _ =>
    have e0 := hel 0 (by omega)
    have e1 := hel 1 (by omega)
    rw [cells_int1] at e0 e1
    obtain ⟨x0, f0, _, _⟩ := DataW.trod_int Tryd.underlying3 e0
    obtain ⟨x1, f1, _, hw⟩ := DataW.trod_int Tryd.underlying3 e1
    simp at f0 f1
    subst f0 f1
    exact ⟨(x0, x1), rfl, wf_bounds hw⟩
set_option maxRecDepth 100000 in
theorem twos_read {H : Type} {enc : TypeId × Value → H} {W : World} {base : Nat} {v : Value} {d : DataW H} {p : List MemPlace} (hv : Value.okWide Tryd.prog W .any base 36 v)
    (h : DataW.Trod enc Tryd.prog W 0 (fun _ => true) true 36 v d p) : ∃ (l : List (Int × Int)) (A : Option Addr) (c : Nat), v = .slice A l.length c ∧ Pairs W A l.length (fun i => (.int .i64 (l.getD i (0, 0)).1, .int .i64 (l.getD i (0, 0)).2)) ∧ ∀ q ∈ l, -9223372036854775808 ≤ q.2 ∧ q.2 ≤ 9223372036854775807 := by
  obtain ⟨A, len, cap, rfl⟩ := okWide_slice Tryd.underlying36 hv
  obtain ⟨fuel, hf⟩ := h
  rcases open_slice Tryd.underlying36 hf with ⟨h0, _⟩ | ⟨a, ln, cp, m, n, D, Pl, hcs, _, hl, hm, hmm, _, hi⟩
  · simp [Value.cells] at h0
    obtain ⟨rfl, rfl, rfl⟩ := h0
    exact ⟨[], none, 0, rfl, Pairs.none_, fun q hq => by cases hq⟩
  · simp [Value.cells] at hcs
    obtain ⟨rfl, rfl, rfl⟩ := hcs
    obtain ⟨l, hl', hp⟩ := list_of2 (P := fun i (s : Int × Int) => a.block < W.heap.size ∧ W.cell? (a.add (i * 2)) = some (.int .i64 s.1) ∧ W.cell? (a.add (i * 2 + 1)) = some (.int .i64 s.2) ∧ -9223372036854775808 ≤ s.2 ∧ s.2 ≤ 9223372036854775807) len (fun i hi' => by
      obtain ⟨cs', hc, ht⟩ := hi i (by rw [hmm]; simp; omega)
      rw [cells_two] at hc
      obtain ⟨s, rfl, hw⟩ := two_read ht
      obtain ⟨_, _, hat⟩ := World.cells?_some hc
      have h0 := hat 0 (by omega)
      have h1 := hat 1 (by omega)
      rw [Mem.add_add] at h0 h1
      have e0 : W.cell? (a.add (i * 2)) = some (.int .i64 s.1) := h0
      have e1 : W.cell? (a.add (i * 2 + 1)) = some (.int .i64 s.2) := h1
      have lt := World.block_lt_of_cell? _ _ e0
      rw [add_block] at lt
      exact ⟨s, lt, e0, e1, hw⟩)
    subst hl'
    have hg : ∀ i, i < l.length → l[i]? = some (l.getD i (0, 0)) := fun i hi => by simp [List.getD, hi]
    refine ⟨l, some a, cap, rfl, fun i hi => ?_, fun q hq => ?_⟩
    · obtain ⟨g1, g2, g3, _⟩ := hp i _ (hg i hi)
      have e : a.add (i * 2 + 1) = ⟨(a.add (i * 2)).block, (a.add (i * 2)).off + 1, none⟩ := by
        unfold Addr.add
        by_cases h0 : i * 2 = 0 <;> simp [h0, Nat.add_assoc]
      rw [e] at g3
      exact ⟨a, rfl, g1, g2, g3⟩
    · obtain ⟨i, hi, rfl⟩ := List.mem_iff_getElem.1 hq
      exact (hp i l[i] (by simp [hi])).2.2.2
end Go.Proofs.YtclpbmhmfddifaaDoor.Read
