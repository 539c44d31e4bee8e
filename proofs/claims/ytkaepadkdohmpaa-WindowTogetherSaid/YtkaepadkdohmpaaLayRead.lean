/-
  What an argument reads as, down in memory: a slice of things, whatever the thing.
-/
import Derived.Test.YtkaepadkdohmpaaRows
import Derived.Test.YtkaepadkdohmpaaLay
import Derived.OpenShut
import Derived.Lib.SmallJoins
import Derived.Deep.Strs
import Derived.ChangeMaps5
namespace Go.Proofs.Ytkaepadkdohmpaa.Read
open Go.RowKit Go.Proofs.Ytkaepadkdohmpaa.Mem
open Go.ChangeShapes Go.WideShapes Go.Deep Go.ChangeMaps
set_option maxRecDepth 100000 in
theorem cells_i : Try.prog.cellsOf 3 = 1 := by kernel_rfl
set_option maxRecDepth 100000 in
theorem cells_s : Try.prog.cellsOf 9 = 1 := by kernel_rfl
set_option maxRecDepth 100000 in
theorem cells_b : Try.prog.cellsOf 4 = 1 := by kernel_rfl
set_option maxRecDepth 100000 in
theorem wf_lim {x : Int} (h : (Lit.int .i64 x).wf = true) : -9223372036854775808 ≤ x ∧ x ≤ 9223372036854775807 := by
  simp only [Lit.wf, Bool.and_eq_true, decide_eq_true_eq] at h
  exact h
set_option maxRecDepth 100000 in
theorem lay_read {α : Type} (L : Lay α) {P : α → Prop} {H : Type} {enc : TypeId × Value → H} {W : World} {base : Nat} {T E : TypeId} {v : Value} {d : DataW H} {p : List MemPlace} (hT : Try.prog.underlying T = some (.slice E)) (hk : Try.prog.cellsOf E = L.k)
    (el : ∀ {sp : Nat → Bool} {base n : Nat} {cs : List Value} {y : DataW H × List MemPlace}, DataW.trod enc Try.prog W base sp true n E cs = some y → ∃ x : α, cs = L.cs x ∧ P x)
    (hv : Value.okWide Try.prog W .any base T v) (h : DataW.Trod enc Try.prog W 0 (fun _ => true) true T v d p) : ∃ l, L.Is l W v ∧ ∀ x ∈ l, P x := by
  obtain ⟨A, len, cap, rfl⟩ := okWide_slice hT hv
  obtain ⟨fuel, hf⟩ := h
  rcases open_slice hT hf with ⟨h0, _⟩ | ⟨a, ln, cp, m, n, D, Pl, hcs, _, hl, hm, hmm, _, hi⟩
  · simp [Value.cells] at h0
    obtain ⟨rfl, rfl, rfl⟩ := h0
    exact ⟨[], .inl ⟨rfl, rfl⟩, fun x hx => by cases hx⟩
  · simp [Value.cells] at hcs
    obtain ⟨rfl, rfl, rfl⟩ := hcs
    obtain ⟨l, hl', hp⟩ := list_by (P := fun i (x : α) => (a.block < W.heap.size ∧ ∀ f u, (L.cs x)[f]? = some u → W.cell? (a.add (i * L.k + f)) = some u) ∧ P x) len (fun i hi' => by
      obtain ⟨cs', hc, ht⟩ := hi i (by rw [hmm]; simp; omega)
      rw [hk] at hc
      obtain ⟨j, rfl, hj⟩ := el ht
      obtain ⟨_, _, hat⟩ := World.cells?_some hc
      have hc : ∀ f u, (L.cs j)[f]? = some u → W.cell? (a.add (i * L.k + f)) = some u := fun f u hu => by
        have hf : f < L.k := by
          have := (List.getElem?_eq_some_iff.1 hu).1
          rwa [L.len] at this
        have h0 := hat f hf
        rw [Mem.add_add] at h0
        rw [h0]
        exact hu
      have h0 : (L.cs j)[0]? = some ((L.cs j)[0]'(by rw [L.len]; exact L.pos)) := List.getElem?_eq_getElem _
      have lt := World.block_lt_of_cell? _ _ (hc 0 _ h0)
      rw [add_block] at lt
      exact ⟨j, ⟨lt, hc⟩, hj⟩)
    subst hl'
    exact ⟨l, .inr ⟨a, cap, rfl, Lay.raw_of (fun i x hx => (hp i x hx).1), by omega⟩, fun x hx => by
      obtain ⟨i, hi, rfl⟩ := List.mem_iff_getElem.1 hx
      exact (hp i l[i] (by simp [hi])).2⟩
end Go.Proofs.Ytkaepadkdohmpaa.Read
