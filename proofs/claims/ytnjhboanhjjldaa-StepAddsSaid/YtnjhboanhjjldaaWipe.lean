/-
  The builtin clear at elements of two integers, and what it leaves.
-/
import Derived.Test.YtnjhboanhjjldaaPush
import Derived.Lib.SliceRun
namespace Go.Proofs.Ytnjhboanhjjldaa.Mem
open Go.RowKit

theorem clear_two {P : Program} (w : World) (T e ty : TypeId) (ht : P.underlying T = some (.slice e)) (hv : ∀ w, (zeroValue e).run P w = .ok (.agg #[.int .i64 0, .int .i64 0]) w) (b o n c : Nat) (hn : 0 < n)
    (hc : ∀ j, j < n * 2 → (w.cell? ⟨b, o + j, none⟩).isSome = true) (hf : ∀ j, j < n * 2 → w.frozen? ⟨b, o + j, none⟩ = false) :
    (Builtin.clear_ #[T] ty #[.slice (some ⟨b, o, none⟩) n c]).run P w = .ok (.tuple #[]) (w.setCells b o (List.replicate (n * 2) (.int .i64 0))) := by
  have hzc : (Builtin.zeroCells (Value.cells (.agg #[.int .i64 0, .int .i64 0])) n).toList = List.replicate (n * 2) (.int .i64 0) := by
    have e2 : Value.cells (.agg #[.int .i64 0, .int .i64 0]) = #[.int .i64 0, .int .i64 0] := by simp [Value.cells]
    rw [e2]
    simp [Builtin.zeroCells]
    apply List.ext_getElem
    · simp
    · intro i h1 h2
      have h3 : i % 2 = 0 ∨ i % 2 = 1 := by omega
      rcases h3 with h3 | h3 <;> simp [h3]
  have hst := run_storeCells_cells (P := P) b o (List.replicate (n * 2) (.int .i64 0)) 0 w (by simpa using hc) (by simpa using hf) (by intro v hv'; rw [List.eq_of_mem_replicate hv']; rfl)
  simp only [Nat.add_zero] at hst
  obtain ⟨m, rfl⟩ : ∃ m, n = m + 1 := ⟨n - 1, by omega⟩
  simp [Builtin.clear_, run_underlying ht, hv, hzc, hst]
theorem below_wipe {B g : Nat} {a : World} (hg : B ≤ g) : ∀ (vs : List Value) (o : Nat) (w : World), Below B a w → Below B a (w.setCells g o vs)
  | [], _, _, h => h
  | _ :: vs, o, _, h => below_wipe hg vs (o + 1) _ (h.setCell hg _)
theorem raw_wipe {w : World} {g o : Nat} {xs vs : List Value} (h : Raw w ⟨g, 0, none⟩ xs) (ho : xs.length ≤ o) : Raw (w.setCells g o vs) ⟨g, 0, none⟩ xs := fun j u hu => by
  have hj : j < xs.length := (List.getElem?_eq_some_iff.1 hu).1
  obtain ⟨h1, h2⟩ := h j u hu
  refine ⟨Nat.lt_of_lt_of_le h1 (below_wipe (B := g) (Nat.le_refl _) vs o w (Below.refl _ _)).size, ?_⟩
  rw [World.cell?_setCells_out g vs o w _ (fun _ _ => .inl (by rw [add_flat]; show j < o; omega))]
  exact h2
end Go.Proofs.Ytnjhboanhjjldaa.Mem
