/-
  What an argument reads as, down in memory: a slice of jobs.
-/
import Derived.Test.YtjegkddpaampmaaOrdMem
import Derived.Test.YtjegkddpaampmaaJobRead
namespace Go.Proofs.Ytjegkddpaampmaa.Read
open Go.RowKit Go.Proofs.Ytjegkddpaampmaa.JobPlain Go.Proofs.Ytjegkddpaampmaa.OrdPlain Go.Proofs.Ytjegkddpaampmaa.Mem Go.Proofs.Ytjegkddpaampmaa.JobMem Go.Proofs.Ytjegkddpaampmaa.OrdMem
open Go.ChangeShapes Go.WideShapes Go.Deep
set_option maxRecDepth 100000 in
theorem jvals_raw {l : List Jb} {w : World} {a : Addr} (h : ∀ i j, l[i]? = some j → a.block < w.heap.size ∧ ∀ f u, f < 9 → (jobC j)[f]? = some u → w.cell? (a.add (i * 9 + f)) = some u) : Raw w a (jvals l) := by
  intro q u hu
  have hq : q < l.length * 9 := by
    have := (List.getElem?_eq_some_iff.1 hu).1
    rwa [jvals_len] at this
  have hi : q / 9 < l.length := by omega
  have hf : q % 9 < 9 := by omega
  have e : q = q / 9 * 9 + q % 9 := by omega
  obtain ⟨h1, h2⟩ := h (q / 9) l[q / 9] (by simp [hi])
  refine ⟨h1, ?_⟩
  rw [e] at hu ⊢
  rw [jvals_at l (q / 9) hi (q % 9) hf] at hu
  exact h2 _ _ hf hu
set_option maxRecDepth 100000 in
theorem jobs_read_fit {H : Type} {enc : TypeId × Value → H} {W : World} {base : Nat} {v : Value} {d : DataW H} {p : List MemPlace} (hv : Value.okWide Try.prog W .any base 26 v)
    (h : DataW.Trod enc Try.prog W 0 (fun _ => true) true 26 v d p) : ∃ l, JobsIs l W v ∧ ∀ j ∈ l, Fit j := by
  obtain ⟨A, len, cap, rfl⟩ := okWide_slice Try.underlying26 hv
  obtain ⟨fuel, hf⟩ := h
  rcases open_slice Try.underlying26 hf with ⟨h0, _⟩ | ⟨a, ln, cp, m, n, D, Pl, hcs, _, hl, hm, hmm, _, hi⟩
  · simp [Value.cells] at h0
    obtain ⟨rfl, rfl, rfl⟩ := h0
    exact ⟨[], .inl ⟨rfl, rfl⟩, fun j hj => by cases hj⟩
  · simp [Value.cells] at hcs
    obtain ⟨rfl, rfl, rfl⟩ := hcs
    obtain ⟨l, hl', hp⟩ := list_of2 (P := fun i (j : Jb) => (a.block < W.heap.size ∧ ∀ f u, f < 9 → (jobC j)[f]? = some u → W.cell? (a.add (i * 9 + f)) = some u) ∧ Fit j) len (fun i hi' => by
      obtain ⟨cs', hc, ht⟩ := hi i (by rw [hmm]; simp; omega)
      rw [cells_job] at hc
      obtain ⟨j, rfl, hj⟩ := job_read ht
      obtain ⟨_, _, hat⟩ := World.cells?_some hc
      have hc : ∀ f u, f < 9 → (jobC j)[f]? = some u → W.cell? (a.add (i * 9 + f)) = some u := fun f u hf hu => by
        have h0 := hat f (by omega)
        rw [Mem.add_add] at h0
        rw [h0]
        exact hu
      have lt := World.block_lt_of_cell? _ _ (hc 0 _ (by decide) rfl)
      rw [add_block] at lt
      exact ⟨j, ⟨lt, hc⟩, hj⟩)
    subst hl'
    exact ⟨l, .inr ⟨a, cap, rfl, jvals_raw (fun i j hj => (hp i j hj).1), by omega⟩, fun j hj => by
      obtain ⟨i, hi, rfl⟩ := List.mem_iff_getElem.1 hj
      exact (hp i l[i] (by simp [hi])).2⟩
set_option maxRecDepth 100000 in
theorem jobs_read {H : Type} {enc : TypeId × Value → H} {W : World} {base : Nat} {v : Value} {d : DataW H} {p : List MemPlace} (hv : Value.okWide Try.prog W .any base 26 v)
    (h : DataW.Trod enc Try.prog W 0 (fun _ => true) true 26 v d p) : ∃ l, JobsIs l W v := by
  obtain ⟨l, hl, _⟩ := jobs_read_fit hv h
  exact ⟨l, hl⟩
end Go.Proofs.Ytjegkddpaampmaa.Read
