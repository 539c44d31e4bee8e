/-
  What an argument reads as, down in memory: a job, by value; a string; a slice of arrays of two integers. What an argument reads as, down in memory: a slice of jobs.
-/
import Derived.Test.YtonapgbokbeopaaJobMem
import Derived.Test.YtonapgbokbeopaaReadInt
import Derived.ChangeMaps5
import Derived.Lib.SmallJoins
import Derived.Test.YtonapgbokbeopaaOrdMem
namespace Go.Proofs.Ytonapgbokbeopaa.Read
open Go.RowKit Go.Proofs.Ytonapgbokbeopaa.JobPlain Go.Proofs.Ytonapgbokbeopaa.Mem Go.Proofs.Ytonapgbokbeopaa.JobMem
open Go.ChangeShapes Go.WideShapes Go.Deep Go.ChangeMaps
set_option maxRecDepth 100000 in
theorem wf_bounds {x : Int} (h : (Lit.int .i64 x).wf = true) : -9223372036854775808 ≤ x ∧ x ≤ 9223372036854775807 := by
  simp only [Lit.wf, Bool.and_eq_true, decide_eq_true_eq] at h
  exact h
set_option maxRecDepth 100000 in
theorem trod_struct9 {H : Type} {enc : TypeId × Value → H} {P : Program} {w : World} {base : Nat} {spare : Nat → Bool} {held : Bool} {t : TypeId} {f0 f1 f2 f3 f4 f5 f6 f7 f8 : Field} {fuel : Nat} {cs : List Value} {x : DataW H × List MemPlace} (ht : P.underlying t = some (.struct #[f0, f1, f2, f3, f4, f5, f6, f7, f8])) (h : DataW.trod enc P w base spare held fuel t cs = some x) :
    ∃ y0 y1 y2 y3 y4 y5 y6 y7 y8 n, cs.length = P.cellsOf t ∧ DataW.trod enc P w base spare held n f0.type ((cs.drop f0.offset).take (P.cellsOf f0.type)) = some y0 ∧ DataW.trod enc P w base spare held n f1.type ((cs.drop f1.offset).take (P.cellsOf f1.type)) = some y1 ∧ DataW.trod enc P w base spare held n f2.type ((cs.drop f2.offset).take (P.cellsOf f2.type)) = some y2 ∧ DataW.trod enc P w base spare held n f3.type ((cs.drop f3.offset).take (P.cellsOf f3.type)) = some y3 ∧ DataW.trod enc P w base spare held n f4.type ((cs.drop f4.offset).take (P.cellsOf f4.type)) = some y4 ∧ DataW.trod enc P w base spare held n f5.type ((cs.drop f5.offset).take (P.cellsOf f5.type)) = some y5 ∧ DataW.trod enc P w base spare held n f6.type ((cs.drop f6.offset).take (P.cellsOf f6.type)) = some y6 ∧ DataW.trod enc P w base spare held n f7.type ((cs.drop f7.offset).take (P.cellsOf f7.type)) = some y7 ∧ DataW.trod enc P w base spare held n f8.type ((cs.drop f8.offset).take (P.cellsOf f8.type)) = some y8 := by
  obtain ⟨xs, n, _, rfl, hl, hlen, hf⟩ := DataW.trod_struct ht h
  match xs, hlen with
  | [y0, y1, y2, y3, y4, y5, y6, y7, y8], _ => exact ⟨y0, y1, y2, y3, y4, y5, y6, y7, y8, n, hl, by simpa using hf 0 f0 rfl, by simpa using hf 1 f1 rfl, by simpa using hf 2 f2 rfl, by simpa using hf 3 f3 rfl, by simpa using hf 4 f4 rfl, by simpa using hf 5 f5 rfl, by simpa using hf 6 f6 rfl, by simpa using hf 7 f7 rfl, by simpa using hf 8 f8 rfl⟩
set_option maxRecDepth 100000 in
theorem cells_str1 : Try.prog.cellsOf 9 = 1 := by kernel_rfl
set_option maxRecDepth 100000 in
theorem cells_job : Try.prog.cellsOf 25 = 9 := by kernel_rfl
set_option maxRecDepth 100000 in
theorem job_read {H : Type} {enc : TypeId × Value → H} {W : World} {sp : Nat → Bool} {base n : Nat} {cs : List Value} {y : DataW H × List MemPlace} (h : DataW.trod enc Try.prog W base sp true n 25 cs = some y) : ∃ j : Jb, cs = (jobA j).toList ∧ Fit j := by
  obtain ⟨y0, y1, y2, y3, y4, y5, y6, y7, y8, m, hl, h0, h1, h2, h3, h4, h5, h6, h7, h8⟩ := trod_struct9 Try.underlying25 h
  rw [cells_job] at hl
  match cs, hl with
  | [c0, c1, c2, c3, c4, c5, c6, c7, c8], _ =>
    dsimp only at h0 h1 h2 h3 h4 h5 h6 h7 h8
    rw [cells_int1] at h0 h2 h3 h4 h5 h6 h7 h8
    rw [cells_str1] at h1
    obtain ⟨x0, f0, _, _⟩ := DataW.trod_int Try.underlying3 h0
    obtain ⟨x1, f1, _, w1⟩ := DataW.trod_string Try.underlying9 h1
    obtain ⟨x2, f2, _, _⟩ := DataW.trod_int Try.underlying3 h2
    obtain ⟨x3, f3, _, _⟩ := DataW.trod_int Try.underlying3 h3
    obtain ⟨x4, f4, _, _⟩ := DataW.trod_int Try.underlying3 h4
    obtain ⟨x5, f5, _, _⟩ := DataW.trod_int Try.underlying3 h5
    obtain ⟨x6, f6, _, _⟩ := DataW.trod_int Try.underlying3 h6
    obtain ⟨x7, f7, _, _⟩ := DataW.trod_int Try.underlying3 h7
    obtain ⟨x8, f8, _, w8⟩ := DataW.trod_int Try.underlying3 h8
    simp at f0 f1 f2 f3 f4 f5 f6 f7 f8
    subst f0 f1 f2 f3 f4 f5 f6 f7 f8
    have hw := wf_bounds w8
    exact ⟨⟨x0, x1, x2, x3, x4, x5, x6, x7, x8⟩, rfl, hw.1, hw.2, w1⟩
set_option maxRecDepth 100000 in
theorem job_val {H : Type} {enc : TypeId × Value → H} {W : World} {base : Nat} {v : Value} {d : DataW H} {p : List MemPlace} (hv : Value.okWide Try.prog W .any base 25 v)
    (h : DataW.Trod enc Try.prog W 0 (fun _ => true) true 25 v d p) : ∃ j, v = jobV j ∧ Fit j := by
  obtain ⟨cs, rfl, hsz⟩ := okWide_struct Try.underlying25 hv
  obtain ⟨fuel, hf⟩ := h
  obtain ⟨j, hs, hj⟩ := job_read hf
  obtain ⟨l⟩ := cs
  simp [Value.cells] at hs
  subst hs
  exact ⟨j, rfl, hj⟩
set_option maxRecDepth 100000 in
theorem int_fit {H : Type} {enc : TypeId × Value → H} {W : World} {base : Nat} {v : Value} {d : DataW H} {p : List MemPlace} (hv : Value.okWide Try.prog W .any base 3 v)
    (h : DataW.Trod enc Try.prog W 0 (fun _ => true) true 3 v d p) : ∃ n, v = .int .i64 n ∧ -9223372036854775808 ≤ n ∧ n ≤ 9223372036854775807 := by
  obtain ⟨n, rfl, _, _, hw⟩ := open_int Try.underlying3 hv h
  exact ⟨n, rfl, wf_bounds hw⟩
set_option maxRecDepth 100000 in
theorem str_val {H : Type} {enc : TypeId × Value → H} {W : World} {base : Nat} {v : Value} {d : DataW H} {p : List MemPlace} (hv : Value.okWide Try.prog W .any base 9 v)
    (h : DataW.Trod enc Try.prog W 0 (fun _ => true) true 9 v d p) : ∃ s, v = .string s ∧ s.size ≤ 9223372036854775807 := by
  obtain ⟨s, rfl, _, _, hs⟩ := open_string Try.underlying9 hv h
  exact ⟨s, rfl, hs⟩
set_option maxRecDepth 100000 in
theorem list_of2 {α : Type} {P : Nat → α → Prop} : ∀ n : Nat, (∀ i, i < n → ∃ s, P i s) → ∃ l : List α, l.length = n ∧ ∀ i s, l[i]? = some s → P i s := by
  intro n
  induction n with
  | zero => intro _; exact ⟨[], rfl, fun i s h => by simp at h⟩
  | succ n ih =>
    intro h
    obtain ⟨l, hl, hp⟩ := ih fun i hi => h i (by omega)
    obtain ⟨s, hs⟩ := h n (by omega)
    refine ⟨l ++ [s], by simp [hl], fun i x hx => ?_⟩
    rcases Nat.lt_trichotomy i n with hi | hi | hi
    · rw [List.getElem?_append_left (by omega)] at hx; exact hp i x hx
    · subst hi
      rw [List.getElem?_append_right (by omega), hl, Nat.sub_self] at hx
      simp at hx
      subst hx; exact hs
    · rw [List.getElem?_append_right (by omega)] at hx
      have : i - l.length = i - l.length - 1 + 1 := by omega
      rw [this] at hx
      simp at hx
end Go.Proofs.Ytonapgbokbeopaa.Read
namespace Go.Proofs.Ytonapgbokbeopaa.Read
open Go.RowKit Go.Proofs.Ytonapgbokbeopaa.JobPlain Go.Proofs.Ytonapgbokbeopaa.OrdPlain Go.Proofs.Ytonapgbokbeopaa.Mem Go.Proofs.Ytonapgbokbeopaa.JobMem Go.Proofs.Ytonapgbokbeopaa.OrdMem
open Go.ChangeShapes Go.WideShapes Go.Deep
set_option maxRecDepth 100000 in
theorem jvals_raw {l : List Jb} {w : World} {a : Addr} (h : ∀ i j, l[i]? = some j → a.block < w.heap.size ∧ ∀ f u, f < 9 → (jobC j)[f]? = some u → w.cell? (a.add (i * 9 + f)) = some u) : Raw w a (jvals l) := by
  intro q u hu
  have hq : q < l.length * 9 := by
    have := (List.getElem?_eq_some_iff.1 hu).1
    rwa [jvals_len] at this
  have hi : q / 9 < l.length := by omega
  have hf : q % 9 < 9 := by omega
  have e : q = q / 9 * 9 + q % 9 := by omega
  obtain ⟨h1, h2⟩ := h (q / 9) l[q / 9] (by simp [hi])
  refine ⟨h1, ?_⟩
  rw [e] at hu ⊢
  rw [jvals_at l (q / 9) hi (q % 9) hf] at hu
  exact h2 _ _ hf hu
set_option maxRecDepth 100000 in
theorem jobs_read_fit {H : Type} {enc : TypeId × Value → H} {W : World} {base : Nat} {v : Value} {d : DataW H} {p : List MemPlace} (hv : Value.okWide Try.prog W .any base 43 v)
    (h : DataW.Trod enc Try.prog W 0 (fun _ => true) true 43 v d p) : ∃ l, JobsIs l W v ∧ ∀ j ∈ l, Fit j := by
  obtain ⟨A, len, cap, rfl⟩ := okWide_slice Try.underlying43 hv
  obtain ⟨fuel, hf⟩ := h
  rcases open_slice Try.underlying43 hf with ⟨h0, _⟩ | ⟨a, ln, cp, m, n, D, Pl, hcs, _, hl, hm, hmm, _, hi⟩
  · simp [Value.cells] at h0
    obtain ⟨rfl, rfl, rfl⟩ := h0
    exact ⟨[], .inl ⟨rfl, rfl⟩, fun j hj => by cases hj⟩
  · simp [Value.cells] at hcs
    obtain ⟨rfl, rfl, rfl⟩ := hcs
    obtain ⟨l, hl', hp⟩ := list_of2 (P := fun i (j : Jb) => (a.block < W.heap.size ∧ ∀ f u, f < 9 → (jobC j)[f]? = some u → W.cell? (a.add (i * 9 + f)) = some u) ∧ Fit j) len (fun i hi' => by
      obtain ⟨cs', hc, ht⟩ := hi i (by rw [hmm]; simp; omega)
      rw [cells_job] at hc
      obtain ⟨j, rfl, hj⟩ := job_read ht
      obtain ⟨_, _, hat⟩ := World.cells?_some hc
      have hc : ∀ f u, f < 9 → (jobC j)[f]? = some u → W.cell? (a.add (i * 9 + f)) = some u := fun f u hf hu => by
        have h0 := hat f (by omega)
        rw [Mem.add_add] at h0
        rw [h0]
        exact hu
      have lt := World.block_lt_of_cell? _ _ (hc 0 _ (by decide) rfl)
      rw [add_block] at lt
      exact ⟨j, ⟨lt, hc⟩, hj⟩)
    subst hl'
    exact ⟨l, .inr ⟨a, cap, rfl, jvals_raw (fun i j hj => (hp i j hj).1), by omega⟩, fun j hj => by
      obtain ⟨i, hi, rfl⟩ := List.mem_iff_getElem.1 hj
      exact (hp i l[i] (by simp [hi])).2⟩
set_option maxRecDepth 100000 in
theorem jobs_read {H : Type} {enc : TypeId × Value → H} {W : World} {base : Nat} {v : Value} {d : DataW H} {p : List MemPlace} (hv : Value.okWide Try.prog W .any base 43 v)
    (h : DataW.Trod enc Try.prog W 0 (fun _ => true) true 43 v d p) : ∃ l, JobsIs l W v := by
  obtain ⟨l, hl, _⟩ := jobs_read_fit hv h
  exact ⟨l, hl⟩
end Go.Proofs.Ytonapgbokbeopaa.Read
