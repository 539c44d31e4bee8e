/-
  Slices of jobs in memory.
-/
import Derived.Test.YtonapgbokbeopaaJobMem
import Derived.Test.YtonapgbokbeopaaOrdPlain
import Derived.Deep.QuietTactic
import Derived.BigQuiet
import Derived.Deep.CutBlock
import Derived.Deep.DeepCutAuto
namespace Go.Proofs.Ytonapgbokbeopaa.OrdMem
open Go.RowKit Go.Proofs.Ytonapgbokbeopaa.JobPlain Go.Proofs.Ytonapgbokbeopaa.OrdPlain Go.Proofs.Ytonapgbokbeopaa.Mem Go.Proofs.Ytonapgbokbeopaa.JobMem
theorem jobs_t : ElemT Try.prog 43 25 9 80 := ElemT.mk_ (.agg #[.int .i64 0, .string ⟨#[]⟩, .int .i64 0, .int .i64 0, .int .i64 0, .int .i64 0, .int .i64 0, .int .i64 0, .int .i64 0]) Try.underlying43 (by kernel_rfl) rfl (by decide) (by decide)
theorem below_box (w : World) (o : Obj) : Below w.heap.size w (w.alloc o) := (Below.refl _ _).alloc (Nat.le_refl _) o
def BoolB (b : Bool) (w : World) (e : Ending) (w' : World) : Prop := e = .returned (.bool b) ∧ Below w.heap.size w w'
def jobC (j : Jb) : List Value := [.int .i64 j.id, .string j.user, .int .i64 j.width, .int .i64 j.est, .int .i64 j.prio, .int .i64 j.sub, .int .i64 j.state, .int .i64 j.start, .int .i64 j.fin]
def jvals (l : List Jb) : List Value := l.flatMap jobC
theorem jvals_append (l m : List Jb) : jvals (l ++ m) = jvals l ++ jvals m := by simp [jvals]
theorem jvals_len (l : List Jb) : (jvals l).length = l.length * 9 := by
  induction l with
  | nil => rfl
  | cons s l ih => simp only [jvals, List.flatMap_cons, List.length_append, List.length_cons] at *; rw [ih]; simp [jobC]; omega
theorem jobC_cell (j : Jb) : ∀ u ∈ jobC j, u.oneCell' = true := by
  intro u hu
  simp [jobC] at hu
  rcases hu with rfl | rfl | rfl | rfl | rfl | rfl | rfl | rfl | rfl <;> rfl
theorem jvals_cell (l : List Jb) : ∀ u ∈ jvals l, u.oneCell' = true := by
  intro u hu
  obtain ⟨s, _, h⟩ := List.mem_flatMap.1 hu
  exact jobC_cell s u h
theorem jvals_at (l : List Jb) : ∀ i (hi : i < l.length) (f : Nat), f < 9 → (jvals l)[i * 9 + f]? = (jobC l[i])[f]? := by
  induction l with
  | nil => intro i h; simp at h
  | cons s l ih =>
    intro i h f hf
    have e : jvals (s :: l) = jobC s ++ jvals l := rfl
    rw [e]
    cases i with
    | zero =>
      rw [Nat.zero_mul, Nat.zero_add, List.getElem?_append_left (by simp [jobC]; omega)]
      rfl
    | succ i =>
      rw [List.getElem?_append_right (by simp [jobC]; omega)]
      have h1 := ih i (by simpa using h) f hf
      rw [show (i + 1) * 9 + f - (jobC s).length = i * 9 + f by simp [jobC]; omega, h1]
      rfl
/-- A slice of jobs, nil let in. -/
def JobsIs (l : List Jb) (w : World) (v : Value) : Prop := (v = .slice none 0 0 ∧ l = []) ∨ ∃ a c, v = .slice (some a) l.length c ∧ Raw w a (jvals l) ∧ l.length ≤ c
theorem JobsIs.below {l : List Jb} {w w' : World} {v : Value} (h : JobsIs l w v) (hb : Below w.heap.size w w') : JobsIs l w' v := by
  rcases h with h | ⟨a, c, e, hr, hn⟩
  · exact .inl h
  · exact .inr ⟨a, c, e, hr.below hb, hn⟩
theorem JobsIs.src {l : List Jb} {w : World} {v : Value} (h : JobsIs l w v) : Src w v l.length (jvals l) := by
  rcases h with ⟨h, rfl⟩ | ⟨a, c, e, hr, _⟩
  · exact .inl ⟨h, rfl, rfl⟩
  · exact .inr ⟨a, c, e, hr⟩
/-- A job's cells from a place on. -/
structure JobAt (w : World) (p : Addr) (j : Jb) : Prop where
  lt : p.block < w.heap.size
  c0 : w.cell? p = some (.int .i64 j.id)
  c1 : w.cell? ⟨p.block, p.off + 1, none⟩ = some (.string j.user)
  c2 : w.cell? ⟨p.block, p.off + 2, none⟩ = some (.int .i64 j.width)
  c3 : w.cell? ⟨p.block, p.off + 3, none⟩ = some (.int .i64 j.est)
  c4 : w.cell? ⟨p.block, p.off + 4, none⟩ = some (.int .i64 j.prio)
  c5 : w.cell? ⟨p.block, p.off + 5, none⟩ = some (.int .i64 j.sub)
  c6 : w.cell? ⟨p.block, p.off + 6, none⟩ = some (.int .i64 j.state)
  c7 : w.cell? ⟨p.block, p.off + 7, none⟩ = some (.int .i64 j.start)
  c8 : w.cell? ⟨p.block, p.off + 8, none⟩ = some (.int .i64 j.fin)
theorem JobAt.below {w w' : World} {p : Addr} {j : Jb} (h : JobAt w p j) (hb : Below w.heap.size w w') : JobAt w' p j := by
  have hc : ∀ o, w'.cell? ⟨p.block, o, none⟩ = w.cell? ⟨p.block, o, none⟩ := fun o => hb.cell (p := ⟨p.block, o, none⟩) h.lt
  exact ⟨Nat.lt_of_lt_of_le h.lt hb.size, (hb.cell h.lt).trans h.c0, (hc _).trans h.c1, (hc _).trans h.c2, (hc _).trans h.c3, (hc _).trans h.c4, (hc _).trans h.c5, (hc _).trans h.c6, (hc _).trans h.c7, (hc _).trans h.c8⟩
theorem add_more (a : Addr) (k f : Nat) (hf : 0 < f) : a.add (k + f) = ⟨(a.add k).block, (a.add k).off + f, none⟩ := by
  unfold Addr.add
  by_cases h0 : k = 0
  · subst h0; simp; omega
  · simp [h0, Nat.add_assoc]
theorem jobs_at {l : List Jb} {w : World} {a : Addr} (h : Raw w a (jvals l)) {i : Nat} (hi : i < l.length) : JobAt w (a.add (i * 9)) l[i] := by
  have hat : ∀ f u, f < 9 → (jobC l[i])[f]? = some u → a.block < w.heap.size ∧ w.cell? (a.add (i * 9 + f)) = some u := fun f u hf hu => h _ u ((jvals_at l i hi f hf).trans hu)
  have h0 := hat 0 _ (by decide) rfl
  have hx : ∀ f u, 0 < f → f < 9 → (jobC l[i])[f]? = some u → w.cell? ⟨(a.add (i * 9)).block, (a.add (i * 9)).off + f, none⟩ = some u := fun f u h1 hf hu => by
    have := (hat f u hf hu).2
    rwa [add_more a _ f h1] at this
  exact ⟨by rw [add_block]; exact h0.1, h0.2, hx 1 _ (by decide) (by decide) rfl, hx 2 _ (by decide) (by decide) rfl, hx 3 _ (by decide) (by decide) rfl, hx 4 _ (by decide) (by decide) rfl, hx 5 _ (by decide) (by decide) rfl, hx 6 _ (by decide) (by decide) rfl, hx 7 _ (by decide) (by decide) rfl, hx 8 _ (by decide) (by decide) rfl⟩
theorem JobsIs.open_ {l : List Jb} {w : World} {v : Value} (h : JobsIs l w v) : ∃ A c, v = .slice A l.length c ∧ l.length ≤ c ∧ ∀ i (hi : i < l.length), ∃ a, A = some a ∧ JobAt w (a.add (i * 9)) l[i] := by
  rcases h with ⟨rfl, rfl⟩ | ⟨a, c, e, hr, hn⟩
  · exact ⟨none, 0, rfl, Nat.le_refl _, fun i hi => absurd hi (Nat.not_lt_zero _)⟩
  · exact ⟨some a, c, e, hn, fun i hi => ⟨a, rfl, jobs_at hr hi⟩⟩
theorem jobs_own {base n : Nat} {w : World} {v : Value} {l : List Jb} {e : TypeId} (h : OwnR e 9 base w v n (jvals l)) (hn : n = l.length) : JobsIs l w v := by
  subst hn
  obtain ⟨g, c, rfl, _, _, hn, _, h3, _⟩ := h.form
  exact .inr ⟨_, c, rfl, h3, hn⟩
end Go.Proofs.Ytonapgbokbeopaa.OrdMem
