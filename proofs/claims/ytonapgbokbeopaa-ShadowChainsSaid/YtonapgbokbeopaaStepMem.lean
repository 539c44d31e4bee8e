/-
  Slices of busy times, and of steps, in memory. (Steps are pairs, as spans are: the words for slices of spans serve.)
-/
import Derived.Test.YtonapgbokbeopaaSpanMem
import Derived.Test.YtonapgbokbeopaaBase
import Derived.Test.YtonapgbokbeopaaStepPlain
namespace Go.Proofs.Ytonapgbokbeopaa.StepMem
open Go.RowKit Go.Proofs.Ytonapgbokbeopaa.SpanPlain Go.Proofs.Ytonapgbokbeopaa.StepPlain Go.Proofs.Ytonapgbokbeopaa.Mem Go.Proofs.Ytonapgbokbeopaa.SpanMem
theorem steps_t : ElemT Try.prog 22 42 2 16 := ElemT.mk_ (.agg #[.int .i64 0, .int .i64 0]) Try.underlying22 (by kernel_rfl) rfl (by decide) (by decide)
def byV (b : By) : Value := .agg #[.int .i64 b.1, .int .i64 b.2.1, .int .i64 b.2.2]
def byCells (b : By) : List Value := [.int .i64 b.1, .int .i64 b.2.1, .int .i64 b.2.2]
def bvals (l : List By) : List Value := l.flatMap byCells
theorem bvals_len (l : List By) : (bvals l).length = l.length * 3 := by
  induction l with
  | nil => rfl
  | cons s l ih => simp only [bvals, List.flatMap_cons, List.length_append, List.length_cons] at *; rw [ih]; simp [byCells]; omega
def byCell (l : List By) (i : Nat) : By := l.getD i (0, 0, 0)
theorem bvals_at (l : List By) : ∀ i, i < l.length → (bvals l)[i * 3]? = some (.int .i64 (byCell l i).1) ∧ (bvals l)[i * 3 + 1]? = some (.int .i64 (byCell l i).2.1) ∧ (bvals l)[i * 3 + 2]? = some (.int .i64 (byCell l i).2.2) := by
  induction l with
  | nil => intro i h; simp at h
  | cons s l ih =>
    intro i h
    cases i with
    | zero => exact ⟨rfl, rfl, rfl⟩
    | succ i =>
      obtain ⟨h1, h2, h3⟩ := ih i (by simpa using h)
      have e : bvals (s :: l) = .int .i64 s.1 :: .int .i64 s.2.1 :: .int .i64 s.2.2 :: bvals l := rfl
      rw [e, show (i + 1) * 3 = i * 3 + 1 + 1 + 1 by omega]
      exact ⟨h1, h2, h3⟩
/-- A slice of busy times, nil let in. -/
def BusyIs (l : List By) (w : World) (v : Value) : Prop := (v = .slice none 0 0 ∧ l = []) ∨ ∃ a c, v = .slice (some a) l.length c ∧ Raw w a (bvals l)
theorem BusyIs.below {l : List By} {w w' : World} {v : Value} (h : BusyIs l w v) (hb : Below w.heap.size w w') : BusyIs l w' v := by
  rcases h with h | ⟨a, c, e, hr⟩
  · exact .inl h
  · exact .inr ⟨a, c, e, hr.below hb⟩
/-- Elements of three cells: the first n from an address on. -/
def Trips (w : World) (A : Option Addr) (l : List By) : Prop :=
  ∀ i, i < l.length → ∃ a, A = some a ∧ a.block < w.heap.size ∧ w.cell? (a.add (i * 3)) = some (.int .i64 (byCell l i).1) ∧ w.cell? ⟨(a.add (i * 3)).block, (a.add (i * 3)).off + 1, none⟩ = some (.int .i64 (byCell l i).2.1) ∧
    w.cell? ⟨(a.add (i * 3)).block, (a.add (i * 3)).off + 2, none⟩ = some (.int .i64 (byCell l i).2.2)
theorem trip_below {w w' : World} {a : Addr} {k : Nat} {u v x : Value} (hb : Below w.heap.size w w') (hl : a.block < w.heap.size) (h1 : w.cell? (a.add k) = some u) (h2 : w.cell? ⟨(a.add k).block, (a.add k).off + 1, none⟩ = some v) (h3 : w.cell? ⟨(a.add k).block, (a.add k).off + 2, none⟩ = some x) :
    a.block < w'.heap.size ∧ w'.cell? (a.add k) = some u ∧ w'.cell? ⟨(a.add k).block, (a.add k).off + 1, none⟩ = some v ∧ w'.cell? ⟨(a.add k).block, (a.add k).off + 2, none⟩ = some x :=
  ⟨Nat.lt_of_lt_of_le hl hb.size, (hb.cell (by rw [add_block]; exact hl)).trans h1, (hb.cell (by rw [add_block]; exact hl)).trans h2, (hb.cell (by rw [add_block]; exact hl)).trans h3⟩
theorem Trips.below {w w' : World} {A : Option Addr} {l : List By} (h : Trips w A l) (hb : Below w.heap.size w w') : Trips w' A l := fun i hi => by
  obtain ⟨a, e, hl, h1, h2, h3⟩ := h i hi
  obtain ⟨k1, k2, k3, k4⟩ := trip_below hb hl h1 h2 h3
  exact ⟨a, e, k1, k2, k3, k4⟩
theorem BusyIs.open_ {l : List By} {w : World} {v : Value} (h : BusyIs l w v) : ∃ A c, v = .slice A l.length c ∧ Trips w A l := by
  rcases h with ⟨rfl, rfl⟩ | ⟨a, c, e, hr⟩
  · exact ⟨none, 0, rfl, fun i hi => absurd hi (Nat.not_lt_zero _)⟩
  · refine ⟨some a, c, e, fun i hi => ⟨a, rfl, (hr _ _ (bvals_at l i hi).1).1, (hr _ _ (bvals_at l i hi).1).2, ?_, ?_⟩⟩
    · have h2 := (hr _ _ (bvals_at l i hi).2.1).2
      have e : a.add (i * 3 + 1) = ⟨(a.add (i * 3)).block, (a.add (i * 3)).off + 1, none⟩ := by
        unfold Addr.add
        by_cases h0 : i * 3 = 0 <;> simp [h0, Nat.add_assoc]
      rwa [e] at h2
    · have h2 := (hr _ _ (bvals_at l i hi).2.2).2
      have e : a.add (i * 3 + 2) = ⟨(a.add (i * 3)).block, (a.add (i * 3)).off + 2, none⟩ := by
        unfold Addr.add
        by_cases h0 : i * 3 = 0 <;> simp [h0, Nat.add_assoc]
      rwa [e] at h2
theorem box_cell {w w1 : World} {c : Array Value} {T : TypeId} (hb : Below (w.alloc (.cells c T)).heap.size (w.alloc (.cells c T)) w1) {j : Nat} {u : Value} (hu : c.toList[j]? = some u) : w1.cell? ⟨w.heap.size, j, none⟩ = some u := by
  have h := ((Raw.alloc w c T).below hb j u hu).2
  rwa [add_flat] at h
theorem by_at {l : List By} {k : Nat} (hk : k < l.length) : byCell l k = l[k] := by unfold byCell; simp [List.getD, hk]
theorem last_cell (d : List Sp) (s : Sp) : (svals (d ++ [s]))[d.length * 2 + 1]? = some (.int .i64 s.2) := by
  have h := (svals_at (d ++ [s]) d.length (by simp)).2
  rw [h]
  simp [spCell, List.getD]
theorem snoc_ways (c : List Sp) : c = [] ∨ ∃ d s, c = d ++ [s] := by
  by_cases h : c = []
  · exact .inl h
  · exact .inr ⟨c.dropLast, c.getLast h, (List.dropLast_concat_getLast h).symm⟩
theorem svals_snoc (d : List Sp) (s : Sp) : svals (d ++ [s]) = svals d ++ [.int .i64 s.1, .int .i64 s.2] := by rw [svals_append]; rfl
theorem spans_of_own {base n : Nat} {w : World} {v : Value} {l : List Sp} {e : TypeId} (h : OwnN e 2 base w v n (svals l)) (hn : n = l.length) : SpansIs l w v := by
  subst hn
  rcases h.form with ⟨h1, h2, _⟩ | ⟨g, c, hv, _, _, hn, _, hr, _⟩
  · exact .inl ⟨h1, List.eq_nil_of_length_eq_zero h2⟩
  · exact .inr ⟨_, c, hv, hr, hn⟩
end Go.Proofs.Ytonapgbokbeopaa.StepMem
