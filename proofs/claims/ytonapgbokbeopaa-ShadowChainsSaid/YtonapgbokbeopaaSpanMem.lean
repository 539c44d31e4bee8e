/-
  Slices of spans in memory.
-/
import Derived.Test.YtonapgbokbeopaaRows
import Derived.Test.YtonapgbokbeopaaSpanPlain
import Derived.Test.YtonapgbokbeopaaBase
namespace Go.Proofs.Ytonapgbokbeopaa.SpanMem
open Go.RowKit Go.Proofs.Ytonapgbokbeopaa.SpanPlain Go.Proofs.Ytonapgbokbeopaa.Mem
theorem ints_t : ElemT Try.prog 44 3 1 8 := ElemT.mk_ (.int .i64 0) Try.underlying44 (by kernel_rfl) rfl (by decide) (by decide)
theorem spans_t : ElemT Try.prog 58 40 2 16 := ElemT.mk_ (.agg #[.int .i64 0, .int .i64 0]) Try.underlying58 (by kernel_rfl) rfl (by decide) (by decide)
def spV (s : Sp) : Value := .agg #[.int .i64 s.1, .int .i64 s.2]
def spCells (s : Sp) : List Value := [.int .i64 s.1, .int .i64 s.2]
def svals (l : List Sp) : List Value := l.flatMap spCells
theorem svals_append (l m : List Sp) : svals (l ++ m) = svals l ++ svals m := by simp [svals]
theorem svals_len (l : List Sp) : (svals l).length = l.length * 2 := by
  induction l with
  | nil => rfl
  | cons s l ih => simp only [svals, List.flatMap_cons, List.length_append, List.length_cons] at *; rw [ih]; simp [spCells]; omega
theorem svals_cell (l : List Sp) : ∀ u ∈ svals l, u.oneCell' = true := by
  intro u hu
  obtain ⟨s, _, h⟩ := List.mem_flatMap.1 hu
  simp [spCells] at h
  rcases h with rfl | rfl <;> rfl
def spCell (l : List Sp) (i : Nat) : Value × Value := (.int .i64 (l.getD i (0, 0)).1, .int .i64 (l.getD i (0, 0)).2)
theorem svals_at (l : List Sp) : ∀ i, i < l.length → (svals l)[i * 2]? = some (spCell l i).1 ∧ (svals l)[i * 2 + 1]? = some (spCell l i).2 := by
  induction l with
  | nil => intro i h; simp at h
  | cons s l ih =>
    intro i h
    cases i with
    | zero => exact ⟨rfl, rfl⟩
    | succ i =>
      obtain ⟨h1, h2⟩ := ih i (by simpa using h)
      have e : svals (s :: l) = .int .i64 s.1 :: .int .i64 s.2 :: svals l := rfl
      rw [e, show (i + 1) * 2 = i * 2 + 1 + 1 by omega]
      exact ⟨h1, h2⟩
/-- A slice of spans, nil let in. -/
def SpansIs (l : List Sp) (w : World) (v : Value) : Prop := (v = .slice none 0 0 ∧ l = []) ∨ ∃ a c, v = .slice (some a) l.length c ∧ Raw w a (svals l) ∧ l.length ≤ c
theorem SpansIs.below {l : List Sp} {w w' : World} {v : Value} (h : SpansIs l w v) (hb : Below w.heap.size w w') : SpansIs l w' v := by
  rcases h with h | ⟨a, c, e, hr, hn⟩
  · exact .inl h
  · exact .inr ⟨a, c, e, hr.below hb, hn⟩
theorem SpansIs.src {l : List Sp} {w : World} {v : Value} (h : SpansIs l w v) : Src w v l.length (svals l) := by
  rcases h with ⟨h, rfl⟩ | ⟨a, c, e, hr, _⟩
  · exact .inl ⟨h, rfl, rfl⟩
  · exact .inr ⟨a, c, e, hr⟩
theorem SpansIs.open2 {l : List Sp} {w : World} {v : Value} (h : SpansIs l w v) : ∃ A c, v = .slice A l.length c ∧ l.length ≤ c ∧ Pairs w A l.length (spCell l) := by
  rcases h with ⟨rfl, rfl⟩ | ⟨a, c, e, hr, hn⟩
  · exact ⟨none, 0, rfl, Nat.le_refl _, Pairs.none_⟩
  · refine ⟨some a, c, e, hn, fun i hi => ⟨a, rfl, (hr _ _ (svals_at l i hi).1).1, ?_, ?_⟩⟩
    · exact (hr _ _ (svals_at l i hi).1).2
    · have h2 := (hr _ _ (svals_at l i hi).2).2
      have e : a.add (i * 2 + 1) = ⟨(a.add (i * 2)).block, (a.add (i * 2)).off + 1, none⟩ := by
        unfold Addr.add
        by_cases h0 : i * 2 = 0 <;> simp [h0, Nat.add_assoc]
      rwa [e] at h2
theorem SpansIs.open_ {l : List Sp} {w : World} {v : Value} (h : SpansIs l w v) : ∃ A c, v = .slice A l.length c ∧ Pairs w A l.length (spCell l) := by
  obtain ⟨A, c, e, _, hp⟩ := h.open2
  exact ⟨A, c, e, hp⟩
theorem OwnR.spans {base n : Nat} {w : World} {v : Value} {l : List Sp} {e : TypeId} (h : OwnR e 2 base w v n (svals l)) (hn : n = l.length) : SpansIs l w v := by
  subst hn
  obtain ⟨g, c, rfl, _, _, hn, _, h3, _⟩ := h.form
  exact .inr ⟨_, c, rfl, h3, hn⟩
theorem pairs_held {w w' : World} {a : Addr} {k : Nat} {u v : Value} (hb : Below w.heap.size w w') (h1 : w.cell? (a.add k) = some u) (h2 : w.cell? ⟨(a.add k).block, (a.add k).off + 1, none⟩ = some v) (hl : a.block < w.heap.size) :
    w'.cell? (a.add k) = some u ∧ w'.cell? ⟨(a.add k).block, (a.add k).off + 1, none⟩ = some v ∧ a.block < w'.heap.size := by
  obtain ⟨a1, a2, a3⟩ := pair_below hb hl h1 h2
  exact ⟨a2, a3, a1⟩
theorem list_of {α : Type} {P : Nat → α → Prop} : ∀ n : Nat, (∀ i, i < n → ∃ s, P i s) → ∃ l : List α, l.length = n ∧ ∀ i s, l[i]? = some s → P i s := by
  intro n
  induction n with
  | zero => intro _; exact ⟨[], rfl, fun i s h => by simp at h⟩
  | succ n ih =>
    intro h
    obtain ⟨l, hl, hp⟩ := ih fun i hi => h i (by omega)
    obtain ⟨s, hs⟩ := h n (by omega)
    refine ⟨l ++ [s], by simp [hl], fun i x hx => ?_⟩
    rcases Nat.lt_trichotomy i n with hi | hi | hi
    · rw [List.getElem?_append_left (by omega)] at hx; exact hp i x hx
    · subst hi
      rw [List.getElem?_append_right (by omega), hl, Nat.sub_self] at hx
      simp at hx
      subst hx; exact hs
    · rw [List.getElem?_append_right (by omega)] at hx
      have : i - l.length = i - l.length - 1 + 1 := by omega
      rw [this] at hx
      simp at hx
theorem svals_raw {l : List Sp} {w : World} {a : Addr} (h : ∀ i s, l[i]? = some s → a.block < w.heap.size ∧ w.cell? (a.add (i * 2)) = some (.int .i64 s.1) ∧ w.cell? (a.add (i * 2 + 1)) = some (.int .i64 s.2)) : Raw w a (svals l) := by
  intro j u hu
  have hj : j < l.length * 2 := by
    have := (List.getElem?_eq_some_iff.1 hu).1
    rwa [svals_len] at this
  have hi : j / 2 < l.length := by omega
  obtain ⟨h1, h2⟩ := svals_at l (j / 2) hi
  have hg : l[j / 2]? = some (l.getD (j / 2) (0, 0)) := by simp [List.getD, hi]
  obtain ⟨g1, g2, g3⟩ := h _ _ hg
  refine ⟨g1, ?_⟩
  by_cases he : j % 2 = 0
  · have e : j = j / 2 * 2 := by omega
    rw [← e] at h1 g2
    rw [h1] at hu
    injection hu with hu
    subst hu
    exact g2
  · have e : j = j / 2 * 2 + 1 := by omega
    rw [← e] at h2 g3
    rw [h2] at hu
    injection hu with hu
    subst hu
    exact g3
end Go.Proofs.Ytonapgbokbeopaa.SpanMem
