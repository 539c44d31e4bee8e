/-
  Rows of structs in memory, whatever the struct: how many cells an element has, and which; a slice of such, nil let in; an element's cells. (Each struct's own words are written by tools/gen_struct.py.)
-/
import Derived.Test.YtkaepadkdohmpaaBoxed
namespace Go.Proofs.Ytkaepadkdohmpaa.Mem
open Go.RowKit
/-- How a thing lies in cells. -/
structure Lay (α : Type) where
  k : Nat
  cs : α → List Value
  len : ∀ x, (cs x).length = k
  one : ∀ x, ∀ u ∈ cs x, u.oneCell' = true
  pos : 0 < k
section
variable {α : Type} (L : Lay α)
def Lay.vals (l : List α) : List Value := l.flatMap L.cs
theorem Lay.append (l m : List α) : L.vals (l ++ m) = L.vals l ++ L.vals m := by simp [Lay.vals]
theorem Lay.cons (x : α) (l : List α) : L.vals (x :: l) = L.cs x ++ L.vals l := rfl
theorem Lay.snoc (l : List α) (x : α) : L.vals (l ++ [x]) = L.vals l ++ L.cs x := by simp [Lay.vals]
theorem Lay.vals_len (l : List α) : (L.vals l).length = l.length * L.k := by
  induction l with
  | nil => simp [Lay.vals]
  | cons s l ih => rw [L.cons, List.length_append, ih, L.len, List.length_cons, Nat.add_mul]; omega
theorem Lay.cell (l : List α) : ∀ u ∈ L.vals l, u.oneCell' = true := by
  intro u hu
  obtain ⟨s, _, h⟩ := List.mem_flatMap.1 hu
  exact L.one s u h
theorem Lay.vals_at (l : List α) : ∀ i (hi : i < l.length) (f : Nat), f < L.k → (L.vals l)[i * L.k + f]? = (L.cs l[i])[f]? := by
  induction l with
  | nil => intro i h; simp at h
  | cons s l ih =>
    intro i h f hf
    rw [L.cons]
    cases i with
    | zero => rw [Nat.zero_mul, Nat.zero_add, List.getElem?_append_left (by rw [L.len]; exact hf)]; rfl
    | succ i =>
      rw [Nat.add_mul, Nat.one_mul, List.getElem?_append_right (by rw [L.len]; omega), L.len, show i * L.k + L.k + f - L.k = i * L.k + f by omega, ih i (by simpa using h) f hf]
      rfl
/-- A slice of such things, nil let in. -/
def Lay.Is (l : List α) (w : World) (v : Value) : Prop := (v = .slice none 0 0 ∧ l = []) ∨ ∃ a c, v = .slice (some a) l.length c ∧ Raw w a (L.vals l) ∧ l.length ≤ c
/-- A thing's cells from a place on. -/
structure Lay.At (w : World) (p : Addr) (x : α) : Prop where
  lt : p.block < w.heap.size
  c0 : ∀ u, (L.cs x)[0]? = some u → w.cell? p = some u
  c : ∀ f u, 0 < f → (L.cs x)[f]? = some u → w.cell? ⟨p.block, p.off + f, none⟩ = some u
end
theorem add_over (a : Addr) (k f : Nat) (hf : 0 < f) : a.add (k + f) = ⟨(a.add k).block, (a.add k).off + f, none⟩ := by
  unfold Addr.add
  by_cases h0 : k = 0
  · subst h0; simp; omega
  · simp [h0, Nat.add_assoc]
section
variable {α : Type} {L : Lay α} {l : List α} {w w' : World} {v : Value}
theorem Lay.Is.below (h : L.Is l w v) (hb : Below w.heap.size w w') : L.Is l w' v := by
  rcases h with h | ⟨a, c, e, hr, hn⟩
  · exact .inl h
  · exact .inr ⟨a, c, e, hr.below hb, hn⟩
theorem Lay.Is.src (h : L.Is l w v) : Src w v l.length (L.vals l) := by
  rcases h with ⟨h, rfl⟩ | ⟨a, c, e, hr, _⟩
  · exact .inl ⟨h, rfl, rfl⟩
  · exact .inr ⟨a, c, e, hr⟩
theorem Lay.Is.nil (L : Lay α) (w : World) : L.Is [] w (.slice none 0 0) := .inl ⟨rfl, rfl⟩
theorem Lay.At.below {p : Addr} {x : α} (h : L.At w p x) (hb : Below w.heap.size w w') : L.At w' p x :=
  ⟨Nat.lt_of_lt_of_le h.lt hb.size, fun u hu => (hb.cell h.lt).trans (h.c0 u hu), fun f u h1 hu => (hb.cell (p := ⟨p.block, p.off + f, none⟩) h.lt).trans (h.c f u h1 hu)⟩
theorem Lay.at_ {a : Addr} (h : Raw w a (L.vals l)) {i : Nat} (hi : i < l.length) : L.At w (a.add (i * L.k)) l[i] := by
  have hat : ∀ f u, (L.cs l[i])[f]? = some u → a.block < w.heap.size ∧ w.cell? (a.add (i * L.k + f)) = some u := fun f u hu => by
    have hf : f < L.k := by
      have := (List.getElem?_eq_some_iff.1 hu).1
      rwa [L.len] at this
    exact h _ u ((L.vals_at l i hi f hf).trans hu)
  have hlt : a.block < w.heap.size := by
    have h0 : (L.cs l[i])[0]? = some ((L.cs l[i])[0]'(by rw [L.len]; exact L.pos)) := List.getElem?_eq_getElem _
    exact (hat 0 _ h0).1
  refine ⟨by rw [add_block]; exact hlt, fun u hu => (hat 0 u hu).2, fun f u h1 hu => ?_⟩
  have := (hat f u hu).2
  rwa [add_over a _ f h1] at this
theorem Lay.Is.open_ (h : L.Is l w v) : ∃ A c, v = .slice A l.length c ∧ l.length ≤ c ∧ ∀ i (hi : i < l.length), ∃ a, A = some a ∧ L.At w (a.add (i * L.k)) l[i] := by
  rcases h with ⟨rfl, rfl⟩ | ⟨a, c, e, hr, hn⟩
  · exact ⟨none, 0, rfl, Nat.le_refl _, fun i hi => absurd hi (Nat.not_lt_zero _)⟩
  · exact ⟨some a, c, e, hn, fun i hi => ⟨a, rfl, Lay.at_ hr hi⟩⟩
theorem Lay.Is.own {base n : Nat} {e : TypeId} (h : OwnN e L.k base w v n (L.vals l)) (hn : n = l.length) : L.Is l w v := by
  subst hn
  rcases h.form with ⟨h1, h2, _⟩ | ⟨g, c, hv, _, _, hn, _, hr, _⟩
  · exact .inl ⟨h1, List.eq_nil_of_length_eq_zero h2⟩
  · exact .inr ⟨_, c, hv, hr, hn⟩
theorem Lay.raw_of {a : Addr} (h : ∀ i x, l[i]? = some x → a.block < w.heap.size ∧ ∀ f u, (L.cs x)[f]? = some u → w.cell? (a.add (i * L.k + f)) = some u) : Raw w a (L.vals l) := by
  intro q u hu
  have hk := L.pos
  have hq : q < l.length * L.k := by
    have := (List.getElem?_eq_some_iff.1 hu).1
    rwa [L.vals_len] at this
  have hi : q / L.k < l.length := Nat.div_lt_of_lt_mul (by rw [Nat.mul_comm]; exact hq)
  have hf : q % L.k < L.k := Nat.mod_lt _ hk
  have e : q = q / L.k * L.k + q % L.k := by rw [Nat.mul_comm]; exact (Nat.div_add_mod q L.k).symm
  obtain ⟨h1, h2⟩ := h (q / L.k) l[q / L.k] (by simp [hi])
  refine ⟨h1, ?_⟩
  rw [e] at hu ⊢
  rw [L.vals_at l (q / L.k) hi (q % L.k) hf] at hu
  exact h2 _ _ hu
theorem Lay.take (L : Lay α) (l : List α) : ∀ k, (L.vals l).take (k * L.k) = L.vals (l.take k) := by
  induction l with
  | nil => intro k; simp [Lay.vals]
  | cons s l ih =>
    intro k
    cases k with
    | zero => simp [Lay.vals]
    | succ k => rw [L.cons, Nat.add_mul, Nat.one_mul, Nat.add_comm, ← L.len s, List.take_length_add_append, List.take_succ_cons, L.cons, L.len, ih]
theorem Lay.drop (L : Lay α) (l : List α) : ∀ k, (L.vals l).drop (k * L.k) = L.vals (l.drop k) := by
  induction l with
  | nil => intro k; simp [Lay.vals]
  | cons s l ih =>
    intro k
    cases k with
    | zero => simp
    | succ k => rw [L.cons, Nat.add_mul, Nat.one_mul, Nat.add_comm, ← L.len s, List.drop_length_add_append, List.drop_succ_cons, L.len, ih]
/-- One new thing, as append of one lays it. -/
theorem Lay.new_one (L : Lay α) (w : World) (x : α) {n : Nat} (e : w.heap.size = n) (T : TypeId) : Src (w.alloc (.cells (L.cs x).toArray T)) (.slice (some ⟨n, 0, none⟩) 1 1) 1 (L.cs x) := by
  have h := raw_at (w := w) (n := n) (m := 1) (k := 1) e (L.cs x).toArray T
  simpa using h
end
theorem all_nil {α : Type} {P : Nat → α → Prop} : ∀ i s, ([] : List α)[i]? = some s → P i s := fun i s h => by simp at h
theorem list_by {α : Type} {P : Nat → α → Prop} : ∀ n : Nat, (∀ i, i < n → ∃ s, P i s) → ∃ l : List α, l.length = n ∧ ∀ i s, l[i]? = some s → P i s := by
  intro n
  induction n with
  | zero => intro _; exact ⟨[], rfl, fun i s h => by simp at h⟩
  | succ n ih =>
    intro h
    obtain ⟨l, hl, hp⟩ := ih fun i hi => h i (by omega)
    obtain ⟨s, hs⟩ := h n (by omega)
    refine ⟨l ++ [s], by simp [hl], fun i x hx => ?_⟩
    rcases Nat.lt_trichotomy i n with hi | hi | hi
    · rw [List.getElem?_append_left (by omega)] at hx; exact hp i x hx
    · subst hi
      rw [List.getElem?_append_right (by omega), hl, Nat.sub_self] at hx
      simp at hx
      subst hx; exact hs
    · rw [List.getElem?_append_right (by omega)] at hx
      have : i - l.length = i - l.length - 1 + 1 := by omega
      rw [this] at hx
      simp at hx
end Go.Proofs.Ytkaepadkdohmpaa.Mem
