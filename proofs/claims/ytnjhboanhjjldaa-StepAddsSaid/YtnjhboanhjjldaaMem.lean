/-
  Words for memory: what a slice's cells hold, kept behind whatever writes elsewhere. No function is spoken of here.
-/
import Derived.Below
import Derived.Laws.OwnMore
import Derived.Deep.Draws
import Derived.Deep.OwnRows
import Derived.Lib.Hide
namespace Go.Proofs.Ytnjhboanhjjldaa.Mem
open Go.RowKit

theorem add_flat (b k : Nat) : (⟨b, 0, none⟩ : Addr).add k = ⟨b, k, none⟩ := by unfold Addr.add; split <;> simp_all
theorem add_block (a : Addr) (k : Nat) : (a.add k).block = a.block := by unfold Addr.add; split <;> rfl

/-- The first n cells from an address on hold f; they are there already. -/
def Cells (w : World) (A : Option Addr) (n : Nat) (f : Nat → Value) : Prop :=
  ∀ i, i < n → ∃ a, A = some a ∧ a.block < w.heap.size ∧ w.cell? (a.add i) = some (f i)

section
variable {w w' : World} {A : Option Addr} {n : Nat} {f g : Nat → Value}
theorem Cells.at (h : Cells w A n f) {i : Nat} (hi : i < n) : ∃ a, A = some a ∧ a.block < w.heap.size ∧ w.cell? (a.add i) = some (f i) := h i hi
theorem Cells.below (h : Cells w A n f) (hb : Below w.heap.size w w') : Cells w' A n f := fun i hi => by
  obtain ⟨a, e, hl, hc⟩ := h i hi
  exact ⟨a, e, Nat.lt_of_lt_of_le hl hb.size, (hb.cell (by rw [add_block]; exact hl)).trans hc⟩
theorem Cells.congr (h : Cells w A n f) (e : ∀ i, i < n → f i = g i) : Cells w A n g := fun i hi => by
  obtain ⟨a, e1, hl, hc⟩ := h i hi
  exact ⟨a, e1, hl, by rw [hc, e i hi]⟩
theorem Cells.none_ : Cells w A 0 f := fun _ hi => absurd hi (Nat.not_lt_zero _)
theorem Cells.of_row {b : Nat} {t : TypeId} (h : w.rowIs b t n f) : Cells w (some ⟨b, 0, none⟩) n f := fun i hi =>
  ⟨_, rfl, h.lt, by rw [add_flat]; exact h.cell hi⟩
theorem Cells.of_alloc (w : World) (c : Array Value) (t : TypeId) (f : Nat → Value) (hc : ∀ i, i < c.size → c[i]? = some (f i)) : Cells (w.alloc (.cells c t)) (some ⟨w.heap.size, 0, none⟩) c.size f :=
  Cells.of_row (World.rowIs_alloc w c t f hc)
theorem Cells.of_own {base : Nat} {e : TypeId} {c : Nat} {xs : List Value} (h : w.ownsRow base e 1 (.slice A n c) n xs) (hf : ∀ i, i < n → xs[i]? = some (f i)) : Cells w A n f := by
  have hlt := h.lt
  have hcs := @World.ownsRow.cells _ _ _ _ _ _ _ h
  rcases h.2 with ⟨_, hn⟩ | ⟨g, cap, cur, hv, _⟩
  · intro i hi; omega
  · injection hv with hA
    subst hA
    exact fun i hi => ⟨_, rfl, (hlt g rfl).2, hcs rfl i _ (hf i hi)⟩
end

/-- One new cell, as append of one element lays it. -/
theorem one_new (w : World) (x : Value) (t : TypeId) : ∀ (j : Nat) (u : Value), [x][j]? = some u → (w.alloc (.cells #[x] t)).cell? ((⟨w.heap.size, 0, none⟩ : Addr).add j) = some u := by
  intro j u hj
  cases j with
  | zero =>
    have e : x = u := by simpa using hj
    subst e
    rw [add_flat]
    exact (World.rowIs_alloc w #[x] t (fun _ => x) (fun i hi => by simp at hi; subst hi; rfl)).cell (i := 0) (by simp)
  | succ j => simp at hj
theorem one_cell {k : IntKind} {n : Int} : ∀ u ∈ [Value.int k n], u.oneCell' = true := by
  intro u hu
  simp at hu
  subst hu
  rfl

/-- Integers' cells. -/
def icell (l : List Int) (i : Nat) : Value := .int .i64 (l.getD i 0)
def ivals (l : List Int) : List Value := l.map (Value.int .i64)
theorem ivals_append (l m : List Int) : ivals (l ++ m) = ivals l ++ ivals m := by simp [ivals]
theorem ivals_len (l : List Int) : (ivals l).length = l.length := by simp [ivals]
theorem ivals_at (l : List Int) (n : Nat) (h : n = l.length) : ∀ i, i < n → (ivals l)[i]? = some (icell l i) := fun i hi => by
  subst h
  simp [ivals, icell, List.getD, hi]
theorem ivals_cell (l : List Int) : ∀ u ∈ ivals l, u.oneCell' = true := by
  intro u hu
  obtain ⟨n, _, rfl⟩ := List.mem_map.1 hu
  rfl
/-- An own row that is not nil has a head. -/
theorem own_form {w : World} {base : Nat} {e : TypeId} {size : Nat} {v : Value} {n : Nat} {xs : List Value} (h : w.ownsRow base e size v n xs) (hne : ¬ v = .slice none 0 0) :
    ∃ g c, v = .slice (some ⟨g, 0, none⟩) n c ∧ base ≤ g ∧ g < w.heap.size ∧ n ≤ c ∧ c ≤ maxLen := by
  have hlt := h.lt
  rcases h.2 with ⟨e, _⟩ | ⟨g, cap, cur, rfl, hg, _, h1, h2, _⟩
  · exact absurd e hne
  · exact ⟨g, cap, rfl, hg, (hlt g rfl).2, h1, h2⟩
theorem below_of_grown {base : Nat} {e : TypeId} {size : Nat} {v : Value} {n : Nat} {xs : List Value} {a w w' : World} (hb : Below base a w) (h : w.ownsRow base e size v n xs) (hB : base ≤ w.heap.size) (hg : w.grownBy w' v.ownBlock) : Below base a w' :=
  hb.grown hg hB (fun k hk => (h.lt k hk).1)
/-- A struct's later fields lie behind its first. -/
def fld (a : Addr) (j : Nat) : Addr := ⟨a.block, a.off + j, none⟩
/-- Elements of two cells: the first n from an address on. -/
def Pairs (w : World) (A : Option Addr) (n : Nat) (f : Nat → Value × Value) : Prop :=
  ∀ i, i < n → ∃ a, A = some a ∧ a.block < w.heap.size ∧ w.cell? (a.add (i * 2)) = some (f i).1 ∧ w.cell? ⟨(a.add (i * 2)).block, (a.add (i * 2)).off + 1, none⟩ = some (f i).2
theorem pair_below {w w' : World} {a : Addr} {k : Nat} {u v : Value} (hb : Below w.heap.size w w') (hl : a.block < w.heap.size) (h1 : w.cell? (a.add k) = some u) (h2 : w.cell? ⟨(a.add k).block, (a.add k).off + 1, none⟩ = some v) :
    a.block < w'.heap.size ∧ w'.cell? (a.add k) = some u ∧ w'.cell? ⟨(a.add k).block, (a.add k).off + 1, none⟩ = some v :=
  ⟨Nat.lt_of_lt_of_le hl hb.size, (hb.cell (by rw [add_block]; exact hl)).trans h1, (hb.cell (by rw [add_block]; exact hl)).trans h2⟩
theorem Pairs.below {w w' : World} {A : Option Addr} {n : Nat} {f : Nat → Value × Value} (h : Pairs w A n f) (hb : Below w.heap.size w w') : Pairs w' A n f := fun i hi => by
  obtain ⟨a, e, hl, h1, h2⟩ := h i hi
  obtain ⟨h3, h4, h5⟩ := pair_below hb hl h1 h2
  exact ⟨a, e, h3, h4, h5⟩
theorem Pairs.none_ {w : World} {A : Option Addr} {f : Nat → Value × Value} : Pairs w A 0 f := fun _ hi => absurd hi (Nat.not_lt_zero _)
theorem Pairs.of_row {w : World} {b : Nat} {t : TypeId} {n : Nat} {g : Nat → Value} {f : Nat → Value × Value} (h : w.rowIs b t (n * 2) g) (hf : ∀ i, i < n → g (i * 2) = (f i).1 ∧ g (i * 2 + 1) = (f i).2) :
    Pairs w (some ⟨b, 0, none⟩) n f := fun i hi => by
  refine ⟨_, rfl, h.lt, ?_, ?_⟩
  · rw [add_flat, h.cell (by omega), (hf i hi).1]
  · rw [add_flat]; show w.cell? ⟨b, i * 2 + 1, none⟩ = _; rw [h.cell (by omega), (hf i hi).2]
theorem Pairs.of_own {w : World} {base : Nat} {e : TypeId} {A : Option Addr} {n c : Nat} {xs : List Value} {f : Nat → Value × Value} (h : w.ownsRow base e 2 (.slice A n c) n xs)
    (hf : ∀ i, i < n → xs[i * 2]? = some (f i).1 ∧ xs[i * 2 + 1]? = some (f i).2) : Pairs w A n f := by
  have hlt := h.lt
  have hcs := @World.ownsRow.cells _ _ _ _ _ _ _ h
  rcases h.2 with ⟨_, hn⟩ | ⟨g, cap, cur, hv, _⟩
  · intro i hi; omega
  · injection hv with hA
    subst hA
    intro i hi
    have h1 := hcs rfl (i * 2) _ (hf i hi).1
    have h2 := hcs rfl (i * 2 + 1) _ (hf i hi).2
    rw [add_flat] at h1 h2
    exact ⟨_, rfl, (hlt g rfl).2, by rw [add_flat]; exact h1, by rw [add_flat]; exact h2⟩

theorem below_drewN {B : Nat} {a w : World} (h : Below B a w) (n : Nat) : Below B a (w.drewN n) := ⟨h.os, h.tape, h.output, h.size, h.block⟩
theorem row_drewN {w : World} {b : Nat} {t : TypeId} {n : Nat} {f : Nat → Value} (h : w.rowIs b t n f) (k : Nat) : (w.drewN k).rowIs b t n f := h
theorem cells_drewN {w : World} {A : Option Addr} {n : Nat} {f : Nat → Value} (h : Cells w A n f) (k : Nat) : Cells (w.drewN k) A n f := h
/-- Two calls, one behind the other: neither has turned what was there. -/
theorem below_then {a b c : World} (h : Below a.heap.size a b) (k : Below b.heap.size b c) : Below a.heap.size a c := h.trans (k.mono h.size)

theorem below_of_drew {w w' : World} (h : Below w.drew.heap.size w.drew w') : Below w.heap.size w w' := ⟨h.os, h.tape, h.output, h.size, h.block⟩

end Go.Proofs.Ytnjhboanhjjldaa.Mem
