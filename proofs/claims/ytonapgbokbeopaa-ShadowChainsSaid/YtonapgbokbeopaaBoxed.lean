/-
  Boxes of any number of cells: what they hold, behind whatever leaves them alone, and what is written into one of their cells. What is left alone where some blocks may be written: the blocks that are there and not among them hold what they held.
-/
import Derived.Test.YtonapgbokbeopaaBase
namespace Go.Proofs.Ytonapgbokbeopaa.Mem
open Go.RowKit
/-- Block n is there, its first cells hold l, and they may be written. -/
structure Boxed (w : World) (n : Nat) (l : List Value) : Prop where
  lt : n < w.heap.size
  c : ∀ (i : Nat) (u : Value), l[i]? = some u → w.cell? ⟨n, i, none⟩ = some u
  f : ∀ (i : Nat) (u : Value), l[i]? = some u → w.frozen? ⟨n, i, none⟩ = false
section
variable {w w' : World} {n : Nat} {l : List Value}
theorem Boxed.new (w : World) (a : Array Value) (T : TypeId) : Boxed (w.alloc (.cells a T)) w.heap.size a.toList :=
  ⟨by simp, fun i u h => by have := (Raw.alloc w a T i u h).2; rwa [add_flat] at this, fun _ _ _ => World.frozen?_alloc_new _ _ _ _⟩
theorem Boxed.new_at {m : Nat} (a : Array Value) (T : TypeId) (e : w.heap.size = m) : Boxed (w.alloc (.cells a T)) m a.toList := by subst e; exact Boxed.new w a T
theorem Boxed.of_block (h : Boxed w n l) (hs : n < w'.heap.size) (e : w'.heap[n]? = w.heap[n]?) : Boxed w' n l :=
  ⟨hs, fun i u hu => (World.cell?_of_block (a := ⟨n, i, none⟩) e).trans (h.c i u hu), fun i u hu => (World.frozen?_of_block (a := ⟨n, i, none⟩) e).trans (h.f i u hu)⟩
theorem Boxed.below (h : Boxed w n l) (hb : Below w.heap.size w w') : Boxed w' n l := h.of_block (Nat.lt_of_lt_of_le h.lt hb.size) (hb.block n h.lt)
theorem Boxed.under {B : Nat} (h : Boxed w n l) (hb : Below B w w') (hn : n < B) : Boxed w' n l := h.of_block (Nat.lt_of_lt_of_le h.lt hb.size) (hb.block n hn)
theorem Boxed.alloc (h : Boxed w n l) (o : Obj) : Boxed (w.alloc o) n l := h.below ((Below.refl _ _).alloc (Nat.le_refl _) o)
theorem Boxed.drewN (h : Boxed w n l) (q : Nat) : Boxed (w.drewN q) n l := ⟨h.lt, h.c, h.f⟩
theorem Boxed.grown {row : Option Nat} (h : Boxed w n l) (hg : w.grownBy w' row) (hne : row ≠ some n) : Boxed w' n l := h.of_block (Nat.lt_of_lt_of_le h.lt hg.size) (hg.block n h.lt (fun e => hne e.symm))
theorem Boxed.set_other (h : Boxed w n l) {p : Addr} (hp : p.block ≠ n) (u : Value) : Boxed (w.setCell p u) n l := h.of_block (by simp [World.setCell]; exact h.lt) (Below.heap_setCell w p u n (fun h => hp h.symm))
theorem Boxed.set (h : Boxed w n l) (i : Nat) (u : Value) : Boxed (w.setCell ⟨n, i, none⟩ u) n (l.set i u) := by
  refine ⟨by simp [World.setCell]; exact h.lt, fun k v hv => ?_, fun k v hv => ?_⟩
  · rw [List.getElem?_set] at hv
    by_cases hk : i = k
    · subst hk
      rw [if_pos rfl] at hv
      by_cases hi : i < l.length
      · rw [if_pos hi] at hv
        injection hv with hv
        subst hv
        exact World.cell?_setCell_same _ _ _ (h.c i l[i] (by simp [hi]))
      · rw [if_neg hi] at hv; cases hv
    · rw [if_neg hk] at hv
      exact (World.cell?_setCell_other _ _ _ _ (by simp; omega)).trans (h.c k v hv)
  · rw [World.frozen?_setCell]
    rw [List.getElem?_set] at hv
    by_cases hk : i = k
    · subst hk
      rw [if_pos rfl] at hv
      by_cases hi : i < l.length
      · exact h.f i l[i] (by simp [hi])
      · rw [if_neg hi] at hv; cases hv
    · rw [if_neg hk] at hv
      exact h.f k v hv
end
end Go.Proofs.Ytonapgbokbeopaa.Mem
namespace Go.Proofs.Ytonapgbokbeopaa.Mem
open Go.RowKit
/-- Blocks that are there and not in O hold what they held. -/
structure Spare (O : List Nat) (w w' : World) : Prop where
  os : w'.os = w.os
  tape : w'.tape = w.tape
  output : w'.output = w.output
  size : w.heap.size ≤ w'.heap.size
  block : ∀ i, i < w.heap.size → i ∉ O → w'.heap[i]? = w.heap[i]?
/-- Of the elder blocks none but those of O. -/
def Owns (O O' : List Nat) (w : World) : Prop := ∀ i ∈ O', i ∈ O ∨ w.heap.size ≤ i
section
variable {O O' : List Nat} {w w' w2 : World}
theorem Spare.of_below (h : Below w.heap.size w w') : Spare O w w' := ⟨h.os, h.tape, h.output, h.size, fun i hi _ => h.block i hi⟩
theorem Spare.then_ (h : Spare O w w') (ho : Owns O O' w) (k : Spare O' w' w2) : Spare O w w2 :=
  ⟨k.os.trans h.os, k.tape.trans h.tape, k.output.trans h.output, Nat.le_trans h.size k.size, fun i hi hn => (k.block i (Nat.lt_of_lt_of_le hi h.size) (fun e => by
    rcases ho i e with h1 | h1
    · exact hn h1
    · omega)).trans (h.block i hi hn)⟩
theorem Spare.below {B : Nat} {a : World} (h : Below B a w) (k : Spare O w w') (hO : ∀ i ∈ O, B ≤ i) (hB : B ≤ w.heap.size) : Below B a w' :=
  h.trans ⟨k.os, k.tape, k.output, k.size, fun i hi => k.block i (by omega) (fun e => by have := hO i e; omega)⟩
theorem Owns.above {B : Nat} (h : Owns O O' w) (hO : ∀ i ∈ O, B ≤ i) (hB : B ≤ w.heap.size) : ∀ i ∈ O', B ≤ i := fun i hi => by
  rcases h i hi with h1 | h1
  · exact hO i h1
  · omega
theorem Owns.refl (O : List Nat) (w : World) : Owns O O w := fun _ hi => .inl hi
theorem Owns.then_ {O2 : List Nat} (h : Owns O O' w) (k : Owns O' O2 w') (hs : w.heap.size ≤ w'.heap.size) : Owns O O2 w := fun i hi => by
  rcases k i hi with h1 | h1
  · exact h i h1
  · exact .inr (by omega)
theorem Boxed.spare {n : Nat} {l : List Value} (h : Boxed w n l) (hs : Spare O w w') (hn : n ∉ O) : Boxed w' n l := h.of_block (Nat.lt_of_lt_of_le h.lt hs.size) (hs.block n h.lt hn)
theorem Raw.spare {a : Addr} {xs : List Value} (h : Raw w a xs) (hs : Spare O w w') (hn : xs ≠ [] → a.block ∉ O) : Raw w' a xs := fun j u hu => by
  obtain ⟨h1, h2⟩ := h j u hu
  have hx : xs ≠ [] := fun e => by subst e; simp at hu
  have e : w'.heap[(a.add j).block]? = w.heap[(a.add j).block]? := by rw [add_block]; exact hs.block _ h1 (hn hx)
  exact ⟨Nat.lt_of_lt_of_le h1 hs.size, (World.cell?_of_block e).trans h2⟩
end
end Go.Proofs.Ytonapgbokbeopaa.Mem
