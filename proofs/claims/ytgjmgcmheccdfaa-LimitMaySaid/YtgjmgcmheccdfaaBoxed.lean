/-
  Boxes of any number of cells: what they hold, behind whatever leaves them alone, and what is written into one of their cells.
-/
import Derived.Test.YtgjmgcmheccdfaaBase
namespace Go.Proofs.Ytgjmgcmheccdfaa.Mem
open Go.RowKit
/-- Block n is there, its first cells hold l, and they may be written. -/
structure Boxed (w : World) (n : Nat) (l : List Value) : Prop where
  lt : n < w.heap.size
  c : ∀ (i : Nat) (u : Value), l[i]? = some u → w.cell? ⟨n, i, none⟩ = some u
  f : ∀ (i : Nat) (u : Value), l[i]? = some u → w.frozen? ⟨n, i, none⟩ = false
section
variable {w w' : World} {n : Nat} {l : List Value}
theorem Boxed.new (w : World) (a : Array Value) (T : TypeId) : Boxed (w.alloc (.cells a T)) w.heap.size a.toList :=
  ⟨by simp, fun i u h => by have := (Raw.alloc w a T i u h).2; rwa [add_flat] at this, fun _ _ _ => World.frozen?_alloc_new _ _ _ _⟩
theorem Boxed.new_at {m : Nat} (a : Array Value) (T : TypeId) (e : w.heap.size = m) : Boxed (w.alloc (.cells a T)) m a.toList := by subst e; exact Boxed.new w a T
theorem Boxed.of_block (h : Boxed w n l) (hs : n < w'.heap.size) (e : w'.heap[n]? = w.heap[n]?) : Boxed w' n l :=
  ⟨hs, fun i u hu => (World.cell?_of_block (a := ⟨n, i, none⟩) e).trans (h.c i u hu), fun i u hu => (World.frozen?_of_block (a := ⟨n, i, none⟩) e).trans (h.f i u hu)⟩
theorem Boxed.below (h : Boxed w n l) (hb : Below w.heap.size w w') : Boxed w' n l := h.of_block (Nat.lt_of_lt_of_le h.lt hb.size) (hb.block n h.lt)
theorem Boxed.under {B : Nat} (h : Boxed w n l) (hb : Below B w w') (hn : n < B) : Boxed w' n l := h.of_block (Nat.lt_of_lt_of_le h.lt hb.size) (hb.block n hn)
theorem Boxed.alloc (h : Boxed w n l) (o : Obj) : Boxed (w.alloc o) n l := h.below ((Below.refl _ _).alloc (Nat.le_refl _) o)
theorem Boxed.drewN (h : Boxed w n l) (q : Nat) : Boxed (w.drewN q) n l := ⟨h.lt, h.c, h.f⟩
theorem Boxed.grown {row : Option Nat} (h : Boxed w n l) (hg : w.grownBy w' row) (hne : row ≠ some n) : Boxed w' n l := h.of_block (Nat.lt_of_lt_of_le h.lt hg.size) (hg.block n h.lt (fun e => hne e.symm))
theorem Boxed.set_other (h : Boxed w n l) {p : Addr} (hp : p.block ≠ n) (u : Value) : Boxed (w.setCell p u) n l := h.of_block (by simp [World.setCell]; exact h.lt) (Below.heap_setCell w p u n (fun h => hp h.symm))
theorem Boxed.set (h : Boxed w n l) (i : Nat) (u : Value) : Boxed (w.setCell ⟨n, i, none⟩ u) n (l.set i u) := by
  refine ⟨by simp [World.setCell]; exact h.lt, fun k v hv => ?_, fun k v hv => ?_⟩
  · rw [List.getElem?_set] at hv
    by_cases hk : i = k
    · subst hk
      rw [if_pos rfl] at hv
      by_cases hi : i < l.length
      · rw [if_pos hi] at hv
        injection hv with hv
        subst hv
        exact World.cell?_setCell_same _ _ _ (h.c i l[i] (by simp [hi]))
      · rw [if_neg hi] at hv; cases hv
    · rw [if_neg hk] at hv
      exact (World.cell?_setCell_other _ _ _ _ (by simp; omega)).trans (h.c k v hv)
  · rw [World.frozen?_setCell]
    rw [List.getElem?_set] at hv
    by_cases hk : i = k
    · subst hk
      rw [if_pos rfl] at hv
      by_cases hi : i < l.length
      · exact h.f i l[i] (by simp [hi])
      · rw [if_neg hi] at hv; cases hv
    · rw [if_neg hk] at hv
      exact h.f k v hv
end
end Go.Proofs.Ytgjmgcmheccdfaa.Mem
