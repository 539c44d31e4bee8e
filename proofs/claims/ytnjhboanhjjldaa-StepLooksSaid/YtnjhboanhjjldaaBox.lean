/-
  Boxes of two cells (a struct of two fields that a call keeps in memory): what they hold, behind whatever leaves them alone.
-/
import Derived.Test.YtnjhboanhjjldaaPush
namespace Go.Proofs.Ytnjhboanhjjldaa.Mem
open Go.RowKit

/-- Block n is there, its first two cells hold x and y, and they may be written. -/
structure Box2 (w : World) (n : Nat) (x y : Value) : Prop where
  lt : n < w.heap.size
  c0 : w.cell? ⟨n, 0, none⟩ = some x
  c1 : w.cell? ⟨n, 1, none⟩ = some y
  f0 : w.frozen? ⟨n, 0, none⟩ = false
  f1 : w.frozen? ⟨n, 1, none⟩ = false
section
variable {w : World} {n : Nat} {x y : Value}
theorem Box2.new (w : World) (x y : Value) (T : TypeId) : Box2 (w.alloc (.cells #[x, y] T)) w.heap.size x y := by
  have h := Raw.alloc w #[x, y] T
  have h0 := h 0 x rfl
  have h1 := h 1 y rfl
  rw [add_flat] at h0 h1
  exact ⟨h0.1, h0.2, h1.2, World.frozen?_alloc_new _ _ _ _, World.frozen?_alloc_new _ _ _ _⟩
theorem Box2.below {w' : World} (h : Box2 w n x y) (hb : Below w.heap.size w w') : Box2 w' n x y :=
  ⟨Nat.lt_of_lt_of_le h.lt hb.size, (hb.cell (p := ⟨n, 0, none⟩) h.lt).trans h.c0, (hb.cell (p := ⟨n, 1, none⟩) h.lt).trans h.c1, (hb.frozen (p := ⟨n, 0, none⟩) h.lt).trans h.f0, (hb.frozen (p := ⟨n, 1, none⟩) h.lt).trans h.f1⟩
theorem Box2.alloc (h : Box2 w n x y) (o : Obj) : Box2 (w.alloc o) n x y := h.below ((Below.refl _ _).alloc (Nat.le_refl _) o)
theorem Box2.drewN (h : Box2 w n x y) (q : Nat) : Box2 (w.drewN q) n x y := ⟨h.lt, h.c0, h.c1, h.f0, h.f1⟩
/-- Below another limit. -/
theorem Box2.under {w' : World} {B : Nat} (h : Box2 w n x y) (hb : Below B w w') (hn : n < B) : Box2 w' n x y :=
  ⟨Nat.lt_of_lt_of_le h.lt hb.size, (hb.cell (p := ⟨n, 0, none⟩) hn).trans h.c0, (hb.cell (p := ⟨n, 1, none⟩) hn).trans h.c1, (hb.frozen (p := ⟨n, 0, none⟩) hn).trans h.f0, (hb.frozen (p := ⟨n, 1, none⟩) hn).trans h.f1⟩
theorem Box2.set_other (h : Box2 w n x y) {p : Addr} (hp : p.block ≠ n) (u : Value) : Box2 (w.setCell p u) n x y := by
  have e : (w.setCell p u).heap[n]? = w.heap[n]? := Below.heap_setCell w p u n (fun h => hp h.symm)
  exact ⟨by simp [World.setCell]; exact h.lt, (World.cell?_of_block (a := ⟨n, 0, none⟩) e).trans h.c0, (World.cell?_of_block (a := ⟨n, 1, none⟩) e).trans h.c1, (World.frozen?_of_block (a := ⟨n, 0, none⟩) e).trans h.f0, (World.frozen?_of_block (a := ⟨n, 1, none⟩) e).trans h.f1⟩
theorem Box2.set0 (h : Box2 w n x y) (u : Value) : Box2 (w.setCell ⟨n, 0, none⟩ u) n u y :=
  ⟨by simp [World.setCell]; exact h.lt, World.cell?_setCell_same _ _ _ h.c0, (World.cell?_setCell_other _ _ _ _ (by simp)).trans h.c1, by rw [World.frozen?_setCell]; exact h.f0, by rw [World.frozen?_setCell]; exact h.f1⟩
theorem Box2.set1 (h : Box2 w n x y) (u : Value) : Box2 (w.setCell ⟨n, 1, none⟩ u) n x u :=
  ⟨by simp [World.setCell]; exact h.lt, (World.cell?_setCell_other _ _ _ _ (by simp)).trans h.c0, World.cell?_setCell_same _ _ _ h.c1, by rw [World.frozen?_setCell]; exact h.f0, by rw [World.frozen?_setCell]; exact h.f1⟩
/-- Behind an append to another row. -/
theorem Box2.grown {w' : World} {row : Option Nat} (h : Box2 w n x y) (hg : w.grownBy w' row) (hne : row ≠ some n) : Box2 w' n x y := by
  have e := hg.block n h.lt (fun e => hne e.symm)
  exact ⟨Nat.lt_of_lt_of_le h.lt hg.size, (World.cell?_of_block (a := ⟨n, 0, none⟩) e).trans h.c0, (World.cell?_of_block (a := ⟨n, 1, none⟩) e).trans h.c1, (World.frozen?_of_block (a := ⟨n, 0, none⟩) e).trans h.f0, (World.frozen?_of_block (a := ⟨n, 1, none⟩) e).trans h.f1⟩
end
end Go.Proofs.Ytnjhboanhjjldaa.Mem
