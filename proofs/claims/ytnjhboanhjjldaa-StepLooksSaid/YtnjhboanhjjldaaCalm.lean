/-
  A region that draws its order, whose operations only read and whose callees may make memory of their own, walked once: the class of worlds in which nothing that was there has turned.
-/
import Derived.Test.YtnjhboanhjjldaaMem
import Derived.Deep.QuietTactic
import Derived.BigQuiet
namespace Go.Proofs.Ytnjhboanhjjldaa.Mem
open Go.RowKit

/-- A world in which nothing that was there in w has turned. -/
structure Lull (w : World) where
  u : World
  h : Below w.heap.size w u
instance (w : World) : Inhabited (Lull w) := ⟨⟨w, Below.refl _ _⟩⟩
theorem below_step (w : World) : Below w.heap.size w { w with drawn := w.drawn + 1 } := ⟨rfl, rfl, rfl, Nat.le_refl _, fun _ _ => rfl⟩
theorem wp_region_calm {P : Program} {id : Nat} {Q : Exit → Act → World → Prop} {a : Act} {w : World} {l : List Oper} (hm : P.follows .mixedOrders = true) (hB : Region.lexB .any l.toArray = true)
    (h : wpQuiet P l.toArray (fun w' => ∃ p : Lull w, w' = p.u) (fun a' => ∀ w', (∃ p : Lull w, w' = p.u) → Q .normal a' w') l a) : (Code.region id l.toArray true).wp P Q a w :=
  wp_region_quiet (C := fun w' => ∃ p : Lull w, w' = p.u) hm hB ⟨⟨_, below_step w⟩, rfl⟩ (by simpa using h)
/-- A callee's contract, met in a world of the class. -/
theorem calm_of {P : Program} {f : FuncId} {args : Array Value} {w : World} {p : Lull w} {v : Value} (h : Calls P f args p.u fun e w' => e = .returned v ∧ Below p.u.heap.size p.u w') : Calls P f args p.u fun e w'' => e = .returned v ∧ ∃ q : Lull w, w'' = q.u :=
  h.mono fun _ w' ⟨he, hb⟩ => ⟨he, ⟨w', below_then p.h hb⟩, rfl⟩
theorem calm_same {P : Program} {f : FuncId} {args : Array Value} {w : World} {p : Lull w} {v : Value} (h : Calls P f args p.u fun e w' => e = .returned v ∧ p.u = w') : Calls P f args p.u fun e w'' => e = .returned v ∧ ∃ q : Lull w, w'' = q.u :=
  h.mono fun _ w' ⟨he, hb⟩ => ⟨he, p, hb.symm⟩
theorem calm_cell {w : World} {a : Addr} {v : Value} (hb : a.block < w.heap.size) (h : w.cell? a = some v) (p : Lull w) : p.u.cell? a = some v := (p.h.cell hb).trans h
theorem calm_pair {w : World} {a : Addr} {k : Nat} {u v : Value} (hl : a.block < w.heap.size) (h1 : w.cell? (a.add k) = some u) (h2 : w.cell? ⟨(a.add k).block, (a.add k).off + 1, none⟩ = some v) (p : Lull w) :
    p.u.cell? (a.add k) = some u ∧ p.u.cell? ⟨(a.add k).block, (a.add k).off + 1, none⟩ = some v :=
  ⟨calm_cell (by rw [add_block]; exact hl) h1 p, calm_cell (by show (a.add k).block < _; rw [add_block]; exact hl) h2 p⟩
theorem lull_below {w w' : World} (h : ∃ p : Lull w, w' = p.u) : Below w.heap.size w w' := by obtain ⟨p, rfl⟩ := h; exact p.h
end Go.Proofs.Ytnjhboanhjjldaa.Mem
