/-
  What layer 8's functions answer: the posts that the law texts name; the first ones that are meant; the example of the statements.
-/
import Derived.Test.YtkaepadkdohmpaaOrdMem
namespace Go.Proofs.Ytkaepadkdohmpaa.OrdWalk
open Go.RowKit Go.Proofs.Ytkaepadkdohmpaa.JobPlain Go.Proofs.Ytkaepadkdohmpaa.OrdPlain Go.Proofs.Ytkaepadkdohmpaa.Mem Go.Proofs.Ytkaepadkdohmpaa.JobMem Go.Proofs.Ytkaepadkdohmpaa.OrdMem
def TrueIs (w : World) (e : Ending) (w' : World) : Prop := e = .returned (.bool true) ∧ Below w.heap.size w w'
def IntB (n : Int) (w : World) (e : Ending) (w' : World) : Prop := e = .returned (.int .i64 n) ∧ Below w.heap.size w w'
def JobsSays (l : List Jb) (w : World) (e : Ending) (w' : World) : Prop := ∃ v, e = .returned v ∧ JobsIs l w' v ∧ Below w.heap.size w w'
/-- Of those that are meant the first ones. -/
def firstL (l : List Jb) (most : Int) (p : Jb → Bool) : List Jb := (l.filter p).take most.toNat
theorem first_all {l : List Jb} {most : Int} {p : Jb → Bool} (h : (l.filter p).length ≤ most.toNat) : firstL l most p = l.filter p := List.take_of_length_le h
theorem first_full {l : List Jb} {most : Int} {p : Jb → Bool} {k : Nat} (h : ((l.take k).filter p).length = most.toNat) : firstL l most p = (l.take k).filter p := by
  unfold firstL
  have e : l.filter p = (l.take k).filter p ++ (l.drop k).filter p := by rw [← List.filter_append, List.take_append_drop]
  rw [e, ← h, List.take_left]
/-- A function value's calls tell p, in every world behind w. -/
def Tells (g : Nat) (cb : Array Value) (p : Jb → Bool) (w : World) : Prop := ∀ (W : World) (j : Jb), Below w.heap.size w W → Calls Try.prog g (#[jobV j] ++ cb) W (BoolB (p j) W)
/-- The example of the statements. -/
def exA : Jb := ⟨1, ⟨#[]⟩, 0, 0, 1, 0, 0, 0, 0⟩
def exB : Jb := ⟨2, ⟨#[]⟩, 0, 0, 2, 0, 0, 0, 0⟩
theorem ex_sort : sortL [exA, exB] = [exB, exA] := by kernel_rfl
theorem ex_ahead : aheadB exB exA = true := by decide
theorem ex_find : findL [exB, exA] 1 = 1 := by kernel_rfl
end Go.Proofs.Ytkaepadkdohmpaa.OrdWalk
