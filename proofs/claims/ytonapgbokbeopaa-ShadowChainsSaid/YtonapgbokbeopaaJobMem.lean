/-
  Jobs in memory.
-/
import Derived.Test.YtonapgbokbeopaaRows
import Derived.Test.YtonapgbokbeopaaBoxed
import Derived.Test.YtonapgbokbeopaaJobPlain
import Derived.WalkKit
import Derived.WalkSpells
import Derived.WalkLawsBesides
import Derived.Laws.StructEq
import Derived.LoopTactic
namespace Go.Proofs.Ytonapgbokbeopaa.JobMem
open Go.RowKit Go.Proofs.Ytonapgbokbeopaa.JobPlain Go.Proofs.Ytonapgbokbeopaa.Mem
def jobA (j : Jb) : Array Value := #[.int .i64 j.id, .string j.user, .int .i64 j.width, .int .i64 j.est, .int .i64 j.prio, .int .i64 j.sub, .int .i64 j.state, .int .i64 j.start, .int .i64 j.fin]
def jobV (j : Jb) : Value := .agg (jobA j)
/-- The box of a job: nine cells. -/
structure JobBox (w : World) (n : Nat) (j : Jb) : Prop where
  lt : n < w.heap.size
  c0 : w.cell? ⟨n, 0, none⟩ = some (.int .i64 j.id)
  c1 : w.cell? ⟨n, 1, none⟩ = some (.string j.user)
  c2 : w.cell? ⟨n, 2, none⟩ = some (.int .i64 j.width)
  c3 : w.cell? ⟨n, 3, none⟩ = some (.int .i64 j.est)
  c4 : w.cell? ⟨n, 4, none⟩ = some (.int .i64 j.prio)
  c5 : w.cell? ⟨n, 5, none⟩ = some (.int .i64 j.sub)
  c6 : w.cell? ⟨n, 6, none⟩ = some (.int .i64 j.state)
  c7 : w.cell? ⟨n, 7, none⟩ = some (.int .i64 j.start)
  c8 : w.cell? ⟨n, 8, none⟩ = some (.int .i64 j.fin)
  f0 : w.frozen? ⟨n, 0, none⟩ = false
  f1 : w.frozen? ⟨n, 1, none⟩ = false
  f2 : w.frozen? ⟨n, 2, none⟩ = false
  f3 : w.frozen? ⟨n, 3, none⟩ = false
  f4 : w.frozen? ⟨n, 4, none⟩ = false
  f5 : w.frozen? ⟨n, 5, none⟩ = false
  f6 : w.frozen? ⟨n, 6, none⟩ = false
  f7 : w.frozen? ⟨n, 7, none⟩ = false
  f8 : w.frozen? ⟨n, 8, none⟩ = false
section
variable {w w' : World} {n : Nat} {j : Jb}
theorem JobBox.of (h : Boxed w n (jobA j).toList) : JobBox w n j :=
  ⟨h.lt, h.c 0 _ rfl, h.c 1 _ rfl, h.c 2 _ rfl, h.c 3 _ rfl, h.c 4 _ rfl, h.c 5 _ rfl, h.c 6 _ rfl, h.c 7 _ rfl, h.c 8 _ rfl, h.f 0 _ rfl, h.f 1 _ rfl, h.f 2 _ rfl, h.f 3 _ rfl, h.f 4 _ rfl, h.f 5 _ rfl, h.f 6 _ rfl, h.f 7 _ rfl, h.f 8 _ rfl⟩
theorem JobBox.new (w : World) (j : Jb) (T : TypeId) : JobBox (w.alloc (.cells #[.int .i64 j.id, .string j.user, .int .i64 j.width, .int .i64 j.est, .int .i64 j.prio, .int .i64 j.sub, .int .i64 j.state, .int .i64 j.start, .int .i64 j.fin] T)) w.heap.size j := .of (Boxed.new w (jobA j) T)
theorem JobBox.of_block (h : JobBox w n j) (hs : n < w'.heap.size) (e : w'.heap[n]? = w.heap[n]?) : JobBox w' n j := by
  have hc : ∀ i, w'.cell? ⟨n, i, none⟩ = w.cell? ⟨n, i, none⟩ := fun i => World.cell?_of_block (a := ⟨n, i, none⟩) e
  have hf : ∀ i, w'.frozen? ⟨n, i, none⟩ = w.frozen? ⟨n, i, none⟩ := fun i => World.frozen?_of_block (a := ⟨n, i, none⟩) e
  exact ⟨hs, (hc 0).trans h.c0, (hc 1).trans h.c1, (hc 2).trans h.c2, (hc 3).trans h.c3, (hc 4).trans h.c4, (hc 5).trans h.c5, (hc 6).trans h.c6, (hc 7).trans h.c7, (hc 8).trans h.c8,
    (hf 0).trans h.f0, (hf 1).trans h.f1, (hf 2).trans h.f2, (hf 3).trans h.f3, (hf 4).trans h.f4, (hf 5).trans h.f5, (hf 6).trans h.f6, (hf 7).trans h.f7, (hf 8).trans h.f8⟩
theorem JobBox.below (h : JobBox w n j) (hb : Below w.heap.size w w') : JobBox w' n j := h.of_block (Nat.lt_of_lt_of_le h.lt hb.size) (hb.block n h.lt)
theorem JobBox.under {B : Nat} (h : JobBox w n j) (hb : Below B w w') (hn : n < B) : JobBox w' n j := h.of_block (Nat.lt_of_lt_of_le h.lt hb.size) (hb.block n hn)
theorem JobBox.drewN (h : JobBox w n j) (q : Nat) : JobBox (w.drewN q) n j := ⟨h.lt, h.c0, h.c1, h.c2, h.c3, h.c4, h.c5, h.c6, h.c7, h.c8, h.f0, h.f1, h.f2, h.f3, h.f4, h.f5, h.f6, h.f7, h.f8⟩
end
theorem JobBox.set6 {w : World} {n : Nat} {j : Jb} (h : JobBox w n j) (v : Int) : JobBox (w.setCell ⟨n, 6, none⟩ (.int .i64 v)) n ⟨j.id, j.user, j.width, j.est, j.prio, j.sub, v, j.start, j.fin⟩ :=
  ⟨by simp [World.setCell]; exact h.lt, (World.cell?_setCell_other _ _ _ _ (by simp)).trans h.c0, (World.cell?_setCell_other _ _ _ _ (by simp)).trans h.c1, (World.cell?_setCell_other _ _ _ _ (by simp)).trans h.c2, (World.cell?_setCell_other _ _ _ _ (by simp)).trans h.c3, (World.cell?_setCell_other _ _ _ _ (by simp)).trans h.c4, (World.cell?_setCell_other _ _ _ _ (by simp)).trans h.c5, World.cell?_setCell_same _ _ _ h.c6, (World.cell?_setCell_other _ _ _ _ (by simp)).trans h.c7, (World.cell?_setCell_other _ _ _ _ (by simp)).trans h.c8,
    by rw [World.frozen?_setCell]; exact h.f0, by rw [World.frozen?_setCell]; exact h.f1, by rw [World.frozen?_setCell]; exact h.f2, by rw [World.frozen?_setCell]; exact h.f3, by rw [World.frozen?_setCell]; exact h.f4, by rw [World.frozen?_setCell]; exact h.f5, by rw [World.frozen?_setCell]; exact h.f6, by rw [World.frozen?_setCell]; exact h.f7, by rw [World.frozen?_setCell]; exact h.f8⟩
theorem JobBox.set7 {w : World} {n : Nat} {j : Jb} (h : JobBox w n j) (v : Int) : JobBox (w.setCell ⟨n, 7, none⟩ (.int .i64 v)) n ⟨j.id, j.user, j.width, j.est, j.prio, j.sub, j.state, v, j.fin⟩ :=
  ⟨by simp [World.setCell]; exact h.lt, (World.cell?_setCell_other _ _ _ _ (by simp)).trans h.c0, (World.cell?_setCell_other _ _ _ _ (by simp)).trans h.c1, (World.cell?_setCell_other _ _ _ _ (by simp)).trans h.c2, (World.cell?_setCell_other _ _ _ _ (by simp)).trans h.c3, (World.cell?_setCell_other _ _ _ _ (by simp)).trans h.c4, (World.cell?_setCell_other _ _ _ _ (by simp)).trans h.c5, (World.cell?_setCell_other _ _ _ _ (by simp)).trans h.c6, World.cell?_setCell_same _ _ _ h.c7, (World.cell?_setCell_other _ _ _ _ (by simp)).trans h.c8,
    by rw [World.frozen?_setCell]; exact h.f0, by rw [World.frozen?_setCell]; exact h.f1, by rw [World.frozen?_setCell]; exact h.f2, by rw [World.frozen?_setCell]; exact h.f3, by rw [World.frozen?_setCell]; exact h.f4, by rw [World.frozen?_setCell]; exact h.f5, by rw [World.frozen?_setCell]; exact h.f6, by rw [World.frozen?_setCell]; exact h.f7, by rw [World.frozen?_setCell]; exact h.f8⟩
theorem JobBox.set8 {w : World} {n : Nat} {j : Jb} (h : JobBox w n j) (v : Int) : JobBox (w.setCell ⟨n, 8, none⟩ (.int .i64 v)) n ⟨j.id, j.user, j.width, j.est, j.prio, j.sub, j.state, j.start, v⟩ :=
  ⟨by simp [World.setCell]; exact h.lt, (World.cell?_setCell_other _ _ _ _ (by simp)).trans h.c0, (World.cell?_setCell_other _ _ _ _ (by simp)).trans h.c1, (World.cell?_setCell_other _ _ _ _ (by simp)).trans h.c2, (World.cell?_setCell_other _ _ _ _ (by simp)).trans h.c3, (World.cell?_setCell_other _ _ _ _ (by simp)).trans h.c4, (World.cell?_setCell_other _ _ _ _ (by simp)).trans h.c5, (World.cell?_setCell_other _ _ _ _ (by simp)).trans h.c6, (World.cell?_setCell_other _ _ _ _ (by simp)).trans h.c7, World.cell?_setCell_same _ _ _ h.c8,
    by rw [World.frozen?_setCell]; exact h.f0, by rw [World.frozen?_setCell]; exact h.f1, by rw [World.frozen?_setCell]; exact h.f2, by rw [World.frozen?_setCell]; exact h.f3, by rw [World.frozen?_setCell]; exact h.f4, by rw [World.frozen?_setCell]; exact h.f5, by rw [World.frozen?_setCell]; exact h.f6, by rw [World.frozen?_setCell]; exact h.f7, by rw [World.frozen?_setCell]; exact h.f8⟩
theorem JobBox.set_other {w : World} {n : Nat} {j : Jb} (h : JobBox w n j) {p : Addr} (hp : p.block ≠ n) (u : Value) : JobBox (w.setCell p u) n j := h.of_block (by simp [World.setCell]; exact h.lt) (Below.heap_setCell w p u n (fun h => hp h.symm))
theorem JobBox.alloc {w : World} {n : Nat} {j : Jb} (h : JobBox w n j) (o : Obj) : JobBox (w.alloc o) n j := h.below ((Below.refl _ _).alloc (Nat.le_refl _) o)
/-- A job that is stored whole. -/
def storedJ (w : World) (n : Nat) (x : Jb) : World := (((((((((w.setCell ⟨n, 0, none⟩ (.int .i64 x.id)).setCell ⟨n, 1, none⟩ (.string x.user)).setCell ⟨n, 2, none⟩ (.int .i64 x.width)).setCell ⟨n, 3, none⟩ (.int .i64 x.est)).setCell ⟨n, 4, none⟩ (.int .i64 x.prio)).setCell ⟨n, 5, none⟩ (.int .i64 x.sub)).setCell ⟨n, 6, none⟩ (.int .i64 x.state)).setCell ⟨n, 7, none⟩ (.int .i64 x.start)).setCell ⟨n, 8, none⟩ (.int .i64 x.fin))
theorem JobBox.stored {w : World} {n : Nat} {j : Jb} (h : JobBox w n j) (x : Jb) : JobBox (storedJ w n x) n x := by
  have h0 : Boxed w n (jobA j).toList := ⟨h.lt, fun i u hu => by
    match i, hu with
    | 0, hu => cases hu; exact h.c0
    | 1, hu => cases hu; exact h.c1
    | 2, hu => cases hu; exact h.c2
    | 3, hu => cases hu; exact h.c3
    | 4, hu => cases hu; exact h.c4
    | 5, hu => cases hu; exact h.c5
    | 6, hu => cases hu; exact h.c6
    | 7, hu => cases hu; exact h.c7
    | 8, hu => cases hu; exact h.c8
    | n + 9, hu => simp [jobA] at hu, fun i u hu => by
    match i, hu with
    | 0, hu => exact h.f0
    | 1, hu => exact h.f1
    | 2, hu => exact h.f2
    | 3, hu => exact h.f3
    | 4, hu => exact h.f4
    | 5, hu => exact h.f5
    | 6, hu => exact h.f6
    | 7, hu => exact h.f7
    | 8, hu => exact h.f8
    | n + 9, hu => simp [jobA] at hu⟩
  have h1 := ((((((((h0.set 0 (.int .i64 x.id)).set 1 (.string x.user)).set 2 (.int .i64 x.width)).set 3 (.int .i64 x.est)).set 4 (.int .i64 x.prio)).set 5 (.int .i64 x.sub)).set 6 (.int .i64 x.state)).set 7 (.int .i64 x.start)).set 8 (.int .i64 x.fin)
  exact JobBox.of h1
theorem below_stored {B : Nat} {a w : World} (h : Below B a w) {n : Nat} (hn : B ≤ n) (x : Jb) : Below B a (storedJ w n x) :=
  ((((((((h.setCell hn _).setCell hn _).setCell hn _).setCell hn _).setCell hn _).setCell hn _).setCell hn _).setCell hn _).setCell hn _
/-- Two jobs that are the same, held against each other. -/
theorem eq_job (w : World) (j : Jb) : (binOp .eql 25 (jobV j) (jobV j)).run Try.prog w = .ok (.bool true) w := by
  have h1 : Try.prog.underlying 25 = some (.struct (Try.prog.fieldsOf 25)) := by kernel_rfl
  unfold jobV jobA
  simp [go_sem]
/-- What is read of a job fits: its end does not run over. -/
def Fit (j : Jb) : Prop := -9223372036854775808 ≤ j.fin ∧ j.fin ≤ 9223372036854775807 ∧ j.user.size ≤ 9223372036854775807
end Go.Proofs.Ytonapgbokbeopaa.JobMem
