/-
  How the flat structs of package api lie in memory: cells, boxes, slices. (Written by tools/gen_api.py.)
-/
import Derived.Test.YtgjmgcmheccdfaaRows
import Derived.Test.YtgjmgcmheccdfaaLay
import Derived.Test.YtgjmgcmheccdfaaApiPlain
import Derived.WalkKit
import Derived.WalkSpells
import Derived.WalkLawsBesides
import Derived.Laws.StructEq
import Derived.LoopTactic
namespace Go.Proofs.Ytgjmgcmheccdfaa.ApiMem
open Go.RowKit Go.Proofs.Ytgjmgcmheccdfaa.ApiPlain Go.Proofs.Ytgjmgcmheccdfaa.Mem
/-! api.Limit -/
def limC (x : Lim) : List Value := [.string x.user, .int .i64 x.jobs, .int .i64 x.procs] -- 24
def limV (x : Lim) : Value := .agg #[.string x.user, .int .i64 x.jobs, .int .i64 x.procs] -- 24
theorem limC_cell (x : Lim) : ∀ u ∈ limC x, u.oneCell' = true := by -- 24
  intro u hu
  simp [limC] at hu
  rcases hu with rfl | rfl | rfl <;> rfl
def limL : Lay Lim := ⟨3, limC, fun _ => rfl, limC_cell, by decide⟩ -- 24
theorem lim_t : ElemT Try.prog 22 24 3 32 := ElemT.mk_ (.agg #[.string ⟨#[]⟩, .int .i64 0, .int .i64 0]) Try.underlying22 (by kernel_rfl) rfl (by decide) (by decide)
structure LimAt (w : World) (p : Addr) (x : Lim) : Prop where -- 24
  lt : p.block < w.heap.size
  c0 : w.cell? p = some (.string x.user)
  c1 : w.cell? ⟨p.block, p.off + 1, none⟩ = some (.int .i64 x.jobs)
  c2 : w.cell? ⟨p.block, p.off + 2, none⟩ = some (.int .i64 x.procs)
theorem LimAt.below {w w' : World} {p : Addr} {x : Lim} (h : LimAt w p x) (hb : Below w.heap.size w w') : LimAt w' p x := by -- 24
  have hc : ∀ o, w'.cell? ⟨p.block, o, none⟩ = w.cell? ⟨p.block, o, none⟩ := fun o => hb.cell (p := ⟨p.block, o, none⟩) h.lt
  exact ⟨Nat.lt_of_lt_of_le h.lt hb.size, (hb.cell h.lt).trans h.c0, (hc _).trans h.c1, (hc _).trans h.c2⟩
theorem LimAt.of {w : World} {p : Addr} {x : Lim} (h : limL.At w p x) : LimAt w p x := ⟨h.lt, h.c0 _ rfl, h.c 1 _ (by decide) rfl, h.c 2 _ (by decide) rfl⟩ -- 24
theorem lims_open {l : List Lim} {w : World} {v : Value} (h : limL.Is l w v) : ∃ A c, v = .slice A l.length c ∧ l.length ≤ c ∧ ∀ i (hi : i < l.length), ∃ a, A = some a ∧ LimAt w (a.add (i * 3)) l[i] := by -- 24
  obtain ⟨A, c, e, hn, hat⟩ := h.open_
  exact ⟨A, c, e, hn, fun i hi => by
    obtain ⟨a, ea, h1⟩ := hat i hi
    exact ⟨a, ea, LimAt.of h1⟩⟩
structure LimBox (w : World) (n : Nat) (x : Lim) : Prop where -- 24
  lt : n < w.heap.size
  c0 : w.cell? ⟨n, 0, none⟩ = some (.string x.user)
  c1 : w.cell? ⟨n, 1, none⟩ = some (.int .i64 x.jobs)
  c2 : w.cell? ⟨n, 2, none⟩ = some (.int .i64 x.procs)
  f0 : w.frozen? ⟨n, 0, none⟩ = false
  f1 : w.frozen? ⟨n, 1, none⟩ = false
  f2 : w.frozen? ⟨n, 2, none⟩ = false
theorem LimBox.of {w : World} {n : Nat} {x : Lim} (h : Boxed w n (limC x)) : LimBox w n x := ⟨h.lt, h.c 0 _ rfl, h.c 1 _ rfl, h.c 2 _ rfl, h.f 0 _ rfl, h.f 1 _ rfl, h.f 2 _ rfl⟩ -- 24
theorem LimBox.new_at {w : World} {n : Nat} (e : w.heap.size = n) (x : Lim) (T : TypeId) : LimBox (w.alloc (.cells #[.string x.user, .int .i64 x.jobs, .int .i64 x.procs] T)) n x := LimBox.of (Boxed.new_at #[.string x.user, .int .i64 x.jobs, .int .i64 x.procs] T e) -- 24
theorem LimBox.new (w : World) (x : Lim) (T : TypeId) : LimBox (w.alloc (.cells #[.string x.user, .int .i64 x.jobs, .int .i64 x.procs] T)) w.heap.size x := LimBox.new_at rfl x T -- 24
theorem LimBox.of_block {w w' : World} {n : Nat} {x : Lim} (h : LimBox w n x) (hs : n < w'.heap.size) (e : w'.heap[n]? = w.heap[n]?) : LimBox w' n x := by -- 24
  have hc : ∀ i, w'.cell? ⟨n, i, none⟩ = w.cell? ⟨n, i, none⟩ := fun i => World.cell?_of_block (a := ⟨n, i, none⟩) e
  have hf : ∀ i, w'.frozen? ⟨n, i, none⟩ = w.frozen? ⟨n, i, none⟩ := fun i => World.frozen?_of_block (a := ⟨n, i, none⟩) e
  exact ⟨hs, (hc 0).trans h.c0, (hc 1).trans h.c1, (hc 2).trans h.c2, (hf 0).trans h.f0, (hf 1).trans h.f1, (hf 2).trans h.f2⟩
theorem LimBox.below {w w' : World} {n : Nat} {x : Lim} (h : LimBox w n x) (hb : Below w.heap.size w w') : LimBox w' n x := h.of_block (Nat.lt_of_lt_of_le h.lt hb.size) (hb.block n h.lt) -- 24
theorem LimBox.under {B : Nat} {w w' : World} {n : Nat} {x : Lim} (h : LimBox w n x) (hb : Below B w w') (hn : n < B) : LimBox w' n x := h.of_block (Nat.lt_of_lt_of_le h.lt hb.size) (hb.block n hn) -- 24
theorem LimBox.grown {row : Option Nat} {w w' : World} {n : Nat} {x : Lim} (h : LimBox w n x) (hg : w.grownBy w' row) (hne : row ≠ some n) : LimBox w' n x := h.of_block (Nat.lt_of_lt_of_le h.lt hg.size) (hg.block n h.lt (fun e => hne e.symm)) -- 24
theorem LimBox.alloc {w : World} {n : Nat} {x : Lim} (h : LimBox w n x) (o : Obj) : LimBox (w.alloc o) n x := h.below ((Below.refl _ _).alloc (Nat.le_refl _) o) -- 24
theorem LimBox.drewN {w : World} {n : Nat} {x : Lim} (h : LimBox w n x) (q : Nat) : LimBox (w.drewN q) n x := ⟨h.lt, h.c0, h.c1, h.c2, h.f0, h.f1, h.f2⟩ -- 24
theorem LimBox.set_other {w : World} {n : Nat} {x : Lim} (h : LimBox w n x) {p : Addr} (hp : p.block ≠ n) (u : Value) : LimBox (w.setCell p u) n x := h.of_block (by simp [World.setCell]; exact h.lt) (Below.heap_setCell w p u n (fun h => hp h.symm)) -- 24
theorem LimBox.set0 {w : World} {n : Nat} {x : Lim} (h : LimBox w n x) (v : ByteArray) : LimBox (w.setCell ⟨n, 0, none⟩ (.string v)) n ⟨v, x.jobs, x.procs⟩ := -- 24
  ⟨by simp [World.setCell]; exact h.lt, World.cell?_setCell_same _ _ _ h.c0, (World.cell?_setCell_other _ _ _ _ (by simp)).trans h.c1, (World.cell?_setCell_other _ _ _ _ (by simp)).trans h.c2, by rw [World.frozen?_setCell]; exact h.f0, by rw [World.frozen?_setCell]; exact h.f1, by rw [World.frozen?_setCell]; exact h.f2⟩
theorem LimBox.set1 {w : World} {n : Nat} {x : Lim} (h : LimBox w n x) (v : Int) : LimBox (w.setCell ⟨n, 1, none⟩ (.int .i64 v)) n ⟨x.user, v, x.procs⟩ := -- 24
  ⟨by simp [World.setCell]; exact h.lt, (World.cell?_setCell_other _ _ _ _ (by simp)).trans h.c0, World.cell?_setCell_same _ _ _ h.c1, (World.cell?_setCell_other _ _ _ _ (by simp)).trans h.c2, by rw [World.frozen?_setCell]; exact h.f0, by rw [World.frozen?_setCell]; exact h.f1, by rw [World.frozen?_setCell]; exact h.f2⟩
theorem LimBox.set2 {w : World} {n : Nat} {x : Lim} (h : LimBox w n x) (v : Int) : LimBox (w.setCell ⟨n, 2, none⟩ (.int .i64 v)) n ⟨x.user, x.jobs, v⟩ := -- 24
  ⟨by simp [World.setCell]; exact h.lt, (World.cell?_setCell_other _ _ _ _ (by simp)).trans h.c0, (World.cell?_setCell_other _ _ _ _ (by simp)).trans h.c1, World.cell?_setCell_same _ _ _ h.c2, by rw [World.frozen?_setCell]; exact h.f0, by rw [World.frozen?_setCell]; exact h.f1, by rw [World.frozen?_setCell]; exact h.f2⟩
/-! api.Use -/
def useC (x : Use) : List Value := [.string x.user, .int .i64 x.jobs, .int .i64 x.procs] -- 41
def useV (x : Use) : Value := .agg #[.string x.user, .int .i64 x.jobs, .int .i64 x.procs] -- 41
theorem useC_cell (x : Use) : ∀ u ∈ useC x, u.oneCell' = true := by -- 41
  intro u hu
  simp [useC] at hu
  rcases hu with rfl | rfl | rfl <;> rfl
def useL : Lay Use := ⟨3, useC, fun _ => rfl, useC_cell, by decide⟩ -- 41
theorem use_t : ElemT Try.prog 34 41 3 32 := ElemT.mk_ (.agg #[.string ⟨#[]⟩, .int .i64 0, .int .i64 0]) Try.underlying34 (by kernel_rfl) rfl (by decide) (by decide)
structure UseAt (w : World) (p : Addr) (x : Use) : Prop where -- 41
  lt : p.block < w.heap.size
  c0 : w.cell? p = some (.string x.user)
  c1 : w.cell? ⟨p.block, p.off + 1, none⟩ = some (.int .i64 x.jobs)
  c2 : w.cell? ⟨p.block, p.off + 2, none⟩ = some (.int .i64 x.procs)
theorem UseAt.below {w w' : World} {p : Addr} {x : Use} (h : UseAt w p x) (hb : Below w.heap.size w w') : UseAt w' p x := by -- 41
  have hc : ∀ o, w'.cell? ⟨p.block, o, none⟩ = w.cell? ⟨p.block, o, none⟩ := fun o => hb.cell (p := ⟨p.block, o, none⟩) h.lt
  exact ⟨Nat.lt_of_lt_of_le h.lt hb.size, (hb.cell h.lt).trans h.c0, (hc _).trans h.c1, (hc _).trans h.c2⟩
theorem UseAt.of {w : World} {p : Addr} {x : Use} (h : useL.At w p x) : UseAt w p x := ⟨h.lt, h.c0 _ rfl, h.c 1 _ (by decide) rfl, h.c 2 _ (by decide) rfl⟩ -- 41
theorem uses_open {l : List Use} {w : World} {v : Value} (h : useL.Is l w v) : ∃ A c, v = .slice A l.length c ∧ l.length ≤ c ∧ ∀ i (hi : i < l.length), ∃ a, A = some a ∧ UseAt w (a.add (i * 3)) l[i] := by -- 41
  obtain ⟨A, c, e, hn, hat⟩ := h.open_
  exact ⟨A, c, e, hn, fun i hi => by
    obtain ⟨a, ea, h1⟩ := hat i hi
    exact ⟨a, ea, UseAt.of h1⟩⟩
structure UseBox (w : World) (n : Nat) (x : Use) : Prop where -- 41
  lt : n < w.heap.size
  c0 : w.cell? ⟨n, 0, none⟩ = some (.string x.user)
  c1 : w.cell? ⟨n, 1, none⟩ = some (.int .i64 x.jobs)
  c2 : w.cell? ⟨n, 2, none⟩ = some (.int .i64 x.procs)
  f0 : w.frozen? ⟨n, 0, none⟩ = false
  f1 : w.frozen? ⟨n, 1, none⟩ = false
  f2 : w.frozen? ⟨n, 2, none⟩ = false
theorem UseBox.of {w : World} {n : Nat} {x : Use} (h : Boxed w n (useC x)) : UseBox w n x := ⟨h.lt, h.c 0 _ rfl, h.c 1 _ rfl, h.c 2 _ rfl, h.f 0 _ rfl, h.f 1 _ rfl, h.f 2 _ rfl⟩ -- 41
theorem UseBox.new_at {w : World} {n : Nat} (e : w.heap.size = n) (x : Use) (T : TypeId) : UseBox (w.alloc (.cells #[.string x.user, .int .i64 x.jobs, .int .i64 x.procs] T)) n x := UseBox.of (Boxed.new_at #[.string x.user, .int .i64 x.jobs, .int .i64 x.procs] T e) -- 41
theorem UseBox.new (w : World) (x : Use) (T : TypeId) : UseBox (w.alloc (.cells #[.string x.user, .int .i64 x.jobs, .int .i64 x.procs] T)) w.heap.size x := UseBox.new_at rfl x T -- 41
theorem UseBox.of_block {w w' : World} {n : Nat} {x : Use} (h : UseBox w n x) (hs : n < w'.heap.size) (e : w'.heap[n]? = w.heap[n]?) : UseBox w' n x := by -- 41
  have hc : ∀ i, w'.cell? ⟨n, i, none⟩ = w.cell? ⟨n, i, none⟩ := fun i => World.cell?_of_block (a := ⟨n, i, none⟩) e
  have hf : ∀ i, w'.frozen? ⟨n, i, none⟩ = w.frozen? ⟨n, i, none⟩ := fun i => World.frozen?_of_block (a := ⟨n, i, none⟩) e
  exact ⟨hs, (hc 0).trans h.c0, (hc 1).trans h.c1, (hc 2).trans h.c2, (hf 0).trans h.f0, (hf 1).trans h.f1, (hf 2).trans h.f2⟩
theorem UseBox.below {w w' : World} {n : Nat} {x : Use} (h : UseBox w n x) (hb : Below w.heap.size w w') : UseBox w' n x := h.of_block (Nat.lt_of_lt_of_le h.lt hb.size) (hb.block n h.lt) -- 41
theorem UseBox.under {B : Nat} {w w' : World} {n : Nat} {x : Use} (h : UseBox w n x) (hb : Below B w w') (hn : n < B) : UseBox w' n x := h.of_block (Nat.lt_of_lt_of_le h.lt hb.size) (hb.block n hn) -- 41
theorem UseBox.grown {row : Option Nat} {w w' : World} {n : Nat} {x : Use} (h : UseBox w n x) (hg : w.grownBy w' row) (hne : row ≠ some n) : UseBox w' n x := h.of_block (Nat.lt_of_lt_of_le h.lt hg.size) (hg.block n h.lt (fun e => hne e.symm)) -- 41
theorem UseBox.alloc {w : World} {n : Nat} {x : Use} (h : UseBox w n x) (o : Obj) : UseBox (w.alloc o) n x := h.below ((Below.refl _ _).alloc (Nat.le_refl _) o) -- 41
theorem UseBox.drewN {w : World} {n : Nat} {x : Use} (h : UseBox w n x) (q : Nat) : UseBox (w.drewN q) n x := ⟨h.lt, h.c0, h.c1, h.c2, h.f0, h.f1, h.f2⟩ -- 41
theorem UseBox.set_other {w : World} {n : Nat} {x : Use} (h : UseBox w n x) {p : Addr} (hp : p.block ≠ n) (u : Value) : UseBox (w.setCell p u) n x := h.of_block (by simp [World.setCell]; exact h.lt) (Below.heap_setCell w p u n (fun h => hp h.symm)) -- 41
theorem UseBox.set0 {w : World} {n : Nat} {x : Use} (h : UseBox w n x) (v : ByteArray) : UseBox (w.setCell ⟨n, 0, none⟩ (.string v)) n ⟨v, x.jobs, x.procs⟩ := -- 41
  ⟨by simp [World.setCell]; exact h.lt, World.cell?_setCell_same _ _ _ h.c0, (World.cell?_setCell_other _ _ _ _ (by simp)).trans h.c1, (World.cell?_setCell_other _ _ _ _ (by simp)).trans h.c2, by rw [World.frozen?_setCell]; exact h.f0, by rw [World.frozen?_setCell]; exact h.f1, by rw [World.frozen?_setCell]; exact h.f2⟩
theorem UseBox.set1 {w : World} {n : Nat} {x : Use} (h : UseBox w n x) (v : Int) : UseBox (w.setCell ⟨n, 1, none⟩ (.int .i64 v)) n ⟨x.user, v, x.procs⟩ := -- 41
  ⟨by simp [World.setCell]; exact h.lt, (World.cell?_setCell_other _ _ _ _ (by simp)).trans h.c0, World.cell?_setCell_same _ _ _ h.c1, (World.cell?_setCell_other _ _ _ _ (by simp)).trans h.c2, by rw [World.frozen?_setCell]; exact h.f0, by rw [World.frozen?_setCell]; exact h.f1, by rw [World.frozen?_setCell]; exact h.f2⟩
theorem UseBox.set2 {w : World} {n : Nat} {x : Use} (h : UseBox w n x) (v : Int) : UseBox (w.setCell ⟨n, 2, none⟩ (.int .i64 v)) n ⟨x.user, x.jobs, v⟩ := -- 41
  ⟨by simp [World.setCell]; exact h.lt, (World.cell?_setCell_other _ _ _ _ (by simp)).trans h.c0, (World.cell?_setCell_other _ _ _ _ (by simp)).trans h.c1, World.cell?_setCell_same _ _ _ h.c2, by rw [World.frozen?_setCell]; exact h.f0, by rw [World.frozen?_setCell]; exact h.f1, by rw [World.frozen?_setCell]; exact h.f2⟩
end Go.Proofs.Ytgjmgcmheccdfaa.ApiMem
