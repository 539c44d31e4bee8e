/-
  How the flat structs of package api lie in memory: cells, boxes, slices. (Written by tools/gen_api.py.)
-/
import Derived.Test.YtkaepadkdohmpaaRows
import Derived.Test.YtkaepadkdohmpaaLay
import Derived.Test.YtkaepadkdohmpaaApiPlain
import Derived.WalkKit
import Derived.WalkSpells
import Derived.WalkLawsBesides
import Derived.Laws.StructEq
import Derived.LoopTactic
namespace Go.Proofs.Ytkaepadkdohmpaa.ApiMem
open Go.RowKit Go.Proofs.Ytkaepadkdohmpaa.ApiPlain Go.Proofs.Ytkaepadkdohmpaa.Mem
/-! api.Item -/
def itmC (x : Itm) : List Value := [.int .i64 x.width, .bool x.long] -- 42
def itmV (x : Itm) : Value := .agg #[.int .i64 x.width, .bool x.long] -- 42
theorem itmC_cell (x : Itm) : ∀ u ∈ itmC x, u.oneCell' = true := by -- 42
  intro u hu
  simp [itmC] at hu
  rcases hu with rfl | rfl <;> rfl
def itmL : Lay Itm := ⟨2, itmC, fun _ => rfl, itmC_cell, by decide⟩ -- 42
theorem itm_t : ElemT Try.prog 37 42 2 16 := ElemT.mk_ (.agg #[.int .i64 0, .bool false]) Try.underlying37 (by kernel_rfl) rfl (by decide) (by decide)
structure ItmAt (w : World) (p : Addr) (x : Itm) : Prop where -- 42
  lt : p.block < w.heap.size
  c0 : w.cell? p = some (.int .i64 x.width)
  c1 : w.cell? ⟨p.block, p.off + 1, none⟩ = some (.bool x.long)
theorem ItmAt.below {w w' : World} {p : Addr} {x : Itm} (h : ItmAt w p x) (hb : Below w.heap.size w w') : ItmAt w' p x := by -- 42
  have hc : ∀ o, w'.cell? ⟨p.block, o, none⟩ = w.cell? ⟨p.block, o, none⟩ := fun o => hb.cell (p := ⟨p.block, o, none⟩) h.lt
  exact ⟨Nat.lt_of_lt_of_le h.lt hb.size, (hb.cell h.lt).trans h.c0, (hc _).trans h.c1⟩
theorem ItmAt.of {w : World} {p : Addr} {x : Itm} (h : itmL.At w p x) : ItmAt w p x := ⟨h.lt, h.c0 _ rfl, h.c 1 _ (by decide) rfl⟩ -- 42
theorem itms_open {l : List Itm} {w : World} {v : Value} (h : itmL.Is l w v) : ∃ A c, v = .slice A l.length c ∧ l.length ≤ c ∧ ∀ i (hi : i < l.length), ∃ a, A = some a ∧ ItmAt w (a.add (i * 2)) l[i] := by -- 42
  obtain ⟨A, c, e, hn, hat⟩ := h.open_
  exact ⟨A, c, e, hn, fun i hi => by
    obtain ⟨a, ea, h1⟩ := hat i hi
    exact ⟨a, ea, ItmAt.of h1⟩⟩
structure ItmBox (w : World) (n : Nat) (x : Itm) : Prop where -- 42
  lt : n < w.heap.size
  c0 : w.cell? ⟨n, 0, none⟩ = some (.int .i64 x.width)
  c1 : w.cell? ⟨n, 1, none⟩ = some (.bool x.long)
  f0 : w.frozen? ⟨n, 0, none⟩ = false
  f1 : w.frozen? ⟨n, 1, none⟩ = false
theorem ItmBox.of {w : World} {n : Nat} {x : Itm} (h : Boxed w n (itmC x)) : ItmBox w n x := ⟨h.lt, h.c 0 _ rfl, h.c 1 _ rfl, h.f 0 _ rfl, h.f 1 _ rfl⟩ -- 42
theorem ItmBox.new_at {w : World} {n : Nat} (e : w.heap.size = n) (x : Itm) (T : TypeId) : ItmBox (w.alloc (.cells #[.int .i64 x.width, .bool x.long] T)) n x := ItmBox.of (Boxed.new_at #[.int .i64 x.width, .bool x.long] T e) -- 42
theorem ItmBox.new (w : World) (x : Itm) (T : TypeId) : ItmBox (w.alloc (.cells #[.int .i64 x.width, .bool x.long] T)) w.heap.size x := ItmBox.new_at rfl x T -- 42
theorem ItmBox.of_block {w w' : World} {n : Nat} {x : Itm} (h : ItmBox w n x) (hs : n < w'.heap.size) (e : w'.heap[n]? = w.heap[n]?) : ItmBox w' n x := by -- 42
  have hc : ∀ i, w'.cell? ⟨n, i, none⟩ = w.cell? ⟨n, i, none⟩ := fun i => World.cell?_of_block (a := ⟨n, i, none⟩) e
  have hf : ∀ i, w'.frozen? ⟨n, i, none⟩ = w.frozen? ⟨n, i, none⟩ := fun i => World.frozen?_of_block (a := ⟨n, i, none⟩) e
  exact ⟨hs, (hc 0).trans h.c0, (hc 1).trans h.c1, (hf 0).trans h.f0, (hf 1).trans h.f1⟩
theorem ItmBox.below {w w' : World} {n : Nat} {x : Itm} (h : ItmBox w n x) (hb : Below w.heap.size w w') : ItmBox w' n x := h.of_block (Nat.lt_of_lt_of_le h.lt hb.size) (hb.block n h.lt) -- 42
theorem ItmBox.under {B : Nat} {w w' : World} {n : Nat} {x : Itm} (h : ItmBox w n x) (hb : Below B w w') (hn : n < B) : ItmBox w' n x := h.of_block (Nat.lt_of_lt_of_le h.lt hb.size) (hb.block n hn) -- 42
theorem ItmBox.grown {row : Option Nat} {w w' : World} {n : Nat} {x : Itm} (h : ItmBox w n x) (hg : w.grownBy w' row) (hne : row ≠ some n) : ItmBox w' n x := h.of_block (Nat.lt_of_lt_of_le h.lt hg.size) (hg.block n h.lt (fun e => hne e.symm)) -- 42
theorem ItmBox.alloc {w : World} {n : Nat} {x : Itm} (h : ItmBox w n x) (o : Obj) : ItmBox (w.alloc o) n x := h.below ((Below.refl _ _).alloc (Nat.le_refl _) o) -- 42
theorem ItmBox.drewN {w : World} {n : Nat} {x : Itm} (h : ItmBox w n x) (q : Nat) : ItmBox (w.drewN q) n x := ⟨h.lt, h.c0, h.c1, h.f0, h.f1⟩ -- 42
theorem ItmBox.set_other {w : World} {n : Nat} {x : Itm} (h : ItmBox w n x) {p : Addr} (hp : p.block ≠ n) (u : Value) : ItmBox (w.setCell p u) n x := h.of_block (by simp [World.setCell]; exact h.lt) (Below.heap_setCell w p u n (fun h => hp h.symm)) -- 42
theorem ItmBox.set0 {w : World} {n : Nat} {x : Itm} (h : ItmBox w n x) (v : Int) : ItmBox (w.setCell ⟨n, 0, none⟩ (.int .i64 v)) n ⟨v, x.long⟩ := -- 42
  ⟨by simp [World.setCell]; exact h.lt, World.cell?_setCell_same _ _ _ h.c0, (World.cell?_setCell_other _ _ _ _ (by simp)).trans h.c1, by rw [World.frozen?_setCell]; exact h.f0, by rw [World.frozen?_setCell]; exact h.f1⟩
theorem ItmBox.set1 {w : World} {n : Nat} {x : Itm} (h : ItmBox w n x) (v : Bool) : ItmBox (w.setCell ⟨n, 1, none⟩ (.bool v)) n ⟨x.width, v⟩ := -- 42
  ⟨by simp [World.setCell]; exact h.lt, (World.cell?_setCell_other _ _ _ _ (by simp)).trans h.c0, World.cell?_setCell_same _ _ _ h.c1, by rw [World.frozen?_setCell]; exact h.f0, by rw [World.frozen?_setCell]; exact h.f1⟩
/-! api.Look -/
def lokC (x : Lok) : List Value := [.int .i64 x.k, .int .i64 x.reserved, .int .i64 x.long] -- 25
def lokV (x : Lok) : Value := .agg #[.int .i64 x.k, .int .i64 x.reserved, .int .i64 x.long] -- 25
theorem lokC_cell (x : Lok) : ∀ u ∈ lokC x, u.oneCell' = true := by -- 25
  intro u hu
  simp [lokC] at hu
  rcases hu with rfl | rfl | rfl <;> rfl
def lokL : Lay Lok := ⟨3, lokC, fun _ => rfl, lokC_cell, by decide⟩ -- 25
structure LokAt (w : World) (p : Addr) (x : Lok) : Prop where -- 25
  lt : p.block < w.heap.size
  c0 : w.cell? p = some (.int .i64 x.k)
  c1 : w.cell? ⟨p.block, p.off + 1, none⟩ = some (.int .i64 x.reserved)
  c2 : w.cell? ⟨p.block, p.off + 2, none⟩ = some (.int .i64 x.long)
theorem LokAt.below {w w' : World} {p : Addr} {x : Lok} (h : LokAt w p x) (hb : Below w.heap.size w w') : LokAt w' p x := by -- 25
  have hc : ∀ o, w'.cell? ⟨p.block, o, none⟩ = w.cell? ⟨p.block, o, none⟩ := fun o => hb.cell (p := ⟨p.block, o, none⟩) h.lt
  exact ⟨Nat.lt_of_lt_of_le h.lt hb.size, (hb.cell h.lt).trans h.c0, (hc _).trans h.c1, (hc _).trans h.c2⟩
theorem LokAt.of {w : World} {p : Addr} {x : Lok} (h : lokL.At w p x) : LokAt w p x := ⟨h.lt, h.c0 _ rfl, h.c 1 _ (by decide) rfl, h.c 2 _ (by decide) rfl⟩ -- 25
theorem loks_open {l : List Lok} {w : World} {v : Value} (h : lokL.Is l w v) : ∃ A c, v = .slice A l.length c ∧ l.length ≤ c ∧ ∀ i (hi : i < l.length), ∃ a, A = some a ∧ LokAt w (a.add (i * 3)) l[i] := by -- 25
  obtain ⟨A, c, e, hn, hat⟩ := h.open_
  exact ⟨A, c, e, hn, fun i hi => by
    obtain ⟨a, ea, h1⟩ := hat i hi
    exact ⟨a, ea, LokAt.of h1⟩⟩
structure LokBox (w : World) (n : Nat) (x : Lok) : Prop where -- 25
  lt : n < w.heap.size
  c0 : w.cell? ⟨n, 0, none⟩ = some (.int .i64 x.k)
  c1 : w.cell? ⟨n, 1, none⟩ = some (.int .i64 x.reserved)
  c2 : w.cell? ⟨n, 2, none⟩ = some (.int .i64 x.long)
  f0 : w.frozen? ⟨n, 0, none⟩ = false
  f1 : w.frozen? ⟨n, 1, none⟩ = false
  f2 : w.frozen? ⟨n, 2, none⟩ = false
theorem LokBox.of {w : World} {n : Nat} {x : Lok} (h : Boxed w n (lokC x)) : LokBox w n x := ⟨h.lt, h.c 0 _ rfl, h.c 1 _ rfl, h.c 2 _ rfl, h.f 0 _ rfl, h.f 1 _ rfl, h.f 2 _ rfl⟩ -- 25
theorem LokBox.new_at {w : World} {n : Nat} (e : w.heap.size = n) (x : Lok) (T : TypeId) : LokBox (w.alloc (.cells #[.int .i64 x.k, .int .i64 x.reserved, .int .i64 x.long] T)) n x := LokBox.of (Boxed.new_at #[.int .i64 x.k, .int .i64 x.reserved, .int .i64 x.long] T e) -- 25
theorem LokBox.new (w : World) (x : Lok) (T : TypeId) : LokBox (w.alloc (.cells #[.int .i64 x.k, .int .i64 x.reserved, .int .i64 x.long] T)) w.heap.size x := LokBox.new_at rfl x T -- 25
theorem LokBox.of_block {w w' : World} {n : Nat} {x : Lok} (h : LokBox w n x) (hs : n < w'.heap.size) (e : w'.heap[n]? = w.heap[n]?) : LokBox w' n x := by -- 25
  have hc : ∀ i, w'.cell? ⟨n, i, none⟩ = w.cell? ⟨n, i, none⟩ := fun i => World.cell?_of_block (a := ⟨n, i, none⟩) e
  have hf : ∀ i, w'.frozen? ⟨n, i, none⟩ = w.frozen? ⟨n, i, none⟩ := fun i => World.frozen?_of_block (a := ⟨n, i, none⟩) e
  exact ⟨hs, (hc 0).trans h.c0, (hc 1).trans h.c1, (hc 2).trans h.c2, (hf 0).trans h.f0, (hf 1).trans h.f1, (hf 2).trans h.f2⟩
theorem LokBox.below {w w' : World} {n : Nat} {x : Lok} (h : LokBox w n x) (hb : Below w.heap.size w w') : LokBox w' n x := h.of_block (Nat.lt_of_lt_of_le h.lt hb.size) (hb.block n h.lt) -- 25
theorem LokBox.under {B : Nat} {w w' : World} {n : Nat} {x : Lok} (h : LokBox w n x) (hb : Below B w w') (hn : n < B) : LokBox w' n x := h.of_block (Nat.lt_of_lt_of_le h.lt hb.size) (hb.block n hn) -- 25
theorem LokBox.grown {row : Option Nat} {w w' : World} {n : Nat} {x : Lok} (h : LokBox w n x) (hg : w.grownBy w' row) (hne : row ≠ some n) : LokBox w' n x := h.of_block (Nat.lt_of_lt_of_le h.lt hg.size) (hg.block n h.lt (fun e => hne e.symm)) -- 25
theorem LokBox.alloc {w : World} {n : Nat} {x : Lok} (h : LokBox w n x) (o : Obj) : LokBox (w.alloc o) n x := h.below ((Below.refl _ _).alloc (Nat.le_refl _) o) -- 25
theorem LokBox.drewN {w : World} {n : Nat} {x : Lok} (h : LokBox w n x) (q : Nat) : LokBox (w.drewN q) n x := ⟨h.lt, h.c0, h.c1, h.c2, h.f0, h.f1, h.f2⟩ -- 25
theorem LokBox.set_other {w : World} {n : Nat} {x : Lok} (h : LokBox w n x) {p : Addr} (hp : p.block ≠ n) (u : Value) : LokBox (w.setCell p u) n x := h.of_block (by simp [World.setCell]; exact h.lt) (Below.heap_setCell w p u n (fun h => hp h.symm)) -- 25
theorem LokBox.set0 {w : World} {n : Nat} {x : Lok} (h : LokBox w n x) (v : Int) : LokBox (w.setCell ⟨n, 0, none⟩ (.int .i64 v)) n ⟨v, x.reserved, x.long⟩ := -- 25
  ⟨by simp [World.setCell]; exact h.lt, World.cell?_setCell_same _ _ _ h.c0, (World.cell?_setCell_other _ _ _ _ (by simp)).trans h.c1, (World.cell?_setCell_other _ _ _ _ (by simp)).trans h.c2, by rw [World.frozen?_setCell]; exact h.f0, by rw [World.frozen?_setCell]; exact h.f1, by rw [World.frozen?_setCell]; exact h.f2⟩
theorem LokBox.set1 {w : World} {n : Nat} {x : Lok} (h : LokBox w n x) (v : Int) : LokBox (w.setCell ⟨n, 1, none⟩ (.int .i64 v)) n ⟨x.k, v, x.long⟩ := -- 25
  ⟨by simp [World.setCell]; exact h.lt, (World.cell?_setCell_other _ _ _ _ (by simp)).trans h.c0, World.cell?_setCell_same _ _ _ h.c1, (World.cell?_setCell_other _ _ _ _ (by simp)).trans h.c2, by rw [World.frozen?_setCell]; exact h.f0, by rw [World.frozen?_setCell]; exact h.f1, by rw [World.frozen?_setCell]; exact h.f2⟩
theorem LokBox.set2 {w : World} {n : Nat} {x : Lok} (h : LokBox w n x) (v : Int) : LokBox (w.setCell ⟨n, 2, none⟩ (.int .i64 v)) n ⟨x.k, x.reserved, v⟩ := -- 25
  ⟨by simp [World.setCell]; exact h.lt, (World.cell?_setCell_other _ _ _ _ (by simp)).trans h.c0, (World.cell?_setCell_other _ _ _ _ (by simp)).trans h.c1, World.cell?_setCell_same _ _ _ h.c2, by rw [World.frozen?_setCell]; exact h.f0, by rw [World.frozen?_setCell]; exact h.f1, by rw [World.frozen?_setCell]; exact h.f2⟩
end Go.Proofs.Ytkaepadkdohmpaa.ApiMem
