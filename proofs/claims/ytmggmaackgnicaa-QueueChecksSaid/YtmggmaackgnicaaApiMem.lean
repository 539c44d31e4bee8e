/-
  How the flat structs of package api lie in memory: cells, boxes, slices. (Written by tools/gen_api.py.)
-/
import Derived.Test.YtmggmaackgnicaaRows
import Derived.Test.YtmggmaackgnicaaLay
import Derived.Test.YtmggmaackgnicaaApiPlain
import Derived.WalkKit
import Derived.WalkSpells
import Derived.WalkLawsBesides
import Derived.Laws.StructEq
import Derived.LoopTactic
namespace Go.Proofs.Ytmggmaackgnicaa.ApiMem
open Go.RowKit Go.Proofs.Ytmggmaackgnicaa.ApiPlain Go.Proofs.Ytmggmaackgnicaa.Mem
/-! api.Class -/
def clC (x : Cl) : List Value := [.string x.name, .int .i64 x.minW, .int .i64 x.maxW, .int .i64 x.minE, .int .i64 x.maxE] -- 32
def clV (x : Cl) : Value := .agg #[.string x.name, .int .i64 x.minW, .int .i64 x.maxW, .int .i64 x.minE, .int .i64 x.maxE] -- 32
theorem clC_cell (x : Cl) : ∀ u ∈ clC x, u.oneCell' = true := by -- 32
  intro u hu
  simp [clC] at hu
  rcases hu with rfl | rfl | rfl | rfl | rfl <;> rfl
def clL : Lay Cl := ⟨5, clC, fun _ => rfl, clC_cell, by decide⟩ -- 32
theorem cl_t : ElemT Try.prog 22 32 5 48 := ElemT.mk_ (.agg #[.string ⟨#[]⟩, .int .i64 0, .int .i64 0, .int .i64 0, .int .i64 0]) Try.underlying22 (by kernel_rfl) rfl (by decide) (by decide)
structure ClAt (w : World) (p : Addr) (x : Cl) : Prop where -- 32
  lt : p.block < w.heap.size
  c0 : w.cell? p = some (.string x.name)
  c1 : w.cell? ⟨p.block, p.off + 1, none⟩ = some (.int .i64 x.minW)
  c2 : w.cell? ⟨p.block, p.off + 2, none⟩ = some (.int .i64 x.maxW)
  c3 : w.cell? ⟨p.block, p.off + 3, none⟩ = some (.int .i64 x.minE)
  c4 : w.cell? ⟨p.block, p.off + 4, none⟩ = some (.int .i64 x.maxE)
theorem ClAt.below {w w' : World} {p : Addr} {x : Cl} (h : ClAt w p x) (hb : Below w.heap.size w w') : ClAt w' p x := by -- 32
  have hc : ∀ o, w'.cell? ⟨p.block, o, none⟩ = w.cell? ⟨p.block, o, none⟩ := fun o => hb.cell (p := ⟨p.block, o, none⟩) h.lt
  exact ⟨Nat.lt_of_lt_of_le h.lt hb.size, (hb.cell h.lt).trans h.c0, (hc _).trans h.c1, (hc _).trans h.c2, (hc _).trans h.c3, (hc _).trans h.c4⟩
theorem ClAt.of {w : World} {p : Addr} {x : Cl} (h : clL.At w p x) : ClAt w p x := ⟨h.lt, h.c0 _ rfl, h.c 1 _ (by decide) rfl, h.c 2 _ (by decide) rfl, h.c 3 _ (by decide) rfl, h.c 4 _ (by decide) rfl⟩ -- 32
theorem cls_open {l : List Cl} {w : World} {v : Value} (h : clL.Is l w v) : ∃ A c, v = .slice A l.length c ∧ l.length ≤ c ∧ ∀ i (hi : i < l.length), ∃ a, A = some a ∧ ClAt w (a.add (i * 5)) l[i] := by -- 32
  obtain ⟨A, c, e, hn, hat⟩ := h.open_
  exact ⟨A, c, e, hn, fun i hi => by
    obtain ⟨a, ea, h1⟩ := hat i hi
    exact ⟨a, ea, ClAt.of h1⟩⟩
structure ClBox (w : World) (n : Nat) (x : Cl) : Prop where -- 32
  lt : n < w.heap.size
  c0 : w.cell? ⟨n, 0, none⟩ = some (.string x.name)
  c1 : w.cell? ⟨n, 1, none⟩ = some (.int .i64 x.minW)
  c2 : w.cell? ⟨n, 2, none⟩ = some (.int .i64 x.maxW)
  c3 : w.cell? ⟨n, 3, none⟩ = some (.int .i64 x.minE)
  c4 : w.cell? ⟨n, 4, none⟩ = some (.int .i64 x.maxE)
  f0 : w.frozen? ⟨n, 0, none⟩ = false
  f1 : w.frozen? ⟨n, 1, none⟩ = false
  f2 : w.frozen? ⟨n, 2, none⟩ = false
  f3 : w.frozen? ⟨n, 3, none⟩ = false
  f4 : w.frozen? ⟨n, 4, none⟩ = false
theorem ClBox.of {w : World} {n : Nat} {x : Cl} (h : Boxed w n (clC x)) : ClBox w n x := ⟨h.lt, h.c 0 _ rfl, h.c 1 _ rfl, h.c 2 _ rfl, h.c 3 _ rfl, h.c 4 _ rfl, h.f 0 _ rfl, h.f 1 _ rfl, h.f 2 _ rfl, h.f 3 _ rfl, h.f 4 _ rfl⟩ -- 32
theorem ClBox.new_at {w : World} {n : Nat} (e : w.heap.size = n) (x : Cl) (T : TypeId) : ClBox (w.alloc (.cells #[.string x.name, .int .i64 x.minW, .int .i64 x.maxW, .int .i64 x.minE, .int .i64 x.maxE] T)) n x := ClBox.of (Boxed.new_at #[.string x.name, .int .i64 x.minW, .int .i64 x.maxW, .int .i64 x.minE, .int .i64 x.maxE] T e) -- 32
theorem ClBox.new (w : World) (x : Cl) (T : TypeId) : ClBox (w.alloc (.cells #[.string x.name, .int .i64 x.minW, .int .i64 x.maxW, .int .i64 x.minE, .int .i64 x.maxE] T)) w.heap.size x := ClBox.new_at rfl x T -- 32
theorem ClBox.of_block {w w' : World} {n : Nat} {x : Cl} (h : ClBox w n x) (hs : n < w'.heap.size) (e : w'.heap[n]? = w.heap[n]?) : ClBox w' n x := by -- 32
  have hc : ∀ i, w'.cell? ⟨n, i, none⟩ = w.cell? ⟨n, i, none⟩ := fun i => World.cell?_of_block (a := ⟨n, i, none⟩) e
  have hf : ∀ i, w'.frozen? ⟨n, i, none⟩ = w.frozen? ⟨n, i, none⟩ := fun i => World.frozen?_of_block (a := ⟨n, i, none⟩) e
  exact ⟨hs, (hc 0).trans h.c0, (hc 1).trans h.c1, (hc 2).trans h.c2, (hc 3).trans h.c3, (hc 4).trans h.c4, (hf 0).trans h.f0, (hf 1).trans h.f1, (hf 2).trans h.f2, (hf 3).trans h.f3, (hf 4).trans h.f4⟩
theorem ClBox.below {w w' : World} {n : Nat} {x : Cl} (h : ClBox w n x) (hb : Below w.heap.size w w') : ClBox w' n x := h.of_block (Nat.lt_of_lt_of_le h.lt hb.size) (hb.block n h.lt) -- 32
theorem ClBox.under {B : Nat} {w w' : World} {n : Nat} {x : Cl} (h : ClBox w n x) (hb : Below B w w') (hn : n < B) : ClBox w' n x := h.of_block (Nat.lt_of_lt_of_le h.lt hb.size) (hb.block n hn) -- 32
theorem ClBox.grown {row : Option Nat} {w w' : World} {n : Nat} {x : Cl} (h : ClBox w n x) (hg : w.grownBy w' row) (hne : row ≠ some n) : ClBox w' n x := h.of_block (Nat.lt_of_lt_of_le h.lt hg.size) (hg.block n h.lt (fun e => hne e.symm)) -- 32
theorem ClBox.alloc {w : World} {n : Nat} {x : Cl} (h : ClBox w n x) (o : Obj) : ClBox (w.alloc o) n x := h.below ((Below.refl _ _).alloc (Nat.le_refl _) o) -- 32
theorem ClBox.drewN {w : World} {n : Nat} {x : Cl} (h : ClBox w n x) (q : Nat) : ClBox (w.drewN q) n x := ⟨h.lt, h.c0, h.c1, h.c2, h.c3, h.c4, h.f0, h.f1, h.f2, h.f3, h.f4⟩ -- 32
theorem ClBox.set_other {w : World} {n : Nat} {x : Cl} (h : ClBox w n x) {p : Addr} (hp : p.block ≠ n) (u : Value) : ClBox (w.setCell p u) n x := h.of_block (by simp [World.setCell]; exact h.lt) (Below.heap_setCell w p u n (fun h => hp h.symm)) -- 32
theorem ClBox.set0 {w : World} {n : Nat} {x : Cl} (h : ClBox w n x) (v : ByteArray) : ClBox (w.setCell ⟨n, 0, none⟩ (.string v)) n ⟨v, x.minW, x.maxW, x.minE, x.maxE⟩ := -- 32
  ⟨by simp [World.setCell]; exact h.lt, World.cell?_setCell_same _ _ _ h.c0, (World.cell?_setCell_other _ _ _ _ (by simp)).trans h.c1, (World.cell?_setCell_other _ _ _ _ (by simp)).trans h.c2, (World.cell?_setCell_other _ _ _ _ (by simp)).trans h.c3, (World.cell?_setCell_other _ _ _ _ (by simp)).trans h.c4, by rw [World.frozen?_setCell]; exact h.f0, by rw [World.frozen?_setCell]; exact h.f1, by rw [World.frozen?_setCell]; exact h.f2, by rw [World.frozen?_setCell]; exact h.f3, by rw [World.frozen?_setCell]; exact h.f4⟩
theorem ClBox.set1 {w : World} {n : Nat} {x : Cl} (h : ClBox w n x) (v : Int) : ClBox (w.setCell ⟨n, 1, none⟩ (.int .i64 v)) n ⟨x.name, v, x.maxW, x.minE, x.maxE⟩ := -- 32
  ⟨by simp [World.setCell]; exact h.lt, (World.cell?_setCell_other _ _ _ _ (by simp)).trans h.c0, World.cell?_setCell_same _ _ _ h.c1, (World.cell?_setCell_other _ _ _ _ (by simp)).trans h.c2, (World.cell?_setCell_other _ _ _ _ (by simp)).trans h.c3, (World.cell?_setCell_other _ _ _ _ (by simp)).trans h.c4, by rw [World.frozen?_setCell]; exact h.f0, by rw [World.frozen?_setCell]; exact h.f1, by rw [World.frozen?_setCell]; exact h.f2, by rw [World.frozen?_setCell]; exact h.f3, by rw [World.frozen?_setCell]; exact h.f4⟩
theorem ClBox.set2 {w : World} {n : Nat} {x : Cl} (h : ClBox w n x) (v : Int) : ClBox (w.setCell ⟨n, 2, none⟩ (.int .i64 v)) n ⟨x.name, x.minW, v, x.minE, x.maxE⟩ := -- 32
  ⟨by simp [World.setCell]; exact h.lt, (World.cell?_setCell_other _ _ _ _ (by simp)).trans h.c0, (World.cell?_setCell_other _ _ _ _ (by simp)).trans h.c1, World.cell?_setCell_same _ _ _ h.c2, (World.cell?_setCell_other _ _ _ _ (by simp)).trans h.c3, (World.cell?_setCell_other _ _ _ _ (by simp)).trans h.c4, by rw [World.frozen?_setCell]; exact h.f0, by rw [World.frozen?_setCell]; exact h.f1, by rw [World.frozen?_setCell]; exact h.f2, by rw [World.frozen?_setCell]; exact h.f3, by rw [World.frozen?_setCell]; exact h.f4⟩
theorem ClBox.set3 {w : World} {n : Nat} {x : Cl} (h : ClBox w n x) (v : Int) : ClBox (w.setCell ⟨n, 3, none⟩ (.int .i64 v)) n ⟨x.name, x.minW, x.maxW, v, x.maxE⟩ := -- 32
  ⟨by simp [World.setCell]; exact h.lt, (World.cell?_setCell_other _ _ _ _ (by simp)).trans h.c0, (World.cell?_setCell_other _ _ _ _ (by simp)).trans h.c1, (World.cell?_setCell_other _ _ _ _ (by simp)).trans h.c2, World.cell?_setCell_same _ _ _ h.c3, (World.cell?_setCell_other _ _ _ _ (by simp)).trans h.c4, by rw [World.frozen?_setCell]; exact h.f0, by rw [World.frozen?_setCell]; exact h.f1, by rw [World.frozen?_setCell]; exact h.f2, by rw [World.frozen?_setCell]; exact h.f3, by rw [World.frozen?_setCell]; exact h.f4⟩
theorem ClBox.set4 {w : World} {n : Nat} {x : Cl} (h : ClBox w n x) (v : Int) : ClBox (w.setCell ⟨n, 4, none⟩ (.int .i64 v)) n ⟨x.name, x.minW, x.maxW, x.minE, v⟩ := -- 32
  ⟨by simp [World.setCell]; exact h.lt, (World.cell?_setCell_other _ _ _ _ (by simp)).trans h.c0, (World.cell?_setCell_other _ _ _ _ (by simp)).trans h.c1, (World.cell?_setCell_other _ _ _ _ (by simp)).trans h.c2, (World.cell?_setCell_other _ _ _ _ (by simp)).trans h.c3, World.cell?_setCell_same _ _ _ h.c4, by rw [World.frozen?_setCell]; exact h.f0, by rw [World.frozen?_setCell]; exact h.f1, by rw [World.frozen?_setCell]; exact h.f2, by rw [World.frozen?_setCell]; exact h.f3, by rw [World.frozen?_setCell]; exact h.f4⟩
end Go.Proofs.Ytmggmaackgnicaa.ApiMem
