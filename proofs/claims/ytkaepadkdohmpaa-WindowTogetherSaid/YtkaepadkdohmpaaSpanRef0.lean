/-
  Words for the walks of the document's answers; of which function soever. The walks of the document's answers for layer 3: May. The walks of the document's answers for layer 3: Has. The walks of the document's answers for layer 3: put, Ends. The walks of the document's answers for layer 3: Ends. The walk of the document's answer for layer 3: Same. The walk of the document's answer for layer 3: Total. The walk of the document's answer for layer 3: Less. What layer 3's functions answer: the posts that the law texts name.
-/
import Derived.Test.YtkaepadkdohmpaaSpanMem
import Derived.WalkKit
import Derived.WalkSpells
import Derived.WalkLawsBesides
import Derived.Deep.QuietTactic
import Derived.BigQuiet
import Derived.LoopTactic
import Derived.Test.YtkaepadkdohmpaaSpanPlain
import Derived.Deep.RegionHeld3
import Derived.Deep.CutBlock
import Derived.Deep.DeepCutAuto
namespace Go.Proofs.Ytkaepadkdohmpaa.SpanRef
open Go.RowKit Go.Proofs.Ytkaepadkdohmpaa.SpanPlain Go.Proofs.Ytkaepadkdohmpaa.Mem Go.Proofs.Ytkaepadkdohmpaa.SpanMem
def BoolIs (b : Bool) (w : World) (e : Ending) (w' : World) : Prop := e = .returned (.bool b) ∧ Below w.heap.size w w'
end Go.Proofs.Ytkaepadkdohmpaa.SpanRef
namespace Go.Proofs.Ytkaepadkdohmpaa.SpanRef
open Go.RowKit Go.Proofs.Ytkaepadkdohmpaa.SpanPlain Go.Proofs.Ytkaepadkdohmpaa.Mem Go.Proofs.Ytkaepadkdohmpaa.SpanMem
end Go.Proofs.Ytkaepadkdohmpaa.SpanRef
namespace Go.Proofs.Ytkaepadkdohmpaa.SpanRef
open Go.RowKit Go.Proofs.Ytkaepadkdohmpaa.SpanPlain Go.Proofs.Ytkaepadkdohmpaa.Mem Go.Proofs.Ytkaepadkdohmpaa.SpanMem
end Go.Proofs.Ytkaepadkdohmpaa.SpanRef
namespace Go.Proofs.Ytkaepadkdohmpaa.SpanRef
open Go.RowKit Go.Proofs.Ytkaepadkdohmpaa.SpanPlain Go.Proofs.Ytkaepadkdohmpaa.Mem Go.Proofs.Ytkaepadkdohmpaa.SpanMem
def PutIs (l : List Int) (w : World) (e : Ending) (w' : World) : Prop := ∃ v, e = .returned v ∧ IntsIs l w' v ∧ Below w.heap.size w w'
theorem atTo_succ (l : List Int) (n : Int) (k : Nat) : atTo l n (k + 1) = if l.getD k 0 < n then k + 1 else atTo l n k := rfl
theorem put_next {l : List Int} {n : Int} {k : Nat} (hk : k < l.length) (h : n ∉ l.take k) (hn : l.getD k 0 ≠ n) : n ∉ l.take (k + 1) := by
  rw [List.take_succ_eq_append_getElem hk, List.mem_append]
  rintro (g | g)
  · exact h g
  · simp at g
    rw [getD_el hk] at hn
    exact hn g.symm
end Go.Proofs.Ytkaepadkdohmpaa.SpanRef
namespace Go.Proofs.Ytkaepadkdohmpaa.SpanRef
open Go.RowKit Go.Proofs.Ytkaepadkdohmpaa.SpanPlain Go.Proofs.Ytkaepadkdohmpaa.Mem Go.Proofs.Ytkaepadkdohmpaa.SpanMem
theorem ends_take {l : List Sp} {k : Nat} (hk : k < l.length) : endsL (l.take (k + 1)) = endsStep (endsL (l.take k)) (l.getD k (0, 0)) := by
  rw [List.take_succ_eq_append_getElem hk, endsL_snoc]
  simp [List.getD, hk]
theorem ends_take_len {l : List Sp} {k : Nat} (hl : l.length ≤ 4000) : (endsL (l.take k)).length ≤ 8000 := by
  have := (ends_spec (l.take k)).2.2
  rw [List.length_take] at this
  omega
end Go.Proofs.Ytkaepadkdohmpaa.SpanRef
namespace Go.Proofs.Ytkaepadkdohmpaa.SpanRef
open Go.RowKit Go.Proofs.Ytkaepadkdohmpaa.SpanPlain Go.Proofs.Ytkaepadkdohmpaa.Mem Go.Proofs.Ytkaepadkdohmpaa.SpanMem
def SameIs (b : Bool) (w : World) (e : Ending) (w' : World) : Prop := e = .returned (.bool b) ∧ ∃ n, w' = w.drewN n
theorem same_take {a b : List Sp} {k : Nat} (ha : k < a.length) (hb : k < b.length) (h : a.take k = b.take k) (he : a.getD k (0, 0) = b.getD k (0, 0)) : a.take (k + 1) = b.take (k + 1) := by
  rw [List.take_succ_eq_append_getElem ha, List.take_succ_eq_append_getElem hb, h]
  simp [List.getD, ha, hb] at he
  rw [he]
theorem same_not {a b : List Sp} {k : Nat} (ha : k < a.length) (hb : k < b.length) (he : a.getD k (0, 0) ≠ b.getD k (0, 0)) : a ≠ b := fun h => by subst h; exact he rfl
end Go.Proofs.Ytkaepadkdohmpaa.SpanRef
namespace Go.Proofs.Ytkaepadkdohmpaa.SpanRef
open Go.RowKit Go.Proofs.Ytkaepadkdohmpaa.SpanPlain Go.Proofs.Ytkaepadkdohmpaa.Mem Go.Proofs.Ytkaepadkdohmpaa.SpanMem
/-- How many times a cover's spans have together. -/
theorem tot_take {l : List Sp} {k : Nat} (hk : k < l.length) : totL (l.take (k + 1)) = totL (l.take k) + (l.getD k (0, 0)).2 - (l.getD k (0, 0)).1 := by
  rw [List.take_succ_eq_append_getElem hk, totL_snoc]
  simp [List.getD, hk]
theorem cov_take {l : List Sp} (h : Cov l) (k : Nat) : Cov (l.take k) := ⟨fun s hs => h.1 s (List.mem_of_mem_take hs), h.2.sublist (List.take_sublist k l)⟩
theorem cov_at {l : List Sp} (h : Cov l) {k : Nat} (hk : k < l.length) : May (l.getD k (0, 0)) := by
  have e : l.getD k (0, 0) = l[k] := by simp [List.getD, hk]
  rw [e]; exact h.1 _ (List.getElem_mem hk)
end Go.Proofs.Ytkaepadkdohmpaa.SpanRef
namespace Go.Proofs.Ytkaepadkdohmpaa.SpanRef
open Go.RowKit Go.Proofs.Ytkaepadkdohmpaa.SpanPlain Go.Proofs.Ytkaepadkdohmpaa.Mem Go.Proofs.Ytkaepadkdohmpaa.SpanMem
/-- What Less answers. -/
def LessIs (l m : List Sp) (w : World) (e : Ending) (w' : World) : Prop := ∃ v c, e = .returned v ∧ SpansIs c w' v ∧ LessOf l m c ∧ c.length ≤ 2 * (l.length + m.length) ∧ Below w.heap.size w w'
/-- How the loop of Less stands. -/
def LessLoop (l m : List Sp) (e : List Int) (w1 wr : World) (v : Value) (k : Nat) : Prop :=
  ∃ c, OwnR 70 2 w1.heap.size wr v c.length (svals c) ∧ LessAt l m e k c ∧ c.length ≤ k ∧ Below w1.heap.size w1 wr
theorem cell_kept {w w' : World} {a : Addr} {k : Nat} {v : Value} (hb : Below w.heap.size w w') (hl : a.block < w.heap.size) (h : w.cell? (a.add k) = some v) : w'.cell? (a.add k) = some v := (hb.cell (by rw [add_block]; exact hl)).trans h
theorem cell_kept_at {w w' : World} {b i : Nat} {v : Value} (hb : Below w.heap.size w w') (hl : b < w.heap.size) (h : w.cell? ⟨b, i, none⟩ = some v) : w'.cell? ⟨b, i, none⟩ = some v := (hb.cell (p := ⟨b, i, none⟩) hl).trans h
theorem snoc_cases (c : List Sp) : c = [] ∨ ∃ d s, c = d ++ [s] := by
  by_cases h : c = []
  · exact .inl h
  · exact .inr ⟨c.dropLast, c.getLast h, (List.dropLast_concat_getLast h).symm⟩
theorem svals_last (d : List Sp) (s : Sp) (y : Int) : (svals (d ++ [s])).set (d.length * 2 + 1) (.int .i64 y) = svals (d ++ [(s.1, y)]) := by
  rw [svals_append, svals_append, List.set_append_right _ _ (by rw [svals_len]; omega), svals_len]
  have e : d.length * 2 + 1 - d.length * 2 = 1 := by omega
  rw [e]
  rfl
theorem svals_end (d : List Sp) (s : Sp) : (svals (d ++ [s]))[d.length * 2 + 1]? = some (.int .i64 s.2) := by
  have h := (svals_at (d ++ [s]) d.length (by simp)).2
  rw [h]
  simp [spCell, List.getD]
end Go.Proofs.Ytkaepadkdohmpaa.SpanRef
namespace Go.Proofs.Ytkaepadkdohmpaa.SpanWalk
open Go.RowKit Go.Proofs.Ytkaepadkdohmpaa.SpanPlain Go.Proofs.Ytkaepadkdohmpaa.Mem Go.Proofs.Ytkaepadkdohmpaa.SpanMem Go.Proofs.Ytkaepadkdohmpaa.SpanRef
def IntIs (n : Int) (w : World) (e : Ending) (w' : World) : Prop := e = .returned (.int .i64 n) ∧ Below w.heap.size w w'
def lenL (s : Sp) : Int := if mayB s then s.2 - s.1 else 0
def MeetIs (m : Sp × Bool) (w : World) (e : Ending) (w' : World) : Prop := e = .returned (.tuple #[spV m.1, .bool m.2]) ∧ Below w.heap.size w w'
def TrueIs (w : World) (e : Ending) (w' : World) : Prop := e = .returned (.bool true) ∧ Below w.heap.size w w'
/-- Total: of the cover. -/
def TotalIs (l : List Sp) (w : World) (e : Ending) (w' : World) : Prop := ∃ c, LessOf l [] c ∧ e = .returned (.int .i64 (totL c)) ∧ Below w.heap.size w w'
/-- What Less answers, from the cover alone: its length follows. -/
theorem less_is {l m c : List Sp} {w w' : World} {v : Value} (h1 : SpansIs c w' v) (h2 : LessOf l m c) (h3 : Below w.heap.size w w') : LessIs l m w (.returned v) w' :=
  ⟨v, c, rfl, h1, h2, by have := cov_len h2; omega, h3⟩
theorem Raw_one (s : Sp) (w : World) (T : TypeId) : SpansIs [s] (w.alloc (.cells #[.int .i64 s.1, .int .i64 s.2] T)) (.slice (some ⟨w.heap.size, 0, none⟩) 1 1) :=
  .inr ⟨_, _, rfl, Raw.alloc w #[.int .i64 s.1, .int .i64 s.2] T, Nat.le_refl _⟩
theorem Raw_two (s t : Sp) (w : World) (T : TypeId) : SpansIs [s, t] (w.alloc (.cells #[.int .i64 s.1, .int .i64 s.2, .int .i64 t.1, .int .i64 t.2] T)) (.slice (some ⟨w.heap.size, 0, none⟩) 2 2) :=
  .inr ⟨_, _, rfl, Raw.alloc w #[.int .i64 s.1, .int .i64 s.2, .int .i64 t.1, .int .i64 t.2] T, Nat.le_refl _⟩
theorem any_one (s : Sp) (t : Int) : anyB [s] t = hasB s t := by rw [any_cons, any_nil, Bool.or_false]
theorem below_alloc (w : World) (o : Obj) : Below w.heap.size w (w.alloc o) := (Below.refl _ _).alloc (Nat.le_refl _) o
theorem nil_is (w : World) : SpansIs [] w (.slice none 0 0) := .inl ⟨rfl, rfl⟩
/-- The first of some spans, as a walk at index 0 reads it. -/
theorem first_cells {s : Sp} {l : List Sp} {w : World} {v : Value} (h : SpansIs (s :: l) w v) : ∃ ad c, v = .slice (some ad) (l.length + 1) c ∧ ad.block < w.heap.size ∧ w.cell? ad = some (.int .i64 s.1) ∧ w.cell? ⟨ad.block, ad.off + 1, none⟩ = some (.int .i64 s.2) := by
  obtain ⟨A, c, rfl, hp⟩ := h.open_
  obtain ⟨ad, rfl, had, c1, c2⟩ := hp 0 (by simp)
  have e : ad.add (0 * 2) = ad := by unfold Addr.add; simp
  rw [e] at c1 c2
  exact ⟨ad, c, rfl, had, c1, c2⟩
theorem first_held {w w' : World} {a : Addr} {u v : Value} (hb : Below w.heap.size w w') (h1 : w.cell? a = some u) (h2 : w.cell? ⟨a.block, a.off + 1, none⟩ = some v) (hl : a.block < w.heap.size) :
    w'.cell? a = some u ∧ w'.cell? ⟨a.block, a.off + 1, none⟩ = some v ∧ a.block < w'.heap.size :=
  ⟨(hb.cell hl).trans h1, (hb.cell (p := ⟨a.block, a.off + 1, none⟩) hl).trans h2, Nat.lt_of_lt_of_le hl hb.size⟩
end Go.Proofs.Ytkaepadkdohmpaa.SpanWalk
