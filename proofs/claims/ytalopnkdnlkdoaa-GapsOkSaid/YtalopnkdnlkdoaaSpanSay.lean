/-
  What layer 3's functions answer: the posts that the law texts name.
-/
import Derived.Test.YtalopnkdnlkdoaaSpanRefD
import Derived.Test.YtalopnkdnlkdoaaSpanRefE
import Derived.Test.YtalopnkdnlkdoaaSpanPlain
namespace Go.Proofs.Ytalopnkdnlkdoaa.SpanWalk
open Go.RowKit Go.Proofs.Ytalopnkdnlkdoaa.SpanPlain Go.Proofs.Ytalopnkdnlkdoaa.Mem Go.Proofs.Ytalopnkdnlkdoaa.SpanMem Go.Proofs.Ytalopnkdnlkdoaa.SpanRef
def IntIs (n : Int) (w : World) (e : Ending) (w' : World) : Prop := e = .returned (.int .i64 n) ∧ Below w.heap.size w w'
def lenL (s : Sp) : Int := if mayB s then s.2 - s.1 else 0
def MeetIs (m : Sp × Bool) (w : World) (e : Ending) (w' : World) : Prop := e = .returned (.tuple #[spV m.1, .bool m.2]) ∧ Below w.heap.size w w'
def TrueIs (w : World) (e : Ending) (w' : World) : Prop := e = .returned (.bool true) ∧ Below w.heap.size w w'
/-- Total: of the cover. -/
def TotalIs (l : List Sp) (w : World) (e : Ending) (w' : World) : Prop := ∃ c, LessOf l [] c ∧ e = .returned (.int .i64 (totL c)) ∧ Below w.heap.size w w'
/-- What Less answers, from the cover alone: its length follows. -/
theorem less_is {l m c : List Sp} {w w' : World} {v : Value} (h1 : SpansIs c w' v) (h2 : LessOf l m c) (h3 : Below w.heap.size w w') : LessIs l m w (.returned v) w' :=
  ⟨v, c, rfl, h1, h2, by have := cov_len h2; omega, h3⟩
theorem Raw_one (s : Sp) (w : World) (T : TypeId) : SpansIs [s] (w.alloc (.cells #[.int .i64 s.1, .int .i64 s.2] T)) (.slice (some ⟨w.heap.size, 0, none⟩) 1 1) :=
  .inr ⟨_, _, rfl, Raw.alloc w #[.int .i64 s.1, .int .i64 s.2] T, Nat.le_refl _⟩
theorem Raw_two (s t : Sp) (w : World) (T : TypeId) : SpansIs [s, t] (w.alloc (.cells #[.int .i64 s.1, .int .i64 s.2, .int .i64 t.1, .int .i64 t.2] T)) (.slice (some ⟨w.heap.size, 0, none⟩) 2 2) :=
  .inr ⟨_, _, rfl, Raw.alloc w #[.int .i64 s.1, .int .i64 s.2, .int .i64 t.1, .int .i64 t.2] T, Nat.le_refl _⟩
theorem any_one (s : Sp) (t : Int) : anyB [s] t = hasB s t := by rw [any_cons, any_nil, Bool.or_false]
theorem below_alloc (w : World) (o : Obj) : Below w.heap.size w (w.alloc o) := (Below.refl _ _).alloc (Nat.le_refl _) o
theorem nil_is (w : World) : SpansIs [] w (.slice none 0 0) := .inl ⟨rfl, rfl⟩
/-- The first of some spans, as a walk at index 0 reads it. -/
theorem first_cells {s : Sp} {l : List Sp} {w : World} {v : Value} (h : SpansIs (s :: l) w v) : ∃ ad c, v = .slice (some ad) (l.length + 1) c ∧ ad.block < w.heap.size ∧ w.cell? ad = some (.int .i64 s.1) ∧ w.cell? ⟨ad.block, ad.off + 1, none⟩ = some (.int .i64 s.2) := by
  obtain ⟨A, c, rfl, hp⟩ := h.open_
  obtain ⟨ad, rfl, had, c1, c2⟩ := hp 0 (by simp)
  have e : ad.add (0 * 2) = ad := by unfold Addr.add; simp
  rw [e] at c1 c2
  exact ⟨ad, c, rfl, had, c1, c2⟩
theorem first_held {w w' : World} {a : Addr} {u v : Value} (hb : Below w.heap.size w w') (h1 : w.cell? a = some u) (h2 : w.cell? ⟨a.block, a.off + 1, none⟩ = some v) (hl : a.block < w.heap.size) :
    w'.cell? a = some u ∧ w'.cell? ⟨a.block, a.off + 1, none⟩ = some v ∧ a.block < w'.heap.size :=
  ⟨(hb.cell hl).trans h1, (hb.cell (p := ⟨a.block, a.off + 1, none⟩) hl).trans h2, Nat.lt_of_lt_of_le hl hb.size⟩
end Go.Proofs.Ytalopnkdnlkdoaa.SpanWalk
