/-
  What layer 5's functions answer: the posts that the law texts name; which memory a profile leaves alone; the example of the statements.
-/
import Derived.Test.YtjkninldenoanaaProfRefC
import Derived.Test.YtjkninldenoanaaProfRefD
import Derived.Test.YtjkninldenoanaaStepRefS
namespace Go.Proofs.Ytjkninldenoanaa.ProfWalk
open Go.RowKit Go.Proofs.Ytjkninldenoanaa.SpanPlain Go.Proofs.Ytjkninldenoanaa.StepPlain Go.Proofs.Ytjkninldenoanaa.ProfPlain Go.Proofs.Ytjkninldenoanaa.Mem Go.Proofs.Ytjkninldenoanaa.SpanMem Go.Proofs.Ytjkninldenoanaa.StepMem Go.Proofs.Ytjkninldenoanaa.SpanRef Go.Proofs.Ytjkninldenoanaa.StepRef Go.Proofs.Ytjkninldenoanaa.ProfRef

/-- A pointer to block g. -/
def ptr (g : Nat) : Value := .pointer (some ⟨g, 0, none⟩)
/-- Blocks that are there and not in G hold what they held. -/
structure Still (G : List Nat) (w w' : World) : Prop where
  os : w'.os = w.os
  tape : w'.tape = w.tape
  output : w'.output = w.output
  size : w.heap.size ≤ w'.heap.size
  block : ∀ i, i < w.heap.size → i ∉ G → w'.heap[i]? = w.heap[i]?
theorem Still.of_below {G : List Nat} {w w' : World} (h : Below w.heap.size w w') : Still G w w' := ⟨h.os, h.tape, h.output, h.size, fun i hi _ => h.block i hi⟩
theorem Still.of_grown {G : List Nat} {w w' : World} {g : Nat} (h : w.grownBy w' (some g)) (hg : g ∈ G) : Still G w w' :=
  ⟨h.os, h.tape, h.output, h.size, fun i hi hn => h.block i hi (fun e => hn (by cases e; exact hg))⟩
theorem Still.of_set {G : List Nat} (w : World) {p : Addr} (hp : p.block ∈ G) (u : Value) : Still G w (w.setCell p u) :=
  ⟨rfl, rfl, rfl, by simp [World.setCell], fun i _ hn => Below.heap_setCell w p u i (fun e => hn (e ▸ hp))⟩
theorem Still.trans {G : List Nat} {a b c : World} (h : Still G a b) (k : Still G b c) : Still G a c :=
  ⟨k.os.trans h.os, k.tape.trans h.tape, k.output.trans h.output, Nat.le_trans h.size k.size, fun i hi hg => (k.block i (Nat.lt_of_lt_of_le hi h.size) hg).trans (h.block i hi hg)⟩
theorem Still.mono {S G : List Nat} {w w' : World} (h : Still S w w') (hs : ∀ i ∈ S, i ∈ G) : Still G w w' := ⟨h.os, h.tape, h.output, h.size, fun i hi hg => h.block i hi (fun e => hg (hs i e))⟩
theorem trio_still {S : List Nat} {w w' : World} {n : Nat} {x y z : Value} (h : Trio w n x y z) (hs : Still S w w') (hn : n ∉ S) : Trio w' n x y z := h.of_block (Nat.lt_of_lt_of_le h.lt hs.size) (hs.block n h.lt hn)
theorem below_still {S : List Nat} {B : Nat} {a w w' : World} (h : Below B a w) (hs : Still S w w') (hS : ∀ i ∈ S, B ≤ i) (hw : B ≤ w.heap.size) : Below B a w' :=
  h.trans ⟨hs.os, hs.tape, hs.output, hs.size, fun i hi => hs.block i (by omega) (fun e => by have := hS i e; omega)⟩
/-- A slice of busy times none of whose memory is in G. -/
def BusyAt (G : List Nat) (l : List By) (w : World) (v : Value) : Prop := BusyIs l w v ∧ (l ≠ [] → ∀ a n c, v = .slice (some a) n c → a.block ∉ G)
theorem BusyAt.nil {G : List Nat} {w : World} : BusyAt G [] w (.slice none 0 0) := ⟨.inl ⟨rfl, rfl⟩, fun h => absurd rfl h⟩
theorem BusyAt.still {S G : List Nat} {l : List By} {w w' : World} {v : Value} (h : BusyAt G l w v) (hs : Still S w w') (hS : ∀ i ∈ S, i ∈ G) : BusyAt G l w' v := by
  obtain ⟨h1, h2⟩ := h
  refine ⟨?_, h2⟩
  rcases h1 with h1 | ⟨a, c, e, hr⟩
  · exact .inl h1
  · by_cases hl : l = []
    · subst hl
      exact .inr ⟨a, c, e, fun j u hu => by simp [bvals] at hu⟩
    · refine .inr ⟨a, c, e, fun j u hu => ⟨Nat.lt_of_lt_of_le (hr j u hu).1 hs.size, ?_⟩⟩
      have h3 := hr j u hu
      have h4 : w'.heap[(a.add j).block]? = w.heap[(a.add j).block]? := by rw [add_block]; exact hs.block _ h3.1 (fun hi => h2 hl a _ c e (hS _ hi))
      exact (World.cell?_of_block h4).trans h3.2
theorem busy_lt {l : List By} {w : World} {a : Addr} {n c : Nat} (h : BusyIs l w (.slice (some a) n c)) (hl : l ≠ []) : a.block < w.heap.size := by
  rcases h with ⟨h, _⟩ | ⟨b, k, e, hr⟩
  · cases h
  · injection e with e
    injection e with e
    subst e
    cases l with
    | nil => exact absurd rfl hl
    | cons b l => exact (hr 0 (.int .i64 b.1) rfl).1
theorem BusyAt.more {G : List Nat} {l : List By} {w : World} {v : Value} {n : Nat} (h : BusyAt G l w v) (hn : w.heap.size ≤ n) : BusyAt (n :: G) l w v :=
  ⟨h.1, fun hl a m c e hm => by
    rcases List.mem_cons.1 hm with hm | hm
    · have h1 := h.1
      rw [e] at h1
      have := busy_lt h1 hl
      omega
    · exact h.2 hl a m c e hm⟩

def TrueIs (w : World) (e : Ending) (w' : World) : Prop := e = .returned (.bool true) ∧ Below w.heap.size w w'
def IntB (n : Int) (w : World) (e : Ending) (w' : World) : Prop := e = .returned (.int .i64 n) ∧ Below w.heap.size w w'
def PairIs (n : Int) (b : Bool) (w : World) (e : Ending) (w' : World) : Prop := e = .returned (.tuple #[.int .i64 n, .bool b]) ∧ Below w.heap.size w w'
/-- Free: is there a number, and which. -/
def freeB (x : Prof) (t : Int) : Bool := decide (x.t ≤ t) && decide (t < 4503599627370496)
def freeN (x : Prof) (t : Int) : Int := if freeB x t then freeL x.p x.l t else 0
/-- Least: is there a number, and which. -/
def leastB (x : Prof) (s : Sp) : Bool := mayB s && decide (x.t ≤ s.1)
def leastN (x : Prof) (s : Sp) : Int := if leastB x s then lowTo (freeL x.p x.l) s (within x.l s) (within x.l s).length else 0
/-- A slice of steps none of whose memory is in G. -/
def Off (G : List Nat) (v : Value) : Prop := ∀ a n c, v = .slice (some a) n c → a.block ∉ G
theorem spans_still {G : List Nat} {l : List Sp} {w w' : World} {v : Value} (h : SpansIs l w v) (ho : Off G v) (hs : Still G w w') : SpansIs l w' v := by
  rcases h with h | ⟨a, c, e, hr, hc⟩
  · exact .inl h
  · refine .inr ⟨a, c, e, fun j u hu => ⟨Nat.lt_of_lt_of_le (hr j u hu).1 hs.size, ?_⟩, hc⟩
    have h3 := hr j u hu
    have h4 : w'.heap[(a.add j).block]? = w.heap[(a.add j).block]? := by rw [add_block]; exact hs.block _ h3.1 (ho a _ c e)
    exact (World.cell?_of_block h4).trans h3.2
def StepsSays (G : List Nat) (x : Prof) (w : World) (e : Ending) (w' : World) : Prop := ∃ v, e = .returned v ∧ SpansIs (stepsL x) w' v ∧ Off G v ∧ Below w.heap.size w w'
def NoSteps (w : World) (e : Ending) (w' : World) : Prop := ∃ v, e = .returned v ∧ SpansIs [] w' v ∧ Below w.heap.size w w'
def NilIs (w : World) (e : Ending) (w' : World) : Prop := e = .returned (.pointer none) ∧ Below w.heap.size w w'
def newB (p t : Int) : Bool := decide (1 ≤ p) && decide (p ≤ 256) && decide (0 ≤ t) && decide (t ≤ 1125899906842624)
def MoveIs (x : Prof) (t : Int) (y : Prof) (c : Int) : Prop := ((t < x.t ∨ 1125899906842624 < t) ∧ y = x ∧ c = 1) ∨ (¬ (t < x.t ∨ 1125899906842624 < t) ∧ y = ⟨x.p, t, x.l⟩ ∧ c = 0)
theorem MoveIs.unique {x y z : Prof} {t c d : Int} (a : MoveIs x t y c) (e : MoveIs x t z d) : y = z ∧ c = d := by
  rcases a with ⟨a1, rfl, rfl⟩ | ⟨a1, rfl, rfl⟩ <;> rcases e with ⟨e1, rfl, rfl⟩ | ⟨e1, rfl, rfl⟩
  · exact ⟨rfl, rfl⟩
  · exact absurd a1 e1
  · exact absurd e1 a1
  · exact ⟨rfl, rfl⟩
theorem MoveIs.fair {x y : Prof} {t c : Int} (h : MoveIs x t y c) (hx : x.Fair) : y.Fair := by
  rcases h with ⟨_, rfl, _⟩ | ⟨h1, rfl, _⟩
  · exact hx
  · have := hx.t1
    exact ⟨hx.p1, hx.p2, by dsimp only; omega, by dsimp only; omega, hx.done, fun u hu => hx.free u (by dsimp only at hu; omega)⟩
/-- What turns: block g alone; what is told; what the profile is behind it. -/
def Turns (Is : List Nat → Prof → World → Nat → Prop) (R : Prof → Int → Prop) (G : List Nat) (g : Nat) (w : World) (e : Ending) (w' : World) : Prop :=
  ∃ y c, e = .returned (.int .i64 c) ∧ R y c ∧ Is G y w' g ∧ w.grownBy w' (some g)
def NewSays (Is : List Nat → Prof → World → Nat → Prop) (G : List Nat) (p t : Int) (w : World) (e : Ending) (w' : World) : Prop :=
  ((newB p t = false ∧ e = .returned (.tuple #[.pointer none, .int .i64 1])) ∨ (newB p t = true ∧ ∃ g, w.heap.size ≤ g ∧ e = .returned (.tuple #[ptr g, .int .i64 0]) ∧ Is (g :: G) ⟨p, t, []⟩ w' g)) ∧ Below w.heap.size w w'
def CopySays (Is : List Nat → Prof → World → Nat → Prop) (G : List Nat) (x : Prof) (w : World) (e : Ending) (w' : World) : Prop :=
  ∃ h, w.heap.size ≤ h ∧ e = .returned (ptr h) ∧ Is (h :: G) x w' h ∧ Below w.heap.size w w'
theorem Prof.Fair.ok {x : Prof} (h : x.Fair) (hl : x.l.length ≤ 300) : Prof.Ok x := ⟨by have := h.p1; omega, h.p2, h.done, hl⟩
theorem steps_len {x : Prof} (hl : x.l.length ≤ 60) : (stepsL x).length ≤ 700 := by
  have h1 := build_len (freeL x.p x.l) (turnsL x.t x.l)
  have h2 := turns_len2 x.t x.l
  unfold stepsL
  omega
theorem new_fair {p t : Int} (h : newB p t = true) : (⟨p, t, []⟩ : Prof).Fair := by
  unfold newB at h
  simp only [Bool.and_eq_true, decide_eq_true_eq] at h
  obtain ⟨⟨⟨h1, h2⟩, h3⟩, h4⟩ := h
  exact ⟨h1, h2, h3, h4, fun b hb => (by cases hb), fun u _ => by
    have e : freeL p [] u = p := rfl
    dsimp only
    rw [e]
    omega⟩
end Go.Proofs.Ytjkninldenoanaa.ProfWalk
