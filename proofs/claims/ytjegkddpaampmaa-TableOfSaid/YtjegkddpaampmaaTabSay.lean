/-
  What layer 11's functions answer: the posts that the law texts name; lists none of whose memory a table owns.
-/
import Derived.Test.YtjegkddpaampmaaTabRefD
import Derived.Test.YtjegkddpaampmaaBoxed
namespace Go.Proofs.Ytjegkddpaampmaa.TabWalk
open Go.RowKit Go.Proofs.Ytjegkddpaampmaa.JobPlain Go.Proofs.Ytjegkddpaampmaa.OrdPlain Go.Proofs.Ytjegkddpaampmaa.TabPlain Go.Proofs.Ytjegkddpaampmaa.Mem Go.Proofs.Ytjegkddpaampmaa.JobMem Go.Proofs.Ytjegkddpaampmaa.OrdMem Go.Proofs.Ytjegkddpaampmaa.OrdRef Go.Proofs.Ytjegkddpaampmaa.TabRef
def TrueIs (w : World) (e : Ending) (w' : World) : Prop := e = .returned (.bool true) ∧ Below w.heap.size w w'
def IntT (n : Int) (w : World) (e : Ending) (w' : World) : Prop := e = .returned (.int .i64 n) ∧ Below w.heap.size w w'
def ValT (x : Value) (w : World) (e : Ending) (w' : World) : Prop := e = .returned x ∧ Below w.heap.size w w'
def NilT (w : World) (e : Ending) (w' : World) : Prop := ∃ A c, e = .returned (.slice A 0 c) ∧ Below w.heap.size w w'
/-- A table's jobs: they may be, their Ids rise, and not too many are live. -/
structure TableOk (l : List Jb) : Prop where
  may : ∀ j ∈ l, mayJ j = true
  rise : l.Pairwise fun a b => a.id < b.id
  live : liveN l ≤ 100
/-- What Get tells. -/
def getJ (l : List Jb) (id : Int) : Jb := if 0 ≤ findL l id then atI l (findL l id) else noJb
section
variable (Tab : List Nat → List Jb → World → Value → Prop)
def NewSays (w : World) (e : Ending) (w' : World) : Prop := ∃ v O, e = .returned v ∧ Tab O [] w' v ∧ (∀ i ∈ O, w.heap.size ≤ i) ∧ Below w.heap.size w w'
def ofErr (l : List Jb) : Int := if (l.all mayJ && decide (l.Pairwise fun a b => a.id < b.id)) = true then (if 100 < liveN l then 4 else 0) else 1
def OfSays (l : List Jb) (w : World) (e : Ending) (w' : World) : Prop := ∃ v O, e = .returned (.tuple #[v, .int .i64 (ofErr l)]) ∧ ((ofErr l = 0 ∧ (∃ g, v = .pointer (some g)) ∧ Tab O l w' v) ∨ (ofErr l ≠ 0 ∧ v = .pointer none)) ∧ (∀ i ∈ O, w.heap.size ≤ i) ∧ Below w.heap.size w w'
/-- A method's answer x, and what it leaves. -/
def Acts (O : List Nat) (l' : List Jb) (v : Value) (w : World) (x : Value) (e : Ending) (w' : World) : Prop := ∃ O', e = .returned x ∧ Tab O' l' w' v ∧ Owns O O' w ∧ Spare O w w'
/-- A method's answer, jobs in new memory that the table does not own. -/
def ActsList (O : List Nat) (l' : List Jb) (v : Value) (w : World) (r : List Jb) (e : Ending) (w' : World) : Prop := ∃ O' u, e = .returned u ∧ JobsIs r w' u ∧ (∀ a n c, u = .slice (some a) n c → w.heap.size ≤ a.block ∧ a.block ∉ O') ∧ Tab O' l' w' v ∧ Owns O O' w ∧ Spare O w w'
end
/-- Jobs none of whose memory is in O. -/
def JobsOff (O : List Nat) (l : List Jb) (w : World) (v : Value) : Prop := JobsIs l w v ∧ (l ≠ [] → ∀ a n c, v = .slice (some a) n c → a.block ∉ O)
theorem jvals_ne {l : List Jb} (h : l ≠ []) : jvals l ≠ [] := by
  cases l with
  | nil => exact absurd rfl h
  | cons j l => simp [jvals, jobC]
theorem jobs_lt {l : List Jb} {w : World} {a : Addr} {n c : Nat} (h : JobsIs l w (.slice (some a) n c)) (hl : l ≠ []) : a.block < w.heap.size := by
  rcases h with ⟨h, _⟩ | ⟨b, k, e, hr, _⟩
  · cases h
  · injection e with e
    injection e with e
    subst e
    cases l with
    | nil => exact absurd rfl hl
    | cons j l => exact (hr 0 (.int .i64 j.id) rfl).1
theorem JobsOff.spare {O : List Nat} {l : List Jb} {w w' : World} {v : Value} (h : JobsOff O l w v) (hs : Spare O w w') : JobsIs l w' v := by
  obtain ⟨h1, h2⟩ := h
  rcases h1 with h1 | ⟨a, c, e, hr, hc⟩
  · exact .inl h1
  · refine .inr ⟨a, c, e, Raw.spare hr hs (fun hx => h2 (fun hl => hx (by subst hl; rfl)) a _ c e), hc⟩
theorem JobsOff.next {O O' : List Nat} {l : List Jb} {w w' : World} {v : Value} (h : JobsOff O l w v) (hs : Spare O w w') (ho : Owns O O' w) : JobsOff O' l w' v := by
  refine ⟨h.spare hs, fun hl a n c e hm => ?_⟩
  subst e
  rcases ho _ hm with h1 | h1
  · exact h.2 hl a n c rfl h1
  · have := jobs_lt h.1 hl; omega
theorem JobsOff.below {O : List Nat} {l : List Jb} {w w' : World} {v : Value} (h : JobsOff O l w v) (hb : Below w.heap.size w w') : JobsOff O l w' v := ⟨h.1.below hb, h.2⟩
theorem JobsOff.fresh {O : List Nat} {l : List Jb} {w w' : World} {v : Value} (h : JobsIs l w' v) (hf : FreshJ w.heap.size v) (hO : ∀ i ∈ O, i < w.heap.size) : JobsOff O l w' v := ⟨h, fun _ a n c e hm => by have := hf a n c e; have := hO _ hm; omega⟩
theorem JobsOff.elder {O : List Nat} {l : List Jb} {w w' : World} {v : Value} (h : JobsIs l w v) (hb : Below w.heap.size w w') (hO : ∀ i ∈ O, w.heap.size ≤ i) : JobsOff O l w' v := ⟨h.below hb, fun hl a n c e hm => by subst e; have := jobs_lt h hl; have := hO _ hm; omega⟩
end Go.Proofs.Ytjegkddpaampmaa.TabWalk
