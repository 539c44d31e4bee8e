/-
  What the theorem uses of the texts below it.
-/
import Derived.Below
import Derived.Laws.OwnMore
import Derived.Deep.Draws
import Derived.Deep.OwnRows
import Derived.Lib.Hide
import Derived.OwnWalk
import Derived.Deep.QuietTactic
import Derived.BigQuiet
import Derived.Lib.SliceRun
import Derived.Test.YtjjigkomiidipaaRows
import Derived.WalkKit
import Derived.WalkSpells
import Derived.WalkLawsBesides
import Derived.Laws.StructEq
import Derived.LoopTactic
import Derived.Deep.CutBlock
import Derived.Deep.DeepCutAuto
import Derived.Deep.RegionHeld3
import Derived.ArgAppend
import Derived.Deep.RegionLaw
import Derived.Test.YtjjigkomiidipaaPa2
namespace Go.Proofs.Ytjjigkomiidipaa.SlaPlain
open Go.Proofs.Ytjjigkomiidipaa.SpanPlain Go.Proofs.Ytjjigkomiidipaa.StepPlain Go.Proofs.Ytjjigkomiidipaa.GapPlain Go.Proofs.Ytjjigkomiidipaa.JobPlain Go.Proofs.Ytjjigkomiidipaa.OrdPlain Go.Proofs.Ytjjigkomiidipaa.ApiPlain Go.Proofs.Ytjjigkomiidipaa.ShaPlain
/-- The steps with a job laid from a time on, as a function. -/
def layL (s : List Sp) (a : Int) (j : Jb) : List Sp := buildL (addF s (runS a j) (-j.width)) (addEnds s (runS a j))
theorem layL_is {s : List Sp} {a : Int} {j : Jb} (h : okG s a j.width j.est = true) : AddIs s (runS a j) (-j.width) (layL s a j) := by
  obtain ⟨hc, _, _, _, _, _, hx, hnb, hno⟩ := room_may h
  refine add_done hnb fun e he => ?_
  have h1 := ((keep_iff hc).1 (List.mem_filter.1 he).2).1
  by_cases hh : 0 ≤ addF s (runS a j) (-j.width) e ∧ addF s (runS a j) (-j.width) e ≤ 256
  · exact hh
  · exact absurd ⟨e, h1, hh⟩ hno
theorem layL_of {s r : List Sp} {a : Int} {j : Jb} (h : okG s a j.width j.est = true) (hr : AddIs s (runS a j) (-j.width) r) : r = layL s a j := AddIs.unique hr (layL_is h)
theorem layL_len {s : List Sp} {a : Int} {j : Jb} (h : okG s a j.width j.est = true) : (layL s a j).length ≤ s.length + 3 := add_len (layL_is h)
theorem layL_chk {s : List Sp} {a : Int} {j : Jb} (h : okG s a j.width j.est = true) : Chk (layL s a j) ∧ head (layL s a j) = head s := by
  obtain ⟨h1, h2, _⟩ := lay_rep h (layL_is h)
  exact ⟨h1, h2⟩
/-- The least time with room, as a function; -1: none. -/
def fitF (s : List Sp) (now : Int) (j : Jb) : Int := if mayG s j.width j.est = true then fitL s now j.width j.est else -1
theorem fitStepNeg {s : List Sp} {f w n : Int} : ∀ {l : List Sp}, (∀ y ∈ l, 0 ≤ y.1) → 0 ≤ fitStep s f w n l ∨ fitStep s f w n l = -1
  | [], _ => .inr rfl
  | y :: l, h => by
    unfold fitStep
    split
    · exact .inl (h y (List.mem_cons_self ..))
    · exact fitStepNeg fun z hz => h z (List.mem_cons_of_mem _ hz)
theorem fitF_cases (s : List Sp) (now : Int) (j : Jb) : (fitF s now j = -1 ∧ FitIs s now j.width j.est 0 false) ∨ (0 ≤ fitF s now j ∧ FitIs s now j.width j.est (fitF s now j) true) := by
  unfold fitF
  cases hm : mayG s j.width j.est with
  | false => exact .inl ⟨rfl, .inr ⟨rfl, rfl, .inl hm⟩⟩
  | true =>
    rw [if_pos rfl]
    obtain ⟨hc, _, _, _⟩ := mayG_iff.1 hm
    have hlo := hc.lo
    have hge := hc.ge
    obtain ⟨h1, h2⟩ := fit_spec (f := now) hm
    have hn : 0 ≤ fitL s now j.width j.est ∨ fitL s now j.width j.est = -1 := by
      unfold fitL
      split
      · exact .inr rfl
      · split
        · exact .inl (by omega)
        · exact fitStepNeg fun y hy => by have := hge y hy; omega
    rcases hn with hn | hn
    · exact .inr ⟨hn, h1 hn⟩
    · exact .inl ⟨hn, h2 (by omega)⟩
theorem fitF_ok {s : List Sp} {now : Int} {j : Jb} (h : 0 ≤ fitF s now j) : okG s (fitF s now j) j.width j.est = true ∧ now ≤ fitF s now j ∧ fitF s now j ≤ 1125899906842624 := by
  rcases fitF_cases s now j with ⟨h1, _⟩ | ⟨_, h1⟩
  · omega
  · rcases h1 with ⟨_, hm, hge, hr, _⟩ | ⟨h, _⟩
    · exact ⟨okG_iff.2 ⟨hm, hr⟩, hge, hr.2.1⟩
    · cases h
/-- A promise that gave way. -/
structure Shift (p q : Prm) : Prop where
  id : q.id = p.id
  later : p.at_ ≤ q.at_
  sum : q.at_ + q.slack = p.at_ + p.slack
  left : 0 ≤ q.slack
theorem Shift.trans {p q r : Prm} (a : Shift p q) (b : Shift q r) : Shift p r := ⟨b.id.trans a.id, Int.le_trans a.later b.later, b.sum.trans a.sum, b.left⟩
inductive All2 : List Prm → List Prm → Prop
  | nil : All2 [] []
  | cons {p q : Prm} {l m : List Prm} : Shift p q → All2 l m → All2 (p :: l) (q :: m)
theorem All2.trans {l m n : List Prm} (a : All2 l m) (b : All2 m n) : All2 l n := by
  induction a generalizing n with
  | nil => cases b; exact .nil
  | cons h _ ih => cases b with | cons g r => exact .cons (h.trans g) (ih r)
theorem All2.len {l m : List Prm} (a : All2 l m) : l.length = m.length := by
  induction a with
  | nil => rfl
  | cons _ _ ih => simp [ih]
theorem All2.filter {l m : List Prm} (a : All2 l m) (f : Int → Bool) : All2 (l.filter fun p => f p.id) (m.filter fun p => f p.id) := by
  induction a with
  | nil => exact .nil
  | @cons p q l m h _ ih =>
    rw [List.filter_cons, List.filter_cons, h.id]
    split
    · exact .cons h ih
    · exact ih
theorem All2.slack {l m : List Prm} (a : All2 l m) : ∀ q ∈ m, 0 ≤ q.slack := by
  induction a with
  | nil => intro q hq; cases hq
  | cons h _ ih =>
    intro q hq
    rcases List.mem_cons.1 hq with rfl | hq
    · exact h.left
    · exact ih q hq
end Go.Proofs.Ytjjigkomiidipaa.SlaPlain
namespace Go.Proofs.Ytjjigkomiidipaa.Mem
open Go.RowKit
/-- Block n is there, its first cells hold l, and they may be written. -/
structure Boxed (w : World) (n : Nat) (l : List Value) : Prop where
  lt : n < w.heap.size
  c : ∀ (i : Nat) (u : Value), l[i]? = some u → w.cell? ⟨n, i, none⟩ = some u
  f : ∀ (i : Nat) (u : Value), l[i]? = some u → w.frozen? ⟨n, i, none⟩ = false
section
variable {w w' : World} {n : Nat} {l : List Value}
theorem Boxed.new (w : World) (a : Array Value) (T : TypeId) : Boxed (w.alloc (.cells a T)) w.heap.size a.toList :=
  ⟨by simp, fun i u h => by have := (Raw.alloc w a T i u h).2; rwa [add_flat] at this, fun _ _ _ => World.frozen?_alloc_new _ _ _ _⟩
end
end Go.Proofs.Ytjjigkomiidipaa.Mem
namespace Go.Proofs.Ytjjigkomiidipaa.Mem
open Go.RowKit
/-- Of the elder blocks none but those of O. -/
def Owns (O O' : List Nat) (w : World) : Prop := ∀ i ∈ O', i ∈ O ∨ w.heap.size ≤ i
section
variable {O O' : List Nat} {w w' w2 : World}
theorem Owns.refl (O : List Nat) (w : World) : Owns O O w := fun _ hi => .inl hi
end
end Go.Proofs.Ytjjigkomiidipaa.Mem
namespace Go.Proofs.Ytjjigkomiidipaa.Mem
open Go.RowKit
/-- How a thing lies in cells. -/
structure Lay (α : Type) where
  k : Nat
  cs : α → List Value
  len : ∀ x, (cs x).length = k
  one : ∀ x, ∀ u ∈ cs x, u.oneCell' = true
  pos : 0 < k
section
variable {α : Type} (L : Lay α)
def Lay.vals (l : List α) : List Value := l.flatMap L.cs
theorem Lay.cons (x : α) (l : List α) : L.vals (x :: l) = L.cs x ++ L.vals l := rfl
theorem Lay.snoc (l : List α) (x : α) : L.vals (l ++ [x]) = L.vals l ++ L.cs x := by simp [Lay.vals]
theorem Lay.vals_len (l : List α) : (L.vals l).length = l.length * L.k := by
  induction l with
  | nil => simp [Lay.vals]
  | cons s l ih => rw [L.cons, List.length_append, ih, L.len, List.length_cons, Nat.add_mul]; omega
theorem Lay.cell (l : List α) : ∀ u ∈ L.vals l, u.oneCell' = true := by
  intro u hu
  obtain ⟨s, _, h⟩ := List.mem_flatMap.1 hu
  exact L.one s u h
theorem Lay.vals_at (l : List α) : ∀ i (hi : i < l.length) (f : Nat), f < L.k → (L.vals l)[i * L.k + f]? = (L.cs l[i])[f]? := by
  induction l with
  | nil => intro i h; simp at h
  | cons s l ih =>
    intro i h f hf
    rw [L.cons]
    cases i with
    | zero => rw [Nat.zero_mul, Nat.zero_add, List.getElem?_append_left (by rw [L.len]; exact hf)]; rfl
    | succ i =>
      rw [Nat.add_mul, Nat.one_mul, List.getElem?_append_right (by rw [L.len]; omega), L.len, show i * L.k + L.k + f - L.k = i * L.k + f by omega, ih i (by simpa using h) f hf]
      rfl
/-- A slice of such things, nil let in. -/
def Lay.Is (l : List α) (w : World) (v : Value) : Prop := (v = .slice none 0 0 ∧ l = []) ∨ ∃ a c, v = .slice (some a) l.length c ∧ Raw w a (L.vals l) ∧ l.length ≤ c
/-- A thing's cells from a place on. -/
structure Lay.At (w : World) (p : Addr) (x : α) : Prop where
  lt : p.block < w.heap.size
  c0 : ∀ u, (L.cs x)[0]? = some u → w.cell? p = some u
  c : ∀ f u, 0 < f → (L.cs x)[f]? = some u → w.cell? ⟨p.block, p.off + f, none⟩ = some u
end
theorem add_over (a : Addr) (k f : Nat) (hf : 0 < f) : a.add (k + f) = ⟨(a.add k).block, (a.add k).off + f, none⟩ := by
  unfold Addr.add
  by_cases h0 : k = 0
  · subst h0; simp; omega
  · simp [h0, Nat.add_assoc]
section
variable {α : Type} {L : Lay α} {l : List α} {w w' : World} {v : Value}
theorem Lay.at_ {a : Addr} (h : Raw w a (L.vals l)) {i : Nat} (hi : i < l.length) : L.At w (a.add (i * L.k)) l[i] := by
  have hat : ∀ f u, (L.cs l[i])[f]? = some u → a.block < w.heap.size ∧ w.cell? (a.add (i * L.k + f)) = some u := fun f u hu => by
    have hf : f < L.k := by
      have := (List.getElem?_eq_some_iff.1 hu).1
      rwa [L.len] at this
    exact h _ u ((L.vals_at l i hi f hf).trans hu)
  have hlt : a.block < w.heap.size := by
    have h0 : (L.cs l[i])[0]? = some ((L.cs l[i])[0]'(by rw [L.len]; exact L.pos)) := List.getElem?_eq_getElem _
    exact (hat 0 _ h0).1
  refine ⟨by rw [add_block]; exact hlt, fun u hu => (hat 0 u hu).2, fun f u h1 hu => ?_⟩
  have := (hat f u hu).2
  rwa [add_over a _ f h1] at this
theorem Lay.Is.open_ (h : L.Is l w v) : ∃ A c, v = .slice A l.length c ∧ l.length ≤ c ∧ ∀ i (hi : i < l.length), ∃ a, A = some a ∧ L.At w (a.add (i * L.k)) l[i] := by
  rcases h with ⟨rfl, rfl⟩ | ⟨a, c, e, hr, hn⟩
  · exact ⟨none, 0, rfl, Nat.le_refl _, fun i hi => absurd hi (Nat.not_lt_zero _)⟩
  · exact ⟨some a, c, e, hn, fun i hi => ⟨a, rfl, Lay.at_ hr hi⟩⟩
theorem Lay.Is.own {base n : Nat} {e : TypeId} (h : OwnN e L.k base w v n (L.vals l)) (hn : n = l.length) : L.Is l w v := by
  subst hn
  rcases h.form with ⟨h1, h2, _⟩ | ⟨g, c, hv, _, _, hn, _, hr, _⟩
  · exact .inl ⟨h1, List.eq_nil_of_length_eq_zero h2⟩
  · exact .inr ⟨_, c, hv, hr, hn⟩
theorem Lay.raw_of {a : Addr} (h : ∀ i x, l[i]? = some x → a.block < w.heap.size ∧ ∀ f u, (L.cs x)[f]? = some u → w.cell? (a.add (i * L.k + f)) = some u) : Raw w a (L.vals l) := by
  intro q u hu
  have hk := L.pos
  have hq : q < l.length * L.k := by
    have := (List.getElem?_eq_some_iff.1 hu).1
    rwa [L.vals_len] at this
  have hi : q / L.k < l.length := Nat.div_lt_of_lt_mul (by rw [Nat.mul_comm]; exact hq)
  have hf : q % L.k < L.k := Nat.mod_lt _ hk
  have e : q = q / L.k * L.k + q % L.k := by rw [Nat.mul_comm]; exact (Nat.div_add_mod q L.k).symm
  obtain ⟨h1, h2⟩ := h (q / L.k) l[q / L.k] (by simp [hi])
  refine ⟨h1, ?_⟩
  rw [e] at hu ⊢
  rw [L.vals_at l (q / L.k) hi (q % L.k) hf] at hu
  exact h2 _ _ hu
end
theorem list_by {α : Type} {P : Nat → α → Prop} : ∀ n : Nat, (∀ i, i < n → ∃ s, P i s) → ∃ l : List α, l.length = n ∧ ∀ i s, l[i]? = some s → P i s := by
  intro n
  induction n with
  | zero => intro _; exact ⟨[], rfl, fun i s h => by simp at h⟩
  | succ n ih =>
    intro h
    obtain ⟨l, hl, hp⟩ := ih fun i hi => h i (by omega)
    obtain ⟨s, hs⟩ := h n (by omega)
    refine ⟨l ++ [s], by simp [hl], fun i x hx => ?_⟩
    rcases Nat.lt_trichotomy i n with hi | hi | hi
    · rw [List.getElem?_append_left (by omega)] at hx; exact hp i x hx
    · subst hi
      rw [List.getElem?_append_right (by omega), hl, Nat.sub_self] at hx
      simp at hx
      subst hx; exact hs
    · rw [List.getElem?_append_right (by omega)] at hx
      have : i - l.length = i - l.length - 1 + 1 := by omega
      rw [this] at hx
      simp at hx
end Go.Proofs.Ytjjigkomiidipaa.Mem
namespace Go.Proofs.Ytjjigkomiidipaa.ApiMem
open Go.RowKit Go.Proofs.Ytjjigkomiidipaa.ApiPlain Go.Proofs.Ytjjigkomiidipaa.Mem
def prmC (x : Prm) : List Value := [.int .i64 x.id, .int .i64 x.at_, .int .i64 x.slack] -- 48
theorem prmC_cell (x : Prm) : ∀ u ∈ prmC x, u.oneCell' = true := by -- 48
  intro u hu
  simp [prmC] at hu
  rcases hu with rfl | rfl | rfl <;> rfl
def prmL : Lay Prm := ⟨3, prmC, fun _ => rfl, prmC_cell, by decide⟩ -- 48
theorem prm_t : ElemT Try.prog 42 48 3 24 := ElemT.mk_ (.agg #[.int .i64 0, .int .i64 0, .int .i64 0]) Try.underlying42 (by kernel_rfl) rfl (by decide) (by decide)
structure PrmAt (w : World) (p : Addr) (x : Prm) : Prop where -- 48
  lt : p.block < w.heap.size
  c0 : w.cell? p = some (.int .i64 x.id)
  c1 : w.cell? ⟨p.block, p.off + 1, none⟩ = some (.int .i64 x.at_)
  c2 : w.cell? ⟨p.block, p.off + 2, none⟩ = some (.int .i64 x.slack)
theorem PrmAt.below {w w' : World} {p : Addr} {x : Prm} (h : PrmAt w p x) (hb : Below w.heap.size w w') : PrmAt w' p x := by -- 48
  have hc : ∀ o, w'.cell? ⟨p.block, o, none⟩ = w.cell? ⟨p.block, o, none⟩ := fun o => hb.cell (p := ⟨p.block, o, none⟩) h.lt
  exact ⟨Nat.lt_of_lt_of_le h.lt hb.size, (hb.cell h.lt).trans h.c0, (hc _).trans h.c1, (hc _).trans h.c2⟩
theorem PrmAt.of {w : World} {p : Addr} {x : Prm} (h : prmL.At w p x) : PrmAt w p x := ⟨h.lt, h.c0 _ rfl, h.c 1 _ (by decide) rfl, h.c 2 _ (by decide) rfl⟩ -- 48
theorem prms_open {l : List Prm} {w : World} {v : Value} (h : prmL.Is l w v) : ∃ A c, v = .slice A l.length c ∧ l.length ≤ c ∧ ∀ i (hi : i < l.length), ∃ a, A = some a ∧ PrmAt w (a.add (i * 3)) l[i] := by -- 48
  obtain ⟨A, c, e, hn, hat⟩ := h.open_
  exact ⟨A, c, e, hn, fun i hi => by
    obtain ⟨a, ea, h1⟩ := hat i hi
    exact ⟨a, ea, PrmAt.of h1⟩⟩
def ratC (x : Rto) : List Value := [.int .i64 x.num, .int .i64 x.den] -- 25
def ratV (x : Rto) : Value := .agg #[.int .i64 x.num, .int .i64 x.den] -- 25
end Go.Proofs.Ytjjigkomiidipaa.ApiMem
namespace Go.Proofs.Ytjjigkomiidipaa.JobMem
open Go.RowKit Go.Proofs.Ytjjigkomiidipaa.JobPlain Go.Proofs.Ytjjigkomiidipaa.Mem
def jobA (j : Jb) : Array Value := #[.int .i64 j.id, .string j.user, .int .i64 j.width, .int .i64 j.est, .int .i64 j.prio, .int .i64 j.sub, .int .i64 j.state, .int .i64 j.start, .int .i64 j.fin]
def jobV (j : Jb) : Value := .agg (jobA j)
/-- The box of a job: nine cells. -/
structure JobBox (w : World) (n : Nat) (j : Jb) : Prop where
  lt : n < w.heap.size
  c0 : w.cell? ⟨n, 0, none⟩ = some (.int .i64 j.id)
  c1 : w.cell? ⟨n, 1, none⟩ = some (.string j.user)
  c2 : w.cell? ⟨n, 2, none⟩ = some (.int .i64 j.width)
  c3 : w.cell? ⟨n, 3, none⟩ = some (.int .i64 j.est)
  c4 : w.cell? ⟨n, 4, none⟩ = some (.int .i64 j.prio)
  c5 : w.cell? ⟨n, 5, none⟩ = some (.int .i64 j.sub)
  c6 : w.cell? ⟨n, 6, none⟩ = some (.int .i64 j.state)
  c7 : w.cell? ⟨n, 7, none⟩ = some (.int .i64 j.start)
  c8 : w.cell? ⟨n, 8, none⟩ = some (.int .i64 j.fin)
  f0 : w.frozen? ⟨n, 0, none⟩ = false
  f1 : w.frozen? ⟨n, 1, none⟩ = false
  f2 : w.frozen? ⟨n, 2, none⟩ = false
  f3 : w.frozen? ⟨n, 3, none⟩ = false
  f4 : w.frozen? ⟨n, 4, none⟩ = false
  f5 : w.frozen? ⟨n, 5, none⟩ = false
  f6 : w.frozen? ⟨n, 6, none⟩ = false
  f7 : w.frozen? ⟨n, 7, none⟩ = false
  f8 : w.frozen? ⟨n, 8, none⟩ = false
section
variable {w w' : World} {n : Nat} {j : Jb}
theorem JobBox.of (h : Boxed w n (jobA j).toList) : JobBox w n j :=
  ⟨h.lt, h.c 0 _ rfl, h.c 1 _ rfl, h.c 2 _ rfl, h.c 3 _ rfl, h.c 4 _ rfl, h.c 5 _ rfl, h.c 6 _ rfl, h.c 7 _ rfl, h.c 8 _ rfl, h.f 0 _ rfl, h.f 1 _ rfl, h.f 2 _ rfl, h.f 3 _ rfl, h.f 4 _ rfl, h.f 5 _ rfl, h.f 6 _ rfl, h.f 7 _ rfl, h.f 8 _ rfl⟩
theorem JobBox.new (w : World) (j : Jb) (T : TypeId) : JobBox (w.alloc (.cells #[.int .i64 j.id, .string j.user, .int .i64 j.width, .int .i64 j.est, .int .i64 j.prio, .int .i64 j.sub, .int .i64 j.state, .int .i64 j.start, .int .i64 j.fin] T)) w.heap.size j := .of (Boxed.new w (jobA j) T)
theorem JobBox.of_block (h : JobBox w n j) (hs : n < w'.heap.size) (e : w'.heap[n]? = w.heap[n]?) : JobBox w' n j := by
  have hc : ∀ i, w'.cell? ⟨n, i, none⟩ = w.cell? ⟨n, i, none⟩ := fun i => World.cell?_of_block (a := ⟨n, i, none⟩) e
  have hf : ∀ i, w'.frozen? ⟨n, i, none⟩ = w.frozen? ⟨n, i, none⟩ := fun i => World.frozen?_of_block (a := ⟨n, i, none⟩) e
  exact ⟨hs, (hc 0).trans h.c0, (hc 1).trans h.c1, (hc 2).trans h.c2, (hc 3).trans h.c3, (hc 4).trans h.c4, (hc 5).trans h.c5, (hc 6).trans h.c6, (hc 7).trans h.c7, (hc 8).trans h.c8,
    (hf 0).trans h.f0, (hf 1).trans h.f1, (hf 2).trans h.f2, (hf 3).trans h.f3, (hf 4).trans h.f4, (hf 5).trans h.f5, (hf 6).trans h.f6, (hf 7).trans h.f7, (hf 8).trans h.f8⟩
theorem JobBox.below (h : JobBox w n j) (hb : Below w.heap.size w w') : JobBox w' n j := h.of_block (Nat.lt_of_lt_of_le h.lt hb.size) (hb.block n h.lt)
end
theorem JobBox.alloc {w : World} {n : Nat} {j : Jb} (h : JobBox w n j) (o : Obj) : JobBox (w.alloc o) n j := h.below ((Below.refl _ _).alloc (Nat.le_refl _) o)
/-- What is read of a job fits: its end does not run over. -/
def Fit (j : Jb) : Prop := -9223372036854775808 ≤ j.fin ∧ j.fin ≤ 9223372036854775807 ∧ j.user.size ≤ 9223372036854775807
end Go.Proofs.Ytjjigkomiidipaa.JobMem
namespace Go.Proofs.Ytjjigkomiidipaa.OrdMem
open Go.RowKit Go.Proofs.Ytjjigkomiidipaa.JobPlain Go.Proofs.Ytjjigkomiidipaa.OrdPlain Go.Proofs.Ytjjigkomiidipaa.Mem Go.Proofs.Ytjjigkomiidipaa.JobMem
theorem jobs_t : ElemT Try.prog 33 23 9 80 := ElemT.mk_ (.agg #[.int .i64 0, .string ⟨#[]⟩, .int .i64 0, .int .i64 0, .int .i64 0, .int .i64 0, .int .i64 0, .int .i64 0, .int .i64 0]) Try.underlying33 (by kernel_rfl) rfl (by decide) (by decide)
def jobC (j : Jb) : List Value := [.int .i64 j.id, .string j.user, .int .i64 j.width, .int .i64 j.est, .int .i64 j.prio, .int .i64 j.sub, .int .i64 j.state, .int .i64 j.start, .int .i64 j.fin]
def jvals (l : List Jb) : List Value := l.flatMap jobC
theorem jvals_append (l m : List Jb) : jvals (l ++ m) = jvals l ++ jvals m := by simp [jvals]
theorem jvals_len (l : List Jb) : (jvals l).length = l.length * 9 := by
  induction l with
  | nil => rfl
  | cons s l ih => simp only [jvals, List.flatMap_cons, List.length_append, List.length_cons] at *; rw [ih]; simp [jobC]; omega
theorem jobC_cell (j : Jb) : ∀ u ∈ jobC j, u.oneCell' = true := by
  intro u hu
  simp [jobC] at hu
  rcases hu with rfl | rfl | rfl | rfl | rfl | rfl | rfl | rfl | rfl <;> rfl
theorem jvals_at (l : List Jb) : ∀ i (hi : i < l.length) (f : Nat), f < 9 → (jvals l)[i * 9 + f]? = (jobC l[i])[f]? := by
  induction l with
  | nil => intro i h; simp at h
  | cons s l ih =>
    intro i h f hf
    have e : jvals (s :: l) = jobC s ++ jvals l := rfl
    rw [e]
    cases i with
    | zero =>
      rw [Nat.zero_mul, Nat.zero_add, List.getElem?_append_left (by simp [jobC]; omega)]
      rfl
    | succ i =>
      rw [List.getElem?_append_right (by simp [jobC]; omega)]
      have h1 := ih i (by simpa using h) f hf
      rw [show (i + 1) * 9 + f - (jobC s).length = i * 9 + f by simp [jobC]; omega, h1]
      rfl
/-- A slice of jobs, nil let in. -/
def JobsIs (l : List Jb) (w : World) (v : Value) : Prop := (v = .slice none 0 0 ∧ l = []) ∨ ∃ a c, v = .slice (some a) l.length c ∧ Raw w a (jvals l) ∧ l.length ≤ c
theorem JobsIs.below {l : List Jb} {w w' : World} {v : Value} (h : JobsIs l w v) (hb : Below w.heap.size w w') : JobsIs l w' v := by
  rcases h with h | ⟨a, c, e, hr, hn⟩
  · exact .inl h
  · exact .inr ⟨a, c, e, hr.below hb, hn⟩
/-- A job's cells from a place on. -/
structure JobAt (w : World) (p : Addr) (j : Jb) : Prop where
  lt : p.block < w.heap.size
  c0 : w.cell? p = some (.int .i64 j.id)
  c1 : w.cell? ⟨p.block, p.off + 1, none⟩ = some (.string j.user)
  c2 : w.cell? ⟨p.block, p.off + 2, none⟩ = some (.int .i64 j.width)
  c3 : w.cell? ⟨p.block, p.off + 3, none⟩ = some (.int .i64 j.est)
  c4 : w.cell? ⟨p.block, p.off + 4, none⟩ = some (.int .i64 j.prio)
  c5 : w.cell? ⟨p.block, p.off + 5, none⟩ = some (.int .i64 j.sub)
  c6 : w.cell? ⟨p.block, p.off + 6, none⟩ = some (.int .i64 j.state)
  c7 : w.cell? ⟨p.block, p.off + 7, none⟩ = some (.int .i64 j.start)
  c8 : w.cell? ⟨p.block, p.off + 8, none⟩ = some (.int .i64 j.fin)
theorem JobAt.below {w w' : World} {p : Addr} {j : Jb} (h : JobAt w p j) (hb : Below w.heap.size w w') : JobAt w' p j := by
  have hc : ∀ o, w'.cell? ⟨p.block, o, none⟩ = w.cell? ⟨p.block, o, none⟩ := fun o => hb.cell (p := ⟨p.block, o, none⟩) h.lt
  exact ⟨Nat.lt_of_lt_of_le h.lt hb.size, (hb.cell h.lt).trans h.c0, (hc _).trans h.c1, (hc _).trans h.c2, (hc _).trans h.c3, (hc _).trans h.c4, (hc _).trans h.c5, (hc _).trans h.c6, (hc _).trans h.c7, (hc _).trans h.c8⟩
theorem add_more (a : Addr) (k f : Nat) (hf : 0 < f) : a.add (k + f) = ⟨(a.add k).block, (a.add k).off + f, none⟩ := by
  unfold Addr.add
  by_cases h0 : k = 0
  · subst h0; simp; omega
  · simp [h0, Nat.add_assoc]
theorem jobs_at {l : List Jb} {w : World} {a : Addr} (h : Raw w a (jvals l)) {i : Nat} (hi : i < l.length) : JobAt w (a.add (i * 9)) l[i] := by
  have hat : ∀ f u, f < 9 → (jobC l[i])[f]? = some u → a.block < w.heap.size ∧ w.cell? (a.add (i * 9 + f)) = some u := fun f u hf hu => h _ u ((jvals_at l i hi f hf).trans hu)
  have h0 := hat 0 _ (by decide) rfl
  have hx : ∀ f u, 0 < f → f < 9 → (jobC l[i])[f]? = some u → w.cell? ⟨(a.add (i * 9)).block, (a.add (i * 9)).off + f, none⟩ = some u := fun f u h1 hf hu => by
    have := (hat f u hf hu).2
    rwa [add_more a _ f h1] at this
  exact ⟨by rw [add_block]; exact h0.1, h0.2, hx 1 _ (by decide) (by decide) rfl, hx 2 _ (by decide) (by decide) rfl, hx 3 _ (by decide) (by decide) rfl, hx 4 _ (by decide) (by decide) rfl, hx 5 _ (by decide) (by decide) rfl, hx 6 _ (by decide) (by decide) rfl, hx 7 _ (by decide) (by decide) rfl, hx 8 _ (by decide) (by decide) rfl⟩
theorem JobsIs.open_ {l : List Jb} {w : World} {v : Value} (h : JobsIs l w v) : ∃ A c, v = .slice A l.length c ∧ l.length ≤ c ∧ ∀ i (hi : i < l.length), ∃ a, A = some a ∧ JobAt w (a.add (i * 9)) l[i] := by
  rcases h with ⟨rfl, rfl⟩ | ⟨a, c, e, hr, hn⟩
  · exact ⟨none, 0, rfl, Nat.le_refl _, fun i hi => absurd hi (Nat.not_lt_zero _)⟩
  · exact ⟨some a, c, e, hn, fun i hi => ⟨a, rfl, jobs_at hr hi⟩⟩
end Go.Proofs.Ytjjigkomiidipaa.OrdMem
namespace Go.Proofs.Ytjjigkomiidipaa.OrdRef
open Go.RowKit Go.Proofs.Ytjjigkomiidipaa.JobPlain Go.Proofs.Ytjjigkomiidipaa.OrdPlain Go.Proofs.Ytjjigkomiidipaa.Mem Go.Proofs.Ytjjigkomiidipaa.JobMem Go.Proofs.Ytjjigkomiidipaa.OrdMem
def IntQ (n : Int) (w : World) (e : Ending) (w' : World) : Prop := e = .returned (.int .i64 n) ∧ w = w'
set_option maxHeartbeats 800000 in
theorem find8 (l : List Jb) (id : Int) (v : Value) (w : World) (hv : JobsIs l w v) (hl : l.length ≤ 100000) : Calls Try.prog 11 #[v, .int .i64 id] w (IntQ (findL l id) w) := by
  obtain ⟨A, c, rfl, hn, hA⟩ := hv.open_
  have HA := Lib.hid hA
  clear hA hv
  go_enter Try.func11, Try.ntmps11
  go_wp2_with fail
  go_loop [5] (fun i => ∃ k : Nat, k ≤ l.length ∧ i = .int .i64 k ∧ Hid (∀ i (hi : i < l.length), i < k → (l[i].id == id) = false)) (fun i => l.length - (intOf i).toNat)
  case atStart => exact ⟨0, Nat.zero_le _, rfl, fun _ _ h => absurd h (Nat.not_lt_zero _)⟩
  case round =>
    obtain ⟨k, hk, rfl, HD⟩ := hrel
    by_cases hlt : k < l.length
    · obtain ⟨a, rfl, ⟨p, p0, p1, p2, p3, p4, p5, p6, p7, p8⟩⟩ := HA.out k hlt
      have hlt2 : (k : Int) < (l.length : Int) := by omega
      have hkn : (0 : Int) ≤ (k : Int) := by omega
      have HF := Lib.hid (fun h => find_at (id := id) hlt HD.out h)
      have HN : Hid ((l[k].id == id) = false → ∀ i (hi : i < l.length), i < k + 1 → (l[i].id == id) = false) := fun h i hi hi2 => by
        by_cases he : i = k
        · subst he; exact h
        · exact HD.out i hi (by omega)
      generalize l[k] = j at *
      cases hd : (j.id == id)
      · go_wp2_with fail
        exact ⟨⟨k + 1, by omega, by go_num, HN.out hd⟩, by simp [intOf]; omega⟩
      · go_wp2_with fail
        go_ret
        rw [HF.out hd]
        exact ⟨rfl, rfl⟩
    · have HF := Lib.hid (find_none (l := l) (id := id) (fun i hi => HD.out i hi (by omega)))
      go_wp2_with fail
      go_ret
      rw [HF.out]
      exact ⟨rfl, rfl⟩
end Go.Proofs.Ytjjigkomiidipaa.OrdRef
namespace Go.Proofs.Ytjjigkomiidipaa.SpanMem
open Go.RowKit Go.Proofs.Ytjjigkomiidipaa.SpanPlain Go.Proofs.Ytjjigkomiidipaa.Mem
theorem ints_t : ElemT Try.prog 41 3 1 8 := ElemT.mk_ (.int .i64 0) Try.underlying41 (by kernel_rfl) rfl (by decide) (by decide)
theorem spans_t : ElemT Try.prog 87 73 2 16 := ElemT.mk_ (.agg #[.int .i64 0, .int .i64 0]) Try.underlying87 (by kernel_rfl) rfl (by decide) (by decide)
def spV (s : Sp) : Value := .agg #[.int .i64 s.1, .int .i64 s.2]
def spCells (s : Sp) : List Value := [.int .i64 s.1, .int .i64 s.2]
def svals (l : List Sp) : List Value := l.flatMap spCells
theorem svals_append (l m : List Sp) : svals (l ++ m) = svals l ++ svals m := by simp [svals]
theorem svals_len (l : List Sp) : (svals l).length = l.length * 2 := by
  induction l with
  | nil => rfl
  | cons s l ih => simp only [svals, List.flatMap_cons, List.length_append, List.length_cons] at *; rw [ih]; simp [spCells]; omega
theorem svals_cell (l : List Sp) : ∀ u ∈ svals l, u.oneCell' = true := by
  intro u hu
  obtain ⟨s, _, h⟩ := List.mem_flatMap.1 hu
  simp [spCells] at h
  rcases h with rfl | rfl <;> rfl
def spCell (l : List Sp) (i : Nat) : Value × Value := (.int .i64 (l.getD i (0, 0)).1, .int .i64 (l.getD i (0, 0)).2)
theorem svals_at (l : List Sp) : ∀ i, i < l.length → (svals l)[i * 2]? = some (spCell l i).1 ∧ (svals l)[i * 2 + 1]? = some (spCell l i).2 := by
  induction l with
  | nil => intro i h; simp at h
  | cons s l ih =>
    intro i h
    cases i with
    | zero => exact ⟨rfl, rfl⟩
    | succ i =>
      obtain ⟨h1, h2⟩ := ih i (by simpa using h)
      have e : svals (s :: l) = .int .i64 s.1 :: .int .i64 s.2 :: svals l := rfl
      rw [e, show (i + 1) * 2 = i * 2 + 1 + 1 by omega]
      exact ⟨h1, h2⟩
/-- A slice of spans, nil let in. -/
def SpansIs (l : List Sp) (w : World) (v : Value) : Prop := (v = .slice none 0 0 ∧ l = []) ∨ ∃ a c, v = .slice (some a) l.length c ∧ Raw w a (svals l) ∧ l.length ≤ c
theorem SpansIs.below {l : List Sp} {w w' : World} {v : Value} (h : SpansIs l w v) (hb : Below w.heap.size w w') : SpansIs l w' v := by
  rcases h with h | ⟨a, c, e, hr, hn⟩
  · exact .inl h
  · exact .inr ⟨a, c, e, hr.below hb, hn⟩
theorem SpansIs.open2 {l : List Sp} {w : World} {v : Value} (h : SpansIs l w v) : ∃ A c, v = .slice A l.length c ∧ l.length ≤ c ∧ Pairs w A l.length (spCell l) := by
  rcases h with ⟨rfl, rfl⟩ | ⟨a, c, e, hr, hn⟩
  · exact ⟨none, 0, rfl, Nat.le_refl _, Pairs.none_⟩
  · refine ⟨some a, c, e, hn, fun i hi => ⟨a, rfl, (hr _ _ (svals_at l i hi).1).1, ?_, ?_⟩⟩
    · exact (hr _ _ (svals_at l i hi).1).2
    · have h2 := (hr _ _ (svals_at l i hi).2).2
      have e : a.add (i * 2 + 1) = ⟨(a.add (i * 2)).block, (a.add (i * 2)).off + 1, none⟩ := by
        unfold Addr.add
        by_cases h0 : i * 2 = 0 <;> simp [h0, Nat.add_assoc]
      rwa [e] at h2
theorem SpansIs.open_ {l : List Sp} {w : World} {v : Value} (h : SpansIs l w v) : ∃ A c, v = .slice A l.length c ∧ Pairs w A l.length (spCell l) := by
  obtain ⟨A, c, e, _, hp⟩ := h.open2
  exact ⟨A, c, e, hp⟩
theorem OwnR.spans {base n : Nat} {w : World} {v : Value} {l : List Sp} {e : TypeId} (h : OwnR e 2 base w v n (svals l)) (hn : n = l.length) : SpansIs l w v := by
  subst hn
  obtain ⟨g, c, rfl, _, _, hn, _, h3, _⟩ := h.form
  exact .inr ⟨_, c, rfl, h3, hn⟩
theorem list_of {α : Type} {P : Nat → α → Prop} : ∀ n : Nat, (∀ i, i < n → ∃ s, P i s) → ∃ l : List α, l.length = n ∧ ∀ i s, l[i]? = some s → P i s := by
  intro n
  induction n with
  | zero => intro _; exact ⟨[], rfl, fun i s h => by simp at h⟩
  | succ n ih =>
    intro h
    obtain ⟨l, hl, hp⟩ := ih fun i hi => h i (by omega)
    obtain ⟨s, hs⟩ := h n (by omega)
    refine ⟨l ++ [s], by simp [hl], fun i x hx => ?_⟩
    rcases Nat.lt_trichotomy i n with hi | hi | hi
    · rw [List.getElem?_append_left (by omega)] at hx; exact hp i x hx
    · subst hi
      rw [List.getElem?_append_right (by omega), hl, Nat.sub_self] at hx
      simp at hx
      subst hx; exact hs
    · rw [List.getElem?_append_right (by omega)] at hx
      have : i - l.length = i - l.length - 1 + 1 := by omega
      rw [this] at hx
      simp at hx
theorem svals_raw {l : List Sp} {w : World} {a : Addr} (h : ∀ i s, l[i]? = some s → a.block < w.heap.size ∧ w.cell? (a.add (i * 2)) = some (.int .i64 s.1) ∧ w.cell? (a.add (i * 2 + 1)) = some (.int .i64 s.2)) : Raw w a (svals l) := by
  intro j u hu
  have hj : j < l.length * 2 := by
    have := (List.getElem?_eq_some_iff.1 hu).1
    rwa [svals_len] at this
  have hi : j / 2 < l.length := by omega
  obtain ⟨h1, h2⟩ := svals_at l (j / 2) hi
  have hg : l[j / 2]? = some (l.getD (j / 2) (0, 0)) := by simp [List.getD, hi]
  obtain ⟨g1, g2, g3⟩ := h _ _ hg
  refine ⟨g1, ?_⟩
  by_cases he : j % 2 = 0
  · have e : j = j / 2 * 2 := by omega
    rw [← e] at h1 g2
    rw [h1] at hu
    injection hu with hu
    subst hu
    exact g2
  · have e : j = j / 2 * 2 + 1 := by omega
    rw [← e] at h2 g3
    rw [h2] at hu
    injection hu with hu
    subst hu
    exact g3
end Go.Proofs.Ytjjigkomiidipaa.SpanMem
namespace Go.Proofs.Ytjjigkomiidipaa.StepMem
open Go.RowKit Go.Proofs.Ytjjigkomiidipaa.SpanPlain Go.Proofs.Ytjjigkomiidipaa.StepPlain Go.Proofs.Ytjjigkomiidipaa.Mem Go.Proofs.Ytjjigkomiidipaa.SpanMem
theorem steps_t : ElemT Try.prog 32 40 2 16 := ElemT.mk_ (.agg #[.int .i64 0, .int .i64 0]) Try.underlying32 (by kernel_rfl) rfl (by decide) (by decide)
theorem svals_snoc (d : List Sp) (s : Sp) : svals (d ++ [s]) = svals d ++ [.int .i64 s.1, .int .i64 s.2] := by rw [svals_append]; rfl
theorem spans_of_own {base n : Nat} {w : World} {v : Value} {l : List Sp} {e : TypeId} (h : OwnN e 2 base w v n (svals l)) (hn : n = l.length) : SpansIs l w v := by
  subst hn
  rcases h.form with ⟨h1, h2, _⟩ | ⟨g, c, hv, _, _, hn, _, hr, _⟩
  · exact .inl ⟨h1, List.eq_nil_of_length_eq_zero h2⟩
  · exact .inr ⟨_, c, hv, hr, hn⟩
end Go.Proofs.Ytjjigkomiidipaa.StepMem
namespace Go.Proofs.Ytjjigkomiidipaa.SpanRef
open Go.RowKit Go.Proofs.Ytjjigkomiidipaa.SpanPlain Go.Proofs.Ytjjigkomiidipaa.Mem Go.Proofs.Ytjjigkomiidipaa.SpanMem
def BoolIs (b : Bool) (w : World) (e : Ending) (w' : World) : Prop := e = .returned (.bool b) ∧ Below w.heap.size w w'
end Go.Proofs.Ytjjigkomiidipaa.SpanRef
namespace Go.Proofs.Ytjjigkomiidipaa.SpanRef
open Go.RowKit Go.Proofs.Ytjjigkomiidipaa.SpanPlain Go.Proofs.Ytjjigkomiidipaa.Mem Go.Proofs.Ytjjigkomiidipaa.SpanMem
end Go.Proofs.Ytjjigkomiidipaa.SpanRef
namespace Go.Proofs.Ytjjigkomiidipaa.SpanRef
open Go.RowKit Go.Proofs.Ytjjigkomiidipaa.SpanPlain Go.Proofs.Ytjjigkomiidipaa.Mem Go.Proofs.Ytjjigkomiidipaa.SpanMem
end Go.Proofs.Ytjjigkomiidipaa.SpanRef
namespace Go.Proofs.Ytjjigkomiidipaa.SpanRef
open Go.RowKit Go.Proofs.Ytjjigkomiidipaa.SpanPlain Go.Proofs.Ytjjigkomiidipaa.Mem Go.Proofs.Ytjjigkomiidipaa.SpanMem
end Go.Proofs.Ytjjigkomiidipaa.SpanRef
namespace Go.Proofs.Ytjjigkomiidipaa.SpanRef
open Go.RowKit Go.Proofs.Ytjjigkomiidipaa.SpanPlain Go.Proofs.Ytjjigkomiidipaa.Mem Go.Proofs.Ytjjigkomiidipaa.SpanMem
end Go.Proofs.Ytjjigkomiidipaa.SpanRef
namespace Go.Proofs.Ytjjigkomiidipaa.SpanRef
open Go.RowKit Go.Proofs.Ytjjigkomiidipaa.SpanPlain Go.Proofs.Ytjjigkomiidipaa.Mem Go.Proofs.Ytjjigkomiidipaa.SpanMem
end Go.Proofs.Ytjjigkomiidipaa.SpanRef
namespace Go.Proofs.Ytjjigkomiidipaa.SpanRef
open Go.RowKit Go.Proofs.Ytjjigkomiidipaa.SpanPlain Go.Proofs.Ytjjigkomiidipaa.Mem Go.Proofs.Ytjjigkomiidipaa.SpanMem
end Go.Proofs.Ytjjigkomiidipaa.SpanRef
namespace Go.Proofs.Ytjjigkomiidipaa.SpanRef
open Go.RowKit Go.Proofs.Ytjjigkomiidipaa.SpanPlain Go.Proofs.Ytjjigkomiidipaa.Mem Go.Proofs.Ytjjigkomiidipaa.SpanMem
theorem snoc_cases (c : List Sp) : c = [] ∨ ∃ d s, c = d ++ [s] := by
  by_cases h : c = []
  · exact .inl h
  · exact .inr ⟨c.dropLast, c.getLast h, (List.dropLast_concat_getLast h).symm⟩
theorem svals_last (d : List Sp) (s : Sp) (y : Int) : (svals (d ++ [s])).set (d.length * 2 + 1) (.int .i64 y) = svals (d ++ [(s.1, y)]) := by
  rw [svals_append, svals_append, List.set_append_right _ _ (by rw [svals_len]; omega), svals_len]
  have e : d.length * 2 + 1 - d.length * 2 = 1 := by omega
  rw [e]
  rfl
theorem svals_end (d : List Sp) (s : Sp) : (svals (d ++ [s]))[d.length * 2 + 1]? = some (.int .i64 s.2) := by
  have h := (svals_at (d ++ [s]) d.length (by simp)).2
  rw [h]
  simp [spCell, List.getD]
end Go.Proofs.Ytjjigkomiidipaa.SpanRef
namespace Go.Proofs.Ytjjigkomiidipaa.SpanWalk
open Go.RowKit Go.Proofs.Ytjjigkomiidipaa.SpanPlain Go.Proofs.Ytjjigkomiidipaa.Mem Go.Proofs.Ytjjigkomiidipaa.SpanMem Go.Proofs.Ytjjigkomiidipaa.SpanRef
theorem below_alloc (w : World) (o : Obj) : Below w.heap.size w (w.alloc o) := (Below.refl _ _).alloc (Nat.le_refl _) o
end Go.Proofs.Ytjjigkomiidipaa.SpanWalk
namespace Go.Proofs.Ytjjigkomiidipaa.StepRef
open Go.RowKit Go.Proofs.Ytjjigkomiidipaa.SpanPlain Go.Proofs.Ytjjigkomiidipaa.StepPlain Go.Proofs.Ytjjigkomiidipaa.Mem Go.Proofs.Ytjjigkomiidipaa.SpanMem Go.Proofs.Ytjjigkomiidipaa.StepMem Go.Proofs.Ytjjigkomiidipaa.SpanRef
theorem below_alloc (w : World) (o : Obj) : Below w.heap.size w (w.alloc o) := (Below.refl _ _).alloc (Nat.le_refl _) o
def IntQ (n : Int) (w : World) (e : Ending) (w' : World) : Prop := e = .returned (.int .i64 n) ∧ w = w'
theorem val_take {s : List Sp} {k : Nat} (hk : k < s.length) (t : Int) : val (s.take (k + 1)) t = if (s.getD k (0, 0)).1 ≤ t then (s.getD k (0, 0)).2 else val (s.take k) t := by
  rw [List.take_succ_eq_append_getElem hk, val_snoc, getSp hk]
def BoolD (b : Bool) (w : World) (e : Ending) (w' : World) : Prop := e = .returned (.bool b) ∧ ∃ n, w' = w.drewN n
theorem pair_zero {w : World} {A : Option Addr} {n : Nat} {f : Nat → Value × Value} (h : Pairs w A n f) (hn : 0 < n) : ∃ ad, A = some ad ∧ ad.block < w.heap.size ∧ w.cell? ad = some (f 0).1 ∧ w.cell? ⟨ad.block, ad.off + 1, none⟩ = some (f 0).2 := by
  obtain ⟨ad, rfl, had, c1, c2⟩ := h 0 hn
  have e : ad.add (0 * 2) = ad := by unfold Addr.add; simp
  rw [e] at c1 c2
  exact ⟨ad, rfl, had, c1, c2⟩
def IntB (n : Int) (w : World) (e : Ending) (w' : World) : Prop := e = .returned (.int .i64 n) ∧ Below w.heap.size w w'
end Go.Proofs.Ytjjigkomiidipaa.StepRef
namespace Go.Proofs.Ytjjigkomiidipaa.StepRef
open Go.RowKit Go.Proofs.Ytjjigkomiidipaa.SpanPlain Go.Proofs.Ytjjigkomiidipaa.StepPlain Go.Proofs.Ytjjigkomiidipaa.Mem Go.Proofs.Ytjjigkomiidipaa.SpanMem Go.Proofs.Ytjjigkomiidipaa.StepMem Go.Proofs.Ytjjigkomiidipaa.SpanRef
theorem ok_ways (s : List Sp) (k : Nat) : (decide ((s.getD k (0, 0)).2 < 0) = true ∧ Hid (okB s k = false)) ∨ (decide ((s.getD k (0, 0)).2 < 0) = false ∧ decide (256 < (s.getD k (0, 0)).2) = true ∧ Hid (okB s k = false)) ∨
    (decide ((s.getD k (0, 0)).2 < 0) = false ∧ decide (256 < (s.getD k (0, 0)).2) = false ∧ decide ((4503599627370496 : Int) < (s.getD k (0, 0)).1) = true ∧ Hid (okB s k = false)) ∨
    (decide ((s.getD k (0, 0)).2 < 0) = false ∧ decide (256 < (s.getD k (0, 0)).2) = false ∧ decide ((4503599627370496 : Int) < (s.getD k (0, 0)).1) = false ∧ ((k = 0 ∧ Hid (okB s k = true)) ∨
      (0 < k ∧ decide ((s.getD k (0, 0)).1 ≤ (s.getD (k - 1) (0, 0)).1) = true ∧ Hid (okB s k = false)) ∨ (0 < k ∧ decide ((s.getD k (0, 0)).1 ≤ (s.getD (k - 1) (0, 0)).1) = false ∧ ((s.getD k (0, 0)).2 == (s.getD (k - 1) (0, 0)).2) = true ∧ Hid (okB s k = false)) ∨
      (0 < k ∧ decide ((s.getD k (0, 0)).1 ≤ (s.getD (k - 1) (0, 0)).1) = false ∧ ((s.getD k (0, 0)).2 == (s.getD (k - 1) (0, 0)).2) = false ∧ Hid (okB s k = true)))) := by
  unfold okB
  generalize s.getD k (0, 0) = x
  generalize s.getD (k - 1) (0, 0) = y
  by_cases h1 : x.2 < 0
  · exact .inl ⟨decide_eq_true h1, by rw [decide_eq_false (by omega : ¬ 0 ≤ x.2)]; rfl⟩
  · by_cases h2 : 256 < x.2
    · exact .inr (.inl ⟨decide_eq_false h1, decide_eq_true h2, by rw [decide_eq_false (by omega : ¬ x.2 ≤ 256), Bool.and_false]; rfl⟩)
    · by_cases h3 : 4503599627370496 < x.1
      · exact .inr (.inr (.inl ⟨decide_eq_false h1, decide_eq_false h2, decide_eq_true h3, by rw [decide_eq_false (by omega : ¬ x.1 ≤ 4503599627370496), Bool.and_false]; rfl⟩))
      · refine .inr (.inr (.inr ⟨decide_eq_false h1, decide_eq_false h2, decide_eq_false h3, ?_⟩))
        rw [decide_eq_true (by omega : 0 ≤ x.2), decide_eq_true (by omega : x.2 ≤ 256), decide_eq_true (by omega : x.1 ≤ 4503599627370496)]
        by_cases h4 : k = 0
        · exact .inl ⟨h4, by rw [decide_eq_true h4]; rfl⟩
        · rw [decide_eq_false h4]
          by_cases h5 : x.1 ≤ y.1
          · exact .inr (.inl ⟨by omega, decide_eq_true h5, by rw [decide_eq_false (by omega : ¬ y.1 < x.1)]; rfl⟩)
          · rw [decide_eq_true (by omega : y.1 < x.1)]
            cases h6 : (x.2 == y.2) with
            | true => exact .inr (.inr (.inl ⟨by omega, decide_eq_false h5, rfl, rfl⟩))
            | false => exact .inr (.inr (.inr ⟨by omega, decide_eq_false h5, rfl, rfl⟩))
theorem chk_no {s : List Sp} {k : Nat} (hk : k < s.length) (h : okB s k = false) : chkB s = false := by
  cases hc : chkB s with
  | false => rfl
  | true =>
    unfold chkB at hc
    rw [Bool.and_eq_true] at hc
    rw [allTo_lt hc.1 hk] at h; cases h
theorem chk_end {s : List Sp} (h : allTo s s.length = true) : (s.length = 0 ∧ Hid (chkB s = false)) ∨ (0 < s.length ∧ decide (0 ≤ (s.getD 0 (0, 0)).1) = false ∧ Hid (chkB s = false)) ∨
    (0 < s.length ∧ decide (0 ≤ (s.getD 0 (0, 0)).1) = true ∧ decide ((s.getD 0 (0, 0)).1 ≤ 1125899906842624) = false ∧ Hid (chkB s = false)) ∨ (0 < s.length ∧ decide (0 ≤ (s.getD 0 (0, 0)).1) = true ∧ decide ((s.getD 0 (0, 0)).1 ≤ 1125899906842624) = true ∧ Hid (chkB s = true)) := by
  unfold chkB
  rw [h, Bool.true_and]
  by_cases h1 : 0 < s.length
  · rw [decide_eq_true h1, Bool.true_and]
    cases h2 : decide (0 ≤ (s.getD 0 (0, 0)).1) with
    | false => exact .inr (.inl ⟨h1, rfl, rfl⟩)
    | true =>
      cases h3 : decide ((s.getD 0 (0, 0)).1 ≤ 1125899906842624) with
      | false => exact .inr (.inr (.inl ⟨h1, rfl, rfl, rfl⟩))
      | true => exact .inr (.inr (.inr ⟨h1, rfl, rfl, rfl⟩))
  · exact .inl ⟨by omega, by rw [decide_eq_false h1]; rfl⟩
set_option maxHeartbeats 3200000 in
theorem check4 (s : List Sp) (v : Value) (w : World) (hv : SpansIs s w v) (hl : s.length ≤ 9000) : Calls Try.prog 20 #[v] w (BoolD (chkB s) w) := by
  obtain ⟨A, c, rfl, hA⟩ := hv.open_
  have HA := Lib.hid hA
  clear hA hv
  go_enter Try.func20, Try.ntmps20
  go_wp2_with fail
  go_loopw [3] (fun i wr => ∃ k : Nat, i = .int .i64 k ∧ k ≤ s.length ∧ Hid (allTo s k = true) ∧ Hid (∃ q, wr = w.drewN q)) (fun i _ => s.length - (intOf i).toNat)
  case atStart => exact ⟨0, rfl, Nat.zero_le _, rfl, ⟨0, rfl⟩⟩
  case round =>
    obtain ⟨k, rfl, hk, HS, HW⟩ := hrel
    obtain ⟨q, rfl⟩ := HW.out
    by_cases hlt : k < s.length
    · obtain ⟨ad, rfl, had, c1, c2⟩ := HA.out k hlt
      have hways := ok_ways s k
      have HNO := Lib.hid (fun h => chk_no hlt h)
      have HNX : Hid (okB s k = true → allTo s (k + 1) = true) := fun h => by rw [allTo_succ, HS.out, h]; rfl
      have hlt2 : (k : Int) < (s.length : Int) := by omega
      have i0 : (0 : Int) ≤ (k : Int) := Int.natCast_nonneg _
      by_cases hk0 : k = 0
      · subst hk0
        unfold spCell at c1 c2
        dsimp only at c1 c2
        generalize s.getD 0 (0, 0) = x at *
        clear had HW
        have e : ad.add (0 * 2) = ad := by unfold Addr.add; simp
        rw [e] at c1 c2
        clear e
        rcases hways with ⟨h1, HO⟩ | ⟨h1, h2, HO⟩ | ⟨h1, h2, h3, HO⟩ | ⟨h1, h2, h3, ⟨_, HO⟩ | ⟨h, _⟩ | ⟨h, _⟩ | ⟨h, _⟩⟩
        · go_wp2_with fail
          go_quiet (fail)
          go_wp2_with fail
          go_ret
          exact ⟨by rw [HNO.out HO.out]; rfl, _, World.drewN_drewN _ _ _⟩
        · go_wp2_with fail
          go_quiet (fail)
          go_wp2_with fail
          go_ret
          exact ⟨by rw [HNO.out HO.out]; rfl, _, World.drewN_drewN _ _ _⟩
        · go_wp2_with fail
          go_quiet (fail)
          go_wp2_with fail
          go_ret
          exact ⟨by rw [HNO.out HO.out]; rfl, _, World.drewN_drewN _ _ _⟩
        · go_wp2_with fail
          go_quiet (fail)
          go_wp2_with fail
          exact ⟨⟨1, by go_num, by omega, HNX.out HO.out, ⟨_, rfl⟩⟩, by simp [intOf] <;> omega⟩
        all_goals omega
      · obtain ⟨ad2, e2, _, d1, d2⟩ := HA.out (k - 1) (by omega)
        injection e2 with e2
        subst e2
        unfold spCell at c1 c2 d1 d2
        dsimp only at c1 c2 d1 d2
        generalize s.getD k (0, 0) = x at *
        generalize s.getD (k - 1) (0, 0) = y at *
        have j0 : (0 : Int) < (k : Int) := by omega
        have j1 : IntKind.i64.wrap ((k : Int) - 1) = (k : Int) - 1 := by rw [IntKind.wrap_i64]; omega
        have j2 : (0 : Int) ≤ (k : Int) - 1 := by omega
        have j3 : (k : Int) - 1 < (s.length : Int) := by omega
        have j4 : ((k : Int) - 1).toNat = k - 1 := by omega
        have j5 : 0 < k := by omega
        have j6 : (1 : Int) ≤ (k : Int) := by omega
        clear had HW hk0
        rcases hways with ⟨h1, HO⟩ | ⟨h1, h2, HO⟩ | ⟨h1, h2, h3, HO⟩ | ⟨h1, h2, h3, ⟨h, _⟩ | ⟨_, h4, HO⟩ | ⟨_, h4, h5, HO⟩ | ⟨_, h4, h5, HO⟩⟩
        · go_wp2_with fail
          go_quiet (fail)
          go_wp2_with fail
          go_ret
          exact ⟨by rw [HNO.out HO.out]; rfl, _, World.drewN_drewN _ _ _⟩
        · go_wp2_with fail
          go_quiet (fail)
          go_wp2_with fail
          go_ret
          exact ⟨by rw [HNO.out HO.out]; rfl, _, World.drewN_drewN _ _ _⟩
        · go_wp2_with fail
          go_quiet (fail)
          go_wp2_with fail
          go_ret
          exact ⟨by rw [HNO.out HO.out]; rfl, _, World.drewN_drewN _ _ _⟩
        · omega
        · go_wp2_with fail
          go_quiet (fail)
          go_wp2_with fail
          go_ret
          exact ⟨by rw [HNO.out HO.out]; rfl, _, World.drewN_drewN _ _ _⟩
        · go_wp2_with fail
          go_quiet (fail)
          go_wp2_with fail
          go_ret
          exact ⟨by rw [HNO.out HO.out]; rfl, _, World.drewN_drewN _ _ _⟩
        · go_wp2_with fail
          go_quiet (fail)
          go_wp2_with fail
          exact ⟨⟨k + 1, by go_num, by omega, HNX.out HO.out, ⟨_, rfl⟩⟩, by simp [intOf] <;> omega⟩
    · have hend := chk_end (s := s) (by have h := HS.out; rwa [show k = s.length by omega] at h)
      rcases hend with ⟨h0, HO⟩ | ⟨h0, h1, HO⟩ | ⟨h0, h1, h2, HO⟩ | ⟨h0, h1, h2, HO⟩
      · go_wp2_with fail
        go_ret
        exact ⟨by rw [HO.out]; rfl, q, rfl⟩
      all_goals
        obtain ⟨ad, rfl, had, c1, c2⟩ := pair_zero HA.out h0
        unfold spCell at c1 c2
        dsimp only at c1 c2
        have i0 : (0 : Int) < (s.length : Int) := by omega
        generalize s.getD 0 (0, 0) = x at *
        clear had HW
        go_wp2_with fail
        go_ret
        exact ⟨by rw [HO.out]; rfl, q, rfl⟩
end Go.Proofs.Ytjjigkomiidipaa.StepRef
namespace Go.Proofs.Ytjjigkomiidipaa.StepRef
open Go.RowKit Go.Proofs.Ytjjigkomiidipaa.SpanPlain Go.Proofs.Ytjjigkomiidipaa.StepPlain Go.Proofs.Ytjjigkomiidipaa.Mem Go.Proofs.Ytjjigkomiidipaa.SpanMem Go.Proofs.Ytjjigkomiidipaa.StepMem Go.Proofs.Ytjjigkomiidipaa.SpanRef
set_option maxHeartbeats 800000 in
theorem within4 (s : List Sp) (v : Value) (t : Int) (w : World) (hv : SpansIs s w v) (hl : s.length ≤ 9000) : Calls Try.prog 58 #[v, .int .i64 t] w (IntQ (val s t) w) := by
  obtain ⟨A, c, rfl, hA⟩ := hv.open_
  have HA := Lib.hid hA
  clear hA hv
  go_enter Try.func58, Try.ntmps58
  go_wp2_with fail
  go_loop [5, 6] (fun n i => ∃ k : Nat, n = .int .i64 (val (s.take k) t) ∧ i = .int .i64 k ∧ k ≤ s.length) (fun _ i => s.length - (intOf i).toNat)
  case atStart => exact ⟨0, rfl, rfl, Nat.zero_le _⟩
  case round =>
    obtain ⟨k, rfl, rfl, hk⟩ := hrel
    by_cases hlt : k < s.length
    · obtain ⟨ad, rfl, had, c1, c2⟩ := HA.out k hlt
      have HV := Lib.hid (val_take hlt t)
      unfold spCell at c1 c2
      dsimp only at c1 c2
      generalize s.getD k (0, 0) = x at *
      generalize val (s.take k) t = n at *
      by_cases hx : x.1 ≤ t
      · have HX := Lib.hid (HV.out.trans (if_pos hx))
        clear HV
        go_wp2_with fail
        exact ⟨⟨k + 1, by rw [HX.out], by go_num, by omega⟩, by simp [intOf] <;> omega⟩
      · have HX := Lib.hid (HV.out.trans (if_neg hx))
        clear HV
        go_wp2_with fail
        exact ⟨⟨k + 1, by rw [HX.out], by go_num, by omega⟩, by simp [intOf] <;> omega⟩
    · go_wp2_with fail
      go_ret
      exact ⟨by rw [List.take_of_length_le (by omega)]; rfl, rfl⟩
end Go.Proofs.Ytjjigkomiidipaa.StepRef
namespace Go.Proofs.Ytjjigkomiidipaa.StepRef
open Go.RowKit Go.Proofs.Ytjjigkomiidipaa.SpanPlain Go.Proofs.Ytjjigkomiidipaa.StepPlain Go.Proofs.Ytjjigkomiidipaa.Mem Go.Proofs.Ytjjigkomiidipaa.SpanMem Go.Proofs.Ytjjigkomiidipaa.StepMem Go.Proofs.Ytjjigkomiidipaa.SpanRef
theorem min_ways (x y : Sp) (n : Int) : (decide (x.1 < y.1) = false ∧ Hid (minStep x n y = n)) ∨ (decide (x.1 < y.1) = true ∧ decide (y.1 < x.2) = false ∧ Hid (minStep x n y = n)) ∨
    (decide (x.1 < y.1) = true ∧ decide (y.1 < x.2) = true ∧ decide (y.2 < n) = false ∧ Hid (minStep x n y = n)) ∨ (decide (x.1 < y.1) = true ∧ decide (y.1 < x.2) = true ∧ decide (y.2 < n) = true ∧ Hid (minStep x n y = y.2)) := by
  unfold minStep
  by_cases h1 : x.1 < y.1
  · by_cases h2 : y.1 < x.2
    · by_cases h3 : y.2 < n
      · exact .inr (.inr (.inr ⟨decide_eq_true h1, decide_eq_true h2, decide_eq_true h3, if_pos ⟨h1, h2, h3⟩⟩))
      · exact .inr (.inr (.inl ⟨decide_eq_true h1, decide_eq_true h2, decide_eq_false h3, if_neg (fun h => h3 h.2.2)⟩))
    · exact .inr (.inl ⟨decide_eq_true h1, decide_eq_false h2, if_neg (fun h => h2 h.2.1)⟩)
  · exact .inl ⟨decide_eq_false h1, if_neg (fun h => h1 h.1)⟩
set_option maxHeartbeats 3200000 in
theorem min4 (s : List Sp) (x : Sp) (v : Value) (w : World) (hv : SpansIs s w v) (hl : s.length ≤ 9000) : Calls Try.prog 48 #[v, spV x] w (IntB (minTo s x s.length) w) := by
  obtain ⟨A, c, rfl, hA⟩ := hv.open_
  obtain ⟨x1, x2⟩ := x
  have HW := Lib.hid (within4 s (.slice A s.length c) x1 (w.alloc (.cells #[.int .i64 x1, .int .i64 x2] 73)) (hv.below (below_alloc _ _)) hl)
  have HB := Lib.hid (Box2.new w (.int .i64 x1) (.int .i64 x2) 73)
  have HA := Lib.hid (hA.below (below_alloc w (.cells #[.int .i64 x1, .int .i64 x2] 73)))
  have HL := Lib.hid (below_alloc w (.cells #[.int .i64 x1, .int .i64 x2] 73))
  have hm0 : Hid (minTo s (x1, x2) 0 = val s x1) := rfl
  unfold spV
  dsimp only
  clear hA hv
  go_enter Try.func48, Try.ntmps48
  go_wp2_with fail
  refine HW.out.mono ?_
  rintro e w1 ⟨rfl, rfl⟩
  go_wp2_with fail
  generalize w.alloc (.cells #[.int .i64 x1, .int .i64 x2] 73) = W at *
  go_loopw [5, 6] (fun n i wr => ∃ k : Nat, n = .int .i64 (minTo s (x1, x2) k) ∧ i = .int .i64 k ∧ k ≤ s.length ∧ Hid (∃ q, wr = W.drewN q)) (fun _ i _ => s.length - (intOf i).toNat)
  case atStart => exact ⟨0, by rw [hm0.out], rfl, Nat.zero_le _, ⟨0, rfl⟩⟩
  case round =>
    obtain ⟨k, rfl, rfl, hk, HQ⟩ := hrel
    obtain ⟨q, rfl⟩ := HQ.out
    by_cases hlt : k < s.length
    · obtain ⟨ad, rfl, had, c1, c2⟩ := HA.out k hlt
      obtain ⟨b0, b1, b2, b3, b4⟩ := HB.out
      have hways := min_ways (x1, x2) (s.getD k (0, 0)) (minTo s (x1, x2) k)
      have HN := Lib.hid (min_next (x := (x1, x2)) hlt)
      have hlt2 : (k : Int) < (s.length : Int) := by omega
      have i0 : (0 : Int) ≤ (k : Int) := Int.natCast_nonneg _
      unfold spCell at c1 c2
      dsimp only at c1 c2 hways
      generalize s.getD k (0, 0) = y at *
      generalize minTo s (x1, x2) k = n at *
      clear had HQ b0 b3 b4 HW
      rcases hways with ⟨h1, HM⟩ | ⟨h1, h2, HM⟩ | ⟨h1, h2, h3, HM⟩ | ⟨h1, h2, h3, HM⟩
      all_goals
        go_wp2_with fail
        go_quiet (fail)
        go_wp2_with fail
        exact ⟨⟨k + 1, by rw [HN.out, HM.out], by go_num, by omega, ⟨_, rfl⟩⟩, by simp [intOf] <;> omega⟩
    · obtain rfl : k = s.length := by omega
      go_wp2_with fail
      go_ret
      exact ⟨rfl, below_drewN HL.out q⟩
end Go.Proofs.Ytjjigkomiidipaa.StepRef
namespace Go.Proofs.Ytjjigkomiidipaa.StepRef
open Go.RowKit Go.Proofs.Ytjjigkomiidipaa.SpanPlain Go.Proofs.Ytjjigkomiidipaa.StepPlain Go.Proofs.Ytjjigkomiidipaa.Mem Go.Proofs.Ytjjigkomiidipaa.SpanMem Go.Proofs.Ytjjigkomiidipaa.StepMem Go.Proofs.Ytjjigkomiidipaa.SpanRef
end Go.Proofs.Ytjjigkomiidipaa.StepRef
namespace Go.Proofs.Ytjjigkomiidipaa.StepWalk
open Go.RowKit Go.Proofs.Ytjjigkomiidipaa.SpanPlain Go.Proofs.Ytjjigkomiidipaa.StepPlain Go.Proofs.Ytjjigkomiidipaa.Mem Go.Proofs.Ytjjigkomiidipaa.SpanMem Go.Proofs.Ytjjigkomiidipaa.StepMem Go.Proofs.Ytjjigkomiidipaa.SpanRef Go.Proofs.Ytjjigkomiidipaa.StepRef
/-- A slice whose memory, if there is any, is new from block B on. -/
def NewAt (B : Nat) (v : Value) : Prop := ∀ a n c, v = .slice (some a) n c → B ≤ a.block
theorem NewAt.nil {B : Nat} : NewAt B (.slice none 0 0) := fun _ _ _ h => by cases h
theorem NewAt.mono {B B' : Nat} {v : Value} (h : NewAt B v) (hb : B' ≤ B) : NewAt B' v := fun a n c e => Nat.le_trans hb (h a n c e)
theorem NewAt.own {e : TypeId} {k base n B : Nat} {w : World} {v : Value} {xs : List Value} (h : OwnN e k base w v n xs) (hb : B ≤ base) : NewAt B v := fun a m c e => by
  rcases h.form with ⟨h1, _⟩ | ⟨g, c', h1, h2, _⟩
  · rw [h1] at e; cases e
  · rw [h1] at e
    injection e with e
    injection e with e
    subst e
    exact Nat.le_trans hb h2
theorem NewAt.cut {B : Nat} {a : Addr} {n c m k : Nat} (h : NewAt B (.slice (some a) n c)) : NewAt B (.slice (some a) m k) := fun b i j e => by
  injection e with e
  injection e with e
  subst e
  exact h _ _ _ rfl
def PairIs (n : Int) (b : Bool) (w : World) (e : Ending) (w' : World) : Prop := e = .returned (.tuple #[.int .i64 n, .bool b]) ∧ Below w.heap.size w w'
def atB (s : List Sp) (t : Int) : Bool := chkB s && decide (head s ≤ t) && decide (t < 4503599627370496)
def atN (s : List Sp) (t : Int) : Int := if atB s t then val s t else 0
def minB (s : List Sp) (x : Sp) : Bool := chkB s && mayB x && decide (head s ≤ x.1)
def MinSays (s : List Sp) (x : Sp) (w : World) (e : Ending) (w' : World) : Prop := ∃ n, e = .returned (.tuple #[.int .i64 n, .bool (minB s x)]) ∧ ((minB s x = true ∧ MinOf s x n) ∨ (minB s x = false ∧ n = 0)) ∧ Below w.heap.size w w'
def AddSays (s : List Sp) (x : Sp) (n : Int) (w : World) (e : Ending) (w' : World) : Prop := ∃ v r, e = .returned v ∧ SpansIs r w' v ∧ AddIs s x n r ∧ Below w.heap.size w w' ∧ NewAt w.heap.size v
end Go.Proofs.Ytjjigkomiidipaa.StepWalk
namespace Go.Proofs.Ytjjigkomiidipaa.GapRef
open Go.RowKit Go.Proofs.Ytjjigkomiidipaa.SpanPlain Go.Proofs.Ytjjigkomiidipaa.StepPlain Go.Proofs.Ytjjigkomiidipaa.GapPlain Go.Proofs.Ytjjigkomiidipaa.Mem Go.Proofs.Ytjjigkomiidipaa.SpanMem Go.Proofs.Ytjjigkomiidipaa.StepMem Go.Proofs.Ytjjigkomiidipaa.SpanRef Go.Proofs.Ytjjigkomiidipaa.StepRef
theorem mayg_ways (s : List Sp) (w n : Int) : (mayG s w n = false ∧ chkB s = false) ∨ (mayG s w n = false ∧ chkB s = true ∧ decide (1 ≤ w) = false) ∨ (mayG s w n = false ∧ chkB s = true ∧ decide (1 ≤ w) = true ∧ decide (w ≤ 256) = false) ∨
    (mayG s w n = false ∧ chkB s = true ∧ decide (1 ≤ w) = true ∧ decide (w ≤ 256) = true ∧ decide (1 ≤ n) = false) ∨ (mayG s w n = false ∧ chkB s = true ∧ decide (1 ≤ w) = true ∧ decide (w ≤ 256) = true ∧ decide (1 ≤ n) = true ∧ decide (n ≤ 1099511627776) = false) ∨
    (mayG s w n = true ∧ chkB s = true ∧ decide (1 ≤ w) = true ∧ decide (w ≤ 256) = true ∧ decide (1 ≤ n) = true ∧ decide (n ≤ 1099511627776) = true) := by
  unfold mayG
  cases chkB s <;> cases decide (1 ≤ w) <;> cases decide (w ≤ 256) <;> cases decide (1 ≤ n) <;> cases decide (n ≤ 1099511627776) <;> simp
set_option maxHeartbeats 1600000 in
theorem may6 (s : List Sp) (a n : Int) (v : Value) (w : World) (hv : SpansIs s w v) (hl : s.length ≤ 9000) : Calls Try.prog 25 #[v, .int .i64 a, .int .i64 n] w (BoolIs (mayG s a n) w) := by
  have CC := Lib.hid (check4 s v w hv hl)
  have hw := mayg_ways s a n
  clear hv
  rcases hw with ⟨hm, hc⟩ | ⟨hm, hc, h1⟩ | ⟨hm, hc, h1, h2⟩ | ⟨hm, hc, h1, h2, h3⟩ | ⟨hm, hc, h1, h2, h3, h4⟩ | ⟨hm, hc, h1, h2, h3, h4⟩
  all_goals
    rw [hc] at CC
    rw [hm]
    clear hm hc
    go_enter Try.func25, Try.ntmps25
    go_wp2_with fail
    refine CC.out.mono ?_
    rintro e w1 ⟨rfl, q, rfl⟩
    go_wp2_with fail
    go_ret
    exact ⟨rfl, below_drewN (Below.refl _ _) q⟩
theorem roomb_ways (s : List Sp) (a w n : Int) : (roomB s a w n = false ∧ decide (head s ≤ a) = false) ∨ (roomB s a w n = false ∧ decide (head s ≤ a) = true ∧ decide (a ≤ 1125899906842624) = false) ∨
    (decide (head s ≤ a) = true ∧ decide (a ≤ 1125899906842624) = true ∧ roomB s a w n = decide (w ≤ minTo s (a, a + n) s.length)) := by
  unfold roomB
  cases decide (head s ≤ a) <;> cases decide (a ≤ 1125899906842624) <;> simp
set_option maxHeartbeats 1600000 in
theorem ok6 (s : List Sp) (a m n : Int) (v : Value) (w : World) (hv : SpansIs s w v) (hl : s.length ≤ 9000) (hc : Chk s) (hn1 : 1 ≤ n) (hn2 : n ≤ 1099511627776) :
    Calls Try.prog 36 #[v, .int .i64 a, .int .i64 m, .int .i64 n] w (BoolIs (roomB s a m n) w) := by
  have CM := Lib.hid (min4 s (a, a + n) v w hv hl)
  obtain ⟨A, c, rfl, hA⟩ := hv.open_
  obtain ⟨ad, rfl, had, c1, _⟩ := pair_zero hA hc.pos
  have hh : (spCell s 0).1 = .int .i64 (head s) := rfl
  rw [hh] at c1
  have hlz : (0 : Int) < (s.length : Int) := by have := hc.pos; omega
  have hlo := hc.lo
  have hw := roomb_ways s a m n
  unfold spV at CM
  dsimp only at CM
  clear hv hA hh hc
  generalize head s = h at *
  rcases hw with ⟨hr, h1⟩ | ⟨hr, h1, h2⟩ | ⟨h1, h2, hr⟩
  · rw [hr]
    clear hr CM
    go_enter Try.func36, Try.ntmps36
    go_wp2_with fail
    go_ret
    exact ⟨rfl, Below.refl _ _⟩
  · rw [hr]
    clear hr CM
    go_enter Try.func36, Try.ntmps36
    go_wp2_with fail
    go_ret
    exact ⟨rfl, Below.refl _ _⟩
  · have a1 := of_decide_eq_true h1
    have a2 := of_decide_eq_true h2
    generalize minTo s (a, a + n) s.length = x at *
    generalize roomB s a m n = R at *
    subst hr
    cases hx : decide (m ≤ x)
    all_goals
      go_enter Try.func36, Try.ntmps36
      go_wp2_with fail
      refine CM.out.mono ?_
      rintro e w1 ⟨rfl, hb1⟩
      have HB1 := Lib.hid hb1
      clear hb1
      go_wp2_with fail
      go_ret
      exact ⟨rfl, HB1.out⟩
end Go.Proofs.Ytjjigkomiidipaa.GapRef
namespace Go.Proofs.Ytjjigkomiidipaa.GapRef
open Go.RowKit Go.Proofs.Ytjjigkomiidipaa.SpanPlain Go.Proofs.Ytjjigkomiidipaa.StepPlain Go.Proofs.Ytjjigkomiidipaa.GapPlain Go.Proofs.Ytjjigkomiidipaa.Mem Go.Proofs.Ytjjigkomiidipaa.SpanMem Go.Proofs.Ytjjigkomiidipaa.StepMem Go.Proofs.Ytjjigkomiidipaa.SpanRef Go.Proofs.Ytjjigkomiidipaa.StepRef
theorem drop_at {s : List Sp} {k : Nat} (h : k < s.length) : s.drop k = nth s k :: s.drop (k + 1) := by unfold nth; rw [getSp h, List.drop_eq_getElem_cons h]
theorem fit_ways (s : List Sp) (f w n : Int) : (decide ((1125899906842624 : Int) < max f (head s)) = true ∧ fitL s f w n = -1) ∨ (decide ((1125899906842624 : Int) < max f (head s)) = false ∧ roomB s (max f (head s)) w n = true ∧ fitL s f w n = max f (head s)) ∨
    (decide ((1125899906842624 : Int) < max f (head s)) = false ∧ roomB s (max f (head s)) w n = false ∧ fitL s f w n = fitStep s (max f (head s)) w n s) := by
  unfold fitL
  by_cases h1 : 1125899906842624 < max f (head s)
  · exact .inl ⟨decide_eq_true h1, if_pos h1⟩
  · rw [if_neg h1]
    cases h2 : roomB s (max f (head s)) w n with
    | true => exact .inr (.inl ⟨decide_eq_false h1, rfl, if_pos rfl⟩)
    | false => exact .inr (.inr ⟨decide_eq_false h1, rfl, if_neg (by simp)⟩)
theorem step_ways (s : List Sp) (f w n : Int) {k : Nat} (h : k < s.length) : (decide (f < (nth s k).1) = false ∧ Hid (fitStep s f w n (s.drop k) = fitStep s f w n (s.drop (k + 1)))) ∨ (decide (f < (nth s k).1) = true ∧ roomB s (nth s k).1 w n = false ∧ Hid (fitStep s f w n (s.drop k) = fitStep s f w n (s.drop (k + 1)))) ∨
    (decide (f < (nth s k).1) = true ∧ roomB s (nth s k).1 w n = true ∧ Hid (fitStep s f w n (s.drop k) = (nth s k).1)) := by
  rw [drop_at h]
  generalize nth s k = y
  by_cases h1 : f < y.1
  · cases h2 : roomB s y.1 w n with
    | false => exact .inr (.inl ⟨decide_eq_true h1, rfl, if_neg (fun h3 => by rw [h2] at h3; cases h3.2)⟩)
    | true => exact .inr (.inr ⟨decide_eq_true h1, rfl, if_pos ⟨h1, h2⟩⟩)
  · exact .inl ⟨decide_eq_false h1, if_neg (fun h3 => h1 h3.1)⟩
theorem ret_is {k : IntKind} {a b : Int} (h : a = b) : Ending.returned (.int k a) = .returned (.int k b) := by rw [h]
def IntA (n : Int) (w : World) (e : Ending) (w' : World) : Prop := e = .returned (.int .i64 n) ∧ Below w.heap.size w w'
set_option maxRecDepth 100000 in
set_option maxHeartbeats 3200000 in
theorem fit6 (s : List Sp) (f m n : Int) (v : Value) (w : World) (hv : SpansIs s w v) (hl : s.length ≤ 9000) (hc : Chk s) (hn1 : 1 ≤ n) (hn2 : n ≤ 1099511627776) :
    Calls Try.prog 26 #[v, .int .i64 f, .int .i64 m, .int .i64 n] w (IntA (fitL s f m n) w) := by
  have CO := Lib.hid (fun a (w' : World) (hb : Below w.heap.size w w') => ok6 s a m n v w' (hv.below hb) hl hc hn1 hn2)
  obtain ⟨A, c, rfl, hA⟩ := hv.open_
  have HA := Lib.hid hA
  have HC := Lib.hid hc
  obtain ⟨ad, rfl, had, c1, _⟩ := pair_zero hA hc.pos
  have hh : (spCell s 0).1 = .int .i64 (head s) := rfl
  rw [hh] at c1
  have hlz : (0 : Int) < (s.length : Int) := by have := hc.pos; omega
  have hw := fit_ways s f m n
  clear hv hA hh hc
  obtain ⟨F, hF, hcase⟩ : ∃ F, F = max f (head s) ∧ ((decide (f < head s) = true ∧ F = head s) ∨ (decide (f < head s) = false ∧ F = f)) := by
    by_cases h1 : f < head s
    · exact ⟨_, rfl, .inl ⟨decide_eq_true h1, by omega⟩⟩
    · exact ⟨_, rfl, .inr ⟨decide_eq_false h1, by omega⟩⟩
  rw [← hF] at hw
  have HW := Lib.hid (fun k (hk : k < s.length) => step_ways s F m n hk)
  have C1 := Lib.hid (CO.out F w (Below.refl _ _))
  generalize fitL s f m n = R at *
  clear hF
  generalize head s = hd at hcase c1
  rcases hcase with ⟨h0, hmx⟩ | ⟨h0, hmx⟩
  · obtain rfl : hd = F := hmx.symm
    clear hmx
    rcases hw with ⟨h1, hr⟩ | ⟨h1, h2, hr⟩ | ⟨h1, h2, hr⟩
    · subst hr
      clear C1 CO HW
      go_enter Try.func26, Try.ntmps26
      go_wp2_with fail
      go_ret
      exact ⟨rfl, Below.refl _ _⟩
    · rw [h2] at C1
      subst hr
      clear CO h2 HW
      go_enter Try.func26, Try.ntmps26
      go_wp2_with fail
      refine C1.out.mono ?_
      rintro e w1 ⟨rfl, hb1⟩
      have HB1 := Lib.hid hb1
      clear hb1
      go_wp2_with fail
      go_ret
      exact ⟨rfl, HB1.out⟩
    · rw [h2] at C1
      subst hr
      clear h2
      go_enter Try.func26, Try.ntmps26
      go_wp2_with fail
      refine C1.out.mono ?_
      rintro e w1 ⟨rfl, hb1⟩
      have HB1 := Lib.hid hb1
      clear hb1 c1 C1
      go_wp2_with fail
      go_loopw [10] (fun i wr => ∃ k : Nat, i = .int .i64 k ∧ k ≤ s.length ∧ Hid (fitStep s hd m n s = fitStep s hd m n (s.drop k) ∧ Below w.heap.size w wr)) (fun i _ => s.length - (intOf i).toNat)
      case atStart => exact ⟨0, rfl, Nat.zero_le _, rfl, HB1.out⟩
      case round =>
        obtain ⟨k, rfl, hk, HL⟩ := hrel
        obtain ⟨he, hbl⟩ := HL.out
        by_cases hlt : k < s.length
        · obtain ⟨ad2, ead, had2, c3, c4⟩ := (HA.out.below hbl) k hlt
          injection ead with ead
          subst ead
          have e1 : (spCell s k).1 = .int .i64 (nth s k).1 := rfl
          rw [e1] at c3
          have hways := HW.out k hlt
          have CK := Lib.hid (CO.out (nth s k).1 wr hbl)
          have hlt2 : (k : Int) < (s.length : Int) := by omega
          have HE := Lib.hid he
          have HBL := Lib.hid hbl
          clear he hbl HL e1 c4
          rcases hways with ⟨g1, HX⟩ | ⟨g1, g2, HX⟩ | ⟨g1, g2, HX⟩
          · have HN := Lib.hid (HE.out.trans HX.out)
            clear CK HX
            generalize nth s k = y at *
            go_wp2_with fail
            exact ⟨⟨k + 1, by go_num, by omega, HN.out, HBL.out⟩, by simp [intOf] <;> omega⟩
          · have HN := Lib.hid (HE.out.trans HX.out)
            rw [g2] at CK
            clear HX g2
            generalize nth s k = y at *
            go_wp2_with fail
            refine CK.out.mono ?_
            rintro e w2 ⟨rfl, hb2⟩
            have HB2 := Lib.hid (HBL.out.trans (hb2.mono HBL.out.size))
            clear hb2
            go_wp2_with fail
            exact ⟨⟨k + 1, by go_num, by omega, HN.out, HB2.out⟩, by simp [intOf] <;> omega⟩
          · have HN := Lib.hid (HE.out.trans HX.out)
            rw [g2] at CK
            clear HX g2
            generalize nth s k = y at *
            go_wp2_with fail
            refine CK.out.mono ?_
            rintro e w2 ⟨rfl, hb2⟩
            have HB2 := Lib.hid (HBL.out.trans (hb2.mono HBL.out.size))
            have c5 := (hb2.cell (by rw [add_block]; exact had2)).trans c3
            clear hb2 c3
            go_wp2_with fail
            go_ret
            exact ⟨ret_is HN.out.symm, HB2.out⟩
        · have HN : Hid (fitStep s hd m n s = -1) := by rw [he, List.drop_eq_nil_of_le (by omega)]; rfl
          have HBL := Lib.hid hbl
          clear he hbl HL
          go_wp2_with fail
          go_ret
          exact ⟨ret_is HN.out.symm, HBL.out⟩
  · obtain rfl : f = F := hmx.symm
    clear hmx
    rcases hw with ⟨h1, hr⟩ | ⟨h1, h2, hr⟩ | ⟨h1, h2, hr⟩
    · subst hr
      clear C1 CO HW
      go_enter Try.func26, Try.ntmps26
      go_wp2_with fail
      go_ret
      exact ⟨rfl, Below.refl _ _⟩
    · rw [h2] at C1
      subst hr
      clear CO h2 HW
      go_enter Try.func26, Try.ntmps26
      go_wp2_with fail
      refine C1.out.mono ?_
      rintro e w1 ⟨rfl, hb1⟩
      have HB1 := Lib.hid hb1
      clear hb1
      go_wp2_with fail
      go_ret
      exact ⟨rfl, HB1.out⟩
    · rw [h2] at C1
      subst hr
      clear h2
      go_enter Try.func26, Try.ntmps26
      go_wp2_with fail
      refine C1.out.mono ?_
      rintro e w1 ⟨rfl, hb1⟩
      have HB1 := Lib.hid hb1
      clear hb1 c1 C1
      go_wp2_with fail
      go_loopw [10] (fun i wr => ∃ k : Nat, i = .int .i64 k ∧ k ≤ s.length ∧ Hid (fitStep s f m n s = fitStep s f m n (s.drop k) ∧ Below w.heap.size w wr)) (fun i _ => s.length - (intOf i).toNat)
      case atStart => exact ⟨0, rfl, Nat.zero_le _, rfl, HB1.out⟩
      case round =>
        obtain ⟨k, rfl, hk, HL⟩ := hrel
        obtain ⟨he, hbl⟩ := HL.out
        by_cases hlt : k < s.length
        · obtain ⟨ad2, ead, had2, c3, c4⟩ := (HA.out.below hbl) k hlt
          injection ead with ead
          subst ead
          have e1 : (spCell s k).1 = .int .i64 (nth s k).1 := rfl
          rw [e1] at c3
          have hways := HW.out k hlt
          have CK := Lib.hid (CO.out (nth s k).1 wr hbl)
          have hlt2 : (k : Int) < (s.length : Int) := by omega
          have HE := Lib.hid he
          have HBL := Lib.hid hbl
          clear he hbl HL e1 c4
          rcases hways with ⟨g1, HX⟩ | ⟨g1, g2, HX⟩ | ⟨g1, g2, HX⟩
          · have HN := Lib.hid (HE.out.trans HX.out)
            clear CK HX
            generalize nth s k = y at *
            go_wp2_with fail
            exact ⟨⟨k + 1, by go_num, by omega, HN.out, HBL.out⟩, by simp [intOf] <;> omega⟩
          · have HN := Lib.hid (HE.out.trans HX.out)
            rw [g2] at CK
            clear HX g2
            generalize nth s k = y at *
            go_wp2_with fail
            refine CK.out.mono ?_
            rintro e w2 ⟨rfl, hb2⟩
            have HB2 := Lib.hid (HBL.out.trans (hb2.mono HBL.out.size))
            clear hb2
            go_wp2_with fail
            exact ⟨⟨k + 1, by go_num, by omega, HN.out, HB2.out⟩, by simp [intOf] <;> omega⟩
          · have HN := Lib.hid (HE.out.trans HX.out)
            rw [g2] at CK
            clear HX g2
            generalize nth s k = y at *
            go_wp2_with fail
            refine CK.out.mono ?_
            rintro e w2 ⟨rfl, hb2⟩
            have HB2 := Lib.hid (HBL.out.trans (hb2.mono HBL.out.size))
            have c5 := (hb2.cell (by rw [add_block]; exact had2)).trans c3
            clear hb2 c3
            go_wp2_with fail
            go_ret
            exact ⟨ret_is HN.out.symm, HB2.out⟩
        · have HN : Hid (fitStep s f m n s = -1) := by rw [he, List.drop_eq_nil_of_le (by omega)]; rfl
          have HBL := Lib.hid hbl
          clear he hbl HL
          go_wp2_with fail
          go_ret
          exact ⟨ret_is HN.out.symm, HBL.out⟩
end Go.Proofs.Ytjjigkomiidipaa.GapRef
namespace Go.Proofs.Ytjjigkomiidipaa.GapRef
open Go.RowKit Go.Proofs.Ytjjigkomiidipaa.SpanPlain Go.Proofs.Ytjjigkomiidipaa.StepPlain Go.Proofs.Ytjjigkomiidipaa.GapPlain Go.Proofs.Ytjjigkomiidipaa.Mem Go.Proofs.Ytjjigkomiidipaa.SpanMem Go.Proofs.Ytjjigkomiidipaa.StepMem Go.Proofs.Ytjjigkomiidipaa.SpanRef Go.Proofs.Ytjjigkomiidipaa.StepRef
end Go.Proofs.Ytjjigkomiidipaa.GapRef
namespace Go.Proofs.Ytjjigkomiidipaa.GapWalk
open Go.RowKit Go.Proofs.Ytjjigkomiidipaa.SpanPlain Go.Proofs.Ytjjigkomiidipaa.StepPlain Go.Proofs.Ytjjigkomiidipaa.GapPlain Go.Proofs.Ytjjigkomiidipaa.Mem Go.Proofs.Ytjjigkomiidipaa.SpanMem Go.Proofs.Ytjjigkomiidipaa.StepMem Go.Proofs.Ytjjigkomiidipaa.SpanRef Go.Proofs.Ytjjigkomiidipaa.StepRef Go.Proofs.Ytjjigkomiidipaa.GapRef
def FitSays (s : List Sp) (f m n : Int) (w : World) (e : Ending) (w' : World) : Prop := ∃ r b, e = .returned (.tuple #[.int .i64 r, .bool b]) ∧ FitIs s f m n r b ∧ Below w.heap.size w w'
def WideSays (s : List Sp) (a n : Int) (w : World) (e : Ending) (w' : World) : Prop := ∃ m, e = .returned (.int .i64 m) ∧ WideIs s a n m ∧ Below w.heap.size w w'
end Go.Proofs.Ytjjigkomiidipaa.GapWalk
namespace Go.Proofs.Ytjjigkomiidipaa.StepRef
open Go.RowKit Go.Proofs.Ytjjigkomiidipaa.SpanPlain Go.Proofs.Ytjjigkomiidipaa.StepPlain Go.Proofs.Ytjjigkomiidipaa.Mem Go.Proofs.Ytjjigkomiidipaa.SpanMem Go.Proofs.Ytjjigkomiidipaa.StepMem Go.Proofs.Ytjjigkomiidipaa.SpanRef
theorem OwnR.one (w : World) (e : TypeId) (k : IntKind) (n : Int) : OwnR e 1 w.heap.size (w.alloc (.cells #[.int k n] e)) (.slice (some ⟨w.heap.size, 0, none⟩) 1 1) 1 [.int k n] :=
  ⟨World.ownsRow_lit w #[.int k n] 1 (Nat.le_refl _) (by decide) rfl, by simp, by simp⟩
end Go.Proofs.Ytjjigkomiidipaa.StepRef
namespace Go.Proofs.Ytjjigkomiidipaa.ShaRef
open Go.RowKit Go.Proofs.Ytjjigkomiidipaa.SpanPlain Go.Proofs.Ytjjigkomiidipaa.StepPlain Go.Proofs.Ytjjigkomiidipaa.GapPlain Go.Proofs.Ytjjigkomiidipaa.JobPlain Go.Proofs.Ytjjigkomiidipaa.ShaPlain Go.Proofs.Ytjjigkomiidipaa.Mem Go.Proofs.Ytjjigkomiidipaa.SpanMem Go.Proofs.Ytjjigkomiidipaa.StepMem Go.Proofs.Ytjjigkomiidipaa.JobMem Go.Proofs.Ytjjigkomiidipaa.OrdMem Go.Proofs.Ytjjigkomiidipaa.SpanRef Go.Proofs.Ytjjigkomiidipaa.StepRef Go.Proofs.Ytjjigkomiidipaa.GapRef
/-- The shadow as the document's answer tells it; -1: none. -/
def fitN (s : List Sp) (now : Int) (j : Jb) : Int := if mayG s j.width j.est = true then fitL s now j.width j.est else -1
def IntS (n : Int) (w : World) (e : Ending) (w' : World) : Prop := e = .returned (.int .i64 n) ∧ Below w.heap.size w w'
def BoolS (b : Bool) (w : World) (e : Ending) (w' : World) : Prop := e = .returned (.bool b) ∧ Below w.heap.size w w'
theorem box_s (w : World) (o : Obj) : Below w.heap.size w (w.alloc o) := (Below.refl _ _).alloc (Nat.le_refl _) o
theorem thenS {w w1 w2 : World} (h : Below w.heap.size w w1) (h2 : Below w1.heap.size w1 w2) : Below w.heap.size w w2 := h.trans (h2.mono h.size)
set_option maxHeartbeats 1600000 in
theorem of15 (s : List Sp) (now : Int) (j : Jb) (v : Value) (w : World) (hv : SpansIs s w v) (hl : s.length ≤ 9000) : Calls Try.prog 13 #[v, .int .i64 now, jobV j] w (IntS (fitN s now j) w) := by
  have HX := Lib.hid (JobBox.new w j 23)
  have HB := Lib.hid (box_s w (.cells #[.int .i64 j.id, .string j.user, .int .i64 j.width, .int .i64 j.est, .int .i64 j.prio, .int .i64 j.sub, .int .i64 j.state, .int .i64 j.start, .int .i64 j.fin] 23))
  have CM := Lib.hid (may6 s j.width j.est v (w.alloc (.cells #[.int .i64 j.id, .string j.user, .int .i64 j.width, .int .i64 j.est, .int .i64 j.prio, .int .i64 j.sub, .int .i64 j.state, .int .i64 j.start, .int .i64 j.fin] 23)) (hv.below HB.out) hl)
  have CF : Hid (mayG s j.width j.est = true → ∀ W, Below w.heap.size w W → Calls Try.prog 26 #[v, .int .i64 now, .int .i64 j.width, .int .i64 j.est] W (IntA (fitL s now j.width j.est) W)) := fun h W hW => fit6 s now j.width j.est v W (hv.below hW) hl (mayG_iff.1 h).1 (mayG_iff.1 h).2.2.1 (mayG_iff.1 h).2.2.2
  obtain ⟨A, c, rfl, _⟩ := hv.open_
  unfold fitN
  clear hv
  unfold jobV jobA
  generalize fitL s now j.width j.est = F at *
  cases hm : mayG s j.width j.est with
  | false =>
    rw [hm] at CM
    clear hm CF
    go_enter Try.func13, Try.ntmps13
    go_upto_region 1 with fail
    generalize w.alloc (.cells #[.int .i64 j.id, .string j.user, .int .i64 j.width, .int .i64 j.est, .int .i64 j.prio, .int .i64 j.sub, .int .i64 j.state, .int .i64 j.start, .int .i64 j.fin] 23) = W0 at *
    obtain ⟨y, y0, y1, y2, y3, y4, y5, y6, y7, y8, _, _, _, _, _, _, _, _, _⟩ := HX.out
    go_wp2_with fail
    refine CM.out.mono ?_
    rintro e w1 ⟨rfl, hb1⟩
    have HB1 := Lib.hid (thenS HB.out hb1)
    clear hb1
    go_wp2_with fail
    go_ret
    exact ⟨rfl, HB1.out⟩
  | true =>
    have CG := Lib.hid (CF.out hm)
    rw [hm] at CM
    clear hm CF
    go_enter Try.func13, Try.ntmps13
    go_upto_region 1 with fail
    generalize w.alloc (.cells #[.int .i64 j.id, .string j.user, .int .i64 j.width, .int .i64 j.est, .int .i64 j.prio, .int .i64 j.sub, .int .i64 j.state, .int .i64 j.start, .int .i64 j.fin] 23) = W0 at *
    obtain ⟨y, y0, y1, y2, y3, y4, y5, y6, y7, y8, _, _, _, _, _, _, _, _, _⟩ := HX.out
    go_wp2_with fail
    refine CM.out.mono ?_
    rintro e w1 ⟨rfl, hb1⟩
    have HB1 := Lib.hid (thenS HB.out hb1)
    obtain ⟨z, z0, z1, z2, z3, z4, z5, z6, z7, z8, _, _, _, _, _, _, _, _, _⟩ := HX.out.below hb1
    clear hb1 y y0 y1 y2 y3 y4 y5 y6 y7 y8
    go_wp2_with fail
    refine (CG.out _ HB1.out).mono ?_
    rintro e w2 ⟨rfl, hb2⟩
    have HB2 := Lib.hid (thenS HB1.out hb2)
    clear hb2
    go_wp2_with fail
    go_ret
    exact ⟨rfl, HB2.out⟩
end Go.Proofs.Ytjjigkomiidipaa.ShaRef
namespace Go.Proofs.Ytjjigkomiidipaa.Mem
open Go.RowKit
def IntsAt (l : List Int) (w : World) (v : Value) : Prop := ∃ A c, v = .slice A l.length c ∧ l.length ≤ c ∧ Cells w A l.length (icell l)
section
variable {l : List Int} {w w' : World} {v : Value}
theorem IntsAt.nil (w : World) : IntsAt [] w (.slice none 0 0) := ⟨none, 0, rfl, Nat.le_refl _, Cells.none_⟩
theorem IntsAt.own {e : TypeId} {base n : Nat} (h : OwnN e 1 base w v n (ivals l)) (hn : n = l.length) : IntsAt l w v := by
  subst hn
  have hs := h.src
  rcases hs with ⟨e0, h0, _⟩ | ⟨a, c, e0, hr⟩
  · have hl : l = [] := List.length_eq_zero_iff.1 h0
    subst hl
    subst e0
    exact IntsAt.nil w
  · obtain ⟨A, c2, e2⟩ := h.shape
    have hcap : l.length ≤ c := by
      have h3 := h.form
      subst e0
      rcases h3 with h3 | h3
      · exact absurd h3.1 (by simp)
      · obtain ⟨g, c3, e3, h4⟩ := h3
        injection e3 with _ _ e3
        omega
    exact ⟨some a, c, e0, hcap, fun i hi => ⟨a, rfl, hr.intlt hi, hr.int hi⟩⟩
end
end Go.Proofs.Ytjjigkomiidipaa.Mem
namespace Go.Proofs.Ytjjigkomiidipaa.Mem
open Go.RowKit
/-- A row's block is the elder one's, or a new one. -/
def NextTo (w : World) (v v' : Value) : Prop := v'.ownBlock = v.ownBlock ∨ ∃ b, v'.ownBlock = some b ∧ w.heap.size ≤ b
theorem run_append_sep {P : Program} {w : World} {T ty e : TypeId} {k bytes : Nat} (E : ElemT P T e k bytes) (base : Nat) (v : Value) (n : Nat) (xs : List Value) (hown : OwnN e k base w v n xs)
    (a : Addr) (m c : Nat) (ys : List Value) (hl : ys.length = m * k) (hr : Raw w a ys) (h1 : ∀ u ∈ ys, u.oneCell' = true) (hb : n + m ≤ 1099511627776) :
    ∃ v' w', (Builtin.append_ #[T, T] ty #[v, .slice (some a) m c]).run P w = .ok v' w' ∧ OwnN e k base w' v' (n + m) (xs ++ ys) ∧ Below base w w' ∧ w.grownBy w' v.ownBlock ∧ NextTo w v v' := by
  obtain ⟨i, z, hi, hz0, hz1, hz2, hzs⟩ := E.info
  have hby : (n + m) * bytes ≤ 140737488355328 := by
    have := Nat.mul_le_mul hb E.small
    omega
  have hmax : n + m ≤ maxLen := by unfold maxLen; omega
  have hcell : ∀ j u, ys[j]? = some u → w.cell? (a.add j) = some u := fun j u hu => (hr j u hu).2
  have hnone : w.grownBy w none → True := fun _ => trivial
  have hwide : ∀ {w' : World} {row : Option Nat}, w.grownBy w' none → w.grownBy w' row := fun hg => ⟨hg.os, hg.tape, hg.output, hg.size, fun q hq _ => hg.block q hq (by simp)⟩
  rcases hown.1.2 with ⟨rfl, rfl⟩ | ⟨g, cap, cur, rfl, hbg, hgc, hnc, hcm, hcs, hct⟩
  · have hx0 : xs = [] := List.eq_nil_of_length_eq_zero (by have := hown.1.1; omega)
    subst hx0
    obtain ⟨v', w', hrun, r1, r2, _⟩ := run_append_own (P := P) w w.heap.size T ty e i z k bytes E.und hi hz0 hz1 hz2 hzs E.pos (.slice none 0 0) 0 [] (World.ownsRow_nil w _ e k) a m c ys hl hcell h1 hmax hby (Nat.le_refl _)
    have r0 : OwnN e k w.heap.size w' v' (0 + m) ([] ++ ys) := ⟨r1, r2.size⟩
    refine ⟨v', w', hrun, r0.rebase hown.2, below_of_grown (Below.refl base w) hown.1 hown.2 r2, r2, ?_⟩
    cases hq : v'.ownBlock with
    | none => exact .inl hq
    | some q => exact .inr ⟨q, hq, (r1.lt q hq).1⟩
  · by_cases hroom : n + m ≤ cap
    · obtain ⟨w', hrun, r1, r2⟩ := run_append_fits (P := P) w base T ty e i k E.und hi hz1 g n cap xs hown.1 a m c ys hl hcell h1 hroom
      exact ⟨_, w', hrun, ⟨r1, Nat.le_trans hown.2 r2.size⟩, below_of_grown (Below.refl base w) hown.1 hown.2 r2, r2, .inl rfl⟩
    · obtain ⟨g2, c2, e2, _, _, _, _, hraw, _⟩ : ∃ g2 c2, (Value.slice (some ⟨g, 0, none⟩) n cap) = .slice (some ⟨g2, 0, none⟩) n c2 ∧ base ≤ g2 ∧ g2 < w.heap.size ∧ n ≤ c2 ∧ c2 ≤ maxLen ∧ Raw w ⟨g2, 0, none⟩ xs ∧ True := by
        rcases hown.form with ⟨h, _⟩ | ⟨g2, c2, h, h1, h2, h3, h4, h5, _⟩
        · cases h
        · exact ⟨g2, c2, h, h1, h2, h3, h4, h5, trivial⟩
      injection e2 with e2
      injection e2 with e2
      injection e2 with e2
      subst e2
      obtain ⟨v', w', hrun, r1, r2⟩ := run_append_arg_grows (P := P) w T ty e i z k bytes E.und hi hz0 hz1 hz2 hzs E.pos ⟨g, 0, none⟩ n cap xs hown.1.1 (fun j u hu => (hraw j u hu).2) a m c ys hl hcell (by omega) hmax hby
      have r0 : OwnN e k w.heap.size w' v' (n + m) (xs ++ ys) := ⟨r1, r2.size⟩
      refine ⟨v', w', hrun, r0.rebase hown.2, below_of_grown (Below.refl base w) hown.1 hown.2 (hwide r2), hwide r2, ?_⟩
      cases hq : v'.ownBlock with
      | none =>
        exfalso
        rcases r1.2 with ⟨rfl, hz⟩ | ⟨g3, c3, cur3, rfl, _⟩
        · omega
        · cases hq
      | some q => exact .inr ⟨q, hq, (r1.lt q hq).1⟩
theorem push_sep {P : Program} {w : World} {ops : Array Oper} {rest : List Oper} {o : Oper} {act : Act} {Q : Exit → Act → World → Prop} {T e : TypeId} {k bytes : Nat} (E : ElemT P T e k bytes) (hgd : o.guard = none) (s x : Operand)
    (ho : o.op = .call { callee := .builtin .append, args := #[s, x], argTypes := #[T, T] }) (base : Nat) (v : Value) (n : Nat) (xs : List Value) (hs : act.eval s = v) (hown : OwnN e k base w v n xs)
    (a : Addr) (m c : Nat) (ys : List Value) (hx : act.eval x = .slice (some a) m c) (hl : ys.length = m * k) (hr : Raw w a ys) (h1 : ∀ u ∈ ys, u.oneCell' = true) (hb : n + m ≤ 1099511627776)
    (h : ∀ A' c' w', OwnN e k base w' (.slice A' (n + m) c') (n + m) (xs ++ ys) → Below base w w' → w.grownBy w' v.ownBlock → NextTo w v (.slice A' (n + m) c') → wpList P ops Q rest (act.put o.dst (.slice A' (n + m) c')) w') : wpList P ops Q (o :: rest) act w := by
  obtain ⟨v', w', hrun, r1, r2, r3, r4⟩ := run_append_sep (P := P) (ty := o.type) E base v n xs hown a m c ys hl hr h1 hb
  obtain ⟨A', c', rfl⟩ := r1.shape
  refine wpList_plain hgd fun K hK => ?_
  unfold Oper.wp execOp
  simp only [ho, resolve, invoke, builtin, Sem.run_bind, Sem.run_pure, Result.andThen_ok, List.map_toArray, List.map_cons, List.map_nil, hs, hx, hrun]
  exact hK _ _ (h A' c' w' r1 r2 r3 r4)
/-- The same, of a source that may be nil. -/
theorem push_seps {P : Program} {w : World} {ops : Array Oper} {rest : List Oper} {o : Oper} {act : Act} {Q : Exit → Act → World → Prop} {T e : TypeId} {k bytes : Nat} (E : ElemT P T e k bytes) (hgd : o.guard = none) (s x : Operand)
    (ho : o.op = .call { callee := .builtin .append, args := #[s, x], argTypes := #[T, T] }) (base : Nat) (v : Value) (n : Nat) (xs : List Value) (hs : act.eval s = v) (hown : OwnN e k base w v n xs)
    (v2 : Value) (m : Nat) (ys : List Value) (hx : act.eval x = v2) (hl : ys.length = m * k) (hr : Src w v2 m ys) (h1 : ∀ u ∈ ys, u.oneCell' = true) (hb : n + m ≤ 1099511627776)
    (h : ∀ v' w', OwnN e k base w' v' (n + m) (xs ++ ys) → Below base w w' → w.grownBy w' v.ownBlock → NextTo w v v' → wpList P ops Q rest (act.put o.dst v') w') : wpList P ops Q (o :: rest) act w := by
  rcases hr with ⟨rfl, rfl, rfl⟩ | ⟨a, c, rfl, hr⟩
  · obtain ⟨i, z, hi, hz0, hz1, hz2, hzs⟩ := E.info
    have hrun := run_append_owned_none (P := P) (w := w) base T o.type e i k E.und hi v n xs hown.1
    refine wpList_plain hgd fun K hK => ?_
    unfold Oper.wp execOp
    simp only [ho, resolve, invoke, builtin, Sem.run_bind, Sem.run_pure, Result.andThen_ok, List.map_toArray, List.map_cons, List.map_nil, hs, hx, hrun]
    exact hK _ _ (h v w (by simpa using hown) (Below.refl _ _) ⟨rfl, rfl, rfl, Nat.le_refl _, fun _ _ _ => rfl⟩ (.inl rfl))
  · exact push_sep E hgd s x ho base v n xs hs hown a m c ys hx hl hr h1 hb (fun A' c' w' r1 r2 r3 r4 => h _ w' r1 r2 r3 r4)
section
variable {e : TypeId} {k base n : Nat} {w w' : World} {v : Value} {xs : List Value}
/-- A row at a block that is not the one that was written stays. -/
theorem OwnN.kept {row : Option Nat} (h : OwnN e k base w v n xs) (hg : w.grownBy w' row) (hne : v.ownBlock = none ∨ v.ownBlock ≠ row) : OwnN e k base w' v n xs := by
  refine ⟨⟨h.1.1, ?_⟩, Nat.le_trans h.2 hg.size⟩
  rcases h.1.2 with hn | ⟨g, cap, cur, hv, hb, hgc, rest⟩
  · exact .inl hn
  · refine .inr ⟨g, cap, cur, hv, hb, ?_, rest⟩
    have hlt : g < w.heap.size := (h.1.lt g (by rw [hv]; rfl)).2
    rw [hg.block g hlt (by
      rcases hne with hne | hne
      · rw [hv] at hne; cases hne
      · rw [hv] at hne; exact hne)]
    exact hgc
theorem OwnN.set_apart (h : OwnN e k base w v n xs) {p : Addr} (hp : v.ownBlock ≠ some p.block) (u : Value) : OwnN e k base (w.setCell p u) v n xs := by
  refine ⟨⟨h.1.1, ?_⟩, by simp [World.setCell]; exact h.2⟩
  rcases h.1.2 with hn | ⟨g, cap, cur, hv, hb, hgc, rest⟩
  · exact .inl hn
  · refine .inr ⟨g, cap, cur, hv, hb, ?_, rest⟩
    rw [Below.heap_setCell w p u g (fun hq => hp (by rw [hv]; simp [Value.ownBlock, hq]))]
    exact hgc
theorem OwnN.block_lt (h : OwnN e k base w v n xs) {b : Nat} (hb : v.ownBlock = some b) : base ≤ b ∧ b < w.heap.size := h.1.lt b hb
end
/-- L own rows, each at a block of its own. -/
structure Fam (e : TypeId) (k base : Nat) (w : World) (L : Nat) (V : Nat → Value) (N : Nat → Nat) (X : Nat → List Value) : Prop where
  own : ∀ i, i < L → OwnN e k base w (V i) (N i) (X i)
  apart : ∀ i j, i < L → j < L → i ≠ j → (V i).ownBlock = none ∨ (V i).ownBlock ≠ (V j).ownBlock
def upd {α : Type} (f : Nat → α) (i : Nat) (x : α) : Nat → α := fun q => if q = i then x else f q
theorem upd_at {α : Type} (f : Nat → α) (i : Nat) (x : α) : upd f i x i = x := by simp [upd]
theorem upd_off {α : Type} (f : Nat → α) {i q : Nat} (x : α) (h : q ≠ i) : upd f i x q = f q := by simp [upd, h]
section
variable {e : TypeId} {k base L : Nat} {w w' : World} {V : Nat → Value} {N : Nat → Nat} {X : Nat → List Value}
/-- A block that no row lies at is none's behind an append either, if it was there. -/
theorem Fam.free (h : Fam e k base w L V N X) {i b : Nat} (hi : i < L) (hb : ∀ q, q < L → (V q).ownBlock ≠ some b) (hlt : b < w.heap.size) {v' : Value} (hs : NextTo w (V i) v') : ∀ q, q < L → (upd V i v' q).ownBlock ≠ some b := fun q hq => by
  by_cases hqi : q = i
  · subst hqi
    rw [upd_at]
    rcases hs with hs | ⟨c, hs, hc⟩
    · rw [hs]; exact hb q hq
    · rw [hs]; intro hx; injection hx with hx; omega
  · rw [upd_off _ _ hqi]; exact hb q hq
end
end Go.Proofs.Ytjjigkomiidipaa.Mem
namespace Go.Proofs.Ytjjigkomiidipaa.ShaRef
open Go.RowKit Go.Proofs.Ytjjigkomiidipaa.SpanPlain Go.Proofs.Ytjjigkomiidipaa.StepPlain Go.Proofs.Ytjjigkomiidipaa.GapPlain Go.Proofs.Ytjjigkomiidipaa.JobPlain Go.Proofs.Ytjjigkomiidipaa.ShaPlain Go.Proofs.Ytjjigkomiidipaa.Mem Go.Proofs.Ytjjigkomiidipaa.SpanMem Go.Proofs.Ytjjigkomiidipaa.StepMem Go.Proofs.Ytjjigkomiidipaa.JobMem Go.Proofs.Ytjjigkomiidipaa.OrdMem Go.Proofs.Ytjjigkomiidipaa.SpanRef Go.Proofs.Ytjjigkomiidipaa.StepRef Go.Proofs.Ytjjigkomiidipaa.GapRef
theorem fit_ok {s : List Sp} {now a : Int} {j : Jb} (h : FitIs s now j.width j.est a true) : okG s a j.width j.est = true := by
  rcases h with ⟨_, hm, _, hr, _⟩ | ⟨h, _⟩
  · exact okG_iff.2 ⟨hm, hr⟩
  · cases h
theorem spans_lt {t : List Sp} {W : World} {v : Value} (h : SpansIs t W v) : ∀ a m c, v = .slice (some a) m c → 0 < t.length → a.block < W.heap.size := fun a m c e hp => by
  rcases h with ⟨h, _⟩ | ⟨a2, c2, e2, hr, _⟩
  · rw [h] at e; cases e
  · rw [e2] at e
    injection e with e
    injection e with e
    subst e
    have hl : 0 < (svals t).length := by rw [svals_len]; omega
    exact (hr 0 _ (List.getElem?_eq_getElem hl)).1
end Go.Proofs.Ytjjigkomiidipaa.ShaRef
namespace Go.Proofs.Ytjjigkomiidipaa.SlaRef
open Go.RowKit Go.Proofs.Ytjjigkomiidipaa.SpanPlain Go.Proofs.Ytjjigkomiidipaa.StepPlain Go.Proofs.Ytjjigkomiidipaa.GapPlain Go.Proofs.Ytjjigkomiidipaa.JobPlain Go.Proofs.Ytjjigkomiidipaa.OrdPlain Go.Proofs.Ytjjigkomiidipaa.ApiPlain Go.Proofs.Ytjjigkomiidipaa.ShaPlain Go.Proofs.Ytjjigkomiidipaa.SlaPlain Go.Proofs.Ytjjigkomiidipaa.Mem Go.Proofs.Ytjjigkomiidipaa.SpanMem Go.Proofs.Ytjjigkomiidipaa.StepMem Go.Proofs.Ytjjigkomiidipaa.JobMem Go.Proofs.Ytjjigkomiidipaa.OrdMem Go.Proofs.Ytjjigkomiidipaa.ApiMem Go.Proofs.Ytjjigkomiidipaa.SpanRef Go.Proofs.Ytjjigkomiidipaa.StepRef Go.Proofs.Ytjjigkomiidipaa.GapRef Go.Proofs.Ytjjigkomiidipaa.ShaRef
def NewV (w : World) (v : Value) : Prop := ∀ a m c, v = .slice (some a) m c → w.heap.size ≤ a.block
end Go.Proofs.Ytjjigkomiidipaa.SlaRef
namespace Go.Proofs.Ytjjigkomiidipaa.SlaRef
open Go.RowKit Go.Proofs.Ytjjigkomiidipaa.SpanPlain Go.Proofs.Ytjjigkomiidipaa.StepPlain Go.Proofs.Ytjjigkomiidipaa.GapPlain Go.Proofs.Ytjjigkomiidipaa.JobPlain Go.Proofs.Ytjjigkomiidipaa.OrdPlain Go.Proofs.Ytjjigkomiidipaa.ApiPlain Go.Proofs.Ytjjigkomiidipaa.ShaPlain Go.Proofs.Ytjjigkomiidipaa.SlaPlain Go.Proofs.Ytjjigkomiidipaa.Mem Go.Proofs.Ytjjigkomiidipaa.SpanMem Go.Proofs.Ytjjigkomiidipaa.StepMem Go.Proofs.Ytjjigkomiidipaa.JobMem Go.Proofs.Ytjjigkomiidipaa.OrdMem Go.Proofs.Ytjjigkomiidipaa.ApiMem Go.Proofs.Ytjjigkomiidipaa.SpanRef Go.Proofs.Ytjjigkomiidipaa.StepRef Go.Proofs.Ytjjigkomiidipaa.GapRef Go.Proofs.Ytjjigkomiidipaa.ShaRef
theorem spans_kept {l : List Sp} {W w' : World} {v : Value} (h : SpansIs l W v) (hs : W.heap.size ≤ w'.heap.size) (hk : ∀ a m c, v = .slice (some a) m c → 0 < l.length → w'.heap[a.block]? = W.heap[a.block]?) : SpansIs l w' v := by
  rcases h with h | ⟨a, c, e, hr, hn⟩
  · exact .inl h
  · refine .inr ⟨a, c, e, ?_, hn⟩
    intro j u hu
    have hp : 0 < l.length := by
      cases l with
      | nil => simp [svals] at hu
      | cons x t => simp
    obtain ⟨h1, h2⟩ := hr j u hu
    refine ⟨Nat.lt_of_lt_of_le h1 hs, ?_⟩
    exact (World.cell?_of_block (a := a.add j) (by rw [add_block]; exact hk a _ c e hp)).trans h2
/-- What a value points to lies apart from a row of one's own; n: how many elements it has. -/
def OffN (n : Nat) (v ov : Value) : Prop := ∀ a m c, v = .slice (some a) m c → 0 < n → ov.ownBlock ≠ some a.block
theorem OffN.next {n : Nat} {W : World} {v ov ov' : Value} (h : OffN n v ov) (hlt : ∀ a m c, v = .slice (some a) m c → 0 < n → a.block < W.heap.size) (hn : NextTo W ov ov') : OffN n v ov' := fun a m c e hp => by
  have hlt := hlt a m c e hp
  rcases hn with hn | ⟨b, hn, hb⟩
  · rw [hn]; exact h a m c e hp
  · rw [hn]; intro q; injection q with q; omega
theorem OffN.fresh {e : TypeId} {k base n i : Nat} {W : World} {v ov : Value} {xs : List Value} (hn : NewV W v) (ho : OwnN e k base W ov n xs) : OffN i v ov := fun a m c e _ q => by
  have h1 := hn a m c e
  have h2 := (ho.block_lt q).2
  omega
end Go.Proofs.Ytjjigkomiidipaa.SlaRef
namespace Go.Proofs.Ytjjigkomiidipaa.SlaRef
open Go.RowKit Go.Proofs.Ytjjigkomiidipaa.SpanPlain Go.Proofs.Ytjjigkomiidipaa.StepPlain Go.Proofs.Ytjjigkomiidipaa.GapPlain Go.Proofs.Ytjjigkomiidipaa.JobPlain Go.Proofs.Ytjjigkomiidipaa.OrdPlain Go.Proofs.Ytjjigkomiidipaa.ApiPlain Go.Proofs.Ytjjigkomiidipaa.ShaPlain Go.Proofs.Ytjjigkomiidipaa.SlaPlain Go.Proofs.Ytjjigkomiidipaa.Mem Go.Proofs.Ytjjigkomiidipaa.SpanMem Go.Proofs.Ytjjigkomiidipaa.StepMem Go.Proofs.Ytjjigkomiidipaa.JobMem Go.Proofs.Ytjjigkomiidipaa.OrdMem Go.Proofs.Ytjjigkomiidipaa.ApiMem Go.Proofs.Ytjjigkomiidipaa.SpanRef Go.Proofs.Ytjjigkomiidipaa.StepRef Go.Proofs.Ytjjigkomiidipaa.GapRef Go.Proofs.Ytjjigkomiidipaa.ShaRef
/-- Why there is no pass. -/
def c16 (s : List Sp) (now : Int) (n : Nat) : Int := if chkB s = true ∧ head s ≤ now ∧ now ≤ 1125899906842624 then (if 100 < n then 4 else 0) else 1
theorem c16_ways (s : List Sp) (now : Int) (n : Nat) : (chkB s = false ∧ c16 s now n = 1) ∨ (chkB s = true ∧ decide (now < head s) = true ∧ c16 s now n = 1) ∨ (chkB s = true ∧ decide (now < head s) = false ∧ decide (1125899906842624 < now) = true ∧ c16 s now n = 1) ∨
    (chkB s = true ∧ decide (now < head s) = false ∧ decide (1125899906842624 < now) = false ∧ decide ((100 : Int) < (n : Int)) = true ∧ c16 s now n = 4) ∨ (chkB s = true ∧ decide (now < head s) = false ∧ decide (1125899906842624 < now) = false ∧ decide ((100 : Int) < (n : Int)) = false ∧ c16 s now n = 0) := by
  unfold c16
  cases hc : chkB s with
  | false => exact .inl ⟨rfl, if_neg (by simp)⟩
  | true =>
    right
    by_cases h1 : now < head s
    · exact .inl ⟨rfl, decide_eq_true h1, if_neg (by omega)⟩
    · right
      by_cases h2 : 1125899906842624 < now
      · exact .inl ⟨rfl, decide_eq_false h1, decide_eq_true h2, if_neg (by omega)⟩
      · right
        rw [if_pos ⟨rfl, by omega, by omega⟩]
        by_cases h3 : (100 : Int) < (n : Int)
        · exact .inl ⟨rfl, decide_eq_false h1, decide_eq_false h2, decide_eq_true h3, if_pos (by omega)⟩
        · exact .inr ⟨rfl, decide_eq_false h1, decide_eq_false h2, decide_eq_false h3, if_neg (by omega)⟩
def IntN (n : Int) (w : World) (e : Ending) (w' : World) : Prop := e = .returned (.int .i64 n) ∧ ∃ q, w' = w.drewN q
set_option maxHeartbeats 1200000 in
theorem check16 (s : List Sp) (now : Int) (js : List Jb) (v u : Value) (w : World) (hv : SpansIs s w v) (hl : s.length ≤ 9000) (hu : JobsIs js w u) : Calls Try.prog 10 #[v, .int .i64 now, u] w (IntN (c16 s now js.length) w) := by
  have CK := Lib.hid (check4 s v w hv hl)
  obtain ⟨A, c, rfl, hA⟩ := hv.open_
  obtain ⟨B, d, rfl, _⟩ := hu.open_
  have HA := Lib.hid hA
  have HP : Hid (chkB s = true → 0 < s.length) := fun h => ((chk_iff s).1 h).pos
  clear hv hu hA
  rcases c16_ways s now js.length with ⟨hc, h1⟩ | ⟨hc, g1, h1⟩ | ⟨hc, g1, g2, h1⟩ | ⟨hc, g1, g2, g3, h1⟩ | ⟨hc, g1, g2, g3, h1⟩
  · rw [hc] at CK
    have H1 := Lib.hid h1
    clear h1 hc
    go_enter Try.func10, Try.ntmps10
    go_wp2_with fail
    refine CK.out.mono ?_
    rintro e w1 ⟨rfl, n, rfl⟩
    go_wp2_with fail
    go_ret
    exact ⟨by rw [H1.out]; rfl, n, rfl⟩
  all_goals
    rw [hc] at CK
    have H1 := Lib.hid h1
    have hp := HP.out hc
    obtain ⟨ad, rfl, had, x1, _⟩ := pair_zero HA.out hp
    have hh : (spCell s 0).1 = .int .i64 (head s) := rfl
    rw [hh] at x1
    have hp2 : (0 : Int) < (s.length : Int) := by omega
    clear h1 hc hh
    go_enter Try.func10, Try.ntmps10
    go_wp2_with fail
    refine CK.out.mono ?_
    rintro e w1 ⟨rfl, n, rfl⟩
    go_wp2_with fail
    go_ret
    exact ⟨by rw [H1.out]; rfl, n, rfl⟩
end Go.Proofs.Ytjjigkomiidipaa.SlaRef
