/-
  What the theorem uses of the texts below it.
-/
import Derived.Below
import Derived.Laws.OwnMore
import Derived.Deep.Draws
import Derived.Deep.OwnRows
import Derived.Lib.Hide
import Derived.OwnWalk
import Derived.Deep.QuietTactic
import Derived.BigQuiet
import Derived.Lib.SliceRun
namespace Go.Proofs
end Go.Proofs
namespace Go.Proofs.Ytophhiejggnaeaa.ApiMem
end Go.Proofs.Ytophhiejggnaeaa.ApiMem
namespace Go.Proofs.Ytophhiejggnaeaa.ApiPlain
end Go.Proofs.Ytophhiejggnaeaa.ApiPlain
namespace Go.Proofs.Ytophhiejggnaeaa.GapPlain
end Go.Proofs.Ytophhiejggnaeaa.GapPlain
namespace Go.Proofs.Ytophhiejggnaeaa.GapRef
end Go.Proofs.Ytophhiejggnaeaa.GapRef
namespace Go.Proofs.Ytophhiejggnaeaa.GapWalk
end Go.Proofs.Ytophhiejggnaeaa.GapWalk
namespace Go.Proofs.Ytophhiejggnaeaa.IdSet
end Go.Proofs.Ytophhiejggnaeaa.IdSet
namespace Go.Proofs.Ytophhiejggnaeaa.JobMem
end Go.Proofs.Ytophhiejggnaeaa.JobMem
namespace Go.Proofs.Ytophhiejggnaeaa.JobPlain
end Go.Proofs.Ytophhiejggnaeaa.JobPlain
namespace Go.Proofs.Ytophhiejggnaeaa.JobRef
end Go.Proofs.Ytophhiejggnaeaa.JobRef
namespace Go.Proofs.Ytophhiejggnaeaa.JobWalk
end Go.Proofs.Ytophhiejggnaeaa.JobWalk
namespace Go.Proofs.Ytophhiejggnaeaa.Mem
end Go.Proofs.Ytophhiejggnaeaa.Mem
namespace Go.Proofs.Ytophhiejggnaeaa.MulPlain
end Go.Proofs.Ytophhiejggnaeaa.MulPlain
namespace Go.Proofs.Ytophhiejggnaeaa.MulRef
end Go.Proofs.Ytophhiejggnaeaa.MulRef
namespace Go.Proofs.Ytophhiejggnaeaa.MulWalk
end Go.Proofs.Ytophhiejggnaeaa.MulWalk
namespace Go.Proofs.Ytophhiejggnaeaa.OrdMem
end Go.Proofs.Ytophhiejggnaeaa.OrdMem
namespace Go.Proofs.Ytophhiejggnaeaa.OrdPlain
end Go.Proofs.Ytophhiejggnaeaa.OrdPlain
namespace Go.Proofs.Ytophhiejggnaeaa.OrdRef
end Go.Proofs.Ytophhiejggnaeaa.OrdRef
namespace Go.Proofs.Ytophhiejggnaeaa.OrdTake
end Go.Proofs.Ytophhiejggnaeaa.OrdTake
namespace Go.Proofs.Ytophhiejggnaeaa.OrdWalk
end Go.Proofs.Ytophhiejggnaeaa.OrdWalk
namespace Go.Proofs.Ytophhiejggnaeaa.PasPlain
end Go.Proofs.Ytophhiejggnaeaa.PasPlain
namespace Go.Proofs.Ytophhiejggnaeaa.PasWalk
end Go.Proofs.Ytophhiejggnaeaa.PasWalk
namespace Go.Proofs.Ytophhiejggnaeaa.QueLight
end Go.Proofs.Ytophhiejggnaeaa.QueLight
namespace Go.Proofs.Ytophhiejggnaeaa.QuePlain
end Go.Proofs.Ytophhiejggnaeaa.QuePlain
namespace Go.Proofs.Ytophhiejggnaeaa.QueRef
end Go.Proofs.Ytophhiejggnaeaa.QueRef
namespace Go.Proofs.Ytophhiejggnaeaa.QueWalk
end Go.Proofs.Ytophhiejggnaeaa.QueWalk
namespace Go.Proofs.Ytophhiejggnaeaa.Read
end Go.Proofs.Ytophhiejggnaeaa.Read
namespace Go.Proofs.Ytophhiejggnaeaa.ShaPlain
end Go.Proofs.Ytophhiejggnaeaa.ShaPlain
namespace Go.Proofs.Ytophhiejggnaeaa.ShaRef
end Go.Proofs.Ytophhiejggnaeaa.ShaRef
namespace Go.Proofs.Ytophhiejggnaeaa.ShaWalk
end Go.Proofs.Ytophhiejggnaeaa.ShaWalk
namespace Go.Proofs.Ytophhiejggnaeaa.SlaPlain
end Go.Proofs.Ytophhiejggnaeaa.SlaPlain
namespace Go.Proofs.Ytophhiejggnaeaa.SlaRef
end Go.Proofs.Ytophhiejggnaeaa.SlaRef
namespace Go.Proofs.Ytophhiejggnaeaa.SpanMem
end Go.Proofs.Ytophhiejggnaeaa.SpanMem
namespace Go.Proofs.Ytophhiejggnaeaa.SpanPlain
end Go.Proofs.Ytophhiejggnaeaa.SpanPlain
namespace Go.Proofs.Ytophhiejggnaeaa.SpanRef
end Go.Proofs.Ytophhiejggnaeaa.SpanRef
namespace Go.Proofs.Ytophhiejggnaeaa.SpanWalk
end Go.Proofs.Ytophhiejggnaeaa.SpanWalk
namespace Go.Proofs.Ytophhiejggnaeaa.StepMem
end Go.Proofs.Ytophhiejggnaeaa.StepMem
namespace Go.Proofs.Ytophhiejggnaeaa.StepPlain
end Go.Proofs.Ytophhiejggnaeaa.StepPlain
namespace Go.Proofs.Ytophhiejggnaeaa.StepRef
end Go.Proofs.Ytophhiejggnaeaa.StepRef
namespace Go.Proofs.Ytophhiejggnaeaa.StepWalk
end Go.Proofs.Ytophhiejggnaeaa.StepWalk
namespace Go.Proofs.Ytophhiejggnaeaa.TogPlain
end Go.Proofs.Ytophhiejggnaeaa.TogPlain
namespace Go.Proofs.Ytophhiejggnaeaa.Util
end Go.Proofs.Ytophhiejggnaeaa.Util
namespace Go.Proofs.Ytophhiejggnaeaa.multiHeads
end Go.Proofs.Ytophhiejggnaeaa.multiHeads
namespace Go.Proofs.Ytophhiejggnaeaa.multiOne
end Go.Proofs.Ytophhiejggnaeaa.multiOne
namespace Go.Proofs.Ytophhiejggnaeaa.Mem
open Go.RowKit
theorem add_flat (b k : Nat) : (⟨b, 0, none⟩ : Addr).add k = ⟨b, k, none⟩ := by unfold Addr.add; split <;> simp_all
theorem add_block (a : Addr) (k : Nat) : (a.add k).block = a.block := by unfold Addr.add; split <;> rfl
/-- The first n cells from an address on hold f; they are there already. -/
def Cells (w : World) (A : Option Addr) (n : Nat) (f : Nat → Value) : Prop :=
  ∀ i, i < n → ∃ a, A = some a ∧ a.block < w.heap.size ∧ w.cell? (a.add i) = some (f i)
section
variable {w w' : World} {A : Option Addr} {n : Nat} {f g : Nat → Value}
theorem Cells.at (h : Cells w A n f) {i : Nat} (hi : i < n) : ∃ a, A = some a ∧ a.block < w.heap.size ∧ w.cell? (a.add i) = some (f i) := h i hi
theorem Cells.below (h : Cells w A n f) (hb : Below w.heap.size w w') : Cells w' A n f := fun i hi => by
  obtain ⟨a, e, hl, hc⟩ := h i hi
  exact ⟨a, e, Nat.lt_of_lt_of_le hl hb.size, (hb.cell (by rw [add_block]; exact hl)).trans hc⟩
theorem Cells.none_ : Cells w A 0 f := fun _ hi => absurd hi (Nat.not_lt_zero _)
theorem Cells.of_row {b : Nat} {t : TypeId} (h : w.rowIs b t n f) : Cells w (some ⟨b, 0, none⟩) n f := fun i hi =>
  ⟨_, rfl, h.lt, by rw [add_flat]; exact h.cell hi⟩
end
theorem one_cell {k : IntKind} {n : Int} : ∀ u ∈ [Value.int k n], u.oneCell' = true := by
  intro u hu
  simp at hu
  subst hu
  rfl
/-- Integers' cells. -/
def icell (l : List Int) (i : Nat) : Value := .int .i64 (l.getD i 0)
def ivals (l : List Int) : List Value := l.map (Value.int .i64)
theorem ivals_append (l m : List Int) : ivals (l ++ m) = ivals l ++ ivals m := by simp [ivals]
theorem ivals_len (l : List Int) : (ivals l).length = l.length := by simp [ivals]
theorem ivals_at (l : List Int) (n : Nat) (h : n = l.length) : ∀ i, i < n → (ivals l)[i]? = some (icell l i) := fun i hi => by
  subst h
  simp [ivals, icell, List.getD, hi]
theorem ivals_cell (l : List Int) : ∀ u ∈ ivals l, u.oneCell' = true := by
  intro u hu
  obtain ⟨n, _, rfl⟩ := List.mem_map.1 hu
  rfl
/-- An own row that is not nil has a head. -/
theorem own_form {w : World} {base : Nat} {e : TypeId} {size : Nat} {v : Value} {n : Nat} {xs : List Value} (h : w.ownsRow base e size v n xs) (hne : ¬ v = .slice none 0 0) :
    ∃ g c, v = .slice (some ⟨g, 0, none⟩) n c ∧ base ≤ g ∧ g < w.heap.size ∧ n ≤ c ∧ c ≤ maxLen := by
  have hlt := h.lt
  rcases h.2 with ⟨e, _⟩ | ⟨g, cap, cur, rfl, hg, _, h1, h2, _⟩
  · exact absurd e hne
  · exact ⟨g, cap, rfl, hg, (hlt g rfl).2, h1, h2⟩
theorem below_of_grown {base : Nat} {e : TypeId} {size : Nat} {v : Value} {n : Nat} {xs : List Value} {a w w' : World} (hb : Below base a w) (h : w.ownsRow base e size v n xs) (hB : base ≤ w.heap.size) (hg : w.grownBy w' v.ownBlock) : Below base a w' :=
  hb.grown hg hB (fun k hk => (h.lt k hk).1)
/-- Elements of two cells: the first n from an address on. -/
def Pairs (w : World) (A : Option Addr) (n : Nat) (f : Nat → Value × Value) : Prop :=
  ∀ i, i < n → ∃ a, A = some a ∧ a.block < w.heap.size ∧ w.cell? (a.add (i * 2)) = some (f i).1 ∧ w.cell? ⟨(a.add (i * 2)).block, (a.add (i * 2)).off + 1, none⟩ = some (f i).2
theorem pair_below {w w' : World} {a : Addr} {k : Nat} {u v : Value} (hb : Below w.heap.size w w') (hl : a.block < w.heap.size) (h1 : w.cell? (a.add k) = some u) (h2 : w.cell? ⟨(a.add k).block, (a.add k).off + 1, none⟩ = some v) :
    a.block < w'.heap.size ∧ w'.cell? (a.add k) = some u ∧ w'.cell? ⟨(a.add k).block, (a.add k).off + 1, none⟩ = some v :=
  ⟨Nat.lt_of_lt_of_le hl hb.size, (hb.cell (by rw [add_block]; exact hl)).trans h1, (hb.cell (by rw [add_block]; exact hl)).trans h2⟩
theorem Pairs.below {w w' : World} {A : Option Addr} {n : Nat} {f : Nat → Value × Value} (h : Pairs w A n f) (hb : Below w.heap.size w w') : Pairs w' A n f := fun i hi => by
  obtain ⟨a, e, hl, h1, h2⟩ := h i hi
  obtain ⟨h3, h4, h5⟩ := pair_below hb hl h1 h2
  exact ⟨a, e, h3, h4, h5⟩
theorem Pairs.none_ {w : World} {A : Option Addr} {f : Nat → Value × Value} : Pairs w A 0 f := fun _ hi => absurd hi (Nat.not_lt_zero _)
theorem below_drewN {B : Nat} {a w : World} (h : Below B a w) (n : Nat) : Below B a (w.drewN n) := ⟨h.os, h.tape, h.output, h.size, h.block⟩
/-- Two calls, one behind the other: neither has turned what was there. -/
theorem below_then {a b c : World} (h : Below a.heap.size a b) (k : Below b.heap.size b c) : Below a.heap.size a c := h.trans (k.mono h.size)
theorem below_of_drew {w w' : World} (h : Below w.drew.heap.size w.drew w') : Below w.heap.size w w' := ⟨h.os, h.tape, h.output, h.size, h.block⟩
end Go.Proofs.Ytophhiejggnaeaa.Mem
namespace Go.Proofs.Ytophhiejggnaeaa.Util
theorem snoc_ind {α : Type} {p : List α → Prop} (h0 : p []) (hs : ∀ l a, p l → p (l ++ [a])) : ∀ l, p l := by
  suffices h : ∀ (n : Nat) (l : List α), l.length = n → p l from fun l => h _ l rfl
  intro n
  induction n with
  | zero => intro l hl; rw [List.eq_nil_of_length_eq_zero hl]; exact h0
  | succ n ih =>
    intro l hl
    have hne : l ≠ [] := fun e => by rw [e] at hl; simp at hl
    rw [← List.dropLast_concat_getLast hne]
    exact hs _ _ (ih _ (by simp; omega))
end Go.Proofs.Ytophhiejggnaeaa.Util
namespace Go.Proofs.Ytophhiejggnaeaa.Mem
open Go.RowKit
/-- What is to be known of a slice's type. -/
structure ElemT (P : Program) (T e : TypeId) (k bytes : Nat) : Prop where
  und : P.underlying T = some (.slice e)
  info : ∃ i z, P.info? e = some i ∧ i.zero = some z ∧ i.size = k ∧ i.bytes = bytes ∧ z.cells.size = k
  pos : 0 < k
  small : bytes ≤ 128
theorem ElemT.mk_ {P : Program} {T e : TypeId} {k bytes : Nat} (z : Value) (und : P.underlying T = some (.slice e)) (info : (P.info? e).map (fun i => (i.zero, i.size, i.bytes)) = some (some z, k, bytes)) (hz : z.cells.size = k) (pos : 0 < k) (small : bytes ≤ 128) : ElemT P T e k bytes := by
  obtain ⟨i, hi, h0, h1, h2⟩ := info_parts info
  exact ⟨und, ⟨i, z, hi, h0, h1, h2, hz⟩, pos, small⟩
/-- Cells from an address on. -/
def Raw (w : World) (a : Addr) (xs : List Value) : Prop := ∀ (j : Nat) (u : Value), xs[j]? = some u → a.block < w.heap.size ∧ w.cell? (a.add j) = some u
theorem Raw.below {w w' : World} {a : Addr} {xs : List Value} (h : Raw w a xs) (hb : Below w.heap.size w w') : Raw w' a xs :=
  fun j u hu => ⟨Nat.lt_of_lt_of_le (h j u hu).1 hb.size, (hb.cell (by rw [add_block]; exact (h j u hu).1)).trans (h j u hu).2⟩
theorem add_add (a : Addr) (i j : Nat) : (a.add i).add j = a.add (i + j) := by
  unfold Addr.add
  by_cases h1 : i = 0 <;> by_cases h2 : j = 0 <;> simp [h1, h2, Nat.add_assoc]
theorem Raw.drop {w : World} {a : Addr} {xs : List Value} (h : Raw w a xs) (q : Nat) : Raw w (a.add q) (xs.drop q) :=
  fun j u hu => by rw [add_block, add_add]; exact h (q + j) u (by rwa [List.getElem?_drop] at hu)
theorem Raw.take {w : World} {a : Addr} {xs : List Value} (h : Raw w a xs) (q : Nat) : Raw w a (xs.take q) :=
  fun j u hu => h j u (by
    rw [List.getElem?_take] at hu
    by_cases hj : j < q
    · rwa [if_pos hj] at hu
    · rw [if_neg hj] at hu; cases hu)
theorem Raw.alloc (w : World) (c : Array Value) (t : TypeId) : Raw (w.alloc (.cells c t)) ⟨w.heap.size, 0, none⟩ c.toList :=
  fun j u hu => ⟨by simp, by
    rw [add_flat]
    have hj : j < c.size := by have := (List.getElem?_eq_some_iff.1 hu).1; simpa using this
    rw [Array.getElem?_toList] at hu
    have h := (World.rowIs_alloc w c t (fun i => c[i]?.getD u) (fun i hi => by simp [hi])).cell hj
    rw [h, hu]; rfl⟩
/-- A row of one's own from base on that is not nil. -/
def OwnR (e : TypeId) (k base : Nat) (w : World) (v : Value) (n : Nat) (xs : List Value) : Prop := w.ownsRow base e k v n xs ∧ (¬ v = .slice none 0 0) ∧ base ≤ w.heap.size
theorem OwnR.new (w : World) (e : TypeId) (k : Nat) : OwnR e k w.heap.size (w.alloc (.cells #[] e)) (.slice (some ⟨w.heap.size, 0, none⟩) 0 0) 0 [] :=
  ⟨World.ownsRow_made w #[] 0 (Nat.le_refl _) (by decide) (by simp), by simp, by simp⟩
theorem OwnR.form {e : TypeId} {k base : Nat} {w : World} {v : Value} {n : Nat} {xs : List Value} (h : OwnR e k base w v n xs) :
    ∃ g c, v = .slice (some ⟨g, 0, none⟩) n c ∧ base ≤ g ∧ g < w.heap.size ∧ n ≤ c ∧ c ≤ maxLen ∧ Raw w ⟨g, 0, none⟩ xs ∧ ∀ i, w.frozen? ⟨g, i, none⟩ = false := by
  obtain ⟨g, c, rfl, h1, h2, h3, h4⟩ := own_form h.1 h.2.1
  exact ⟨g, c, rfl, h1, h2, h3, h4, fun j u hu => ⟨h2, h.1.cells (g := g) rfl j u hu⟩, fun i => h.1.frozenAt i⟩
theorem OwnR.alloc {e : TypeId} {k base : Nat} {w : World} {v : Value} {n : Nat} {xs : List Value} (h : OwnR e k base w v n xs) (o : Obj) : OwnR e k base (w.alloc o) v n xs :=
  ⟨h.1.alloc o, h.2.1, by have := h.2.2; simp; omega⟩
theorem OwnR.set {e : TypeId} {k base : Nat} {w : World} {g n c : Nat} {xs : List Value} (h : OwnR e k base w (.slice (some ⟨g, 0, none⟩) n c) n xs) (j : Nat) (u : Value) :
    OwnR e k base (w.setCell ⟨g, j, none⟩ u) (.slice (some ⟨g, 0, none⟩) n c) n (xs.set j u) :=
  ⟨(h.1.stored j u).1, by simp, Nat.le_trans h.2.2 (h.1.stored j u).2.size⟩
theorem OwnR.cast {e : TypeId} {k base : Nat} {w : World} {v : Value} {n m : Nat} {xs ys : List Value} (h : OwnR e k base w v n xs) (hn : n = m) (hx : xs = ys) : OwnR e k base w v m ys := by subst hn; subst hx; exact h
theorem OwnR.drewN {e : TypeId} {k base : Nat} {w : World} {v : Value} {n : Nat} {xs : List Value} (h : OwnR e k base w v n xs) (q : Nat) : OwnR e k base (w.drewN q) v n xs := h
theorem OwnR.below {e : TypeId} {k base : Nat} {w w' : World} {v : Value} {n : Nat} {xs : List Value} (h : OwnR e k base w v n xs) (hb : Below w.heap.size w w') : OwnR e k base w' v n xs :=
  ⟨h.1.kept (row := none) ⟨hb.os, hb.tape, hb.output, hb.size, fun i hi _ => hb.block i hi⟩ (.inr (by
    obtain ⟨g, c, rfl, _⟩ := own_form h.1 h.2.1
    simp [Value.ownBlock])), h.2.1, Nat.le_trans h.2.2 hb.size⟩
section
variable {P : Program} {w : World}
theorem push_raw {ops : Array Oper} {rest : List Oper} {o : Oper} {act : Act} {Q : Exit → Act → World → Prop} {T e : TypeId} {k bytes : Nat} (E : ElemT P T e k bytes) (hgd : o.guard = none) (s x : Operand)
    (ho : o.op = .call { callee := .builtin .append, args := #[s, x], argTypes := #[T, T] }) (base : Nat) (v : Value) (n : Nat) (xs : List Value) (hs : act.eval s = v) (hown : OwnR e k base w v n xs)
    (a : Addr) (m c : Nat) (ys : List Value) (hx : act.eval x = .slice (some a) m c) (hl : ys.length = m * k) (hr : Raw w a ys) (h1 : ∀ u ∈ ys, u.oneCell' = true) (hb : n + m ≤ 1099511627776)
    (h : ∀ v' w', OwnR e k base w' v' (n + m) (xs ++ ys) → Below base w w' → wpList P ops Q rest (act.put o.dst v') w') : wpList P ops Q (o :: rest) act w := by
  obtain ⟨i, z, hi, hz0, hz1, hz2, hzs⟩ := E.info
  have hby : (n + m) * bytes ≤ 140737488355328 := by
    have := Nat.mul_le_mul hb E.small
    omega
  refine wpList_append_own w hgd s x T ho base e i z k bytes E.und hi hz0 hz1 hz2 hzs E.pos v n xs hs hown.1 a m c ys hx hl (fun j u hu => (hr j u hu).2) h1 (by unfold maxLen; omega) hby hown.2.2 fun v' w' h2 h3 h4 => ?_
  exact h v' w' ⟨h2, fun hn => hown.2.1 (h4.1 hn).1, Nat.le_trans hown.2.2 h3.size⟩ (below_of_grown (Below.refl base w) hown.1 hown.2.2 h3)
/-- What is appended may be nil. -/
def Src (w : World) (v : Value) (m : Nat) (ys : List Value) : Prop := (v = .slice none 0 0 ∧ m = 0 ∧ ys = []) ∨ ∃ a c, v = .slice (some a) m c ∧ Raw w a ys
theorem Src.below {w' : World} {v : Value} {m : Nat} {ys : List Value} (h : Src w v m ys) (hb : Below w.heap.size w w') : Src w' v m ys := by
  rcases h with h | ⟨a, c, e, hr⟩
  · exact .inl h
  · exact .inr ⟨a, c, e, hr.below hb⟩
end
/-- A slice of integers that is there. -/
def IntsIs (l : List Int) (w : World) (v : Value) : Prop := ∃ ad c, v = .slice (some ad) l.length c ∧ Raw w ad (ivals l) ∧ l.length ≤ c ∧ c ≤ maxLen
theorem IntsIs.below {l : List Int} {w w' : World} {v : Value} (h : IntsIs l w v) (hb : Below w.heap.size w w') : IntsIs l w' v := by
  obtain ⟨ad, c, e, hc, h1, h2⟩ := h
  exact ⟨ad, c, e, hc.below hb, h1, h2⟩
theorem IntsIs.drew {l : List Int} {w : World} {v : Value} (h : IntsIs l w v) : IntsIs l w.drew v := h
theorem OwnR.ints {e : TypeId} {base n : Nat} {w : World} {v : Value} {l : List Int} (h : OwnR e 1 base w v n (ivals l)) (hn : n = l.length) : IntsIs l w v := by
  subst hn
  obtain ⟨g, c, rfl, _, _, h1, h2, h3, _⟩ := h.form
  exact ⟨_, c, rfl, h3, h1, h2⟩
theorem Raw.intlt {w : World} {a : Addr} {l : List Int} (h : Raw w a (ivals l)) {k : Nat} (hk : k < l.length) : a.block < w.heap.size := (h k _ (ivals_at l _ rfl k hk)).1
theorem Raw.int {w : World} {a : Addr} {l : List Int} (h : Raw w a (ivals l)) {k : Nat} (hk : k < l.length) : w.cell? (a.add k) = some (.int .i64 (l.getD k 0)) := (h k _ (ivals_at l _ rfl k hk)).2
theorem ivals_drop (l : List Int) (q : Nat) : (ivals l).drop q = ivals (l.drop q) := by simp [ivals]
theorem ivals_take (l : List Int) (q : Nat) : (ivals l).take q = ivals (l.take q) := by simp [ivals]
theorem raw_nil {w : World} {a : Addr} {xs : List Value} (h : Raw w a xs) : Raw w a [] := fun j u hu => by simp at hu
end Go.Proofs.Ytophhiejggnaeaa.Mem
namespace Go.Proofs.Ytophhiejggnaeaa.Mem
open Go.RowKit
/-- A row of one's own from base on, nil let in. -/
def OwnN (e : TypeId) (k base : Nat) (w : World) (v : Value) (n : Nat) (xs : List Value) : Prop := w.ownsRow base e k v n xs ∧ base ≤ w.heap.size
section
variable {e : TypeId} {k base n : Nat} {w : World} {v : Value} {xs : List Value}
theorem OwnN.nil (hb : base ≤ w.heap.size) : OwnN e k base w (.slice none 0 0) 0 [] := ⟨World.ownsRow_nil w base e k, hb⟩
theorem OwnR.toN (h : OwnR e k base w v n xs) : OwnN e k base w v n xs := ⟨h.1, h.2.2⟩
theorem OwnN.form (h : OwnN e k base w v n xs) :
    (v = .slice none 0 0 ∧ n = 0 ∧ xs = []) ∨ ∃ g c, v = .slice (some ⟨g, 0, none⟩) n c ∧ base ≤ g ∧ g < w.heap.size ∧ n ≤ c ∧ c ≤ maxLen ∧ Raw w ⟨g, 0, none⟩ xs ∧ (∀ i, w.frozen? ⟨g, i, none⟩ = false) ∧ OwnR e k base w (.slice (some ⟨g, 0, none⟩) n c) n xs := by
  by_cases hv : v = .slice none 0 0
  · left
    rcases h.1.2 with ⟨_, hn⟩ | ⟨g, c, cur, hv2, _⟩
    · subst hn
      have := h.1.1
      exact ⟨hv, rfl, List.eq_nil_of_length_eq_zero (by omega)⟩
    · rw [hv] at hv2; cases hv2
  · right
    have hr : OwnR e k base w v n xs := ⟨h.1, hv, h.2⟩
    obtain ⟨g, c, rfl, h1, h2, h3, h4, h5, h6⟩ := hr.form
    exact ⟨g, c, rfl, h1, h2, h3, h4, h5, h6, hr⟩
theorem OwnN.src (h : OwnN e k base w v n xs) : Src w v n xs := by
  rcases h.form with h | ⟨g, c, hv, _, _, _, _, hr, _⟩
  · exact .inl h
  · exact .inr ⟨_, c, hv, hr⟩
theorem OwnN.shape (h : OwnN e k base w v n xs) : ∃ A c, v = .slice A n c := by
  rcases h.form with ⟨h1, h2, _⟩ | ⟨g, c, hv, _⟩
  · subst h2; exact ⟨none, 0, h1⟩
  · exact ⟨_, c, hv⟩
theorem OwnN.there (h : OwnN e k base w v (n + 1) xs) :
    ∃ g c, v = .slice (some ⟨g, 0, none⟩) (n + 1) c ∧ base ≤ g ∧ g < w.heap.size ∧ (∀ j u, xs[j]? = some u → w.cell? ⟨g, j, none⟩ = some u) ∧ ∀ i, w.frozen? ⟨g, i, none⟩ = false := by
  rcases h.form with ⟨_, h2, _⟩ | ⟨g, c, hv, h1, h2, _, _, hr, hf, _⟩
  · omega
  · exact ⟨g, c, hv, h1, h2, fun j u hu => by have := (hr j u hu).2; rwa [add_flat] at this, hf⟩
theorem OwnN.alloc (h : OwnN e k base w v n xs) (o : Obj) : OwnN e k base (w.alloc o) v n xs := ⟨h.1.alloc o, by have := h.2; simp; omega⟩
theorem OwnN.cast {m : Nat} {ys : List Value} (h : OwnN e k base w v n xs) (hn : n = m) (hx : xs = ys) : OwnN e k base w v m ys := by subst hn; subst hx; exact h
theorem OwnN.drew (h : OwnN e k base w v n xs) : OwnN e k base w.drew v n xs := h
theorem OwnN.drewN (h : OwnN e k base w v n xs) (q : Nat) : OwnN e k base (w.drewN q) v n xs := h
theorem OwnN.below {w' : World} (h : OwnN e k base w v n xs) (hb : Below w.heap.size w w') : OwnN e k base w' v n xs := by
  rcases h.form with ⟨rfl, rfl, rfl⟩ | ⟨g, c, rfl, _, _, _, _, _, _, hr⟩
  · exact OwnN.nil (Nat.le_trans h.2 hb.size)
  · exact (hr.below hb).toN
theorem OwnN.set {g c : Nat} (h : OwnN e k base w (.slice (some ⟨g, 0, none⟩) n c) n xs) (j : Nat) (u : Value) :
    OwnN e k base (w.setCell ⟨g, j, none⟩ u) (.slice (some ⟨g, 0, none⟩) n c) n (xs.set j u) :=
  ⟨(h.1.stored j u).1, Nat.le_trans h.2 (h.1.stored j u).2.size⟩
theorem OwnN.rebase {base' : Nat} (h : OwnN e k base w v n xs) (hb : base' ≤ base) : OwnN e k base' w v n xs := by
  refine ⟨⟨h.1.1, ?_⟩, Nat.le_trans hb h.2⟩
  rcases h.1.2 with h1 | ⟨g, c, cur, hv, hg, r⟩
  · exact .inl h1
  · exact .inr ⟨g, c, cur, hv, Nat.le_trans hb hg, r⟩
end
theorem push_own {P : Program} {w : World} {ops : Array Oper} {rest : List Oper} {o : Oper} {act : Act} {Q : Exit → Act → World → Prop} {T e : TypeId} {k bytes : Nat} (E : ElemT P T e k bytes) (hgd : o.guard = none) (s x : Operand)
    (ho : o.op = .call { callee := .builtin .append, args := #[s, x], argTypes := #[T, T] }) (base : Nat) (v : Value) (n : Nat) (xs : List Value) (hs : act.eval s = v) (hown : OwnN e k base w v n xs)
    (v2 : Value) (m : Nat) (ys : List Value) (hx : act.eval x = v2) (hl : ys.length = m * k) (hr : Src w v2 m ys) (h1 : ∀ u ∈ ys, u.oneCell' = true) (hb : n + m ≤ 1099511627776)
    (h : ∀ v' w', OwnN e k base w' v' (n + m) (xs ++ ys) → Below base w w' → w.grownBy w' v.ownBlock → wpList P ops Q rest (act.put o.dst v') w') : wpList P ops Q (o :: rest) act w := by
  obtain ⟨i, z, hi, hz0, hz1, hz2, hzs⟩ := E.info
  rcases hr with ⟨rfl, rfl, rfl⟩ | ⟨a, c, rfl, hr⟩
  · have hrun := run_append_owned_none (P := P) (w := w) base T o.type e i k E.und hi v n xs hown.1
    refine wpList_plain hgd fun K hK => ?_
    unfold Oper.wp execOp
    simp only [ho, resolve, invoke, builtin, Sem.run_bind, Sem.run_pure, Result.andThen_ok, List.map_toArray, List.map_cons, List.map_nil, hs, hx, hrun]
    exact hK _ _ (h v w (by simpa using hown) (Below.refl _ _) ⟨rfl, rfl, rfl, Nat.le_refl _, fun _ _ _ => rfl⟩)
  · have hby : (n + m) * bytes ≤ 140737488355328 := by
      have := Nat.mul_le_mul hb E.small
      omega
    refine wpList_append_own w hgd s x T ho base e i z k bytes E.und hi hz0 hz1 hz2 hzs E.pos v n xs hs hown.1 a m c ys hx hl (fun j u hu => (hr j u hu).2) h1 (by unfold maxLen; omega) hby hown.2 fun v' w' h2 h3 h4 => ?_
    exact h v' w' ⟨h2, Nat.le_trans hown.2 h3.size⟩ (below_of_grown (Below.refl base w) hown.1 hown.2 h3) h3
/-- The same, as a step of a region that draws its order. -/
theorem step_own {P : Program} {w : World} {ops : Array Oper} {o : Oper} {act : Act} {K : Act → World → Prop} {Q : Exit → Act → World → Prop} {E0 : Prop} {T e : TypeId} {k bytes : Nat} (E : ElemT P T e k bytes) (hgd : o.guard = none) (s x : Operand)
    (ho : o.op = .call { callee := .builtin .append, args := #[s, x], argTypes := #[T, T] }) (base : Nat) (v : Value) (n : Nat) (xs : List Value) (hs : act.eval s = v) (hown : OwnN e k base w v n xs)
    (v2 : Value) (m : Nat) (ys : List Value) (hx : act.eval x = v2) (hl : ys.length = m * k) (hr : Src w v2 m ys) (h1 : ∀ u ∈ ys, u.oneCell' = true) (hb : n + m ≤ 1099511627776)
    (h : ∀ v' w', OwnN e k base w' v' (n + m) (xs ++ ys) → Below base w w' → w.grownBy w' v.ownBlock → K (act.put o.dst v') w') : if Region.wanted o (yielded ops act.tmps) = true then Oper.wp P o act w K Q else E0 := by
  have hw : Region.wanted o (yielded ops act.tmps) = true := by simp [Region.wanted, hgd]
  rw [if_pos hw]
  obtain ⟨i, z, hi, hz0, hz1, hz2, hzs⟩ := E.info
  rcases hr with ⟨rfl, rfl, rfl⟩ | ⟨a, c, rfl, hr⟩
  · have hrun := run_append_owned_none (P := P) (w := w) base T o.type e i k E.und hi v n xs hown.1
    unfold Oper.wp execOp
    simp only [ho, resolve, invoke, builtin, Sem.run_bind, Sem.run_pure, Result.andThen_ok, List.map_toArray, List.map_cons, List.map_nil, hs, hx, hrun]
    exact h v w (by simpa using hown) (Below.refl _ _) ⟨rfl, rfl, rfl, Nat.le_refl _, fun _ _ _ => rfl⟩
  · have hby : (n + m) * bytes ≤ 140737488355328 := by
      have := Nat.mul_le_mul hb E.small
      omega
    exact wp_append_own w s x T ho base e i z k bytes E.und hi hz0 hz1 hz2 hzs E.pos v n xs hs hown.1 a m c ys hx hl (fun j u hu => (hr j u hu).2) h1 (by unfold maxLen; omega) hby hown.2 fun v' w' h2 h3 h4 =>
      h v' w' ⟨h2, Nat.le_trans hown.2 h3.size⟩ (below_of_grown (Below.refl base w) hown.1 hown.2 h3) h3
/-- New cells, at a place named otherwise. -/
theorem raw_at {w : World} {n m k : Nat} (e : w.heap.size = n) (c : Array Value) (T : TypeId) : Src (w.alloc (.cells c T)) (.slice (some ⟨n, 0, none⟩) m k) m c.toList := by
  subst e; exact .inr ⟨_, k, rfl, Raw.alloc w c T⟩
theorem two_cells {i j : IntKind} {a b : Int} : ∀ u ∈ [Value.int i a, Value.int j b], u.oneCell' = true := by
  intro u hu
  simp at hu
  rcases hu with rfl | rfl <;> rfl
end Go.Proofs.Ytophhiejggnaeaa.Mem
namespace Go.Proofs.Ytophhiejggnaeaa.Mem
open Go.RowKit
/-- Block n is there, its first two cells hold x and y, and they may be written. -/
structure Box2 (w : World) (n : Nat) (x y : Value) : Prop where
  lt : n < w.heap.size
  c0 : w.cell? ⟨n, 0, none⟩ = some x
  c1 : w.cell? ⟨n, 1, none⟩ = some y
  f0 : w.frozen? ⟨n, 0, none⟩ = false
  f1 : w.frozen? ⟨n, 1, none⟩ = false
section
variable {w : World} {n : Nat} {x y : Value}
theorem Box2.new (w : World) (x y : Value) (T : TypeId) : Box2 (w.alloc (.cells #[x, y] T)) w.heap.size x y := by
  have h := Raw.alloc w #[x, y] T
  have h0 := h 0 x rfl
  have h1 := h 1 y rfl
  rw [add_flat] at h0 h1
  exact ⟨h0.1, h0.2, h1.2, World.frozen?_alloc_new _ _ _ _, World.frozen?_alloc_new _ _ _ _⟩
theorem Box2.below {w' : World} (h : Box2 w n x y) (hb : Below w.heap.size w w') : Box2 w' n x y :=
  ⟨Nat.lt_of_lt_of_le h.lt hb.size, (hb.cell (p := ⟨n, 0, none⟩) h.lt).trans h.c0, (hb.cell (p := ⟨n, 1, none⟩) h.lt).trans h.c1, (hb.frozen (p := ⟨n, 0, none⟩) h.lt).trans h.f0, (hb.frozen (p := ⟨n, 1, none⟩) h.lt).trans h.f1⟩
theorem Box2.alloc (h : Box2 w n x y) (o : Obj) : Box2 (w.alloc o) n x y := h.below ((Below.refl _ _).alloc (Nat.le_refl _) o)
theorem Box2.drewN (h : Box2 w n x y) (q : Nat) : Box2 (w.drewN q) n x y := ⟨h.lt, h.c0, h.c1, h.f0, h.f1⟩
/-- Below another limit. -/
theorem Box2.under {w' : World} {B : Nat} (h : Box2 w n x y) (hb : Below B w w') (hn : n < B) : Box2 w' n x y :=
  ⟨Nat.lt_of_lt_of_le h.lt hb.size, (hb.cell (p := ⟨n, 0, none⟩) hn).trans h.c0, (hb.cell (p := ⟨n, 1, none⟩) hn).trans h.c1, (hb.frozen (p := ⟨n, 0, none⟩) hn).trans h.f0, (hb.frozen (p := ⟨n, 1, none⟩) hn).trans h.f1⟩
theorem Box2.set_other (h : Box2 w n x y) {p : Addr} (hp : p.block ≠ n) (u : Value) : Box2 (w.setCell p u) n x y := by
  have e : (w.setCell p u).heap[n]? = w.heap[n]? := Below.heap_setCell w p u n (fun h => hp h.symm)
  exact ⟨by simp [World.setCell]; exact h.lt, (World.cell?_of_block (a := ⟨n, 0, none⟩) e).trans h.c0, (World.cell?_of_block (a := ⟨n, 1, none⟩) e).trans h.c1, (World.frozen?_of_block (a := ⟨n, 0, none⟩) e).trans h.f0, (World.frozen?_of_block (a := ⟨n, 1, none⟩) e).trans h.f1⟩
theorem Box2.set0 (h : Box2 w n x y) (u : Value) : Box2 (w.setCell ⟨n, 0, none⟩ u) n u y :=
  ⟨by simp [World.setCell]; exact h.lt, World.cell?_setCell_same _ _ _ h.c0, (World.cell?_setCell_other _ _ _ _ (by simp)).trans h.c1, by rw [World.frozen?_setCell]; exact h.f0, by rw [World.frozen?_setCell]; exact h.f1⟩
theorem Box2.set1 (h : Box2 w n x y) (u : Value) : Box2 (w.setCell ⟨n, 1, none⟩ u) n x u :=
  ⟨by simp [World.setCell]; exact h.lt, (World.cell?_setCell_other _ _ _ _ (by simp)).trans h.c0, World.cell?_setCell_same _ _ _ h.c1, by rw [World.frozen?_setCell]; exact h.f0, by rw [World.frozen?_setCell]; exact h.f1⟩
/-- Behind an append to another row. -/
theorem Box2.grown {w' : World} {row : Option Nat} (h : Box2 w n x y) (hg : w.grownBy w' row) (hne : row ≠ some n) : Box2 w' n x y := by
  have e := hg.block n h.lt (fun e => hne e.symm)
  exact ⟨Nat.lt_of_lt_of_le h.lt hg.size, (World.cell?_of_block (a := ⟨n, 0, none⟩) e).trans h.c0, (World.cell?_of_block (a := ⟨n, 1, none⟩) e).trans h.c1, (World.frozen?_of_block (a := ⟨n, 0, none⟩) e).trans h.f0, (World.frozen?_of_block (a := ⟨n, 1, none⟩) e).trans h.f1⟩
end
end Go.Proofs.Ytophhiejggnaeaa.Mem
namespace Go.Proofs.Ytophhiejggnaeaa.Mem
open Go.RowKit
/-- A world in which nothing that was there in w has turned. -/
structure Lull (w : World) where
  u : World
  h : Below w.heap.size w u
instance (w : World) : Inhabited (Lull w) := ⟨⟨w, Below.refl _ _⟩⟩
theorem below_step (w : World) : Below w.heap.size w { w with drawn := w.drawn + 1 } := ⟨rfl, rfl, rfl, Nat.le_refl _, fun _ _ => rfl⟩
theorem wp_region_calm {P : Program} {id : Nat} {Q : Exit → Act → World → Prop} {a : Act} {w : World} {l : List Oper} (hm : P.follows .mixedOrders = true) (hB : Region.lexB .any l.toArray = true)
    (h : wpQuiet P l.toArray (fun w' => ∃ p : Lull w, w' = p.u) (fun a' => ∀ w', (∃ p : Lull w, w' = p.u) → Q .normal a' w') l a) : (Code.region id l.toArray true).wp P Q a w :=
  wp_region_quiet (C := fun w' => ∃ p : Lull w, w' = p.u) hm hB ⟨⟨_, below_step w⟩, rfl⟩ (by simpa using h)
/-- A callee's contract, met in a world of the class. -/
theorem calm_of {P : Program} {f : FuncId} {args : Array Value} {w : World} {p : Lull w} {v : Value} (h : Calls P f args p.u fun e w' => e = .returned v ∧ Below p.u.heap.size p.u w') : Calls P f args p.u fun e w'' => e = .returned v ∧ ∃ q : Lull w, w'' = q.u :=
  h.mono fun _ w' ⟨he, hb⟩ => ⟨he, ⟨w', below_then p.h hb⟩, rfl⟩
theorem calm_same {P : Program} {f : FuncId} {args : Array Value} {w : World} {p : Lull w} {v : Value} (h : Calls P f args p.u fun e w' => e = .returned v ∧ p.u = w') : Calls P f args p.u fun e w'' => e = .returned v ∧ ∃ q : Lull w, w'' = q.u :=
  h.mono fun _ w' ⟨he, hb⟩ => ⟨he, p, hb.symm⟩
theorem calm_cell {w : World} {a : Addr} {v : Value} (hb : a.block < w.heap.size) (h : w.cell? a = some v) (p : Lull w) : p.u.cell? a = some v := (p.h.cell hb).trans h
theorem lull_below {w w' : World} (h : ∃ p : Lull w, w' = p.u) : Below w.heap.size w w' := by obtain ⟨p, rfl⟩ := h; exact p.h
end Go.Proofs.Ytophhiejggnaeaa.Mem
namespace Go.Proofs.Ytophhiejggnaeaa.Mem
open Go.RowKit
theorem clear_two {P : Program} (w : World) (T e ty : TypeId) (ht : P.underlying T = some (.slice e)) (hv : ∀ w, (zeroValue e).run P w = .ok (.agg #[.int .i64 0, .int .i64 0]) w) (b o n c : Nat) (hn : 0 < n)
    (hc : ∀ j, j < n * 2 → (w.cell? ⟨b, o + j, none⟩).isSome = true) (hf : ∀ j, j < n * 2 → w.frozen? ⟨b, o + j, none⟩ = false) :
    (Builtin.clear_ #[T] ty #[.slice (some ⟨b, o, none⟩) n c]).run P w = .ok (.tuple #[]) (w.setCells b o (List.replicate (n * 2) (.int .i64 0))) := by
  have hzc : (Builtin.zeroCells (Value.cells (.agg #[.int .i64 0, .int .i64 0])) n).toList = List.replicate (n * 2) (.int .i64 0) := by
    have e2 : Value.cells (.agg #[.int .i64 0, .int .i64 0]) = #[.int .i64 0, .int .i64 0] := by simp [Value.cells]
    rw [e2]
    simp [Builtin.zeroCells]
    apply List.ext_getElem
    · simp
    · intro i h1 h2
      have h3 : i % 2 = 0 ∨ i % 2 = 1 := by omega
      rcases h3 with h3 | h3 <;> simp [h3]
  have hst := run_storeCells_cells (P := P) b o (List.replicate (n * 2) (.int .i64 0)) 0 w (by simpa using hc) (by simpa using hf) (by intro v hv'; rw [List.eq_of_mem_replicate hv']; rfl)
  simp only [Nat.add_zero] at hst
  obtain ⟨m, rfl⟩ : ∃ m, n = m + 1 := ⟨n - 1, by omega⟩
  simp [Builtin.clear_, run_underlying ht, hv, hzc, hst]
theorem below_wipe {B g : Nat} {a : World} (hg : B ≤ g) : ∀ (vs : List Value) (o : Nat) (w : World), Below B a w → Below B a (w.setCells g o vs)
  | [], _, _, h => h
  | _ :: vs, o, _, h => below_wipe hg vs (o + 1) _ (h.setCell hg _)
theorem raw_wipe {w : World} {g o : Nat} {xs vs : List Value} (h : Raw w ⟨g, 0, none⟩ xs) (ho : xs.length ≤ o) : Raw (w.setCells g o vs) ⟨g, 0, none⟩ xs := fun j u hu => by
  have hj : j < xs.length := (List.getElem?_eq_some_iff.1 hu).1
  obtain ⟨h1, h2⟩ := h j u hu
  refine ⟨Nat.lt_of_lt_of_le h1 (below_wipe (B := g) (Nat.le_refl _) vs o w (Below.refl _ _)).size, ?_⟩
  rw [World.cell?_setCells_out g vs o w _ (fun _ _ => .inl (by rw [add_flat]; show j < o; omega))]
  exact h2
end Go.Proofs.Ytophhiejggnaeaa.Mem
namespace Go.Proofs.Ytophhiejggnaeaa.Mem
open Go.RowKit
/-- Block n is there, its first three cells hold x, y and z, and they may be written. -/
structure Trio (w : World) (n : Nat) (x y z : Value) : Prop where
  lt : n < w.heap.size
  c0 : w.cell? ⟨n, 0, none⟩ = some x
  c1 : w.cell? ⟨n, 1, none⟩ = some y
  c2 : w.cell? ⟨n, 2, none⟩ = some z
  f0 : w.frozen? ⟨n, 0, none⟩ = false
  f1 : w.frozen? ⟨n, 1, none⟩ = false
  f2 : w.frozen? ⟨n, 2, none⟩ = false
section
variable {w : World} {n : Nat} {x y z : Value}
theorem Trio.new (w : World) (x y z : Value) (T : TypeId) : Trio (w.alloc (.cells #[x, y, z] T)) w.heap.size x y z := by
  have h := Raw.alloc w #[x, y, z] T
  have h0 := h 0 x rfl
  have h1 := h 1 y rfl
  have h2 := h 2 z rfl
  rw [add_flat] at h0 h1 h2
  exact ⟨h0.1, h0.2, h1.2, h2.2, World.frozen?_alloc_new _ _ _ _, World.frozen?_alloc_new _ _ _ _, World.frozen?_alloc_new _ _ _ _⟩
theorem Trio.of_block {w' : World} (h : Trio w n x y z) (hs : n < w'.heap.size) (e : w'.heap[n]? = w.heap[n]?) : Trio w' n x y z :=
  ⟨hs, (World.cell?_of_block (a := ⟨n, 0, none⟩) e).trans h.c0, (World.cell?_of_block (a := ⟨n, 1, none⟩) e).trans h.c1, (World.cell?_of_block (a := ⟨n, 2, none⟩) e).trans h.c2,
    (World.frozen?_of_block (a := ⟨n, 0, none⟩) e).trans h.f0, (World.frozen?_of_block (a := ⟨n, 1, none⟩) e).trans h.f1, (World.frozen?_of_block (a := ⟨n, 2, none⟩) e).trans h.f2⟩
theorem Trio.below {w' : World} (h : Trio w n x y z) (hb : Below w.heap.size w w') : Trio w' n x y z := h.of_block (Nat.lt_of_lt_of_le h.lt hb.size) (hb.block n h.lt)
theorem Trio.drewN (h : Trio w n x y z) (q : Nat) : Trio (w.drewN q) n x y z := ⟨h.lt, h.c0, h.c1, h.c2, h.f0, h.f1, h.f2⟩
end
end Go.Proofs.Ytophhiejggnaeaa.Mem
namespace Go.Proofs.Ytophhiejggnaeaa.SpanPlain
/-- A span: from one time on, up to one. -/
abbrev Sp := Int × Int
/-- May a span be? -/
def May (s : Sp) : Prop := 0 ≤ s.1 ∧ s.1 < s.2 ∧ s.2 ≤ 4503599627370496
def mayB (s : Sp) : Bool := decide (0 ≤ s.1 ∧ s.1 < s.2 ∧ s.2 ≤ 4503599627370496)
theorem mayB_iff (s : Sp) : mayB s = true ↔ May s := by unfold mayB May; rw [decide_eq_true_eq]
theorem may_cases (s : Sp) : (mayB s = true ∧ decide (0 ≤ s.1) = true ∧ decide (s.1 < s.2) = true ∧ decide (s.2 ≤ 4503599627370496) = true) ∨ (mayB s = false ∧ decide (0 ≤ s.1) = false) ∨
    (mayB s = false ∧ decide (0 ≤ s.1) = true ∧ decide (s.1 < s.2) = false) ∨ (mayB s = false ∧ decide (0 ≤ s.1) = true ∧ decide (s.1 < s.2) = true ∧ decide (s.2 ≤ 4503599627370496) = false) := by
  unfold mayB
  by_cases h1 : 0 ≤ s.1 <;> by_cases h2 : s.1 < s.2 <;> by_cases h3 : s.2 ≤ 4503599627370496 <;> simp [h1, h2, h3]
/-- Has a span a time? -/
def hasB (s : Sp) (t : Int) : Bool := mayB s && decide (s.1 ≤ t) && decide (t < s.2)
/-- Has one of some spans a time? -/
def anyB (l : List Sp) (t : Int) : Bool := l.any fun s => hasB s t
theorem has_cases (s : Sp) (t : Int) : (hasB s t = false ∧ mayB s = false) ∨ (hasB s t = false ∧ mayB s = true ∧ decide (s.1 ≤ t) = false) ∨ (hasB s t = false ∧ mayB s = true ∧ decide (s.1 ≤ t) = true ∧ decide (t < s.2) = false) ∨
    (hasB s t = true ∧ mayB s = true ∧ decide (s.1 ≤ t) = true ∧ decide (t < s.2) = true) := by
  unfold hasB
  cases mayB s <;> by_cases h2 : s.1 ≤ t <;> by_cases h3 : t < s.2 <;> simp [h2, h3]
theorem any_next {l : List Sp} {t : Int} {k : Nat} (hk : k < l.length) (h : anyB (l.take k) t = false) (hs : hasB (l.getD k (0, 0)) t = false) : anyB (l.take (k + 1)) t = false := by
  unfold anyB at *
  rw [List.take_succ_eq_append_getElem hk, List.any_append, h]
  have e : l.getD k (0, 0) = l[k] := by simp [List.getD, hk]
  rw [e] at hs
  simp [hs]
theorem any_found {l : List Sp} {t : Int} {k : Nat} (hk : k < l.length) (hs : hasB (l.getD k (0, 0)) t = true) : anyB l t = true := by
  unfold anyB
  have e : l.getD k (0, 0) = l[k] := by simp [List.getD, hk]
  rw [e] at hs
  exact List.any_eq_true.2 ⟨l[k], List.getElem_mem hk, hs⟩
theorem any_all {l : List Sp} {t : Int} {k : Nat} (hk : l.length ≤ k) (h : anyB (l.take k) t = false) : anyB l t = false := by
  rwa [List.take_of_length_le hk] at h
theorem hasB_iff {s : Sp} {t : Int} : hasB s t = true ↔ May s ∧ s.1 ≤ t ∧ t < s.2 := by
  unfold hasB
  simp only [Bool.and_eq_true, decide_eq_true_eq, mayB_iff, and_assoc]
theorem any_iff {l : List Sp} {t : Int} : anyB l t = true ↔ ∃ s ∈ l, May s ∧ s.1 ≤ t ∧ t < s.2 := by
  unfold anyB
  rw [List.any_eq_true]
  exact ⟨fun ⟨s, h1, h2⟩ => ⟨s, h1, hasB_iff.1 h2⟩, fun ⟨s, h1, h2⟩ => ⟨s, h1, hasB_iff.2 h2⟩⟩
theorem any_append (l m : List Sp) (t : Int) : anyB (l ++ m) t = (anyB l t || anyB m t) := List.any_append
theorem any_cons (s : Sp) (l : List Sp) (t : Int) : anyB (s :: l) t = (hasB s t || anyB l t) := rfl
theorem any_nil (t : Int) : anyB [] t = false := rfl
theorem bool_ext {a b : Bool} (h : a = true ↔ b = true) : a = b := by cases a <;> cases b <;> simp_all
/-- A cover: spans that may be, rising, none of which meets or touches the next one. -/
def Cov (c : List Sp) : Prop := (∀ s ∈ c, May s) ∧ c.Pairwise fun a b => a.2 < b.1
theorem Cov.nil : Cov [] := ⟨fun s h => by simp at h, List.Pairwise.nil⟩
theorem Cov.tail {s : Sp} {c : List Sp} (h : Cov (s :: c)) : Cov c := ⟨fun x hx => h.1 x (by simp [hx]), (List.pairwise_cons.1 h.2).2⟩
/-- Where a cover up to a time stands. -/
def CovTo (c : List Sp) (x : Int) (P : Int → Bool) : Prop := Cov c ∧ (∀ s ∈ c, s.2 ≤ x) ∧ ∀ t, anyB c t = (decide (t < x) && P t)
theorem CovTo.add {c : List Sp} {x y : Int} {P : Int → Bool} (h : CovTo c x P) (hx : 0 ≤ x) (hxy : x < y) (hy : y ≤ 4503599627370496) (hP : ∀ t, x ≤ t → t < y → P t = true) (hl : ∀ s ∈ c, s.2 ≠ x) :
    CovTo (c ++ [(x, y)]) y P := by
  have hm : May (x, y) := ⟨hx, hxy, hy⟩
  refine ⟨⟨fun s hs => ?_, ?_⟩, fun s hs => ?_, fun t => ?_⟩
  · rcases List.mem_append.1 hs with hs | hs
    · exact h.1.1 s hs
    · simp at hs; subst hs; exact hm
  · refine List.pairwise_append.2 ⟨h.1.2, List.pairwise_singleton _ _, fun a ha b hb => ?_⟩
    simp at hb; subst hb
    have h1 := h.2.1 a ha
    have h2 := hl a ha
    show a.2 < x
    omega
  · rcases List.mem_append.1 hs with hs | hs
    · have := h.2.1 s hs; omega
    · simp at hs; subst hs; exact Int.le_refl _
  · rw [any_append, h.2.2 t, any_cons, any_nil, Bool.or_false]
    by_cases h1 : t < x
    · have h2 : hasB (x, y) t = false := by
        cases hb : hasB (x, y) t with
        | false => rfl
        | true => have := (hasB_iff.1 hb).2.1; dsimp only at this; omega
      simp [h1, h2, show t < y by omega]
    · by_cases h2 : t < y
      · have h3 : hasB (x, y) t = true := hasB_iff.2 ⟨hm, by dsimp only; omega, h2⟩
        simp [h1, h2, h3, hP t (by omega) h2]
      · have h3 : hasB (x, y) t = false := by
          cases hb : hasB (x, y) t with
          | false => rfl
          | true => have := (hasB_iff.1 hb).2.2; dsimp only at this; omega
        simp [h1, h2, h3]
end Go.Proofs.Ytophhiejggnaeaa.SpanPlain
namespace Go.Proofs.Ytophhiejggnaeaa.SpanPlain
abbrev Rise (l : List Int) : Prop := l.Pairwise (· < ·)
/-- One behind the last of the first k that are less. -/
def atTo (l : List Int) (n : Int) : Nat → Nat
  | 0 => 0
  | k + 1 => if l.getD k 0 < n then k + 1 else atTo l n k
theorem atTo_le (l : List Int) (n : Int) (k : Nat) : atTo l n k ≤ k := by
  induction k with
  | zero => exact Nat.le_refl _
  | succ k ih => unfold atTo; split <;> omega
theorem atTo_spec (l : List Int) (n : Int) (k : Nat) : (atTo l n k = 0 ∨ l.getD (atTo l n k - 1) 0 < n) ∧ ∀ i, atTo l n k ≤ i → i < k → ¬ l.getD i 0 < n := by
  induction k with
  | zero => exact ⟨.inl rfl, fun i _ h => by omega⟩
  | succ k ih =>
    unfold atTo
    by_cases h : l.getD k 0 < n
    · rw [if_pos h]
      exact ⟨.inr (by simpa using h), fun i h1 h2 => by omega⟩
    · rw [if_neg h]
      refine ⟨ih.1, fun i h1 h2 => ?_⟩
      by_cases e : i = k
      · subst e; exact h
      · exact ih.2 i h1 (by omega)
def putL (l : List Int) (n : Int) : List Int := if n ∈ l then l else l.take (atTo l n l.length) ++ ([n] ++ l.drop (atTo l n l.length))
theorem putL_in {l : List Int} {n : Int} (h : n ∈ l) : putL l n = l := if_pos h
theorem putL_out {l : List Int} {n : Int} (h : n ∉ l) : putL l n = l.take (atTo l n l.length) ++ ([n] ++ l.drop (atTo l n l.length)) := if_neg h
theorem putL_len (l : List Int) (n : Int) : (putL l n).length ≤ l.length + 1 := by
  by_cases h : n ∈ l
  · rw [putL_in h]; omega
  · rw [putL_out h]
    have := atTo_le l n l.length
    simp
    omega
theorem getD_mem {l : List Int} {i : Nat} (h : i < l.length) : l.getD i 0 ∈ l := by
  have e : l.getD i 0 = l[i] := by simp [List.getD, h]
  rw [e]; exact List.getElem_mem h
theorem getD_el {l : List Int} {i : Nat} (h : i < l.length) : l.getD i 0 = l[i] := by simp [List.getD, h]
theorem Rise.le {l : List Int} (h : Rise l) {i j : Nat} (hij : i ≤ j) (hj : j < l.length) : l.getD i 0 ≤ l.getD j 0 := by
  by_cases e : i = j
  · subst e; exact Int.le_refl _
  · have := List.pairwise_iff_getElem.1 h i j (by omega) hj (by omega)
    rw [getD_el (by omega), getD_el hj]
    omega
theorem putL_spec {l : List Int} {n : Int} (h : Rise l) : Rise (putL l n) ∧ ∀ x, x ∈ putL l n ↔ x ∈ l ∨ x = n := by
  by_cases hn : n ∈ l
  · rw [putL_in hn]
    exact ⟨h, fun x => ⟨.inl, fun hx => hx.elim id fun e => by rw [e]; exact hn⟩⟩
  · rw [putL_out hn]
    have hk := atTo_le l n l.length
    obtain ⟨h1, h2⟩ := atTo_spec l n l.length
    generalize atTo l n l.length = k at *
    have hlo : ∀ x ∈ l.take k, x < n := fun x hx => by
      obtain ⟨i, hi, rfl⟩ := List.mem_take_iff_getElem.1 hx
      rcases h1 with h1 | h1
      · omega
      · have := h.le (i := i) (j := k - 1) (by omega) (by omega)
        rw [getD_el (by omega)] at this
        omega
    have hhi : ∀ x ∈ l.drop k, n < x := fun x hx => by
      obtain ⟨i, hi, rfl⟩ := List.mem_drop_iff_getElem.1 hx
      have h3 := h2 (i + k) (by omega) (by omega)
      rw [getD_el (by omega)] at h3
      have h4 : l[i + k] ≠ n := fun e => hn (by rw [← e]; exact List.getElem_mem _)
      have e : l[k + i] = l[i + k] := by congr 1; omega
      omega
    refine ⟨List.pairwise_append.2 ⟨h.sublist (List.take_sublist _ _), List.pairwise_cons.2 ⟨hhi, h.sublist (List.drop_sublist _ _)⟩, fun a ha b hb => ?_⟩, fun x => ?_⟩
    · have h3 := hlo a ha
      rcases List.mem_cons.1 hb with hb | hb
      · omega
      · have := hhi b hb; omega
    · rw [List.mem_append, List.mem_append, List.mem_singleton]
      constructor
      · rintro (hx | hx | hx)
        · exact .inl (List.mem_of_mem_take hx)
        · exact .inr hx
        · exact .inl (List.mem_of_mem_drop hx)
      · rintro (hx | hx)
        · rw [← List.take_append_drop k l] at hx
          rcases List.mem_append.1 hx with hx | hx
          · exact .inl hx
          · exact .inr (.inr hx)
        · exact .inr (.inl hx)
def endsStep (o : List Int) (s : Sp) : List Int := if mayB s then putL (putL o s.1) s.2 else o
def endsL (l : List Sp) : List Int := l.foldl endsStep []
theorem endsL_snoc (l : List Sp) (s : Sp) : endsL (l ++ [s]) = endsStep (endsL l) s := by unfold endsL; rw [List.foldl_append]; rfl
def EndsOf (l : List Sp) (o : List Int) : Prop := Rise o ∧ (∀ x, x ∈ o ↔ ∃ s ∈ l, May s ∧ (x = s.1 ∨ x = s.2)) ∧ o.length ≤ 2 * l.length
theorem endsStep_len (o : List Int) (s : Sp) : (endsStep o s).length ≤ o.length + 2 := by
  unfold endsStep
  split
  · have := putL_len (putL o s.1) s.2
    have := putL_len o s.1
    omega
  · omega
theorem ends_spec (l : List Sp) : EndsOf l (endsL l) := by
  refine Util.snoc_ind (p := fun l => EndsOf l (endsL l)) ⟨List.Pairwise.nil, fun x => by simp [endsL], by simp [endsL]⟩ (fun l s ih => ?_) l
  · show EndsOf (l ++ [s]) (endsL (l ++ [s]))
    rw [endsL_snoc]
    obtain ⟨h1, h2, h3⟩ := ih
    have h4 := endsStep_len (endsL l) s
    refine ⟨?_, ?_, by rw [List.length_append, List.length_singleton]; omega⟩
    · unfold endsStep
      split
      · exact (putL_spec (putL_spec h1).1).1
      · exact h1
    · intro x
      have key : x ∈ endsStep (endsL l) s ↔ x ∈ endsL l ∨ (May s ∧ (x = s.1 ∨ x = s.2)) := by
        unfold endsStep
        split
        · rename_i hm
          have hm' := (mayB_iff s).1 hm
          rw [(putL_spec (putL_spec h1).1).2, (putL_spec h1).2]
          constructor
          · rintro ((h | h) | h)
            · exact .inl h
            · exact .inr ⟨hm', .inl h⟩
            · exact .inr ⟨hm', .inr h⟩
          · rintro (h | ⟨_, h | h⟩)
            · exact .inl (.inl h)
            · exact .inl (.inr h)
            · exact .inr h
        · rename_i hm
          constructor
          · exact .inl
          · rintro (h | ⟨h, _⟩)
            · exact h
            · exact absurd ((mayB_iff s).2 h) hm
      rw [key, h2]
      constructor
      · rintro (⟨r, hr, h⟩ | h)
        · exact ⟨r, by simp [hr], h⟩
        · exact ⟨s, by simp, h⟩
      · rintro ⟨r, hr, h⟩
        rcases List.mem_append.1 hr with hr | hr
        · exact .inl ⟨r, hr, h⟩
        · simp at hr; subst hr; exact .inr h
theorem Rise.gap {e : List Int} (h : Rise e) {i : Nat} (hi : i + 1 < e.length) {x : Int} (hx : x ∈ e) : x ≤ e.getD i 0 ∨ e.getD (i + 1) 0 ≤ x := by
  obtain ⟨j, hj, rfl⟩ := List.mem_iff_getElem.1 hx
  rw [← getD_el hj]
  by_cases hji : j ≤ i
  · exact .inl (h.le hji (by omega))
  · exact .inr (h.le (by omega) hj)
/-- Between two ends that follow each other nothing changes. -/
theorem const_between {l : List Sp} {e : List Int} (hr : Rise e) (hin : ∀ s ∈ l, May s → s.1 ∈ e ∧ s.2 ∈ e) {i : Nat} (hi : i + 1 < e.length) {t : Int} (h1 : e.getD i 0 ≤ t) (h2 : t < e.getD (i + 1) 0) : anyB l t = anyB l (e.getD i 0) := by
  apply bool_ext
  rw [any_iff, any_iff]
  constructor
  · rintro ⟨s, hs, hm, h3, h4⟩
    have h5 := hr.gap hi (hin s hs hm).1
    exact ⟨s, hs, hm, by omega, by omega⟩
  · rintro ⟨s, hs, hm, h3, h4⟩
    have h5 := hr.gap hi (hin s hs hm).2
    exact ⟨s, hs, hm, by omega, by omega⟩
/-- The cover of what some spans have, and others have not. -/
def LessOf (l m c : List Sp) : Prop := Cov c ∧ ∀ t, anyB c t = (anyB l t && !anyB m t)
/-- Where the loop over the ends stands: up to the end at i. -/
def LessAt (l m : List Sp) (e : List Int) (i : Nat) (c : List Sp) : Prop :=
  (e.length = 0 ∧ c = []) ∨ (i < e.length ∧ CovTo c (e.getD i 0) (fun t => anyB l t && !anyB m t))
/-- What the loop leans on. -/
def EndsIn (l m : List Sp) (e : List Int) : Prop :=
  Rise e ∧ (∀ s ∈ l, May s → s.1 ∈ e ∧ s.2 ∈ e) ∧ (∀ s ∈ m, May s → s.1 ∈ e ∧ s.2 ∈ e) ∧ ∀ x ∈ e, 0 ≤ x ∧ x ≤ 4503599627370496
theorem el_range {l m : List Sp} {e : List Int} (h : EndsIn l m e) {i : Nat} (hi : i + 1 < e.length) : 0 ≤ e.getD i 0 ∧ e.getD i 0 < e.getD (i + 1) 0 ∧ e.getD (i + 1) 0 ≤ 4503599627370496 := by
  have h1 := h.2.2.2 _ (getD_mem (l := e) (i := i) (by omega))
  have h2 := h.2.2.2 _ (getD_mem (l := e) (i := i + 1) hi)
  have h3 := List.pairwise_iff_getElem.1 h.1 i (i + 1) (by omega) hi (by omega)
  rw [getD_el (by omega), getD_el hi] at *
  omega
theorem between_true {l m : List Sp} {e : List Int} {i : Nat} (h : EndsIn l m e) (hi : i + 1 < e.length) (h1 : anyB l (e.getD i 0) = true) (h2 : anyB m (e.getD i 0) = false) : ∀ t, e.getD i 0 ≤ t → t < e.getD (i + 1) 0 → (anyB l t && !anyB m t) = true := by
  intro t g1 g2
  rw [const_between h.1 h.2.1 hi g1 g2, const_between h.1 h.2.2.1 hi g1 g2, h1, h2]
  rfl
theorem LessAt.add {l m : List Sp} {e : List Int} {i : Nat} {c : List Sp} (h : EndsIn l m e) (ha : LessAt l m e i c) (hi : i + 1 < e.length) (h1 : anyB l (e.getD i 0) = true) (h2 : anyB m (e.getD i 0) = false) (hl : ∀ s ∈ c, s.2 ≠ e.getD i 0) :
    LessAt l m e (i + 1) (c ++ [(e.getD i 0, e.getD (i + 1) 0)]) := by
  rcases ha with ⟨h0, _⟩ | ⟨_, ha⟩
  · omega
  · obtain ⟨r1, r2, r3⟩ := el_range h hi
    exact .inr ⟨hi, ha.add r1 r2 r3 (between_true h hi h1 h2) hl⟩
end Go.Proofs.Ytophhiejggnaeaa.SpanPlain
namespace Go.Proofs.Ytophhiejggnaeaa.SpanPlain
end Go.Proofs.Ytophhiejggnaeaa.SpanPlain
namespace Go.Proofs.Ytophhiejggnaeaa.SpanPlain
theorem sub_len : ∀ (a b : List Int), a.Nodup → (∀ x ∈ a, x ∈ b) → a.length ≤ b.length := by
  intro a
  induction a with
  | nil => intro b _ _; simp
  | cons x a ih =>
    intro b hn hs
    have hx : x ∈ b := hs x (by simp)
    obtain ⟨h1, h2⟩ := List.nodup_cons.1 hn
    have := ih (b.erase x) h2 (fun y hy => by
      have hne : y ≠ x := fun e => h1 (e ▸ hy)
      exact (List.mem_erase_of_ne hne).2 (hs y (by simp [hy])))
    rw [List.length_erase_of_mem hx] at this
    have := List.length_pos_of_mem hx
    simp only [List.length_cons]
    omega
theorem cov_starts {c : List Sp} (h : Cov c) : (c.map (·.1)).Nodup := by
  refine List.Pairwise.map _ (fun a b (hab : a.2 < b.1 ∧ a.1 < a.2) => ?_) (List.Pairwise.imp_of_mem (fun {a b} ha _ hab => ⟨hab, (h.1 a ha).2.1⟩) h.2)
  intro e
  omega
theorem cov_before {c : List Sp} (h : Cov c) {s : Sp} (hs : s ∈ c) : anyB c (s.1 - 1) = false := by
  cases hx : anyB c (s.1 - 1) with
  | false => rfl
  | true =>
    obtain ⟨r, hr, h1, h2, h3⟩ := any_iff.1 hx
    exfalso
    obtain ⟨i, hi, rfl⟩ := List.mem_iff_getElem.1 hs
    obtain ⟨j, hj, rfl⟩ := List.mem_iff_getElem.1 hr
    have hm := h.1 _ hs
    rcases Nat.lt_trichotomy i j with hij | hij | hij
    · have := List.pairwise_iff_getElem.1 h.2 i j hi hj hij
      have := hm.2.1
      omega
    · subst hij; omega
    · have := List.pairwise_iff_getElem.1 h.2 j i hj hi hij
      omega
theorem cov_len {l m c : List Sp} (h : LessOf l m c) : c.length ≤ l.length + m.length := by
  have := sub_len (c.map (·.1)) (l.map (·.1) ++ m.map (·.2)) (cov_starts h.1) (fun x hx => by
    obtain ⟨s, hs, rfl⟩ := List.mem_map.1 hx
    have hm := h.1.1 s hs
    have h1 : anyB c s.1 = true := any_iff.2 ⟨s, hs, hm, Int.le_refl _, hm.2.1⟩
    have h2 := cov_before h.1 hs
    rw [h.2, Bool.and_eq_true] at h1
    rw [h.2] at h2
    obtain ⟨r, hr, r1, r2, r3⟩ := any_iff.1 h1.1
    rw [List.mem_append]
    by_cases hl : anyB l (s.1 - 1) = true
    · right
      rw [hl, Bool.true_and] at h2
      have h3 : anyB m (s.1 - 1) = true := by cases hx : anyB m (s.1 - 1) <;> simp_all
      obtain ⟨q, hq, q1, q2, q3⟩ := any_iff.1 h3
      have h4 : ¬ s.1 < q.2 := fun h5 => by
        have : anyB m s.1 = true := any_iff.2 ⟨q, hq, q1, by omega, h5⟩
        rw [this] at h1
        simp at h1
      exact List.mem_map.2 ⟨q, hq, by omega⟩
    · left
      have h4 : ¬ r.1 ≤ s.1 - 1 := fun h5 => hl (any_iff.2 ⟨r, hr, r1, h5, by omega⟩)
      exact List.mem_map.2 ⟨r, hr, by omega⟩)
  simpa using this
end Go.Proofs.Ytophhiejggnaeaa.SpanPlain
namespace Go.Proofs.Ytophhiejggnaeaa.SpanPlain
theorem any_take {l : List Sp} {k : Nat} (hk : k < l.length) (t : Int) : anyB (l.take (k + 1)) t = (anyB (l.take k) t || hasB (l.getD k (0, 0)) t) := by
  rw [List.take_succ_eq_append_getElem hk, any_append, any_cons, any_nil, Bool.or_false]
  simp [List.getD, hk]
theorem getSp {l : List Sp} {k : Nat} (hk : k < l.length) : l.getD k (0, 0) = l[k] := by simp [List.getD, hk]
theorem has_no {s : Sp} {t : Int} (h : ¬ (May s ∧ s.1 ≤ t ∧ t < s.2)) : hasB s t = false := by
  cases hb : hasB s t with
  | false => rfl
  | true => exact absurd (hasB_iff.1 hb) h
/-- Rising beginnings, of spans that may be. -/
def Rises (l : List Sp) : Prop := (∀ s ∈ l, May s) ∧ l.Pairwise fun a b => a.1 ≤ b.1
theorem Rises.le {l : List Sp} (h : Rises l) {k : Nat} (hk : k < l.length) : ∀ r ∈ l.take k, r.1 ≤ (l.getD k (0, 0)).1 := fun r hr => by
  obtain ⟨i, hi, rfl⟩ := List.mem_take_iff_getElem.1 hr
  rw [getSp hk]
  exact List.pairwise_iff_getElem.1 h.2 i k (by omega) hk (by omega)
theorem Rises.may {l : List Sp} (h : Rises l) {k : Nat} (hk : k < l.length) : May (l.getD k (0, 0)) := by rw [getSp hk]; exact h.1 _ (List.getElem_mem hk)
/-- How the cover of rising spans stands behind the first k. -/
def CoverAt (l : List Sp) (k : Nat) (c : List Sp) : Prop := Cov c ∧ (∀ t, anyB c t = anyB (l.take k) t) ∧ ∀ s ∈ c, ∃ r ∈ l.take k, s.1 = r.1
theorem CoverAt.start (l : List Sp) : CoverAt l 0 [] := ⟨Cov.nil, fun t => rfl, fun s h => by simp at h⟩
theorem mem_take_succ {l : List Sp} {k : Nat} (hk : k < l.length) {r : Sp} : r ∈ l.take (k + 1) ↔ r ∈ l.take k ∨ r = l.getD k (0, 0) := by
  rw [List.take_succ_eq_append_getElem hk, List.mem_append, List.mem_singleton, getSp hk]
theorem CoverAt.add {l c : List Sp} {k : Nat} (hr : Rises l) (h : CoverAt l k c) (hk : k < l.length) (hs : ∀ x ∈ c, x.2 < (l.getD k (0, 0)).1) : CoverAt l (k + 1) (c ++ [l.getD k (0, 0)]) := by
  have hm := hr.may hk
  refine ⟨⟨fun s h1 => ?_, List.pairwise_append.2 ⟨h.1.2, List.pairwise_singleton _ _, fun a ha b hb => ?_⟩⟩, fun t => ?_, fun s h1 => ?_⟩
  · rcases List.mem_append.1 h1 with h1 | h1
    · exact h.1.1 s h1
    · rw [List.mem_singleton] at h1; subst h1; exact hm
  · rw [List.mem_singleton] at hb; subst hb; exact hs a ha
  · rw [any_append, any_cons, any_nil, Bool.or_false, any_take hk, h.2.1]
  · rcases List.mem_append.1 h1 with h1 | h1
    · obtain ⟨r, h2, h3⟩ := h.2.2 s h1
      exact ⟨r, (mem_take_succ hk).2 (.inl h2), h3⟩
    · rw [List.mem_singleton] at h1; subst h1; exact ⟨_, (mem_take_succ hk).2 (.inr rfl), rfl⟩
theorem last_all {d : List Sp} {q : Sp} {x : Int} (h : Cov (d ++ [q])) (hq : q.2 < x) : ∀ r ∈ d ++ [q], r.2 < x := by
  intro r hr
  rcases List.mem_append.1 hr with hr | hr
  · have h1 := (List.pairwise_append.1 h.2).2.2 r hr q (by simp)
    have h2 := (h.1 q (by simp)).2.1
    omega
  · rw [List.mem_singleton] at hr; subst hr; exact hq
theorem CoverAt.grow {l d : List Sp} {q : Sp} {k : Nat} (hr : Rises l) (h : CoverAt l k (d ++ [q])) (hk : k < l.length) (hq : ¬ q.2 < (l.getD k (0, 0)).1) : CoverAt l (k + 1) (d ++ [(q.1, max q.2 (l.getD k (0, 0)).2)]) := by
  have hm := hr.may hk
  obtain ⟨r0, hr0, hq0⟩ := h.2.2 q (by simp)
  have hq1 : q.1 ≤ (l.getD k (0, 0)).1 := by have := hr.le hk r0 hr0; omega
  have hmq := h.1.1 q (by simp)
  obtain ⟨p1, p2, p3⟩ := List.pairwise_append.1 h.1.2
  have hT := h.2.1
  have hS := h.2.2
  have hC := h.1.1
  have hT2 := fun t => any_take hk t
  have hS2 : ∀ r, r ∈ l.take k ∨ r = l.getD k (0, 0) → r ∈ l.take (k + 1) := fun r h => (mem_take_succ hk).2 h
  generalize l.getD k (0, 0) = s at *
  have hn : May (q.1, max q.2 s.2) := ⟨hmq.1, by have := hmq.2.1; dsimp only; omega, by have := hmq.2.2; have := hm.2.2; dsimp only; omega⟩
  refine ⟨⟨fun x h1 => ?_, List.pairwise_append.2 ⟨p1, List.pairwise_singleton _ _, fun a ha b hb => ?_⟩⟩, fun t => ?_, fun x h1 => ?_⟩
  · rcases List.mem_append.1 h1 with h1 | h1
    · exact hC x (by simp [h1])
    · rw [List.mem_singleton] at h1; subst h1; exact hn
  · rw [List.mem_singleton] at hb; subst hb; exact p3 a ha q (by simp)
  · rw [hT2, ← hT]
    simp only [any_append, any_cons, any_nil, Bool.or_false, Bool.or_assoc]
    congr 1
    apply bool_ext
    rw [Bool.or_eq_true, hasB_iff, hasB_iff, hasB_iff]
    have e1 := hmq.2.1
    have e2 := hm.2.1
    dsimp only
    constructor
    · rintro ⟨_, h1, h2⟩
      by_cases h3 : t < q.2
      · exact .inl ⟨hmq, h1, h3⟩
      · exact .inr ⟨hm, by omega, by omega⟩
    · rintro (⟨_, h1, h2⟩ | ⟨_, h1, h2⟩)
      · exact ⟨hn, h1, by omega⟩
      · exact ⟨hn, by omega, by omega⟩
  · rcases List.mem_append.1 h1 with h1 | h1
    · obtain ⟨r, h2, h3⟩ := hS x (by simp [h1])
      exact ⟨r, hS2 r (.inl h2), h3⟩
    · rw [List.mem_singleton] at h1; subst h1; exact ⟨r0, hS2 r0 (.inl hr0), hq0⟩
theorem CoverAt.done {l c : List Sp} {k : Nat} (h : CoverAt l k c) (hk : l.length ≤ k) : Cov c ∧ ∀ t, anyB c t = anyB l t := by
  refine ⟨h.1, fun t => ?_⟩
  rw [h.2.1, List.take_of_length_le hk]
/-- The cover of rising spans that have what l has. -/
theorem CoverAt.less {l r c : List Sp} {k : Nat} (h : CoverAt r k c) (hk : r.length ≤ k) (hl : ∀ t, anyB r t = anyB l t) : LessOf l [] c := by
  obtain ⟨h1, h2⟩ := h.done hk
  exact ⟨h1, fun t => by rw [h2, hl, any_nil, Bool.not_false, Bool.and_true]⟩
/-- How what a span has, and a cover has not, stands: up to the time f, behind the first j of the cover. -/
def WithAt (s : Sp) (g : List Sp) (j : Nat) (f : Int) (c : List Sp) : Prop :=
  s.1 ≤ f ∧ CovTo c f (fun t => hasB s t && !anyB g t) ∧ (∀ x ∈ c, x.2 < f) ∧ (∀ r ∈ g.take j, r.2 ≤ f) ∧ ∀ r ∈ g.drop j, f < r.2
theorem cov_later {g : List Sp} (hg : Cov g) {j : Nat} (hj : j < g.length) : (∀ r ∈ g.take j, r.2 < (g.getD j (0, 0)).1) ∧ ∀ r ∈ g.drop (j + 1), (g.getD j (0, 0)).2 < r.1 ∧ May r := by
  refine ⟨fun r hr => ?_, fun r hr => ?_⟩
  · obtain ⟨i, hi, rfl⟩ := List.mem_take_iff_getElem.1 hr
    rw [getSp hj]
    exact List.pairwise_iff_getElem.1 hg.2 i j (by omega) hj (by omega)
  · obtain ⟨i, hi, rfl⟩ := List.mem_drop_iff_getElem.1 hr
    rw [getSp hj]
    exact ⟨List.pairwise_iff_getElem.1 hg.2 j (j + 1 + i) hj (by omega) (by omega), hg.1 _ (List.getElem_mem _)⟩
theorem any_split (g : List Sp) (j : Nat) (t : Int) : anyB g t = (anyB (g.take j) t || anyB (g.drop j) t) := by
  rw [← any_append, List.take_append_drop]
theorem any_off {l : List Sp} {t : Int} (h : ∀ r ∈ l, ¬ (r.1 ≤ t ∧ t < r.2)) : anyB l t = false := by
  cases hb : anyB l t with
  | false => rfl
  | true => obtain ⟨r, hr, _, h1, h2⟩ := any_iff.1 hb; exact absurd ⟨h1, h2⟩ (h r hr)
theorem drop_cases {g : List Sp} {j : Nat} (hj : j < g.length) {r : Sp} : r ∈ g.drop j ↔ r = g.getD j (0, 0) ∨ r ∈ g.drop (j + 1) := by
  rw [getSp hj, ← List.getElem_cons_drop hj, List.mem_cons]
/-- No more of the cover is in the span. -/
def Over (s : Sp) (g : List Sp) (j : Nat) : Prop := ∀ r ∈ g.drop j, s.2 ≤ r.1
theorem WithAt.rest {s : Sp} {g : List Sp} {j : Nat} {f : Int} {c : List Sp} (hs : May s) (h : WithAt s g j f c) (ho : Over s g j) (hf : f < s.2) : LessOf [s] g (c ++ [(f, s.2)]) := by
  obtain ⟨a1, a2, a3, a4, a5⟩ := h
  have hs1 := hs.1
  have b := a2.add (y := s.2) (by omega) hf hs.2.2 (fun t h2 h3 => by
    rw [hasB_iff.2 ⟨hs, by omega, h3⟩, any_split g j, any_off (fun q hq => by have := a4 q hq; omega), any_off (fun q hq => by have := ho q hq; omega)]
    rfl) (fun x hx => by have := a3 x hx; omega)
  refine ⟨b.1, fun t => ?_⟩
  rw [b.2.2 t, any_cons, any_nil, Bool.or_false]
  by_cases ht : t < s.2
  · rw [decide_eq_true ht, Bool.true_and]
  · rw [decide_eq_false ht, has_no (fun h4 => by omega), Bool.false_and, Bool.false_and]
/-- What is left when the other cover's first one is not over ahead of a span. -/
theorem LessRow.ahead {l g : List Sp} {k j : Nat} (hg : Cov g) (ho : j < g.length → ¬ (g.getD j (0, 0)).2 ≤ (l.getD k (0, 0)).1) : ∀ r ∈ g.drop j, (l.getD k (0, 0)).1 < r.2 := fun r hr => by
  by_cases hj : j < g.length
  · have h1 := ho hj
    rcases (drop_cases hj).1 hr with rfl | hr
    · omega
    · have h2 := (cov_later hg hj).2 r hr
      have := h2.2.2.1
      omega
  · rw [List.drop_of_length_le (by omega)] at hr
    simp at hr
/-- Spans that may be, of some. -/
def maysL (l : List Sp) : List Sp := l.filter mayB
theorem mays_take {l : List Sp} {k : Nat} (hk : k < l.length) : maysL (l.take (k + 1)) = maysL (l.take k) ++ if mayB (l.getD k (0, 0)) then [l.getD k (0, 0)] else [] := by
  unfold maysL
  rw [List.take_succ_eq_append_getElem hk, List.filter_append, getSp hk, List.filter_cons, List.filter_nil]
theorem mays_len (l : List Sp) (k : Nat) : (maysL (l.take k)).length ≤ l.length := by
  unfold maysL
  have h1 := List.length_filter_le mayB (l.take k)
  rw [List.length_take] at h1
  omega
theorem mays_any {l r : List Sp} (h : r.Perm (maysL l)) (t : Int) : anyB r t = anyB l t := by
  apply bool_ext
  rw [any_iff, any_iff]
  constructor
  · rintro ⟨s, hs, h1⟩
    exact ⟨s, (List.mem_filter.1 (h.mem_iff.1 hs)).1, h1⟩
  · rintro ⟨s, hs, h1, h2⟩
    exact ⟨s, h.mem_iff.2 (List.mem_filter.2 ⟨hs, (mayB_iff s).2 h1⟩), h1, h2⟩
theorem mays_may {l r : List Sp} (h : r.Perm (maysL l)) : ∀ s ∈ r, May s := fun s hs => (mayB_iff s).1 (List.mem_filter.1 (h.mem_iff.1 hs)).2
end Go.Proofs.Ytophhiejggnaeaa.SpanPlain
