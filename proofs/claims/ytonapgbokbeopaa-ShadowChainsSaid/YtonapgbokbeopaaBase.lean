/-
  Words for memory: what a slice's cells hold, kept behind whatever writes elsewhere. No function is spoken of here. Small plain lemmas that lack: induction from a list's end. Append onto a row of one's own, whatever the elements: one law, in words of raw cells. A row of one's own that may be nil: what becomes of it, and append onto it. Boxes of two cells (a struct of two fields that a call keeps in memory): what they hold, behind whatever leaves them alone. A region that draws its order, whose operations only read and whose callees may make memory of their own, walked once: the class of worlds in which nothing that was there has turned. The builtin clear at elements of two integers, and what it leaves. Boxes of three cells: what they hold, behind whatever leaves them alone.
-/
import Derived.Below
import Derived.Laws.OwnMore
import Derived.Deep.Draws
import Derived.Deep.OwnRows
import Derived.Lib.Hide
import Derived.OwnWalk
import Derived.Deep.QuietTactic
import Derived.BigQuiet
import Derived.Lib.SliceRun
namespace Go.Proofs.Ytonapgbokbeopaa.Mem
open Go.RowKit
theorem add_flat (b k : Nat) : (⟨b, 0, none⟩ : Addr).add k = ⟨b, k, none⟩ := by unfold Addr.add; split <;> simp_all
theorem add_block (a : Addr) (k : Nat) : (a.add k).block = a.block := by unfold Addr.add; split <;> rfl
/-- The first n cells from an address on hold f; they are there already. -/
def Cells (w : World) (A : Option Addr) (n : Nat) (f : Nat → Value) : Prop :=
  ∀ i, i < n → ∃ a, A = some a ∧ a.block < w.heap.size ∧ w.cell? (a.add i) = some (f i)
section
variable {w w' : World} {A : Option Addr} {n : Nat} {f g : Nat → Value}
theorem Cells.at (h : Cells w A n f) {i : Nat} (hi : i < n) : ∃ a, A = some a ∧ a.block < w.heap.size ∧ w.cell? (a.add i) = some (f i) := h i hi
theorem Cells.below (h : Cells w A n f) (hb : Below w.heap.size w w') : Cells w' A n f := fun i hi => by
  obtain ⟨a, e, hl, hc⟩ := h i hi
  exact ⟨a, e, Nat.lt_of_lt_of_le hl hb.size, (hb.cell (by rw [add_block]; exact hl)).trans hc⟩
theorem Cells.congr (h : Cells w A n f) (e : ∀ i, i < n → f i = g i) : Cells w A n g := fun i hi => by
  obtain ⟨a, e1, hl, hc⟩ := h i hi
  exact ⟨a, e1, hl, by rw [hc, e i hi]⟩
theorem Cells.none_ : Cells w A 0 f := fun _ hi => absurd hi (Nat.not_lt_zero _)
theorem Cells.of_row {b : Nat} {t : TypeId} (h : w.rowIs b t n f) : Cells w (some ⟨b, 0, none⟩) n f := fun i hi =>
  ⟨_, rfl, h.lt, by rw [add_flat]; exact h.cell hi⟩
theorem Cells.of_alloc (w : World) (c : Array Value) (t : TypeId) (f : Nat → Value) (hc : ∀ i, i < c.size → c[i]? = some (f i)) : Cells (w.alloc (.cells c t)) (some ⟨w.heap.size, 0, none⟩) c.size f :=
  Cells.of_row (World.rowIs_alloc w c t f hc)
theorem Cells.of_own {base : Nat} {e : TypeId} {c : Nat} {xs : List Value} (h : w.ownsRow base e 1 (.slice A n c) n xs) (hf : ∀ i, i < n → xs[i]? = some (f i)) : Cells w A n f := by
  have hlt := h.lt
  have hcs := @World.ownsRow.cells _ _ _ _ _ _ _ h
  rcases h.2 with ⟨_, hn⟩ | ⟨g, cap, cur, hv, _⟩
  · intro i hi; omega
  · injection hv with hA
    subst hA
    exact fun i hi => ⟨_, rfl, (hlt g rfl).2, hcs rfl i _ (hf i hi)⟩
end
/-- One new cell, as append of one element lays it. -/
theorem one_new (w : World) (x : Value) (t : TypeId) : ∀ (j : Nat) (u : Value), [x][j]? = some u → (w.alloc (.cells #[x] t)).cell? ((⟨w.heap.size, 0, none⟩ : Addr).add j) = some u := by
  intro j u hj
  cases j with
  | zero =>
    have e : x = u := by simpa using hj
    subst e
    rw [add_flat]
    exact (World.rowIs_alloc w #[x] t (fun _ => x) (fun i hi => by simp at hi; subst hi; rfl)).cell (i := 0) (by simp)
  | succ j => simp at hj
theorem one_cell {k : IntKind} {n : Int} : ∀ u ∈ [Value.int k n], u.oneCell' = true := by
  intro u hu
  simp at hu
  subst hu
  rfl
/-- Integers' cells. -/
def icell (l : List Int) (i : Nat) : Value := .int .i64 (l.getD i 0)
def ivals (l : List Int) : List Value := l.map (Value.int .i64)
theorem ivals_append (l m : List Int) : ivals (l ++ m) = ivals l ++ ivals m := by simp [ivals]
theorem ivals_len (l : List Int) : (ivals l).length = l.length := by simp [ivals]
theorem ivals_at (l : List Int) (n : Nat) (h : n = l.length) : ∀ i, i < n → (ivals l)[i]? = some (icell l i) := fun i hi => by
  subst h
  simp [ivals, icell, List.getD, hi]
theorem ivals_cell (l : List Int) : ∀ u ∈ ivals l, u.oneCell' = true := by
  intro u hu
  obtain ⟨n, _, rfl⟩ := List.mem_map.1 hu
  rfl
/-- An own row that is not nil has a head. -/
theorem own_form {w : World} {base : Nat} {e : TypeId} {size : Nat} {v : Value} {n : Nat} {xs : List Value} (h : w.ownsRow base e size v n xs) (hne : ¬ v = .slice none 0 0) :
    ∃ g c, v = .slice (some ⟨g, 0, none⟩) n c ∧ base ≤ g ∧ g < w.heap.size ∧ n ≤ c ∧ c ≤ maxLen := by
  have hlt := h.lt
  rcases h.2 with ⟨e, _⟩ | ⟨g, cap, cur, rfl, hg, _, h1, h2, _⟩
  · exact absurd e hne
  · exact ⟨g, cap, rfl, hg, (hlt g rfl).2, h1, h2⟩
theorem below_of_grown {base : Nat} {e : TypeId} {size : Nat} {v : Value} {n : Nat} {xs : List Value} {a w w' : World} (hb : Below base a w) (h : w.ownsRow base e size v n xs) (hB : base ≤ w.heap.size) (hg : w.grownBy w' v.ownBlock) : Below base a w' :=
  hb.grown hg hB (fun k hk => (h.lt k hk).1)
/-- A struct's later fields lie behind its first. -/
def fld (a : Addr) (j : Nat) : Addr := ⟨a.block, a.off + j, none⟩
/-- Elements of two cells: the first n from an address on. -/
def Pairs (w : World) (A : Option Addr) (n : Nat) (f : Nat → Value × Value) : Prop :=
  ∀ i, i < n → ∃ a, A = some a ∧ a.block < w.heap.size ∧ w.cell? (a.add (i * 2)) = some (f i).1 ∧ w.cell? ⟨(a.add (i * 2)).block, (a.add (i * 2)).off + 1, none⟩ = some (f i).2
theorem pair_below {w w' : World} {a : Addr} {k : Nat} {u v : Value} (hb : Below w.heap.size w w') (hl : a.block < w.heap.size) (h1 : w.cell? (a.add k) = some u) (h2 : w.cell? ⟨(a.add k).block, (a.add k).off + 1, none⟩ = some v) :
    a.block < w'.heap.size ∧ w'.cell? (a.add k) = some u ∧ w'.cell? ⟨(a.add k).block, (a.add k).off + 1, none⟩ = some v :=
  ⟨Nat.lt_of_lt_of_le hl hb.size, (hb.cell (by rw [add_block]; exact hl)).trans h1, (hb.cell (by rw [add_block]; exact hl)).trans h2⟩
theorem Pairs.below {w w' : World} {A : Option Addr} {n : Nat} {f : Nat → Value × Value} (h : Pairs w A n f) (hb : Below w.heap.size w w') : Pairs w' A n f := fun i hi => by
  obtain ⟨a, e, hl, h1, h2⟩ := h i hi
  obtain ⟨h3, h4, h5⟩ := pair_below hb hl h1 h2
  exact ⟨a, e, h3, h4, h5⟩
theorem Pairs.none_ {w : World} {A : Option Addr} {f : Nat → Value × Value} : Pairs w A 0 f := fun _ hi => absurd hi (Nat.not_lt_zero _)
theorem Pairs.of_row {w : World} {b : Nat} {t : TypeId} {n : Nat} {g : Nat → Value} {f : Nat → Value × Value} (h : w.rowIs b t (n * 2) g) (hf : ∀ i, i < n → g (i * 2) = (f i).1 ∧ g (i * 2 + 1) = (f i).2) :
    Pairs w (some ⟨b, 0, none⟩) n f := fun i hi => by
  refine ⟨_, rfl, h.lt, ?_, ?_⟩
  · rw [add_flat, h.cell (by omega), (hf i hi).1]
  · rw [add_flat]; show w.cell? ⟨b, i * 2 + 1, none⟩ = _; rw [h.cell (by omega), (hf i hi).2]
theorem Pairs.of_own {w : World} {base : Nat} {e : TypeId} {A : Option Addr} {n c : Nat} {xs : List Value} {f : Nat → Value × Value} (h : w.ownsRow base e 2 (.slice A n c) n xs)
    (hf : ∀ i, i < n → xs[i * 2]? = some (f i).1 ∧ xs[i * 2 + 1]? = some (f i).2) : Pairs w A n f := by
  have hlt := h.lt
  have hcs := @World.ownsRow.cells _ _ _ _ _ _ _ h
  rcases h.2 with ⟨_, hn⟩ | ⟨g, cap, cur, hv, _⟩
  · intro i hi; omega
  · injection hv with hA
    subst hA
    intro i hi
    have h1 := hcs rfl (i * 2) _ (hf i hi).1
    have h2 := hcs rfl (i * 2 + 1) _ (hf i hi).2
    rw [add_flat] at h1 h2
    exact ⟨_, rfl, (hlt g rfl).2, by rw [add_flat]; exact h1, by rw [add_flat]; exact h2⟩
theorem below_drewN {B : Nat} {a w : World} (h : Below B a w) (n : Nat) : Below B a (w.drewN n) := ⟨h.os, h.tape, h.output, h.size, h.block⟩
theorem row_drewN {w : World} {b : Nat} {t : TypeId} {n : Nat} {f : Nat → Value} (h : w.rowIs b t n f) (k : Nat) : (w.drewN k).rowIs b t n f := h
theorem cells_drewN {w : World} {A : Option Addr} {n : Nat} {f : Nat → Value} (h : Cells w A n f) (k : Nat) : Cells (w.drewN k) A n f := h
/-- Two calls, one behind the other: neither has turned what was there. -/
theorem below_then {a b c : World} (h : Below a.heap.size a b) (k : Below b.heap.size b c) : Below a.heap.size a c := h.trans (k.mono h.size)
theorem below_of_drew {w w' : World} (h : Below w.drew.heap.size w.drew w') : Below w.heap.size w w' := ⟨h.os, h.tape, h.output, h.size, h.block⟩
end Go.Proofs.Ytonapgbokbeopaa.Mem
namespace Go.Proofs.Ytonapgbokbeopaa.Util
theorem snoc_ind {α : Type} {p : List α → Prop} (h0 : p []) (hs : ∀ l a, p l → p (l ++ [a])) : ∀ l, p l := by
  suffices h : ∀ (n : Nat) (l : List α), l.length = n → p l from fun l => h _ l rfl
  intro n
  induction n with
  | zero => intro l hl; rw [List.eq_nil_of_length_eq_zero hl]; exact h0
  | succ n ih =>
    intro l hl
    have hne : l ≠ [] := fun e => by rw [e] at hl; simp at hl
    rw [← List.dropLast_concat_getLast hne]
    exact hs _ _ (ih _ (by simp; omega))
end Go.Proofs.Ytonapgbokbeopaa.Util
namespace Go.Proofs.Ytonapgbokbeopaa.Mem
open Go.RowKit
/-- What is to be known of a slice's type. -/
structure ElemT (P : Program) (T e : TypeId) (k bytes : Nat) : Prop where
  und : P.underlying T = some (.slice e)
  info : ∃ i z, P.info? e = some i ∧ i.zero = some z ∧ i.size = k ∧ i.bytes = bytes ∧ z.cells.size = k
  pos : 0 < k
  small : bytes ≤ 128
theorem ElemT.mk_ {P : Program} {T e : TypeId} {k bytes : Nat} (z : Value) (und : P.underlying T = some (.slice e)) (info : (P.info? e).map (fun i => (i.zero, i.size, i.bytes)) = some (some z, k, bytes)) (hz : z.cells.size = k) (pos : 0 < k) (small : bytes ≤ 128) : ElemT P T e k bytes := by
  obtain ⟨i, hi, h0, h1, h2⟩ := info_parts info
  exact ⟨und, ⟨i, z, hi, h0, h1, h2, hz⟩, pos, small⟩
/-- Cells from an address on. -/
def Raw (w : World) (a : Addr) (xs : List Value) : Prop := ∀ (j : Nat) (u : Value), xs[j]? = some u → a.block < w.heap.size ∧ w.cell? (a.add j) = some u
theorem Raw.below {w w' : World} {a : Addr} {xs : List Value} (h : Raw w a xs) (hb : Below w.heap.size w w') : Raw w' a xs :=
  fun j u hu => ⟨Nat.lt_of_lt_of_le (h j u hu).1 hb.size, (hb.cell (by rw [add_block]; exact (h j u hu).1)).trans (h j u hu).2⟩
theorem add_add (a : Addr) (i j : Nat) : (a.add i).add j = a.add (i + j) := by
  unfold Addr.add
  by_cases h1 : i = 0 <;> by_cases h2 : j = 0 <;> simp [h1, h2, Nat.add_assoc]
theorem Raw.drop {w : World} {a : Addr} {xs : List Value} (h : Raw w a xs) (q : Nat) : Raw w (a.add q) (xs.drop q) :=
  fun j u hu => by rw [add_block, add_add]; exact h (q + j) u (by rwa [List.getElem?_drop] at hu)
theorem Raw.take {w : World} {a : Addr} {xs : List Value} (h : Raw w a xs) (q : Nat) : Raw w a (xs.take q) :=
  fun j u hu => h j u (by
    rw [List.getElem?_take] at hu
    by_cases hj : j < q
    · rwa [if_pos hj] at hu
    · rw [if_neg hj] at hu; cases hu)
theorem Raw.alloc (w : World) (c : Array Value) (t : TypeId) : Raw (w.alloc (.cells c t)) ⟨w.heap.size, 0, none⟩ c.toList :=
  fun j u hu => ⟨by simp, by
    rw [add_flat]
    have hj : j < c.size := by have := (List.getElem?_eq_some_iff.1 hu).1; simpa using this
    rw [Array.getElem?_toList] at hu
    have h := (World.rowIs_alloc w c t (fun i => c[i]?.getD u) (fun i hi => by simp [hi])).cell hj
    rw [h, hu]; rfl⟩
/-- A row of one's own from base on that is not nil. -/
def OwnR (e : TypeId) (k base : Nat) (w : World) (v : Value) (n : Nat) (xs : List Value) : Prop := w.ownsRow base e k v n xs ∧ (¬ v = .slice none 0 0) ∧ base ≤ w.heap.size
theorem OwnR.new (w : World) (e : TypeId) (k : Nat) : OwnR e k w.heap.size (w.alloc (.cells #[] e)) (.slice (some ⟨w.heap.size, 0, none⟩) 0 0) 0 [] :=
  ⟨World.ownsRow_made w #[] 0 (Nat.le_refl _) (by decide) (by simp), by simp, by simp⟩
theorem OwnR.form {e : TypeId} {k base : Nat} {w : World} {v : Value} {n : Nat} {xs : List Value} (h : OwnR e k base w v n xs) :
    ∃ g c, v = .slice (some ⟨g, 0, none⟩) n c ∧ base ≤ g ∧ g < w.heap.size ∧ n ≤ c ∧ c ≤ maxLen ∧ Raw w ⟨g, 0, none⟩ xs ∧ ∀ i, w.frozen? ⟨g, i, none⟩ = false := by
  obtain ⟨g, c, rfl, h1, h2, h3, h4⟩ := own_form h.1 h.2.1
  exact ⟨g, c, rfl, h1, h2, h3, h4, fun j u hu => ⟨h2, h.1.cells (g := g) rfl j u hu⟩, fun i => h.1.frozenAt i⟩
theorem OwnR.alloc {e : TypeId} {k base : Nat} {w : World} {v : Value} {n : Nat} {xs : List Value} (h : OwnR e k base w v n xs) (o : Obj) : OwnR e k base (w.alloc o) v n xs :=
  ⟨h.1.alloc o, h.2.1, by have := h.2.2; simp; omega⟩
theorem OwnR.set {e : TypeId} {k base : Nat} {w : World} {g n c : Nat} {xs : List Value} (h : OwnR e k base w (.slice (some ⟨g, 0, none⟩) n c) n xs) (j : Nat) (u : Value) :
    OwnR e k base (w.setCell ⟨g, j, none⟩ u) (.slice (some ⟨g, 0, none⟩) n c) n (xs.set j u) :=
  ⟨(h.1.stored j u).1, by simp, Nat.le_trans h.2.2 (h.1.stored j u).2.size⟩
theorem OwnR.cast {e : TypeId} {k base : Nat} {w : World} {v : Value} {n m : Nat} {xs ys : List Value} (h : OwnR e k base w v n xs) (hn : n = m) (hx : xs = ys) : OwnR e k base w v m ys := by subst hn; subst hx; exact h
theorem OwnR.drew {e : TypeId} {k base : Nat} {w : World} {v : Value} {n : Nat} {xs : List Value} (h : OwnR e k base w v n xs) : OwnR e k base w.drew v n xs := h
theorem OwnR.drewN {e : TypeId} {k base : Nat} {w : World} {v : Value} {n : Nat} {xs : List Value} (h : OwnR e k base w v n xs) (q : Nat) : OwnR e k base (w.drewN q) v n xs := h
theorem OwnR.below {e : TypeId} {k base : Nat} {w w' : World} {v : Value} {n : Nat} {xs : List Value} (h : OwnR e k base w v n xs) (hb : Below w.heap.size w w') : OwnR e k base w' v n xs :=
  ⟨h.1.kept (row := none) ⟨hb.os, hb.tape, hb.output, hb.size, fun i hi _ => hb.block i hi⟩ (.inr (by
    obtain ⟨g, c, rfl, _⟩ := own_form h.1 h.2.1
    simp [Value.ownBlock])), h.2.1, Nat.le_trans h.2.2 hb.size⟩
section
variable {P : Program} {w : World}
theorem push_raw {ops : Array Oper} {rest : List Oper} {o : Oper} {act : Act} {Q : Exit → Act → World → Prop} {T e : TypeId} {k bytes : Nat} (E : ElemT P T e k bytes) (hgd : o.guard = none) (s x : Operand)
    (ho : o.op = .call { callee := .builtin .append, args := #[s, x], argTypes := #[T, T] }) (base : Nat) (v : Value) (n : Nat) (xs : List Value) (hs : act.eval s = v) (hown : OwnR e k base w v n xs)
    (a : Addr) (m c : Nat) (ys : List Value) (hx : act.eval x = .slice (some a) m c) (hl : ys.length = m * k) (hr : Raw w a ys) (h1 : ∀ u ∈ ys, u.oneCell' = true) (hb : n + m ≤ 1099511627776)
    (h : ∀ v' w', OwnR e k base w' v' (n + m) (xs ++ ys) → Below base w w' → wpList P ops Q rest (act.put o.dst v') w') : wpList P ops Q (o :: rest) act w := by
  obtain ⟨i, z, hi, hz0, hz1, hz2, hzs⟩ := E.info
  have hby : (n + m) * bytes ≤ 140737488355328 := by
    have := Nat.mul_le_mul hb E.small
    omega
  refine wpList_append_own w hgd s x T ho base e i z k bytes E.und hi hz0 hz1 hz2 hzs E.pos v n xs hs hown.1 a m c ys hx hl (fun j u hu => (hr j u hu).2) h1 (by unfold maxLen; omega) hby hown.2.2 fun v' w' h2 h3 h4 => ?_
  exact h v' w' ⟨h2, fun hn => hown.2.1 (h4.1 hn).1, Nat.le_trans hown.2.2 h3.size⟩ (below_of_grown (Below.refl base w) hown.1 hown.2.2 h3)
/-- The same, as a step of a region that draws its order. -/
theorem step_push {ops : Array Oper} {o : Oper} {act : Act} {K : Act → World → Prop} {Q : Exit → Act → World → Prop} {E0 : Prop} {T e : TypeId} {k bytes : Nat} (E : ElemT P T e k bytes) (hgd : o.guard = none) (s x : Operand)
    (ho : o.op = .call { callee := .builtin .append, args := #[s, x], argTypes := #[T, T] }) (base : Nat) (v : Value) (n : Nat) (xs : List Value) (hs : act.eval s = v) (hown : OwnR e k base w v n xs)
    (a : Addr) (m c : Nat) (ys : List Value) (hx : act.eval x = .slice (some a) m c) (hl : ys.length = m * k) (hr : Raw w a ys) (h1 : ∀ u ∈ ys, u.oneCell' = true) (hb : n + m ≤ 1099511627776)
    (h : ∀ v' w', OwnR e k base w' v' (n + m) (xs ++ ys) → Below base w w' → K (act.put o.dst v') w') : if Region.wanted o (yielded ops act.tmps) = true then Oper.wp P o act w K Q else E0 := by
  have hw : Region.wanted o (yielded ops act.tmps) = true := by simp [Region.wanted, hgd]
  rw [if_pos hw]
  obtain ⟨i, z, hi, hz0, hz1, hz2, hzs⟩ := E.info
  have hby : (n + m) * bytes ≤ 140737488355328 := by
    have := Nat.mul_le_mul hb E.small
    omega
  exact wp_append_own w s x T ho base e i z k bytes E.und hi hz0 hz1 hz2 hzs E.pos v n xs hs hown.1 a m c ys hx hl (fun j u hu => (hr j u hu).2) h1 (by unfold maxLen; omega) hby hown.2.2 fun v' w' h2 h3 h4 =>
    h v' w' ⟨h2, fun hn => hown.2.1 (h4.1 hn).1, Nat.le_trans hown.2.2 h3.size⟩ (below_of_grown (Below.refl base w) hown.1 hown.2.2 h3)
/-- What is appended may be nil. -/
def Src (w : World) (v : Value) (m : Nat) (ys : List Value) : Prop := (v = .slice none 0 0 ∧ m = 0 ∧ ys = []) ∨ ∃ a c, v = .slice (some a) m c ∧ Raw w a ys
theorem Src.below {w' : World} {v : Value} {m : Nat} {ys : List Value} (h : Src w v m ys) (hb : Below w.heap.size w w') : Src w' v m ys := by
  rcases h with h | ⟨a, c, e, hr⟩
  · exact .inl h
  · exact .inr ⟨a, c, e, hr.below hb⟩
theorem push_src {ops : Array Oper} {rest : List Oper} {o : Oper} {act : Act} {Q : Exit → Act → World → Prop} {T e : TypeId} {k bytes : Nat} (E : ElemT P T e k bytes) (hgd : o.guard = none) (s x : Operand)
    (ho : o.op = .call { callee := .builtin .append, args := #[s, x], argTypes := #[T, T] }) (base : Nat) (v : Value) (n : Nat) (xs : List Value) (hs : act.eval s = v) (hown : OwnR e k base w v n xs)
    (v2 : Value) (m : Nat) (ys : List Value) (hx : act.eval x = v2) (hl : ys.length = m * k) (hr : Src w v2 m ys) (h1 : ∀ u ∈ ys, u.oneCell' = true) (hb : n + m ≤ 1099511627776)
    (h : ∀ v' w', OwnR e k base w' v' (n + m) (xs ++ ys) → Below base w w' → wpList P ops Q rest (act.put o.dst v') w') : wpList P ops Q (o :: rest) act w := by
  rcases hr with ⟨rfl, rfl, rfl⟩ | ⟨a, c, rfl, hr⟩
  · obtain ⟨i, z, hi, hz0, hz1, hz2, hzs⟩ := E.info
    have hrun := run_append_owned_none (P := P) (w := w) base T o.type e i k E.und hi v n xs hown.1
    refine wpList_plain hgd fun K hK => ?_
    unfold Oper.wp execOp
    simp only [ho, resolve, invoke, builtin, Sem.run_bind, Sem.run_pure, Result.andThen_ok, List.map_toArray, List.map_cons, List.map_nil, hs, hx, hrun]
    exact hK _ _ (h v w (by simpa using hown) (Below.refl _ _))
  · exact push_raw E hgd s x ho base v n xs hs hown a m c ys hx hl hr h1 hb h
end
/-- A slice of integers that is there. -/
def IntsIs (l : List Int) (w : World) (v : Value) : Prop := ∃ ad c, v = .slice (some ad) l.length c ∧ Raw w ad (ivals l) ∧ l.length ≤ c ∧ c ≤ maxLen
theorem IntsIs.below {l : List Int} {w w' : World} {v : Value} (h : IntsIs l w v) (hb : Below w.heap.size w w') : IntsIs l w' v := by
  obtain ⟨ad, c, e, hc, h1, h2⟩ := h
  exact ⟨ad, c, e, hc.below hb, h1, h2⟩
theorem IntsIs.drew {l : List Int} {w : World} {v : Value} (h : IntsIs l w v) : IntsIs l w.drew v := h
theorem IntsIs.drewN {l : List Int} {w : World} {v : Value} (h : IntsIs l w v) (q : Nat) : IntsIs l (w.drewN q) v := h
theorem OwnR.ints {e : TypeId} {base n : Nat} {w : World} {v : Value} {l : List Int} (h : OwnR e 1 base w v n (ivals l)) (hn : n = l.length) : IntsIs l w v := by
  subst hn
  obtain ⟨g, c, rfl, _, _, h1, h2, h3, _⟩ := h.form
  exact ⟨_, c, rfl, h3, h1, h2⟩
theorem Raw.lt {w : World} {a : Addr} {xs : List Value} (h : Raw w a xs) {j : Nat} {u : Value} (hu : xs[j]? = some u) : a.block < w.heap.size := (h j u hu).1
theorem Raw.intlt {w : World} {a : Addr} {l : List Int} (h : Raw w a (ivals l)) {k : Nat} (hk : k < l.length) : a.block < w.heap.size := (h k _ (ivals_at l _ rfl k hk)).1
theorem Raw.int {w : World} {a : Addr} {l : List Int} (h : Raw w a (ivals l)) {k : Nat} (hk : k < l.length) : w.cell? (a.add k) = some (.int .i64 (l.getD k 0)) := (h k _ (ivals_at l _ rfl k hk)).2
theorem ivals_drop (l : List Int) (q : Nat) : (ivals l).drop q = ivals (l.drop q) := by simp [ivals]
theorem ivals_take (l : List Int) (q : Nat) : (ivals l).take q = ivals (l.take q) := by simp [ivals]
theorem raw_nil {w : World} {a : Addr} {xs : List Value} (h : Raw w a xs) : Raw w a [] := fun j u hu => by simp at hu
end Go.Proofs.Ytonapgbokbeopaa.Mem
namespace Go.Proofs.Ytonapgbokbeopaa.Mem
open Go.RowKit
/-- A row of one's own from base on, nil let in. -/
def OwnN (e : TypeId) (k base : Nat) (w : World) (v : Value) (n : Nat) (xs : List Value) : Prop := w.ownsRow base e k v n xs ∧ base ≤ w.heap.size
section
variable {e : TypeId} {k base n : Nat} {w : World} {v : Value} {xs : List Value}
theorem OwnN.nil (hb : base ≤ w.heap.size) : OwnN e k base w (.slice none 0 0) 0 [] := ⟨World.ownsRow_nil w base e k, hb⟩
theorem OwnR.toN (h : OwnR e k base w v n xs) : OwnN e k base w v n xs := ⟨h.1, h.2.2⟩
theorem OwnN.form (h : OwnN e k base w v n xs) :
    (v = .slice none 0 0 ∧ n = 0 ∧ xs = []) ∨ ∃ g c, v = .slice (some ⟨g, 0, none⟩) n c ∧ base ≤ g ∧ g < w.heap.size ∧ n ≤ c ∧ c ≤ maxLen ∧ Raw w ⟨g, 0, none⟩ xs ∧ (∀ i, w.frozen? ⟨g, i, none⟩ = false) ∧ OwnR e k base w (.slice (some ⟨g, 0, none⟩) n c) n xs := by
  by_cases hv : v = .slice none 0 0
  · left
    rcases h.1.2 with ⟨_, hn⟩ | ⟨g, c, cur, hv2, _⟩
    · subst hn
      have := h.1.1
      exact ⟨hv, rfl, List.eq_nil_of_length_eq_zero (by omega)⟩
    · rw [hv] at hv2; cases hv2
  · right
    have hr : OwnR e k base w v n xs := ⟨h.1, hv, h.2⟩
    obtain ⟨g, c, rfl, h1, h2, h3, h4, h5, h6⟩ := hr.form
    exact ⟨g, c, rfl, h1, h2, h3, h4, h5, h6, hr⟩
theorem OwnN.src (h : OwnN e k base w v n xs) : Src w v n xs := by
  rcases h.form with h | ⟨g, c, hv, _, _, _, _, hr, _⟩
  · exact .inl h
  · exact .inr ⟨_, c, hv, hr⟩
theorem OwnN.shape (h : OwnN e k base w v n xs) : ∃ A c, v = .slice A n c := by
  rcases h.form with ⟨h1, h2, _⟩ | ⟨g, c, hv, _⟩
  · subst h2; exact ⟨none, 0, h1⟩
  · exact ⟨_, c, hv⟩
theorem OwnN.there (h : OwnN e k base w v (n + 1) xs) :
    ∃ g c, v = .slice (some ⟨g, 0, none⟩) (n + 1) c ∧ base ≤ g ∧ g < w.heap.size ∧ (∀ j u, xs[j]? = some u → w.cell? ⟨g, j, none⟩ = some u) ∧ ∀ i, w.frozen? ⟨g, i, none⟩ = false := by
  rcases h.form with ⟨_, h2, _⟩ | ⟨g, c, hv, h1, h2, _, _, hr, hf, _⟩
  · omega
  · exact ⟨g, c, hv, h1, h2, fun j u hu => by have := (hr j u hu).2; rwa [add_flat] at this, hf⟩
theorem OwnN.len (h : OwnN e k base w v n xs) : xs.length = n * k := h.1.1
theorem OwnN.alloc (h : OwnN e k base w v n xs) (o : Obj) : OwnN e k base (w.alloc o) v n xs := ⟨h.1.alloc o, by have := h.2; simp; omega⟩
theorem OwnN.old (h : OwnN e k base w v n xs) : v.ownBlock ≠ some w.heap.size := fun hc => by have := (h.1.lt _ hc).2; omega
theorem OwnN.cast {m : Nat} {ys : List Value} (h : OwnN e k base w v n xs) (hn : n = m) (hx : xs = ys) : OwnN e k base w v m ys := by subst hn; subst hx; exact h
theorem OwnN.drew (h : OwnN e k base w v n xs) : OwnN e k base w.drew v n xs := h
theorem OwnN.drewN (h : OwnN e k base w v n xs) (q : Nat) : OwnN e k base (w.drewN q) v n xs := h
theorem OwnN.below {w' : World} (h : OwnN e k base w v n xs) (hb : Below w.heap.size w w') : OwnN e k base w' v n xs := by
  rcases h.form with ⟨rfl, rfl, rfl⟩ | ⟨g, c, rfl, _, _, _, _, _, _, hr⟩
  · exact OwnN.nil (Nat.le_trans h.2 hb.size)
  · exact (hr.below hb).toN
/-- A store into a block that is not the row's. -/
theorem OwnN.set_other (h : OwnN e k base w v n xs) {p : Addr} (hp : p.block < base) (u : Value) : OwnN e k base (w.setCell p u) v n xs :=
  ⟨ownsRow_setCell_below h.1 hp u, Nat.le_trans h.2 (by simp [World.setCell])⟩
theorem OwnN.set {g c : Nat} (h : OwnN e k base w (.slice (some ⟨g, 0, none⟩) n c) n xs) (j : Nat) (u : Value) :
    OwnN e k base (w.setCell ⟨g, j, none⟩ u) (.slice (some ⟨g, 0, none⟩) n c) n (xs.set j u) :=
  ⟨(h.1.stored j u).1, Nat.le_trans h.2 (h.1.stored j u).2.size⟩
theorem OwnN.rebase {base' : Nat} (h : OwnN e k base w v n xs) (hb : base' ≤ base) : OwnN e k base' w v n xs := by
  refine ⟨⟨h.1.1, ?_⟩, Nat.le_trans hb h.2⟩
  rcases h.1.2 with h1 | ⟨g, c, cur, hv, hg, r⟩
  · exact .inl h1
  · exact .inr ⟨g, c, cur, hv, Nat.le_trans hb hg, r⟩
end
theorem push_own {P : Program} {w : World} {ops : Array Oper} {rest : List Oper} {o : Oper} {act : Act} {Q : Exit → Act → World → Prop} {T e : TypeId} {k bytes : Nat} (E : ElemT P T e k bytes) (hgd : o.guard = none) (s x : Operand)
    (ho : o.op = .call { callee := .builtin .append, args := #[s, x], argTypes := #[T, T] }) (base : Nat) (v : Value) (n : Nat) (xs : List Value) (hs : act.eval s = v) (hown : OwnN e k base w v n xs)
    (v2 : Value) (m : Nat) (ys : List Value) (hx : act.eval x = v2) (hl : ys.length = m * k) (hr : Src w v2 m ys) (h1 : ∀ u ∈ ys, u.oneCell' = true) (hb : n + m ≤ 1099511627776)
    (h : ∀ v' w', OwnN e k base w' v' (n + m) (xs ++ ys) → Below base w w' → w.grownBy w' v.ownBlock → wpList P ops Q rest (act.put o.dst v') w') : wpList P ops Q (o :: rest) act w := by
  obtain ⟨i, z, hi, hz0, hz1, hz2, hzs⟩ := E.info
  rcases hr with ⟨rfl, rfl, rfl⟩ | ⟨a, c, rfl, hr⟩
  · have hrun := run_append_owned_none (P := P) (w := w) base T o.type e i k E.und hi v n xs hown.1
    refine wpList_plain hgd fun K hK => ?_
    unfold Oper.wp execOp
    simp only [ho, resolve, invoke, builtin, Sem.run_bind, Sem.run_pure, Result.andThen_ok, List.map_toArray, List.map_cons, List.map_nil, hs, hx, hrun]
    exact hK _ _ (h v w (by simpa using hown) (Below.refl _ _) ⟨rfl, rfl, rfl, Nat.le_refl _, fun _ _ _ => rfl⟩)
  · have hby : (n + m) * bytes ≤ 140737488355328 := by
      have := Nat.mul_le_mul hb E.small
      omega
    refine wpList_append_own w hgd s x T ho base e i z k bytes E.und hi hz0 hz1 hz2 hzs E.pos v n xs hs hown.1 a m c ys hx hl (fun j u hu => (hr j u hu).2) h1 (by unfold maxLen; omega) hby hown.2 fun v' w' h2 h3 h4 => ?_
    exact h v' w' ⟨h2, Nat.le_trans hown.2 h3.size⟩ (below_of_grown (Below.refl base w) hown.1 hown.2 h3) h3
/-- The same, as a step of a region that draws its order. -/
theorem step_own {P : Program} {w : World} {ops : Array Oper} {o : Oper} {act : Act} {K : Act → World → Prop} {Q : Exit → Act → World → Prop} {E0 : Prop} {T e : TypeId} {k bytes : Nat} (E : ElemT P T e k bytes) (hgd : o.guard = none) (s x : Operand)
    (ho : o.op = .call { callee := .builtin .append, args := #[s, x], argTypes := #[T, T] }) (base : Nat) (v : Value) (n : Nat) (xs : List Value) (hs : act.eval s = v) (hown : OwnN e k base w v n xs)
    (v2 : Value) (m : Nat) (ys : List Value) (hx : act.eval x = v2) (hl : ys.length = m * k) (hr : Src w v2 m ys) (h1 : ∀ u ∈ ys, u.oneCell' = true) (hb : n + m ≤ 1099511627776)
    (h : ∀ v' w', OwnN e k base w' v' (n + m) (xs ++ ys) → Below base w w' → w.grownBy w' v.ownBlock → K (act.put o.dst v') w') : if Region.wanted o (yielded ops act.tmps) = true then Oper.wp P o act w K Q else E0 := by
  have hw : Region.wanted o (yielded ops act.tmps) = true := by simp [Region.wanted, hgd]
  rw [if_pos hw]
  obtain ⟨i, z, hi, hz0, hz1, hz2, hzs⟩ := E.info
  rcases hr with ⟨rfl, rfl, rfl⟩ | ⟨a, c, rfl, hr⟩
  · have hrun := run_append_owned_none (P := P) (w := w) base T o.type e i k E.und hi v n xs hown.1
    unfold Oper.wp execOp
    simp only [ho, resolve, invoke, builtin, Sem.run_bind, Sem.run_pure, Result.andThen_ok, List.map_toArray, List.map_cons, List.map_nil, hs, hx, hrun]
    exact h v w (by simpa using hown) (Below.refl _ _) ⟨rfl, rfl, rfl, Nat.le_refl _, fun _ _ _ => rfl⟩
  · have hby : (n + m) * bytes ≤ 140737488355328 := by
      have := Nat.mul_le_mul hb E.small
      omega
    exact wp_append_own w s x T ho base e i z k bytes E.und hi hz0 hz1 hz2 hzs E.pos v n xs hs hown.1 a m c ys hx hl (fun j u hu => (hr j u hu).2) h1 (by unfold maxLen; omega) hby hown.2 fun v' w' h2 h3 h4 =>
      h v' w' ⟨h2, Nat.le_trans hown.2 h3.size⟩ (below_of_grown (Below.refl base w) hown.1 hown.2 h3) h3
/-- New cells, at a place named otherwise. -/
theorem raw_at {w : World} {n m k : Nat} (e : w.heap.size = n) (c : Array Value) (T : TypeId) : Src (w.alloc (.cells c T)) (.slice (some ⟨n, 0, none⟩) m k) m c.toList := by
  subst e; exact .inr ⟨_, k, rfl, Raw.alloc w c T⟩
theorem two_cells {i j : IntKind} {a b : Int} : ∀ u ∈ [Value.int i a, Value.int j b], u.oneCell' = true := by
  intro u hu
  simp at hu
  rcases hu with rfl | rfl <;> rfl
end Go.Proofs.Ytonapgbokbeopaa.Mem
namespace Go.Proofs.Ytonapgbokbeopaa.Mem
open Go.RowKit
/-- Block n is there, its first two cells hold x and y, and they may be written. -/
structure Box2 (w : World) (n : Nat) (x y : Value) : Prop where
  lt : n < w.heap.size
  c0 : w.cell? ⟨n, 0, none⟩ = some x
  c1 : w.cell? ⟨n, 1, none⟩ = some y
  f0 : w.frozen? ⟨n, 0, none⟩ = false
  f1 : w.frozen? ⟨n, 1, none⟩ = false
section
variable {w : World} {n : Nat} {x y : Value}
theorem Box2.new (w : World) (x y : Value) (T : TypeId) : Box2 (w.alloc (.cells #[x, y] T)) w.heap.size x y := by
  have h := Raw.alloc w #[x, y] T
  have h0 := h 0 x rfl
  have h1 := h 1 y rfl
  rw [add_flat] at h0 h1
  exact ⟨h0.1, h0.2, h1.2, World.frozen?_alloc_new _ _ _ _, World.frozen?_alloc_new _ _ _ _⟩
theorem Box2.below {w' : World} (h : Box2 w n x y) (hb : Below w.heap.size w w') : Box2 w' n x y :=
  ⟨Nat.lt_of_lt_of_le h.lt hb.size, (hb.cell (p := ⟨n, 0, none⟩) h.lt).trans h.c0, (hb.cell (p := ⟨n, 1, none⟩) h.lt).trans h.c1, (hb.frozen (p := ⟨n, 0, none⟩) h.lt).trans h.f0, (hb.frozen (p := ⟨n, 1, none⟩) h.lt).trans h.f1⟩
theorem Box2.alloc (h : Box2 w n x y) (o : Obj) : Box2 (w.alloc o) n x y := h.below ((Below.refl _ _).alloc (Nat.le_refl _) o)
theorem Box2.drewN (h : Box2 w n x y) (q : Nat) : Box2 (w.drewN q) n x y := ⟨h.lt, h.c0, h.c1, h.f0, h.f1⟩
/-- Below another limit. -/
theorem Box2.under {w' : World} {B : Nat} (h : Box2 w n x y) (hb : Below B w w') (hn : n < B) : Box2 w' n x y :=
  ⟨Nat.lt_of_lt_of_le h.lt hb.size, (hb.cell (p := ⟨n, 0, none⟩) hn).trans h.c0, (hb.cell (p := ⟨n, 1, none⟩) hn).trans h.c1, (hb.frozen (p := ⟨n, 0, none⟩) hn).trans h.f0, (hb.frozen (p := ⟨n, 1, none⟩) hn).trans h.f1⟩
theorem Box2.set_other (h : Box2 w n x y) {p : Addr} (hp : p.block ≠ n) (u : Value) : Box2 (w.setCell p u) n x y := by
  have e : (w.setCell p u).heap[n]? = w.heap[n]? := Below.heap_setCell w p u n (fun h => hp h.symm)
  exact ⟨by simp [World.setCell]; exact h.lt, (World.cell?_of_block (a := ⟨n, 0, none⟩) e).trans h.c0, (World.cell?_of_block (a := ⟨n, 1, none⟩) e).trans h.c1, (World.frozen?_of_block (a := ⟨n, 0, none⟩) e).trans h.f0, (World.frozen?_of_block (a := ⟨n, 1, none⟩) e).trans h.f1⟩
theorem Box2.set0 (h : Box2 w n x y) (u : Value) : Box2 (w.setCell ⟨n, 0, none⟩ u) n u y :=
  ⟨by simp [World.setCell]; exact h.lt, World.cell?_setCell_same _ _ _ h.c0, (World.cell?_setCell_other _ _ _ _ (by simp)).trans h.c1, by rw [World.frozen?_setCell]; exact h.f0, by rw [World.frozen?_setCell]; exact h.f1⟩
theorem Box2.set1 (h : Box2 w n x y) (u : Value) : Box2 (w.setCell ⟨n, 1, none⟩ u) n x u :=
  ⟨by simp [World.setCell]; exact h.lt, (World.cell?_setCell_other _ _ _ _ (by simp)).trans h.c0, World.cell?_setCell_same _ _ _ h.c1, by rw [World.frozen?_setCell]; exact h.f0, by rw [World.frozen?_setCell]; exact h.f1⟩
/-- Behind an append to another row. -/
theorem Box2.grown {w' : World} {row : Option Nat} (h : Box2 w n x y) (hg : w.grownBy w' row) (hne : row ≠ some n) : Box2 w' n x y := by
  have e := hg.block n h.lt (fun e => hne e.symm)
  exact ⟨Nat.lt_of_lt_of_le h.lt hg.size, (World.cell?_of_block (a := ⟨n, 0, none⟩) e).trans h.c0, (World.cell?_of_block (a := ⟨n, 1, none⟩) e).trans h.c1, (World.frozen?_of_block (a := ⟨n, 0, none⟩) e).trans h.f0, (World.frozen?_of_block (a := ⟨n, 1, none⟩) e).trans h.f1⟩
end
end Go.Proofs.Ytonapgbokbeopaa.Mem
namespace Go.Proofs.Ytonapgbokbeopaa.Mem
open Go.RowKit
/-- A world in which nothing that was there in w has turned. -/
structure Lull (w : World) where
  u : World
  h : Below w.heap.size w u
instance (w : World) : Inhabited (Lull w) := ⟨⟨w, Below.refl _ _⟩⟩
theorem below_step (w : World) : Below w.heap.size w { w with drawn := w.drawn + 1 } := ⟨rfl, rfl, rfl, Nat.le_refl _, fun _ _ => rfl⟩
theorem wp_region_calm {P : Program} {id : Nat} {Q : Exit → Act → World → Prop} {a : Act} {w : World} {l : List Oper} (hm : P.follows .mixedOrders = true) (hB : Region.lexB .any l.toArray = true)
    (h : wpQuiet P l.toArray (fun w' => ∃ p : Lull w, w' = p.u) (fun a' => ∀ w', (∃ p : Lull w, w' = p.u) → Q .normal a' w') l a) : (Code.region id l.toArray true).wp P Q a w :=
  wp_region_quiet (C := fun w' => ∃ p : Lull w, w' = p.u) hm hB ⟨⟨_, below_step w⟩, rfl⟩ (by simpa using h)
/-- A callee's contract, met in a world of the class. -/
theorem calm_of {P : Program} {f : FuncId} {args : Array Value} {w : World} {p : Lull w} {v : Value} (h : Calls P f args p.u fun e w' => e = .returned v ∧ Below p.u.heap.size p.u w') : Calls P f args p.u fun e w'' => e = .returned v ∧ ∃ q : Lull w, w'' = q.u :=
  h.mono fun _ w' ⟨he, hb⟩ => ⟨he, ⟨w', below_then p.h hb⟩, rfl⟩
theorem calm_same {P : Program} {f : FuncId} {args : Array Value} {w : World} {p : Lull w} {v : Value} (h : Calls P f args p.u fun e w' => e = .returned v ∧ p.u = w') : Calls P f args p.u fun e w'' => e = .returned v ∧ ∃ q : Lull w, w'' = q.u :=
  h.mono fun _ w' ⟨he, hb⟩ => ⟨he, p, hb.symm⟩
theorem calm_cell {w : World} {a : Addr} {v : Value} (hb : a.block < w.heap.size) (h : w.cell? a = some v) (p : Lull w) : p.u.cell? a = some v := (p.h.cell hb).trans h
theorem calm_pair {w : World} {a : Addr} {k : Nat} {u v : Value} (hl : a.block < w.heap.size) (h1 : w.cell? (a.add k) = some u) (h2 : w.cell? ⟨(a.add k).block, (a.add k).off + 1, none⟩ = some v) (p : Lull w) :
    p.u.cell? (a.add k) = some u ∧ p.u.cell? ⟨(a.add k).block, (a.add k).off + 1, none⟩ = some v :=
  ⟨calm_cell (by rw [add_block]; exact hl) h1 p, calm_cell (by show (a.add k).block < _; rw [add_block]; exact hl) h2 p⟩
theorem lull_below {w w' : World} (h : ∃ p : Lull w, w' = p.u) : Below w.heap.size w w' := by obtain ⟨p, rfl⟩ := h; exact p.h
end Go.Proofs.Ytonapgbokbeopaa.Mem
namespace Go.Proofs.Ytonapgbokbeopaa.Mem
open Go.RowKit
theorem clear_two {P : Program} (w : World) (T e ty : TypeId) (ht : P.underlying T = some (.slice e)) (hv : ∀ w, (zeroValue e).run P w = .ok (.agg #[.int .i64 0, .int .i64 0]) w) (b o n c : Nat) (hn : 0 < n)
    (hc : ∀ j, j < n * 2 → (w.cell? ⟨b, o + j, none⟩).isSome = true) (hf : ∀ j, j < n * 2 → w.frozen? ⟨b, o + j, none⟩ = false) :
    (Builtin.clear_ #[T] ty #[.slice (some ⟨b, o, none⟩) n c]).run P w = .ok (.tuple #[]) (w.setCells b o (List.replicate (n * 2) (.int .i64 0))) := by
  have hzc : (Builtin.zeroCells (Value.cells (.agg #[.int .i64 0, .int .i64 0])) n).toList = List.replicate (n * 2) (.int .i64 0) := by
    have e2 : Value.cells (.agg #[.int .i64 0, .int .i64 0]) = #[.int .i64 0, .int .i64 0] := by simp [Value.cells]
    rw [e2]
    simp [Builtin.zeroCells]
    apply List.ext_getElem
    · simp
    · intro i h1 h2
      have h3 : i % 2 = 0 ∨ i % 2 = 1 := by omega
      rcases h3 with h3 | h3 <;> simp [h3]
  have hst := run_storeCells_cells (P := P) b o (List.replicate (n * 2) (.int .i64 0)) 0 w (by simpa using hc) (by simpa using hf) (by intro v hv'; rw [List.eq_of_mem_replicate hv']; rfl)
  simp only [Nat.add_zero] at hst
  obtain ⟨m, rfl⟩ : ∃ m, n = m + 1 := ⟨n - 1, by omega⟩
  simp [Builtin.clear_, run_underlying ht, hv, hzc, hst]
theorem below_wipe {B g : Nat} {a : World} (hg : B ≤ g) : ∀ (vs : List Value) (o : Nat) (w : World), Below B a w → Below B a (w.setCells g o vs)
  | [], _, _, h => h
  | _ :: vs, o, _, h => below_wipe hg vs (o + 1) _ (h.setCell hg _)
theorem raw_wipe {w : World} {g o : Nat} {xs vs : List Value} (h : Raw w ⟨g, 0, none⟩ xs) (ho : xs.length ≤ o) : Raw (w.setCells g o vs) ⟨g, 0, none⟩ xs := fun j u hu => by
  have hj : j < xs.length := (List.getElem?_eq_some_iff.1 hu).1
  obtain ⟨h1, h2⟩ := h j u hu
  refine ⟨Nat.lt_of_lt_of_le h1 (below_wipe (B := g) (Nat.le_refl _) vs o w (Below.refl _ _)).size, ?_⟩
  rw [World.cell?_setCells_out g vs o w _ (fun _ _ => .inl (by rw [add_flat]; show j < o; omega))]
  exact h2
end Go.Proofs.Ytonapgbokbeopaa.Mem
namespace Go.Proofs.Ytonapgbokbeopaa.Mem
open Go.RowKit
/-- Block n is there, its first three cells hold x, y and z, and they may be written. -/
structure Trio (w : World) (n : Nat) (x y z : Value) : Prop where
  lt : n < w.heap.size
  c0 : w.cell? ⟨n, 0, none⟩ = some x
  c1 : w.cell? ⟨n, 1, none⟩ = some y
  c2 : w.cell? ⟨n, 2, none⟩ = some z
  f0 : w.frozen? ⟨n, 0, none⟩ = false
  f1 : w.frozen? ⟨n, 1, none⟩ = false
  f2 : w.frozen? ⟨n, 2, none⟩ = false
section
variable {w : World} {n : Nat} {x y z : Value}
theorem Trio.new (w : World) (x y z : Value) (T : TypeId) : Trio (w.alloc (.cells #[x, y, z] T)) w.heap.size x y z := by
  have h := Raw.alloc w #[x, y, z] T
  have h0 := h 0 x rfl
  have h1 := h 1 y rfl
  have h2 := h 2 z rfl
  rw [add_flat] at h0 h1 h2
  exact ⟨h0.1, h0.2, h1.2, h2.2, World.frozen?_alloc_new _ _ _ _, World.frozen?_alloc_new _ _ _ _, World.frozen?_alloc_new _ _ _ _⟩
theorem Trio.new_at {m : Nat} (x y z : Value) (T : TypeId) (e : w.heap.size = m) : Trio (w.alloc (.cells #[x, y, z] T)) m x y z := by subst e; exact Trio.new w x y z T
theorem Trio.of_block {w' : World} (h : Trio w n x y z) (hs : n < w'.heap.size) (e : w'.heap[n]? = w.heap[n]?) : Trio w' n x y z :=
  ⟨hs, (World.cell?_of_block (a := ⟨n, 0, none⟩) e).trans h.c0, (World.cell?_of_block (a := ⟨n, 1, none⟩) e).trans h.c1, (World.cell?_of_block (a := ⟨n, 2, none⟩) e).trans h.c2,
    (World.frozen?_of_block (a := ⟨n, 0, none⟩) e).trans h.f0, (World.frozen?_of_block (a := ⟨n, 1, none⟩) e).trans h.f1, (World.frozen?_of_block (a := ⟨n, 2, none⟩) e).trans h.f2⟩
theorem Trio.below {w' : World} (h : Trio w n x y z) (hb : Below w.heap.size w w') : Trio w' n x y z := h.of_block (Nat.lt_of_lt_of_le h.lt hb.size) (hb.block n h.lt)
theorem Trio.alloc (h : Trio w n x y z) (o : Obj) : Trio (w.alloc o) n x y z := h.below ((Below.refl _ _).alloc (Nat.le_refl _) o)
theorem Trio.drewN (h : Trio w n x y z) (q : Nat) : Trio (w.drewN q) n x y z := ⟨h.lt, h.c0, h.c1, h.c2, h.f0, h.f1, h.f2⟩
theorem Trio.under {w' : World} {B : Nat} (h : Trio w n x y z) (hb : Below B w w') (hn : n < B) : Trio w' n x y z := h.of_block (Nat.lt_of_lt_of_le h.lt hb.size) (hb.block n hn)
theorem Trio.set_other (h : Trio w n x y z) {p : Addr} (hp : p.block ≠ n) (u : Value) : Trio (w.setCell p u) n x y z := h.of_block (by simp [World.setCell]; exact h.lt) (Below.heap_setCell w p u n (fun h => hp h.symm))
theorem Trio.set0 (h : Trio w n x y z) (u : Value) : Trio (w.setCell ⟨n, 0, none⟩ u) n u y z :=
  ⟨by simp [World.setCell]; exact h.lt, World.cell?_setCell_same _ _ _ h.c0, (World.cell?_setCell_other _ _ _ _ (by simp)).trans h.c1, (World.cell?_setCell_other _ _ _ _ (by simp)).trans h.c2,
    by rw [World.frozen?_setCell]; exact h.f0, by rw [World.frozen?_setCell]; exact h.f1, by rw [World.frozen?_setCell]; exact h.f2⟩
theorem Trio.set1 (h : Trio w n x y z) (u : Value) : Trio (w.setCell ⟨n, 1, none⟩ u) n x u z :=
  ⟨by simp [World.setCell]; exact h.lt, (World.cell?_setCell_other _ _ _ _ (by simp)).trans h.c0, World.cell?_setCell_same _ _ _ h.c1, (World.cell?_setCell_other _ _ _ _ (by simp)).trans h.c2,
    by rw [World.frozen?_setCell]; exact h.f0, by rw [World.frozen?_setCell]; exact h.f1, by rw [World.frozen?_setCell]; exact h.f2⟩
theorem Trio.set2 (h : Trio w n x y z) (u : Value) : Trio (w.setCell ⟨n, 2, none⟩ u) n x y u :=
  ⟨by simp [World.setCell]; exact h.lt, (World.cell?_setCell_other _ _ _ _ (by simp)).trans h.c0, (World.cell?_setCell_other _ _ _ _ (by simp)).trans h.c1, World.cell?_setCell_same _ _ _ h.c2,
    by rw [World.frozen?_setCell]; exact h.f0, by rw [World.frozen?_setCell]; exact h.f1, by rw [World.frozen?_setCell]; exact h.f2⟩
/-- Behind an append to another row. -/
theorem Trio.grown {w' : World} {row : Option Nat} (h : Trio w n x y z) (hg : w.grownBy w' row) (hne : row ≠ some n) : Trio w' n x y z :=
  h.of_block (Nat.lt_of_lt_of_le h.lt hg.size) (hg.block n h.lt (fun e => hne e.symm))
end
end Go.Proofs.Ytonapgbokbeopaa.Mem
