/-
  Append onto a row of one's own, whatever the elements: one law, in words of raw cells.
-/
import Derived.Test.YtnjhboanhjjldaaMem
import Derived.OwnWalk
namespace Go.Proofs.Ytnjhboanhjjldaa.Mem
open Go.RowKit

/-- What is to be known of a slice's type. -/
structure ElemT (P : Program) (T e : TypeId) (k bytes : Nat) : Prop where
  und : P.underlying T = some (.slice e)
  info : ∃ i z, P.info? e = some i ∧ i.zero = some z ∧ i.size = k ∧ i.bytes = bytes ∧ z.cells.size = k
  pos : 0 < k
  small : bytes ≤ 128
theorem ElemT.mk_ {P : Program} {T e : TypeId} {k bytes : Nat} (z : Value) (und : P.underlying T = some (.slice e)) (info : (P.info? e).map (fun i => (i.zero, i.size, i.bytes)) = some (some z, k, bytes)) (hz : z.cells.size = k) (pos : 0 < k) (small : bytes ≤ 128) : ElemT P T e k bytes := by
  obtain ⟨i, hi, h0, h1, h2⟩ := info_parts info
  exact ⟨und, ⟨i, z, hi, h0, h1, h2, hz⟩, pos, small⟩

/-- Cells from an address on. -/
def Raw (w : World) (a : Addr) (xs : List Value) : Prop := ∀ (j : Nat) (u : Value), xs[j]? = some u → a.block < w.heap.size ∧ w.cell? (a.add j) = some u
theorem Raw.below {w w' : World} {a : Addr} {xs : List Value} (h : Raw w a xs) (hb : Below w.heap.size w w') : Raw w' a xs :=
  fun j u hu => ⟨Nat.lt_of_lt_of_le (h j u hu).1 hb.size, (hb.cell (by rw [add_block]; exact (h j u hu).1)).trans (h j u hu).2⟩
theorem add_add (a : Addr) (i j : Nat) : (a.add i).add j = a.add (i + j) := by
  unfold Addr.add
  by_cases h1 : i = 0 <;> by_cases h2 : j = 0 <;> simp [h1, h2, Nat.add_assoc]
theorem Raw.drop {w : World} {a : Addr} {xs : List Value} (h : Raw w a xs) (q : Nat) : Raw w (a.add q) (xs.drop q) :=
  fun j u hu => by rw [add_block, add_add]; exact h (q + j) u (by rwa [List.getElem?_drop] at hu)
theorem Raw.take {w : World} {a : Addr} {xs : List Value} (h : Raw w a xs) (q : Nat) : Raw w a (xs.take q) :=
  fun j u hu => h j u (by
    rw [List.getElem?_take] at hu
    by_cases hj : j < q
    · rwa [if_pos hj] at hu
    · rw [if_neg hj] at hu; cases hu)
theorem Raw.alloc (w : World) (c : Array Value) (t : TypeId) : Raw (w.alloc (.cells c t)) ⟨w.heap.size, 0, none⟩ c.toList :=
  fun j u hu => ⟨by simp, by
    rw [add_flat]
    have hj : j < c.size := by have := (List.getElem?_eq_some_iff.1 hu).1; simpa using this
    rw [Array.getElem?_toList] at hu
    have h := (World.rowIs_alloc w c t (fun i => c[i]?.getD u) (fun i hi => by simp [hi])).cell hj
    rw [h, hu]; rfl⟩

/-- A row of one's own from base on that is not nil. -/
def OwnR (e : TypeId) (k base : Nat) (w : World) (v : Value) (n : Nat) (xs : List Value) : Prop := w.ownsRow base e k v n xs ∧ (¬ v = .slice none 0 0) ∧ base ≤ w.heap.size
theorem OwnR.new (w : World) (e : TypeId) (k : Nat) : OwnR e k w.heap.size (w.alloc (.cells #[] e)) (.slice (some ⟨w.heap.size, 0, none⟩) 0 0) 0 [] :=
  ⟨World.ownsRow_made w #[] 0 (Nat.le_refl _) (by decide) (by simp), by simp, by simp⟩
theorem OwnR.form {e : TypeId} {k base : Nat} {w : World} {v : Value} {n : Nat} {xs : List Value} (h : OwnR e k base w v n xs) :
    ∃ g c, v = .slice (some ⟨g, 0, none⟩) n c ∧ base ≤ g ∧ g < w.heap.size ∧ n ≤ c ∧ c ≤ maxLen ∧ Raw w ⟨g, 0, none⟩ xs ∧ ∀ i, w.frozen? ⟨g, i, none⟩ = false := by
  obtain ⟨g, c, rfl, h1, h2, h3, h4⟩ := own_form h.1 h.2.1
  exact ⟨g, c, rfl, h1, h2, h3, h4, fun j u hu => ⟨h2, h.1.cells (g := g) rfl j u hu⟩, fun i => h.1.frozenAt i⟩
theorem OwnR.alloc {e : TypeId} {k base : Nat} {w : World} {v : Value} {n : Nat} {xs : List Value} (h : OwnR e k base w v n xs) (o : Obj) : OwnR e k base (w.alloc o) v n xs :=
  ⟨h.1.alloc o, h.2.1, by have := h.2.2; simp; omega⟩
theorem OwnR.set {e : TypeId} {k base : Nat} {w : World} {g n c : Nat} {xs : List Value} (h : OwnR e k base w (.slice (some ⟨g, 0, none⟩) n c) n xs) (j : Nat) (u : Value) :
    OwnR e k base (w.setCell ⟨g, j, none⟩ u) (.slice (some ⟨g, 0, none⟩) n c) n (xs.set j u) :=
  ⟨(h.1.stored j u).1, by simp, Nat.le_trans h.2.2 (h.1.stored j u).2.size⟩
theorem OwnR.cast {e : TypeId} {k base : Nat} {w : World} {v : Value} {n m : Nat} {xs ys : List Value} (h : OwnR e k base w v n xs) (hn : n = m) (hx : xs = ys) : OwnR e k base w v m ys := by subst hn; subst hx; exact h
theorem OwnR.drew {e : TypeId} {k base : Nat} {w : World} {v : Value} {n : Nat} {xs : List Value} (h : OwnR e k base w v n xs) : OwnR e k base w.drew v n xs := h
theorem OwnR.drewN {e : TypeId} {k base : Nat} {w : World} {v : Value} {n : Nat} {xs : List Value} (h : OwnR e k base w v n xs) (q : Nat) : OwnR e k base (w.drewN q) v n xs := h
theorem OwnR.below {e : TypeId} {k base : Nat} {w w' : World} {v : Value} {n : Nat} {xs : List Value} (h : OwnR e k base w v n xs) (hb : Below w.heap.size w w') : OwnR e k base w' v n xs :=
  ⟨h.1.kept (row := none) ⟨hb.os, hb.tape, hb.output, hb.size, fun i hi _ => hb.block i hi⟩ (.inr (by
    obtain ⟨g, c, rfl, _⟩ := own_form h.1 h.2.1
    simp [Value.ownBlock])), h.2.1, Nat.le_trans h.2.2 hb.size⟩

section
variable {P : Program} {w : World}
theorem push_raw {ops : Array Oper} {rest : List Oper} {o : Oper} {act : Act} {Q : Exit → Act → World → Prop} {T e : TypeId} {k bytes : Nat} (E : ElemT P T e k bytes) (hgd : o.guard = none) (s x : Operand)
    (ho : o.op = .call { callee := .builtin .append, args := #[s, x], argTypes := #[T, T] }) (base : Nat) (v : Value) (n : Nat) (xs : List Value) (hs : act.eval s = v) (hown : OwnR e k base w v n xs)
    (a : Addr) (m c : Nat) (ys : List Value) (hx : act.eval x = .slice (some a) m c) (hl : ys.length = m * k) (hr : Raw w a ys) (h1 : ∀ u ∈ ys, u.oneCell' = true) (hb : n + m ≤ 1099511627776)
    (h : ∀ v' w', OwnR e k base w' v' (n + m) (xs ++ ys) → Below base w w' → wpList P ops Q rest (act.put o.dst v') w') : wpList P ops Q (o :: rest) act w := by
  obtain ⟨i, z, hi, hz0, hz1, hz2, hzs⟩ := E.info
  have hby : (n + m) * bytes ≤ 140737488355328 := by
    have := Nat.mul_le_mul hb E.small
    omega
  refine wpList_append_own w hgd s x T ho base e i z k bytes E.und hi hz0 hz1 hz2 hzs E.pos v n xs hs hown.1 a m c ys hx hl (fun j u hu => (hr j u hu).2) h1 (by unfold maxLen; omega) hby hown.2.2 fun v' w' h2 h3 h4 => ?_
  exact h v' w' ⟨h2, fun hn => hown.2.1 (h4.1 hn).1, Nat.le_trans hown.2.2 h3.size⟩ (below_of_grown (Below.refl base w) hown.1 hown.2.2 h3)
/-- The same, as a step of a region that draws its order. -/
theorem step_push {ops : Array Oper} {o : Oper} {act : Act} {K : Act → World → Prop} {Q : Exit → Act → World → Prop} {E0 : Prop} {T e : TypeId} {k bytes : Nat} (E : ElemT P T e k bytes) (hgd : o.guard = none) (s x : Operand)
    (ho : o.op = .call { callee := .builtin .append, args := #[s, x], argTypes := #[T, T] }) (base : Nat) (v : Value) (n : Nat) (xs : List Value) (hs : act.eval s = v) (hown : OwnR e k base w v n xs)
    (a : Addr) (m c : Nat) (ys : List Value) (hx : act.eval x = .slice (some a) m c) (hl : ys.length = m * k) (hr : Raw w a ys) (h1 : ∀ u ∈ ys, u.oneCell' = true) (hb : n + m ≤ 1099511627776)
    (h : ∀ v' w', OwnR e k base w' v' (n + m) (xs ++ ys) → Below base w w' → K (act.put o.dst v') w') : if Region.wanted o (yielded ops act.tmps) = true then Oper.wp P o act w K Q else E0 := by
  have hw : Region.wanted o (yielded ops act.tmps) = true := by simp [Region.wanted, hgd]
  rw [if_pos hw]
  obtain ⟨i, z, hi, hz0, hz1, hz2, hzs⟩ := E.info
  have hby : (n + m) * bytes ≤ 140737488355328 := by
    have := Nat.mul_le_mul hb E.small
    omega
  exact wp_append_own w s x T ho base e i z k bytes E.und hi hz0 hz1 hz2 hzs E.pos v n xs hs hown.1 a m c ys hx hl (fun j u hu => (hr j u hu).2) h1 (by unfold maxLen; omega) hby hown.2.2 fun v' w' h2 h3 h4 =>
    h v' w' ⟨h2, fun hn => hown.2.1 (h4.1 hn).1, Nat.le_trans hown.2.2 h3.size⟩ (below_of_grown (Below.refl base w) hown.1 hown.2.2 h3)
/-- What is appended may be nil. -/
def Src (w : World) (v : Value) (m : Nat) (ys : List Value) : Prop := (v = .slice none 0 0 ∧ m = 0 ∧ ys = []) ∨ ∃ a c, v = .slice (some a) m c ∧ Raw w a ys
theorem Src.below {w' : World} {v : Value} {m : Nat} {ys : List Value} (h : Src w v m ys) (hb : Below w.heap.size w w') : Src w' v m ys := by
  rcases h with h | ⟨a, c, e, hr⟩
  · exact .inl h
  · exact .inr ⟨a, c, e, hr.below hb⟩
theorem push_src {ops : Array Oper} {rest : List Oper} {o : Oper} {act : Act} {Q : Exit → Act → World → Prop} {T e : TypeId} {k bytes : Nat} (E : ElemT P T e k bytes) (hgd : o.guard = none) (s x : Operand)
    (ho : o.op = .call { callee := .builtin .append, args := #[s, x], argTypes := #[T, T] }) (base : Nat) (v : Value) (n : Nat) (xs : List Value) (hs : act.eval s = v) (hown : OwnR e k base w v n xs)
    (v2 : Value) (m : Nat) (ys : List Value) (hx : act.eval x = v2) (hl : ys.length = m * k) (hr : Src w v2 m ys) (h1 : ∀ u ∈ ys, u.oneCell' = true) (hb : n + m ≤ 1099511627776)
    (h : ∀ v' w', OwnR e k base w' v' (n + m) (xs ++ ys) → Below base w w' → wpList P ops Q rest (act.put o.dst v') w') : wpList P ops Q (o :: rest) act w := by
  rcases hr with ⟨rfl, rfl, rfl⟩ | ⟨a, c, rfl, hr⟩
  · obtain ⟨i, z, hi, hz0, hz1, hz2, hzs⟩ := E.info
    have hrun := run_append_owned_none (P := P) (w := w) base T o.type e i k E.und hi v n xs hown.1
    refine wpList_plain hgd fun K hK => ?_
    unfold Oper.wp execOp
    simp only [ho, resolve, invoke, builtin, Sem.run_bind, Sem.run_pure, Result.andThen_ok, List.map_toArray, List.map_cons, List.map_nil, hs, hx, hrun]
    exact hK _ _ (h v w (by simpa using hown) (Below.refl _ _))
  · exact push_raw E hgd s x ho base v n xs hs hown a m c ys hx hl hr h1 hb h
end

/-- A slice of integers that is there. -/
def IntsIs (l : List Int) (w : World) (v : Value) : Prop := ∃ ad c, v = .slice (some ad) l.length c ∧ Raw w ad (ivals l) ∧ l.length ≤ c ∧ c ≤ maxLen
theorem IntsIs.below {l : List Int} {w w' : World} {v : Value} (h : IntsIs l w v) (hb : Below w.heap.size w w') : IntsIs l w' v := by
  obtain ⟨ad, c, e, hc, h1, h2⟩ := h
  exact ⟨ad, c, e, hc.below hb, h1, h2⟩
theorem IntsIs.drew {l : List Int} {w : World} {v : Value} (h : IntsIs l w v) : IntsIs l w.drew v := h
theorem IntsIs.drewN {l : List Int} {w : World} {v : Value} (h : IntsIs l w v) (q : Nat) : IntsIs l (w.drewN q) v := h
theorem OwnR.ints {e : TypeId} {base n : Nat} {w : World} {v : Value} {l : List Int} (h : OwnR e 1 base w v n (ivals l)) (hn : n = l.length) : IntsIs l w v := by
  subst hn
  obtain ⟨g, c, rfl, _, _, h1, h2, h3, _⟩ := h.form
  exact ⟨_, c, rfl, h3, h1, h2⟩
theorem Raw.lt {w : World} {a : Addr} {xs : List Value} (h : Raw w a xs) {j : Nat} {u : Value} (hu : xs[j]? = some u) : a.block < w.heap.size := (h j u hu).1
theorem Raw.intlt {w : World} {a : Addr} {l : List Int} (h : Raw w a (ivals l)) {k : Nat} (hk : k < l.length) : a.block < w.heap.size := (h k _ (ivals_at l _ rfl k hk)).1
theorem Raw.int {w : World} {a : Addr} {l : List Int} (h : Raw w a (ivals l)) {k : Nat} (hk : k < l.length) : w.cell? (a.add k) = some (.int .i64 (l.getD k 0)) := (h k _ (ivals_at l _ rfl k hk)).2
theorem ivals_drop (l : List Int) (q : Nat) : (ivals l).drop q = ivals (l.drop q) := by simp [ivals]
theorem ivals_take (l : List Int) (q : Nat) : (ivals l).take q = ivals (l.take q) := by simp [ivals]
theorem raw_nil {w : World} {a : Addr} {xs : List Value} (h : Raw w a xs) : Raw w a [] := fun j u hu => by simp at hu
end Go.Proofs.Ytnjhboanhjjldaa.Mem
