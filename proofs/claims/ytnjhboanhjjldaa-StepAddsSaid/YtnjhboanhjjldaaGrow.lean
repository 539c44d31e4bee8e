/-
  A row of one's own that may be nil: what becomes of it, and append onto it.
-/
import Derived.Test.YtnjhboanhjjldaaPush
namespace Go.Proofs.Ytnjhboanhjjldaa.Mem
open Go.RowKit

/-- A row of one's own from base on, nil let in. -/
def OwnN (e : TypeId) (k base : Nat) (w : World) (v : Value) (n : Nat) (xs : List Value) : Prop := w.ownsRow base e k v n xs ∧ base ≤ w.heap.size
section
variable {e : TypeId} {k base n : Nat} {w : World} {v : Value} {xs : List Value}
theorem OwnN.nil (hb : base ≤ w.heap.size) : OwnN e k base w (.slice none 0 0) 0 [] := ⟨World.ownsRow_nil w base e k, hb⟩
theorem OwnR.toN (h : OwnR e k base w v n xs) : OwnN e k base w v n xs := ⟨h.1, h.2.2⟩
theorem OwnN.form (h : OwnN e k base w v n xs) :
    (v = .slice none 0 0 ∧ n = 0 ∧ xs = []) ∨ ∃ g c, v = .slice (some ⟨g, 0, none⟩) n c ∧ base ≤ g ∧ g < w.heap.size ∧ n ≤ c ∧ c ≤ maxLen ∧ Raw w ⟨g, 0, none⟩ xs ∧ (∀ i, w.frozen? ⟨g, i, none⟩ = false) ∧ OwnR e k base w (.slice (some ⟨g, 0, none⟩) n c) n xs := by
  by_cases hv : v = .slice none 0 0
  · left
    rcases h.1.2 with ⟨_, hn⟩ | ⟨g, c, cur, hv2, _⟩
    · subst hn
      have := h.1.1
      exact ⟨hv, rfl, List.eq_nil_of_length_eq_zero (by omega)⟩
    · rw [hv] at hv2; cases hv2
  · right
    have hr : OwnR e k base w v n xs := ⟨h.1, hv, h.2⟩
    obtain ⟨g, c, rfl, h1, h2, h3, h4, h5, h6⟩ := hr.form
    exact ⟨g, c, rfl, h1, h2, h3, h4, h5, h6, hr⟩
theorem OwnN.src (h : OwnN e k base w v n xs) : Src w v n xs := by
  rcases h.form with h | ⟨g, c, hv, _, _, _, _, hr, _⟩
  · exact .inl h
  · exact .inr ⟨_, c, hv, hr⟩
theorem OwnN.shape (h : OwnN e k base w v n xs) : ∃ A c, v = .slice A n c := by
  rcases h.form with ⟨h1, h2, _⟩ | ⟨g, c, hv, _⟩
  · subst h2; exact ⟨none, 0, h1⟩
  · exact ⟨_, c, hv⟩
theorem OwnN.there (h : OwnN e k base w v (n + 1) xs) :
    ∃ g c, v = .slice (some ⟨g, 0, none⟩) (n + 1) c ∧ base ≤ g ∧ g < w.heap.size ∧ (∀ j u, xs[j]? = some u → w.cell? ⟨g, j, none⟩ = some u) ∧ ∀ i, w.frozen? ⟨g, i, none⟩ = false := by
  rcases h.form with ⟨_, h2, _⟩ | ⟨g, c, hv, h1, h2, _, _, hr, hf, _⟩
  · omega
  · exact ⟨g, c, hv, h1, h2, fun j u hu => by have := (hr j u hu).2; rwa [add_flat] at this, hf⟩
theorem OwnN.len (h : OwnN e k base w v n xs) : xs.length = n * k := h.1.1
theorem OwnN.alloc (h : OwnN e k base w v n xs) (o : Obj) : OwnN e k base (w.alloc o) v n xs := ⟨h.1.alloc o, by have := h.2; simp; omega⟩
theorem OwnN.old (h : OwnN e k base w v n xs) : v.ownBlock ≠ some w.heap.size := fun hc => by have := (h.1.lt _ hc).2; omega
theorem OwnN.cast {m : Nat} {ys : List Value} (h : OwnN e k base w v n xs) (hn : n = m) (hx : xs = ys) : OwnN e k base w v m ys := by subst hn; subst hx; exact h
theorem OwnN.drew (h : OwnN e k base w v n xs) : OwnN e k base w.drew v n xs := h
theorem OwnN.drewN (h : OwnN e k base w v n xs) (q : Nat) : OwnN e k base (w.drewN q) v n xs := h
theorem OwnN.below {w' : World} (h : OwnN e k base w v n xs) (hb : Below w.heap.size w w') : OwnN e k base w' v n xs := by
  rcases h.form with ⟨rfl, rfl, rfl⟩ | ⟨g, c, rfl, _, _, _, _, _, _, hr⟩
  · exact OwnN.nil (Nat.le_trans h.2 hb.size)
  · exact (hr.below hb).toN
/-- A store into a block that is not the row's. -/
theorem OwnN.set_other (h : OwnN e k base w v n xs) {p : Addr} (hp : p.block < base) (u : Value) : OwnN e k base (w.setCell p u) v n xs :=
  ⟨ownsRow_setCell_below h.1 hp u, Nat.le_trans h.2 (by simp [World.setCell])⟩
theorem OwnN.set {g c : Nat} (h : OwnN e k base w (.slice (some ⟨g, 0, none⟩) n c) n xs) (j : Nat) (u : Value) :
    OwnN e k base (w.setCell ⟨g, j, none⟩ u) (.slice (some ⟨g, 0, none⟩) n c) n (xs.set j u) :=
  ⟨(h.1.stored j u).1, Nat.le_trans h.2 (h.1.stored j u).2.size⟩
theorem OwnN.rebase {base' : Nat} (h : OwnN e k base w v n xs) (hb : base' ≤ base) : OwnN e k base' w v n xs := by
  refine ⟨⟨h.1.1, ?_⟩, Nat.le_trans hb h.2⟩
  rcases h.1.2 with h1 | ⟨g, c, cur, hv, hg, r⟩
  · exact .inl h1
  · exact .inr ⟨g, c, cur, hv, Nat.le_trans hb hg, r⟩
end
theorem push_own {P : Program} {w : World} {ops : Array Oper} {rest : List Oper} {o : Oper} {act : Act} {Q : Exit → Act → World → Prop} {T e : TypeId} {k bytes : Nat} (E : ElemT P T e k bytes) (hgd : o.guard = none) (s x : Operand)
    (ho : o.op = .call { callee := .builtin .append, args := #[s, x], argTypes := #[T, T] }) (base : Nat) (v : Value) (n : Nat) (xs : List Value) (hs : act.eval s = v) (hown : OwnN e k base w v n xs)
    (v2 : Value) (m : Nat) (ys : List Value) (hx : act.eval x = v2) (hl : ys.length = m * k) (hr : Src w v2 m ys) (h1 : ∀ u ∈ ys, u.oneCell' = true) (hb : n + m ≤ 1099511627776)
    (h : ∀ v' w', OwnN e k base w' v' (n + m) (xs ++ ys) → Below base w w' → w.grownBy w' v.ownBlock → wpList P ops Q rest (act.put o.dst v') w') : wpList P ops Q (o :: rest) act w := by
  obtain ⟨i, z, hi, hz0, hz1, hz2, hzs⟩ := E.info
  rcases hr with ⟨rfl, rfl, rfl⟩ | ⟨a, c, rfl, hr⟩
  · have hrun := run_append_owned_none (P := P) (w := w) base T o.type e i k E.und hi v n xs hown.1
    refine wpList_plain hgd fun K hK => ?_
    unfold Oper.wp execOp
    simp only [ho, resolve, invoke, builtin, Sem.run_bind, Sem.run_pure, Result.andThen_ok, List.map_toArray, List.map_cons, List.map_nil, hs, hx, hrun]
    exact hK _ _ (h v w (by simpa using hown) (Below.refl _ _) ⟨rfl, rfl, rfl, Nat.le_refl _, fun _ _ _ => rfl⟩)
  · have hby : (n + m) * bytes ≤ 140737488355328 := by
      have := Nat.mul_le_mul hb E.small
      omega
    refine wpList_append_own w hgd s x T ho base e i z k bytes E.und hi hz0 hz1 hz2 hzs E.pos v n xs hs hown.1 a m c ys hx hl (fun j u hu => (hr j u hu).2) h1 (by unfold maxLen; omega) hby hown.2 fun v' w' h2 h3 h4 => ?_
    exact h v' w' ⟨h2, Nat.le_trans hown.2 h3.size⟩ (below_of_grown (Below.refl base w) hown.1 hown.2 h3) h3
/-- New cells, at a place named otherwise. -/
theorem raw_at {w : World} {n m k : Nat} (e : w.heap.size = n) (c : Array Value) (T : TypeId) : Src (w.alloc (.cells c T)) (.slice (some ⟨n, 0, none⟩) m k) m c.toList := by
  subst e; exact .inr ⟨_, k, rfl, Raw.alloc w c T⟩
theorem two_cells {i j : IntKind} {a b : Int} : ∀ u ∈ [Value.int i a, Value.int j b], u.oneCell' = true := by
  intro u hu
  simp at hu
  rcases hu with rfl | rfl <;> rfl
end Go.Proofs.Ytnjhboanhjjldaa.Mem
