/-
  Many own rows side by side (a slice of slices that are appended to): an append that tells where its row lies, and families of rows at blocks of their own.
-/
import Derived.Test.YtonapgbokbeopaaBoxed
import Derived.ArgAppend
namespace Go.Proofs.Ytonapgbokbeopaa.Mem
open Go.RowKit
/-- A row's block is the elder one's, or a new one. -/
def NextTo (w : World) (v v' : Value) : Prop := v'.ownBlock = v.ownBlock ∨ ∃ b, v'.ownBlock = some b ∧ w.heap.size ≤ b
theorem run_append_sep {P : Program} {w : World} {T ty e : TypeId} {k bytes : Nat} (E : ElemT P T e k bytes) (base : Nat) (v : Value) (n : Nat) (xs : List Value) (hown : OwnN e k base w v n xs)
    (a : Addr) (m c : Nat) (ys : List Value) (hl : ys.length = m * k) (hr : Raw w a ys) (h1 : ∀ u ∈ ys, u.oneCell' = true) (hb : n + m ≤ 1099511627776) :
    ∃ v' w', (Builtin.append_ #[T, T] ty #[v, .slice (some a) m c]).run P w = .ok v' w' ∧ OwnN e k base w' v' (n + m) (xs ++ ys) ∧ Below base w w' ∧ w.grownBy w' v.ownBlock ∧ NextTo w v v' := by
  obtain ⟨i, z, hi, hz0, hz1, hz2, hzs⟩ := E.info
  have hby : (n + m) * bytes ≤ 140737488355328 := by
    have := Nat.mul_le_mul hb E.small
    omega
  have hmax : n + m ≤ maxLen := by unfold maxLen; omega
  have hcell : ∀ j u, ys[j]? = some u → w.cell? (a.add j) = some u := fun j u hu => (hr j u hu).2
  have hnone : w.grownBy w none → True := fun _ => trivial
  have hwide : ∀ {w' : World} {row : Option Nat}, w.grownBy w' none → w.grownBy w' row := fun hg => ⟨hg.os, hg.tape, hg.output, hg.size, fun q hq _ => hg.block q hq (by simp)⟩
  rcases hown.1.2 with ⟨rfl, rfl⟩ | ⟨g, cap, cur, rfl, hbg, hgc, hnc, hcm, hcs, hct⟩
  · have hx0 : xs = [] := List.eq_nil_of_length_eq_zero (by have := hown.1.1; omega)
    subst hx0
    obtain ⟨v', w', hrun, r1, r2, _⟩ := run_append_own (P := P) w w.heap.size T ty e i z k bytes E.und hi hz0 hz1 hz2 hzs E.pos (.slice none 0 0) 0 [] (World.ownsRow_nil w _ e k) a m c ys hl hcell h1 hmax hby (Nat.le_refl _)
    have r0 : OwnN e k w.heap.size w' v' (0 + m) ([] ++ ys) := ⟨r1, r2.size⟩
    refine ⟨v', w', hrun, r0.rebase hown.2, below_of_grown (Below.refl base w) hown.1 hown.2 r2, r2, ?_⟩
    cases hq : v'.ownBlock with
    | none => exact .inl hq
    | some q => exact .inr ⟨q, hq, (r1.lt q hq).1⟩
  · by_cases hroom : n + m ≤ cap
    · obtain ⟨w', hrun, r1, r2⟩ := run_append_fits (P := P) w base T ty e i k E.und hi hz1 g n cap xs hown.1 a m c ys hl hcell h1 hroom
      exact ⟨_, w', hrun, ⟨r1, Nat.le_trans hown.2 r2.size⟩, below_of_grown (Below.refl base w) hown.1 hown.2 r2, r2, .inl rfl⟩
    · obtain ⟨g2, c2, e2, _, _, _, _, hraw, _⟩ : ∃ g2 c2, (Value.slice (some ⟨g, 0, none⟩) n cap) = .slice (some ⟨g2, 0, none⟩) n c2 ∧ base ≤ g2 ∧ g2 < w.heap.size ∧ n ≤ c2 ∧ c2 ≤ maxLen ∧ Raw w ⟨g2, 0, none⟩ xs ∧ True := by
        rcases hown.form with ⟨h, _⟩ | ⟨g2, c2, h, h1, h2, h3, h4, h5, _⟩
        · cases h
        · exact ⟨g2, c2, h, h1, h2, h3, h4, h5, trivial⟩
      injection e2 with e2
      injection e2 with e2
      injection e2 with e2
      subst e2
      obtain ⟨v', w', hrun, r1, r2⟩ := run_append_arg_grows (P := P) w T ty e i z k bytes E.und hi hz0 hz1 hz2 hzs E.pos ⟨g, 0, none⟩ n cap xs hown.1.1 (fun j u hu => (hraw j u hu).2) a m c ys hl hcell (by omega) hmax hby
      have r0 : OwnN e k w.heap.size w' v' (n + m) (xs ++ ys) := ⟨r1, r2.size⟩
      refine ⟨v', w', hrun, r0.rebase hown.2, below_of_grown (Below.refl base w) hown.1 hown.2 (hwide r2), hwide r2, ?_⟩
      cases hq : v'.ownBlock with
      | none =>
        exfalso
        rcases r1.2 with ⟨rfl, hz⟩ | ⟨g3, c3, cur3, rfl, _⟩
        · omega
        · cases hq
      | some q => exact .inr ⟨q, hq, (r1.lt q hq).1⟩
theorem push_sep {P : Program} {w : World} {ops : Array Oper} {rest : List Oper} {o : Oper} {act : Act} {Q : Exit → Act → World → Prop} {T e : TypeId} {k bytes : Nat} (E : ElemT P T e k bytes) (hgd : o.guard = none) (s x : Operand)
    (ho : o.op = .call { callee := .builtin .append, args := #[s, x], argTypes := #[T, T] }) (base : Nat) (v : Value) (n : Nat) (xs : List Value) (hs : act.eval s = v) (hown : OwnN e k base w v n xs)
    (a : Addr) (m c : Nat) (ys : List Value) (hx : act.eval x = .slice (some a) m c) (hl : ys.length = m * k) (hr : Raw w a ys) (h1 : ∀ u ∈ ys, u.oneCell' = true) (hb : n + m ≤ 1099511627776)
    (h : ∀ A' c' w', OwnN e k base w' (.slice A' (n + m) c') (n + m) (xs ++ ys) → Below base w w' → w.grownBy w' v.ownBlock → NextTo w v (.slice A' (n + m) c') → wpList P ops Q rest (act.put o.dst (.slice A' (n + m) c')) w') : wpList P ops Q (o :: rest) act w := by
  obtain ⟨v', w', hrun, r1, r2, r3, r4⟩ := run_append_sep (P := P) (ty := o.type) E base v n xs hown a m c ys hl hr h1 hb
  obtain ⟨A', c', rfl⟩ := r1.shape
  refine wpList_plain hgd fun K hK => ?_
  unfold Oper.wp execOp
  simp only [ho, resolve, invoke, builtin, Sem.run_bind, Sem.run_pure, Result.andThen_ok, List.map_toArray, List.map_cons, List.map_nil, hs, hx, hrun]
  exact hK _ _ (h A' c' w' r1 r2 r3 r4)
/-- The same, of a source that may be nil. -/
theorem push_seps {P : Program} {w : World} {ops : Array Oper} {rest : List Oper} {o : Oper} {act : Act} {Q : Exit → Act → World → Prop} {T e : TypeId} {k bytes : Nat} (E : ElemT P T e k bytes) (hgd : o.guard = none) (s x : Operand)
    (ho : o.op = .call { callee := .builtin .append, args := #[s, x], argTypes := #[T, T] }) (base : Nat) (v : Value) (n : Nat) (xs : List Value) (hs : act.eval s = v) (hown : OwnN e k base w v n xs)
    (v2 : Value) (m : Nat) (ys : List Value) (hx : act.eval x = v2) (hl : ys.length = m * k) (hr : Src w v2 m ys) (h1 : ∀ u ∈ ys, u.oneCell' = true) (hb : n + m ≤ 1099511627776)
    (h : ∀ v' w', OwnN e k base w' v' (n + m) (xs ++ ys) → Below base w w' → w.grownBy w' v.ownBlock → NextTo w v v' → wpList P ops Q rest (act.put o.dst v') w') : wpList P ops Q (o :: rest) act w := by
  rcases hr with ⟨rfl, rfl, rfl⟩ | ⟨a, c, rfl, hr⟩
  · obtain ⟨i, z, hi, hz0, hz1, hz2, hzs⟩ := E.info
    have hrun := run_append_owned_none (P := P) (w := w) base T o.type e i k E.und hi v n xs hown.1
    refine wpList_plain hgd fun K hK => ?_
    unfold Oper.wp execOp
    simp only [ho, resolve, invoke, builtin, Sem.run_bind, Sem.run_pure, Result.andThen_ok, List.map_toArray, List.map_cons, List.map_nil, hs, hx, hrun]
    exact hK _ _ (h v w (by simpa using hown) (Below.refl _ _) ⟨rfl, rfl, rfl, Nat.le_refl _, fun _ _ _ => rfl⟩ (.inl rfl))
  · exact push_sep E hgd s x ho base v n xs hs hown a m c ys hx hl hr h1 hb (fun A' c' w' r1 r2 r3 r4 => h _ w' r1 r2 r3 r4)
/-- The same, as a step of a region that draws its order. -/
theorem step_sep {P : Program} {w : World} {ops : Array Oper} {o : Oper} {act : Act} {K : Act → World → Prop} {Q : Exit → Act → World → Prop} {E0 : Prop} {T e : TypeId} {k bytes : Nat} (E : ElemT P T e k bytes) (hgd : o.guard = none) (s x : Operand)
    (ho : o.op = .call { callee := .builtin .append, args := #[s, x], argTypes := #[T, T] }) (base : Nat) (v : Value) (n : Nat) (xs : List Value) (hs : act.eval s = v) (hown : OwnN e k base w v n xs)
    (a : Addr) (m c : Nat) (ys : List Value) (hx : act.eval x = .slice (some a) m c) (hl : ys.length = m * k) (hr : Raw w a ys) (h1 : ∀ u ∈ ys, u.oneCell' = true) (hb : n + m ≤ 1099511627776)
    (h : ∀ A' c' w', OwnN e k base w' (.slice A' (n + m) c') (n + m) (xs ++ ys) → Below base w w' → w.grownBy w' v.ownBlock → NextTo w v (.slice A' (n + m) c') → K (act.put o.dst (.slice A' (n + m) c')) w') : if Region.wanted o (yielded ops act.tmps) = true then Oper.wp P o act w K Q else E0 := by
  have hw : Region.wanted o (yielded ops act.tmps) = true := by simp [Region.wanted, hgd]
  rw [if_pos hw]
  obtain ⟨v', w', hrun, r1, r2, r3, r4⟩ := run_append_sep (P := P) (ty := o.type) E base v n xs hown a m c ys hl hr h1 hb
  obtain ⟨A', c', rfl⟩ := r1.shape
  unfold Oper.wp execOp
  simp only [ho, resolve, invoke, builtin, Sem.run_bind, Sem.run_pure, Result.andThen_ok, List.map_toArray, List.map_cons, List.map_nil, hs, hx, hrun]
  exact h A' c' w' r1 r2 r3 r4
section
variable {e : TypeId} {k base n : Nat} {w w' : World} {v : Value} {xs : List Value}
/-- A row at a block that is not the one that was written stays. -/
theorem OwnN.kept {row : Option Nat} (h : OwnN e k base w v n xs) (hg : w.grownBy w' row) (hne : v.ownBlock = none ∨ v.ownBlock ≠ row) : OwnN e k base w' v n xs := by
  refine ⟨⟨h.1.1, ?_⟩, Nat.le_trans h.2 hg.size⟩
  rcases h.1.2 with hn | ⟨g, cap, cur, hv, hb, hgc, rest⟩
  · exact .inl hn
  · refine .inr ⟨g, cap, cur, hv, hb, ?_, rest⟩
    have hlt : g < w.heap.size := (h.1.lt g (by rw [hv]; rfl)).2
    rw [hg.block g hlt (by
      rcases hne with hne | hne
      · rw [hv] at hne; cases hne
      · rw [hv] at hne; exact hne)]
    exact hgc
theorem OwnN.spare {O : List Nat} (h : OwnN e k base w v n xs) (hs : Spare O w w') (hne : ∀ b, v.ownBlock = some b → b ∉ O) : OwnN e k base w' v n xs := by
  refine ⟨⟨h.1.1, ?_⟩, Nat.le_trans h.2 hs.size⟩
  rcases h.1.2 with hn | ⟨g, cap, cur, hv, hb, hgc, rest⟩
  · exact .inl hn
  · refine .inr ⟨g, cap, cur, hv, hb, ?_, rest⟩
    have hlt : g < w.heap.size := (h.1.lt g (by rw [hv]; rfl)).2
    rw [hs.block g hlt (hne g (by rw [hv]; rfl))]
    exact hgc
theorem OwnN.set_apart (h : OwnN e k base w v n xs) {p : Addr} (hp : v.ownBlock ≠ some p.block) (u : Value) : OwnN e k base (w.setCell p u) v n xs := by
  refine ⟨⟨h.1.1, ?_⟩, by simp [World.setCell]; exact h.2⟩
  rcases h.1.2 with hn | ⟨g, cap, cur, hv, hb, hgc, rest⟩
  · exact .inl hn
  · refine .inr ⟨g, cap, cur, hv, hb, ?_, rest⟩
    rw [Below.heap_setCell w p u g (fun hq => hp (by rw [hv]; simp [Value.ownBlock, hq]))]
    exact hgc
theorem OwnN.block_lt (h : OwnN e k base w v n xs) {b : Nat} (hb : v.ownBlock = some b) : base ≤ b ∧ b < w.heap.size := h.1.lt b hb
end
/-- L own rows, each at a block of its own. -/
structure Fam (e : TypeId) (k base : Nat) (w : World) (L : Nat) (V : Nat → Value) (N : Nat → Nat) (X : Nat → List Value) : Prop where
  own : ∀ i, i < L → OwnN e k base w (V i) (N i) (X i)
  apart : ∀ i j, i < L → j < L → i ≠ j → (V i).ownBlock = none ∨ (V i).ownBlock ≠ (V j).ownBlock
def upd {α : Type} (f : Nat → α) (i : Nat) (x : α) : Nat → α := fun q => if q = i then x else f q
theorem upd_at {α : Type} (f : Nat → α) (i : Nat) (x : α) : upd f i x i = x := by simp [upd]
theorem upd_off {α : Type} (f : Nat → α) {i q : Nat} (x : α) (h : q ≠ i) : upd f i x q = f q := by simp [upd, h]
section
variable {e : TypeId} {k base L : Nat} {w w' : World} {V : Nat → Value} {N : Nat → Nat} {X : Nat → List Value}
theorem Fam.nils (e : TypeId) (k L : Nat) {base : Nat} {w : World} (hb : base ≤ w.heap.size) : Fam e k base w L (fun _ => .slice none 0 0) (fun _ => 0) (fun _ => []) :=
  ⟨fun _ _ => OwnN.nil hb, fun _ _ _ _ _ => .inl rfl⟩
theorem Fam.below (h : Fam e k base w L V N X) (hb : Below w.heap.size w w') : Fam e k base w' L V N X := ⟨fun i hi => (h.own i hi).below hb, h.apart⟩
theorem Fam.drewN (h : Fam e k base w L V N X) (q : Nat) : Fam e k base (w.drewN q) L V N X := ⟨fun i hi => (h.own i hi).drewN q, h.apart⟩
theorem Fam.alloc (h : Fam e k base w L V N X) (o : Obj) : Fam e k base (w.alloc o) L V N X := ⟨fun i hi => (h.own i hi).alloc o, h.apart⟩
theorem Fam.set (h : Fam e k base w L V N X) {p : Addr} (hp : ∀ i, i < L → (V i).ownBlock ≠ some p.block) (u : Value) : Fam e k base (w.setCell p u) L V N X := ⟨fun i hi => (h.own i hi).set_apart (hp i hi) u, h.apart⟩
theorem Fam.to {N' : Nat → Nat} {X' : Nat → List Value} (h : Fam e k base w L V N X) (hn : ∀ i, i < L → N i = N' i) (hx : ∀ i, i < L → X i = X' i) : Fam e k base w L V N' X' := ⟨fun i hi => (h.own i hi).cast (hn i hi) (hx i hi), h.apart⟩
/-- One row is appended to. -/
theorem Fam.push (h : Fam e k base w L V N X) {i : Nat} (hi : i < L) {v' : Value} {n' : Nat} {xs' : List Value} (ho : OwnN e k base w' v' n' xs') (hg : w.grownBy w' (V i).ownBlock) (hs : NextTo w (V i) v') :
    Fam e k base w' L (upd V i v') (upd N i n') (upd X i xs') := by
  have hne : ∀ q, q < L → q ≠ i → (V q).ownBlock = none ∨ (V q).ownBlock ≠ v'.ownBlock := fun q hq hqi => by
    rcases hs with hs | ⟨b, hs, hb⟩
    · rw [hs]; exact h.apart q i hq hi hqi
    · cases hv : (V q).ownBlock with
      | none => exact .inl rfl
      | some c =>
        have := ((h.own q hq).block_lt hv).2
        right; rw [hs]; intro hc; injection hc with hc; omega
  refine ⟨fun q hq => ?_, fun q r hq hr hqr => ?_⟩
  · by_cases hqi : q = i
    · subst hqi; rw [upd_at, upd_at, upd_at]; exact ho
    · rw [upd_off _ _ hqi, upd_off _ _ hqi, upd_off _ _ hqi]; exact (h.own q hq).kept hg (h.apart q i hq hi hqi)
  · by_cases hqi : q = i
    · subst hqi
      rw [upd_at, upd_off _ _ (Ne.symm hqr)]
      rcases hne r hr (Ne.symm hqr) with hn | hn
      · cases hv : v'.ownBlock with
        | none => exact .inl rfl
        | some c => right; rw [hn]; intro hc; cases hc
      · exact .inr (Ne.symm hn)
    · rw [upd_off _ _ hqi]
      by_cases hri : r = i
      · subst hri; rw [upd_at]; exact hne q hq hqi
      · rw [upd_off _ _ hri]; exact h.apart q r hq hr hqr
/-- A block that no row lies at is none's behind an append either, if it was there. -/
theorem Fam.free (h : Fam e k base w L V N X) {i b : Nat} (hi : i < L) (hb : ∀ q, q < L → (V q).ownBlock ≠ some b) (hlt : b < w.heap.size) {v' : Value} (hs : NextTo w (V i) v') : ∀ q, q < L → (upd V i v' q).ownBlock ≠ some b := fun q hq => by
  by_cases hqi : q = i
  · subst hqi
    rw [upd_at]
    rcases hs with hs | ⟨c, hs, hc⟩
    · rw [hs]; exact hb q hq
    · rw [hs]; intro hx; injection hx with hx; omega
  · rw [upd_off _ _ hqi]; exact hb q hq
end
end Go.Proofs.Ytonapgbokbeopaa.Mem
