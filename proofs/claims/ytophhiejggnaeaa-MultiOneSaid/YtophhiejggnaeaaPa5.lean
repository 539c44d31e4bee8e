/-
  What the theorem uses of the texts below it.
-/
import Derived.Below
import Derived.Laws.OwnMore
import Derived.Deep.Draws
import Derived.Deep.OwnRows
import Derived.Lib.Hide
import Derived.OwnWalk
import Derived.Deep.QuietTactic
import Derived.BigQuiet
import Derived.Lib.SliceRun
import Derived.Test.YtophhiejggnaeaaRows
import Derived.WalkKit
import Derived.WalkSpells
import Derived.WalkLawsBesides
import Derived.Laws.StructEq
import Derived.LoopTactic
import Derived.Deep.CutBlock
import Derived.Deep.DeepCutAuto
import Derived.Deep.RegionHeld3
import Derived.ArgAppend
import Derived.Deep.RegionLaw
import Derived.Test.YtophhiejggnaeaaPa4
namespace Go.Proofs.Ytophhiejggnaeaa.Mem
open Go.RowKit
/-- A row's block is the elder one's, or a new one. -/
def NextTo (w : World) (v v' : Value) : Prop := v'.ownBlock = v.ownBlock ∨ ∃ b, v'.ownBlock = some b ∧ w.heap.size ≤ b
theorem run_append_sep {P : Program} {w : World} {T ty e : TypeId} {k bytes : Nat} (E : ElemT P T e k bytes) (base : Nat) (v : Value) (n : Nat) (xs : List Value) (hown : OwnN e k base w v n xs)
    (a : Addr) (m c : Nat) (ys : List Value) (hl : ys.length = m * k) (hr : Raw w a ys) (h1 : ∀ u ∈ ys, u.oneCell' = true) (hb : n + m ≤ 1099511627776) :
    ∃ v' w', (Builtin.append_ #[T, T] ty #[v, .slice (some a) m c]).run P w = .ok v' w' ∧ OwnN e k base w' v' (n + m) (xs ++ ys) ∧ Below base w w' ∧ w.grownBy w' v.ownBlock ∧ NextTo w v v' := by
  obtain ⟨i, z, hi, hz0, hz1, hz2, hzs⟩ := E.info
  have hby : (n + m) * bytes ≤ 140737488355328 := by
    have := Nat.mul_le_mul hb E.small
    omega
  have hmax : n + m ≤ maxLen := by unfold maxLen; omega
  have hcell : ∀ j u, ys[j]? = some u → w.cell? (a.add j) = some u := fun j u hu => (hr j u hu).2
  have hnone : w.grownBy w none → True := fun _ => trivial
  have hwide : ∀ {w' : World} {row : Option Nat}, w.grownBy w' none → w.grownBy w' row := fun hg => ⟨hg.os, hg.tape, hg.output, hg.size, fun q hq _ => hg.block q hq (by simp)⟩
  rcases hown.1.2 with ⟨rfl, rfl⟩ | ⟨g, cap, cur, rfl, hbg, hgc, hnc, hcm, hcs, hct⟩
  · have hx0 : xs = [] := List.eq_nil_of_length_eq_zero (by have := hown.1.1; omega)
    subst hx0
    obtain ⟨v', w', hrun, r1, r2, _⟩ := run_append_own (P := P) w w.heap.size T ty e i z k bytes E.und hi hz0 hz1 hz2 hzs E.pos (.slice none 0 0) 0 [] (World.ownsRow_nil w _ e k) a m c ys hl hcell h1 hmax hby (Nat.le_refl _)
    have r0 : OwnN e k w.heap.size w' v' (0 + m) ([] ++ ys) := ⟨r1, r2.size⟩
    refine ⟨v', w', hrun, r0.rebase hown.2, below_of_grown (Below.refl base w) hown.1 hown.2 r2, r2, ?_⟩
    cases hq : v'.ownBlock with
    | none => exact .inl hq
    | some q => exact .inr ⟨q, hq, (r1.lt q hq).1⟩
  · by_cases hroom : n + m ≤ cap
    · obtain ⟨w', hrun, r1, r2⟩ := run_append_fits (P := P) w base T ty e i k E.und hi hz1 g n cap xs hown.1 a m c ys hl hcell h1 hroom
      exact ⟨_, w', hrun, ⟨r1, Nat.le_trans hown.2 r2.size⟩, below_of_grown (Below.refl base w) hown.1 hown.2 r2, r2, .inl rfl⟩
    · obtain ⟨g2, c2, e2, _, _, _, _, hraw, _⟩ : ∃ g2 c2, (Value.slice (some ⟨g, 0, none⟩) n cap) = .slice (some ⟨g2, 0, none⟩) n c2 ∧ base ≤ g2 ∧ g2 < w.heap.size ∧ n ≤ c2 ∧ c2 ≤ maxLen ∧ Raw w ⟨g2, 0, none⟩ xs ∧ True := by
        rcases hown.form with ⟨h, _⟩ | ⟨g2, c2, h, h1, h2, h3, h4, h5, _⟩
        · cases h
        · exact ⟨g2, c2, h, h1, h2, h3, h4, h5, trivial⟩
      injection e2 with e2
      injection e2 with e2
      injection e2 with e2
      subst e2
      obtain ⟨v', w', hrun, r1, r2⟩ := run_append_arg_grows (P := P) w T ty e i z k bytes E.und hi hz0 hz1 hz2 hzs E.pos ⟨g, 0, none⟩ n cap xs hown.1.1 (fun j u hu => (hraw j u hu).2) a m c ys hl hcell (by omega) hmax hby
      have r0 : OwnN e k w.heap.size w' v' (n + m) (xs ++ ys) := ⟨r1, r2.size⟩
      refine ⟨v', w', hrun, r0.rebase hown.2, below_of_grown (Below.refl base w) hown.1 hown.2 (hwide r2), hwide r2, ?_⟩
      cases hq : v'.ownBlock with
      | none =>
        exfalso
        rcases r1.2 with ⟨rfl, hz⟩ | ⟨g3, c3, cur3, rfl, _⟩
        · omega
        · cases hq
      | some q => exact .inr ⟨q, hq, (r1.lt q hq).1⟩
theorem push_sep {P : Program} {w : World} {ops : Array Oper} {rest : List Oper} {o : Oper} {act : Act} {Q : Exit → Act → World → Prop} {T e : TypeId} {k bytes : Nat} (E : ElemT P T e k bytes) (hgd : o.guard = none) (s x : Operand)
    (ho : o.op = .call { callee := .builtin .append, args := #[s, x], argTypes := #[T, T] }) (base : Nat) (v : Value) (n : Nat) (xs : List Value) (hs : act.eval s = v) (hown : OwnN e k base w v n xs)
    (a : Addr) (m c : Nat) (ys : List Value) (hx : act.eval x = .slice (some a) m c) (hl : ys.length = m * k) (hr : Raw w a ys) (h1 : ∀ u ∈ ys, u.oneCell' = true) (hb : n + m ≤ 1099511627776)
    (h : ∀ A' c' w', OwnN e k base w' (.slice A' (n + m) c') (n + m) (xs ++ ys) → Below base w w' → w.grownBy w' v.ownBlock → NextTo w v (.slice A' (n + m) c') → wpList P ops Q rest (act.put o.dst (.slice A' (n + m) c')) w') : wpList P ops Q (o :: rest) act w := by
  obtain ⟨v', w', hrun, r1, r2, r3, r4⟩ := run_append_sep (P := P) (ty := o.type) E base v n xs hown a m c ys hl hr h1 hb
  obtain ⟨A', c', rfl⟩ := r1.shape
  refine wpList_plain hgd fun K hK => ?_
  unfold Oper.wp execOp
  simp only [ho, resolve, invoke, builtin, Sem.run_bind, Sem.run_pure, Result.andThen_ok, List.map_toArray, List.map_cons, List.map_nil, hs, hx, hrun]
  exact hK _ _ (h A' c' w' r1 r2 r3 r4)
/-- The same, of a source that may be nil. -/
theorem push_seps {P : Program} {w : World} {ops : Array Oper} {rest : List Oper} {o : Oper} {act : Act} {Q : Exit → Act → World → Prop} {T e : TypeId} {k bytes : Nat} (E : ElemT P T e k bytes) (hgd : o.guard = none) (s x : Operand)
    (ho : o.op = .call { callee := .builtin .append, args := #[s, x], argTypes := #[T, T] }) (base : Nat) (v : Value) (n : Nat) (xs : List Value) (hs : act.eval s = v) (hown : OwnN e k base w v n xs)
    (v2 : Value) (m : Nat) (ys : List Value) (hx : act.eval x = v2) (hl : ys.length = m * k) (hr : Src w v2 m ys) (h1 : ∀ u ∈ ys, u.oneCell' = true) (hb : n + m ≤ 1099511627776)
    (h : ∀ v' w', OwnN e k base w' v' (n + m) (xs ++ ys) → Below base w w' → w.grownBy w' v.ownBlock → NextTo w v v' → wpList P ops Q rest (act.put o.dst v') w') : wpList P ops Q (o :: rest) act w := by
  rcases hr with ⟨rfl, rfl, rfl⟩ | ⟨a, c, rfl, hr⟩
  · obtain ⟨i, z, hi, hz0, hz1, hz2, hzs⟩ := E.info
    have hrun := run_append_owned_none (P := P) (w := w) base T o.type e i k E.und hi v n xs hown.1
    refine wpList_plain hgd fun K hK => ?_
    unfold Oper.wp execOp
    simp only [ho, resolve, invoke, builtin, Sem.run_bind, Sem.run_pure, Result.andThen_ok, List.map_toArray, List.map_cons, List.map_nil, hs, hx, hrun]
    exact hK _ _ (h v w (by simpa using hown) (Below.refl _ _) ⟨rfl, rfl, rfl, Nat.le_refl _, fun _ _ _ => rfl⟩ (.inl rfl))
  · exact push_sep E hgd s x ho base v n xs hs hown a m c ys hx hl hr h1 hb (fun A' c' w' r1 r2 r3 r4 => h _ w' r1 r2 r3 r4)
/-- The same, as a step of a region that draws its order. -/
theorem step_sep {P : Program} {w : World} {ops : Array Oper} {o : Oper} {act : Act} {K : Act → World → Prop} {Q : Exit → Act → World → Prop} {E0 : Prop} {T e : TypeId} {k bytes : Nat} (E : ElemT P T e k bytes) (hgd : o.guard = none) (s x : Operand)
    (ho : o.op = .call { callee := .builtin .append, args := #[s, x], argTypes := #[T, T] }) (base : Nat) (v : Value) (n : Nat) (xs : List Value) (hs : act.eval s = v) (hown : OwnN e k base w v n xs)
    (a : Addr) (m c : Nat) (ys : List Value) (hx : act.eval x = .slice (some a) m c) (hl : ys.length = m * k) (hr : Raw w a ys) (h1 : ∀ u ∈ ys, u.oneCell' = true) (hb : n + m ≤ 1099511627776)
    (h : ∀ A' c' w', OwnN e k base w' (.slice A' (n + m) c') (n + m) (xs ++ ys) → Below base w w' → w.grownBy w' v.ownBlock → NextTo w v (.slice A' (n + m) c') → K (act.put o.dst (.slice A' (n + m) c')) w') : if Region.wanted o (yielded ops act.tmps) = true then Oper.wp P o act w K Q else E0 := by
  have hw : Region.wanted o (yielded ops act.tmps) = true := by simp [Region.wanted, hgd]
  rw [if_pos hw]
  obtain ⟨v', w', hrun, r1, r2, r3, r4⟩ := run_append_sep (P := P) (ty := o.type) E base v n xs hown a m c ys hl hr h1 hb
  obtain ⟨A', c', rfl⟩ := r1.shape
  unfold Oper.wp execOp
  simp only [ho, resolve, invoke, builtin, Sem.run_bind, Sem.run_pure, Result.andThen_ok, List.map_toArray, List.map_cons, List.map_nil, hs, hx, hrun]
  exact h A' c' w' r1 r2 r3 r4
section
variable {e : TypeId} {k base n : Nat} {w w' : World} {v : Value} {xs : List Value}
/-- A row at a block that is not the one that was written stays. -/
theorem OwnN.kept {row : Option Nat} (h : OwnN e k base w v n xs) (hg : w.grownBy w' row) (hne : v.ownBlock = none ∨ v.ownBlock ≠ row) : OwnN e k base w' v n xs := by
  refine ⟨⟨h.1.1, ?_⟩, Nat.le_trans h.2 hg.size⟩
  rcases h.1.2 with hn | ⟨g, cap, cur, hv, hb, hgc, rest⟩
  · exact .inl hn
  · refine .inr ⟨g, cap, cur, hv, hb, ?_, rest⟩
    have hlt : g < w.heap.size := (h.1.lt g (by rw [hv]; rfl)).2
    rw [hg.block g hlt (by
      rcases hne with hne | hne
      · rw [hv] at hne; cases hne
      · rw [hv] at hne; exact hne)]
    exact hgc
theorem OwnN.set_apart (h : OwnN e k base w v n xs) {p : Addr} (hp : v.ownBlock ≠ some p.block) (u : Value) : OwnN e k base (w.setCell p u) v n xs := by
  refine ⟨⟨h.1.1, ?_⟩, by simp [World.setCell]; exact h.2⟩
  rcases h.1.2 with hn | ⟨g, cap, cur, hv, hb, hgc, rest⟩
  · exact .inl hn
  · refine .inr ⟨g, cap, cur, hv, hb, ?_, rest⟩
    rw [Below.heap_setCell w p u g (fun hq => hp (by rw [hv]; simp [Value.ownBlock, hq]))]
    exact hgc
theorem OwnN.block_lt (h : OwnN e k base w v n xs) {b : Nat} (hb : v.ownBlock = some b) : base ≤ b ∧ b < w.heap.size := h.1.lt b hb
end
/-- L own rows, each at a block of its own. -/
structure Fam (e : TypeId) (k base : Nat) (w : World) (L : Nat) (V : Nat → Value) (N : Nat → Nat) (X : Nat → List Value) : Prop where
  own : ∀ i, i < L → OwnN e k base w (V i) (N i) (X i)
  apart : ∀ i j, i < L → j < L → i ≠ j → (V i).ownBlock = none ∨ (V i).ownBlock ≠ (V j).ownBlock
def upd {α : Type} (f : Nat → α) (i : Nat) (x : α) : Nat → α := fun q => if q = i then x else f q
theorem upd_at {α : Type} (f : Nat → α) (i : Nat) (x : α) : upd f i x i = x := by simp [upd]
theorem upd_off {α : Type} (f : Nat → α) {i q : Nat} (x : α) (h : q ≠ i) : upd f i x q = f q := by simp [upd, h]
section
variable {e : TypeId} {k base L : Nat} {w w' : World} {V : Nat → Value} {N : Nat → Nat} {X : Nat → List Value}
theorem Fam.nils (e : TypeId) (k L : Nat) {base : Nat} {w : World} (hb : base ≤ w.heap.size) : Fam e k base w L (fun _ => .slice none 0 0) (fun _ => 0) (fun _ => []) :=
  ⟨fun _ _ => OwnN.nil hb, fun _ _ _ _ _ => .inl rfl⟩
theorem Fam.below (h : Fam e k base w L V N X) (hb : Below w.heap.size w w') : Fam e k base w' L V N X := ⟨fun i hi => (h.own i hi).below hb, h.apart⟩
theorem Fam.drewN (h : Fam e k base w L V N X) (q : Nat) : Fam e k base (w.drewN q) L V N X := ⟨fun i hi => (h.own i hi).drewN q, h.apart⟩
theorem Fam.alloc (h : Fam e k base w L V N X) (o : Obj) : Fam e k base (w.alloc o) L V N X := ⟨fun i hi => (h.own i hi).alloc o, h.apart⟩
theorem Fam.set (h : Fam e k base w L V N X) {p : Addr} (hp : ∀ i, i < L → (V i).ownBlock ≠ some p.block) (u : Value) : Fam e k base (w.setCell p u) L V N X := ⟨fun i hi => (h.own i hi).set_apart (hp i hi) u, h.apart⟩
theorem Fam.to {N' : Nat → Nat} {X' : Nat → List Value} (h : Fam e k base w L V N X) (hn : ∀ i, i < L → N i = N' i) (hx : ∀ i, i < L → X i = X' i) : Fam e k base w L V N' X' := ⟨fun i hi => (h.own i hi).cast (hn i hi) (hx i hi), h.apart⟩
/-- One row is appended to. -/
theorem Fam.push (h : Fam e k base w L V N X) {i : Nat} (hi : i < L) {v' : Value} {n' : Nat} {xs' : List Value} (ho : OwnN e k base w' v' n' xs') (hg : w.grownBy w' (V i).ownBlock) (hs : NextTo w (V i) v') :
    Fam e k base w' L (upd V i v') (upd N i n') (upd X i xs') := by
  have hne : ∀ q, q < L → q ≠ i → (V q).ownBlock = none ∨ (V q).ownBlock ≠ v'.ownBlock := fun q hq hqi => by
    rcases hs with hs | ⟨b, hs, hb⟩
    · rw [hs]; exact h.apart q i hq hi hqi
    · cases hv : (V q).ownBlock with
      | none => exact .inl rfl
      | some c =>
        have := ((h.own q hq).block_lt hv).2
        right; rw [hs]; intro hc; injection hc with hc; omega
  refine ⟨fun q hq => ?_, fun q r hq hr hqr => ?_⟩
  · by_cases hqi : q = i
    · subst hqi; rw [upd_at, upd_at, upd_at]; exact ho
    · rw [upd_off _ _ hqi, upd_off _ _ hqi, upd_off _ _ hqi]; exact (h.own q hq).kept hg (h.apart q i hq hi hqi)
  · by_cases hqi : q = i
    · subst hqi
      rw [upd_at, upd_off _ _ (Ne.symm hqr)]
      rcases hne r hr (Ne.symm hqr) with hn | hn
      · cases hv : v'.ownBlock with
        | none => exact .inl rfl
        | some c => right; rw [hn]; intro hc; cases hc
      · exact .inr (Ne.symm hn)
    · rw [upd_off _ _ hqi]
      by_cases hri : r = i
      · subst hri; rw [upd_at]; exact hne q hq hqi
      · rw [upd_off _ _ hri]; exact h.apart q r hq hr hqr
/-- A block that no row lies at is none's behind an append either, if it was there. -/
theorem Fam.free (h : Fam e k base w L V N X) {i b : Nat} (hi : i < L) (hb : ∀ q, q < L → (V q).ownBlock ≠ some b) (hlt : b < w.heap.size) {v' : Value} (hs : NextTo w (V i) v') : ∀ q, q < L → (upd V i v' q).ownBlock ≠ some b := fun q hq => by
  by_cases hqi : q = i
  · subst hqi
    rw [upd_at]
    rcases hs with hs | ⟨c, hs, hc⟩
    · rw [hs]; exact hb q hq
    · rw [hs]; intro hx; injection hx with hx; omega
  · rw [upd_off _ _ hqi]; exact hb q hq
end
end Go.Proofs.Ytophhiejggnaeaa.Mem
namespace Go.Proofs.Ytophhiejggnaeaa.ShaRef
open Go.RowKit Go.Proofs.Ytophhiejggnaeaa.SpanPlain Go.Proofs.Ytophhiejggnaeaa.StepPlain Go.Proofs.Ytophhiejggnaeaa.GapPlain Go.Proofs.Ytophhiejggnaeaa.JobPlain Go.Proofs.Ytophhiejggnaeaa.ShaPlain Go.Proofs.Ytophhiejggnaeaa.Mem Go.Proofs.Ytophhiejggnaeaa.SpanMem Go.Proofs.Ytophhiejggnaeaa.StepMem Go.Proofs.Ytophhiejggnaeaa.JobMem Go.Proofs.Ytophhiejggnaeaa.OrdMem Go.Proofs.Ytophhiejggnaeaa.SpanRef Go.Proofs.Ytophhiejggnaeaa.StepRef Go.Proofs.Ytophhiejggnaeaa.GapRef
theorem fit_ok {s : List Sp} {now a : Int} {j : Jb} (h : FitIs s now j.width j.est a true) : okG s a j.width j.est = true := by
  rcases h with ⟨_, hm, _, hr, _⟩ | ⟨h, _⟩
  · exact okG_iff.2 ⟨hm, hr⟩
  · cases h
theorem spans_lt {t : List Sp} {W : World} {v : Value} (h : SpansIs t W v) : ∀ a m c, v = .slice (some a) m c → 0 < t.length → a.block < W.heap.size := fun a m c e hp => by
  rcases h with ⟨h, _⟩ | ⟨a2, c2, e2, hr, _⟩
  · rw [h] at e; cases e
  · rw [e2] at e
    injection e with e
    injection e with e
    subst e
    have hl : 0 < (svals t).length := by rw [svals_len]; omega
    exact (hr 0 _ (List.getElem?_eq_getElem hl)).1
end Go.Proofs.Ytophhiejggnaeaa.ShaRef
namespace Go.Proofs.Ytophhiejggnaeaa.SlaRef
open Go.RowKit Go.Proofs.Ytophhiejggnaeaa.SpanPlain Go.Proofs.Ytophhiejggnaeaa.StepPlain Go.Proofs.Ytophhiejggnaeaa.GapPlain Go.Proofs.Ytophhiejggnaeaa.JobPlain Go.Proofs.Ytophhiejggnaeaa.OrdPlain Go.Proofs.Ytophhiejggnaeaa.ApiPlain Go.Proofs.Ytophhiejggnaeaa.ShaPlain Go.Proofs.Ytophhiejggnaeaa.SlaPlain Go.Proofs.Ytophhiejggnaeaa.Mem Go.Proofs.Ytophhiejggnaeaa.SpanMem Go.Proofs.Ytophhiejggnaeaa.StepMem Go.Proofs.Ytophhiejggnaeaa.JobMem Go.Proofs.Ytophhiejggnaeaa.OrdMem Go.Proofs.Ytophhiejggnaeaa.ApiMem Go.Proofs.Ytophhiejggnaeaa.SpanRef Go.Proofs.Ytophhiejggnaeaa.StepRef Go.Proofs.Ytophhiejggnaeaa.GapRef Go.Proofs.Ytophhiejggnaeaa.ShaRef
def NewV (w : World) (v : Value) : Prop := ∀ a m c, v = .slice (some a) m c → w.heap.size ≤ a.block
end Go.Proofs.Ytophhiejggnaeaa.SlaRef
namespace Go.Proofs.Ytophhiejggnaeaa.SlaRef
open Go.RowKit Go.Proofs.Ytophhiejggnaeaa.SpanPlain Go.Proofs.Ytophhiejggnaeaa.StepPlain Go.Proofs.Ytophhiejggnaeaa.GapPlain Go.Proofs.Ytophhiejggnaeaa.JobPlain Go.Proofs.Ytophhiejggnaeaa.OrdPlain Go.Proofs.Ytophhiejggnaeaa.ApiPlain Go.Proofs.Ytophhiejggnaeaa.ShaPlain Go.Proofs.Ytophhiejggnaeaa.SlaPlain Go.Proofs.Ytophhiejggnaeaa.Mem Go.Proofs.Ytophhiejggnaeaa.SpanMem Go.Proofs.Ytophhiejggnaeaa.StepMem Go.Proofs.Ytophhiejggnaeaa.JobMem Go.Proofs.Ytophhiejggnaeaa.OrdMem Go.Proofs.Ytophhiejggnaeaa.ApiMem Go.Proofs.Ytophhiejggnaeaa.SpanRef Go.Proofs.Ytophhiejggnaeaa.StepRef Go.Proofs.Ytophhiejggnaeaa.GapRef Go.Proofs.Ytophhiejggnaeaa.ShaRef
section
variable {α : Type} {L : Lay α}
theorem is_lt {l : List α} {W : World} {v : Value} (h : L.Is l W v) : ∀ a m c, v = .slice (some a) m c → 0 < l.length → a.block < W.heap.size := fun a m c e hp => by
  rcases h with ⟨h, _⟩ | ⟨a2, c2, e2, hr, _⟩
  · rw [h] at e; cases e
  · rw [e2] at e
    injection e with e
    injection e with e
    subst e
    have := (Lay.at_ hr hp).lt
    rwa [add_block] at this
theorem is_kept {l : List α} {W w' : World} {v : Value} (h : L.Is l W v) (hs : W.heap.size ≤ w'.heap.size) (hk : ∀ a m c, v = .slice (some a) m c → 0 < l.length → w'.heap[a.block]? = W.heap[a.block]?) : L.Is l w' v := by
  have hlt := is_lt h
  rcases h with h | ⟨a, c, e, hr, hn⟩
  · exact .inl h
  · refine .inr ⟨a, c, e, ?_, hn⟩
    intro j u hu
    have hp : 0 < l.length := by
      cases l with
      | nil => simp [Lay.vals] at hu
      | cons x t => simp
    obtain ⟨h1, h2⟩ := hr j u hu
    refine ⟨Nat.lt_of_lt_of_le h1 hs, ?_⟩
    exact (World.cell?_of_block (a := a.add j) (by rw [add_block]; exact hk a _ c e hp)).trans h2
end
theorem spans_kept {l : List Sp} {W w' : World} {v : Value} (h : SpansIs l W v) (hs : W.heap.size ≤ w'.heap.size) (hk : ∀ a m c, v = .slice (some a) m c → 0 < l.length → w'.heap[a.block]? = W.heap[a.block]?) : SpansIs l w' v := by
  rcases h with h | ⟨a, c, e, hr, hn⟩
  · exact .inl h
  · refine .inr ⟨a, c, e, ?_, hn⟩
    intro j u hu
    have hp : 0 < l.length := by
      cases l with
      | nil => simp [svals] at hu
      | cons x t => simp
    obtain ⟨h1, h2⟩ := hr j u hu
    refine ⟨Nat.lt_of_lt_of_le h1 hs, ?_⟩
    exact (World.cell?_of_block (a := a.add j) (by rw [add_block]; exact hk a _ c e hp)).trans h2
/-- What a value points to lies apart from a row of one's own; n: how many elements it has. -/
def OffN (n : Nat) (v ov : Value) : Prop := ∀ a m c, v = .slice (some a) m c → 0 < n → ov.ownBlock ≠ some a.block
theorem OffN.next {n : Nat} {W : World} {v ov ov' : Value} (h : OffN n v ov) (hlt : ∀ a m c, v = .slice (some a) m c → 0 < n → a.block < W.heap.size) (hn : NextTo W ov ov') : OffN n v ov' := fun a m c e hp => by
  have hlt := hlt a m c e hp
  rcases hn with hn | ⟨b, hn, hb⟩
  · rw [hn]; exact h a m c e hp
  · rw [hn]; intro q; injection q with q; omega
theorem OffN.fresh {e : TypeId} {k base n i : Nat} {W : World} {v ov : Value} {xs : List Value} (hn : NewV W v) (ho : OwnN e k base W ov n xs) : OffN i v ov := fun a m c e _ q => by
  have h1 := hn a m c e
  have h2 := (ho.block_lt q).2
  omega
end Go.Proofs.Ytophhiejggnaeaa.SlaRef
namespace Go.Proofs.Ytophhiejggnaeaa.Mem
open Go.RowKit
theorem getD_in {l : List Int} {k : Nat} (h : k < l.length) : l.getD k 0 = l[k] := by simp [List.getD, h]
def SameQ (x : Bool) (w : World) (e : Ending) (w' : World) : Prop := e = .returned (.bool x) ∧ ∃ n, w' = w.drewN n
set_option maxHeartbeats 1600000 in
theorem same1 (l : List Int) (u v : Value) (w : World) (hu : IntsAt l w u) (hv : IntsAt l w v) (hl : l.length ≤ 100000) : Calls Try.prog 33 #[u, v] w (SameQ true w) := by
  obtain ⟨A, c, rfl, hc, hA⟩ := hu
  obtain ⟨B, d, rfl, hd, hB⟩ := hv
  have HA := Lib.hid hA
  have HB := Lib.hid hB
  clear hA hB
  have hne : ((l.length : Int) != (l.length : Int)) = false := by simp
  go_enter Try.func33, Try.ntmps33
  go_wp2_with fail
  go_loopw [5] (fun i wr => ∃ k q : Nat, i = .int .i64 k ∧ k ≤ l.length ∧ Hid (wr = w.drewN q)) (fun i _ => l.length - (intOf i).toNat)
  case atStart => exact ⟨0, 0, rfl, Nat.zero_le _, rfl⟩
  case round =>
    obtain ⟨k, q, rfl, hk, HQ⟩ := hrel
    by_cases hlt : k < l.length
    · obtain ⟨a, rfl, ha, h1⟩ := HA.out.at hlt
      obtain ⟨b, rfl, hb, h2⟩ := HB.out.at hlt
      have p1 : wr.cell? (a.add k) = some (.int .i64 l[k]) := by rw [HQ.out, ← getD_in hlt]; exact h1
      have p2 : wr.cell? (b.add k) = some (.int .i64 l[k]) := by rw [HQ.out, ← getD_in hlt]; exact h2
      clear h1 h2
      generalize l[k] = x at *
      have hx : (x != x) = false := by simp
      have i0 : (0 : Int) ≤ (k : Int) := Int.natCast_nonneg _
      have i1 : (k : Int) < (l.length : Int) := by omega
      go_wp2_with fail
      go_quiet (fail)
      have HQ2 : Hid (wr.drewN nq = w.drewN (q + nq)) := Lib.hid (by rw [HQ.out, World.drewN_drewN])
      clear p1 p2
      generalize wr.drewN nq = w2 at *
      go_wp2_with fail
      exact ⟨⟨k + 1, q + nq, by go_num, by omega, HQ2.out⟩, by simp [intOf] <;> omega⟩
    · go_wp2_with fail
      go_ret
      exact ⟨rfl, q, HQ.out⟩
end Go.Proofs.Ytophhiejggnaeaa.Mem
namespace Go.Proofs.Ytophhiejggnaeaa.SlaRef
open Go.RowKit Go.Proofs.Ytophhiejggnaeaa.SpanPlain Go.Proofs.Ytophhiejggnaeaa.StepPlain Go.Proofs.Ytophhiejggnaeaa.GapPlain Go.Proofs.Ytophhiejggnaeaa.JobPlain Go.Proofs.Ytophhiejggnaeaa.OrdPlain Go.Proofs.Ytophhiejggnaeaa.ApiPlain Go.Proofs.Ytophhiejggnaeaa.ShaPlain Go.Proofs.Ytophhiejggnaeaa.SlaPlain Go.Proofs.Ytophhiejggnaeaa.Mem Go.Proofs.Ytophhiejggnaeaa.SpanMem Go.Proofs.Ytophhiejggnaeaa.StepMem Go.Proofs.Ytophhiejggnaeaa.JobMem Go.Proofs.Ytophhiejggnaeaa.OrdMem Go.Proofs.Ytophhiejggnaeaa.ApiMem Go.Proofs.Ytophhiejggnaeaa.SpanRef Go.Proofs.Ytophhiejggnaeaa.StepRef Go.Proofs.Ytophhiejggnaeaa.GapRef Go.Proofs.Ytophhiejggnaeaa.ShaRef
/-- Why there is no pass. -/
def c16 (s : List Sp) (now : Int) (n : Nat) : Int := if chkB s = true ∧ head s ≤ now ∧ now ≤ 1125899906842624 then (if 100 < n then 4 else 0) else 1
theorem c16_ways (s : List Sp) (now : Int) (n : Nat) : (chkB s = false ∧ c16 s now n = 1) ∨ (chkB s = true ∧ decide (now < head s) = true ∧ c16 s now n = 1) ∨ (chkB s = true ∧ decide (now < head s) = false ∧ decide (1125899906842624 < now) = true ∧ c16 s now n = 1) ∨
    (chkB s = true ∧ decide (now < head s) = false ∧ decide (1125899906842624 < now) = false ∧ decide ((100 : Int) < (n : Int)) = true ∧ c16 s now n = 4) ∨ (chkB s = true ∧ decide (now < head s) = false ∧ decide (1125899906842624 < now) = false ∧ decide ((100 : Int) < (n : Int)) = false ∧ c16 s now n = 0) := by
  unfold c16
  cases hc : chkB s with
  | false => exact .inl ⟨rfl, if_neg (by simp)⟩
  | true =>
    right
    by_cases h1 : now < head s
    · exact .inl ⟨rfl, decide_eq_true h1, if_neg (by omega)⟩
    · right
      by_cases h2 : 1125899906842624 < now
      · exact .inl ⟨rfl, decide_eq_false h1, decide_eq_true h2, if_neg (by omega)⟩
      · right
        rw [if_pos ⟨rfl, by omega, by omega⟩]
        by_cases h3 : (100 : Int) < (n : Int)
        · exact .inl ⟨rfl, decide_eq_false h1, decide_eq_false h2, decide_eq_true h3, if_pos (by omega)⟩
        · exact .inr ⟨rfl, decide_eq_false h1, decide_eq_false h2, decide_eq_false h3, if_neg (by omega)⟩
def IntN (n : Int) (w : World) (e : Ending) (w' : World) : Prop := e = .returned (.int .i64 n) ∧ ∃ q, w' = w.drewN q
set_option maxHeartbeats 1200000 in
theorem check16 (s : List Sp) (now : Int) (js : List Jb) (v u : Value) (w : World) (hv : SpansIs s w v) (hl : s.length ≤ 9000) (hu : JobsIs js w u) : Calls Try.prog 17 #[v, .int .i64 now, u] w (IntN (c16 s now js.length) w) := by
  have CK := Lib.hid (check4 s v w hv hl)
  obtain ⟨A, c, rfl, hA⟩ := hv.open_
  obtain ⟨B, d, rfl, _⟩ := hu.open_
  have HA := Lib.hid hA
  have HP : Hid (chkB s = true → 0 < s.length) := fun h => ((chk_iff s).1 h).pos
  clear hv hu hA
  rcases c16_ways s now js.length with ⟨hc, h1⟩ | ⟨hc, g1, h1⟩ | ⟨hc, g1, g2, h1⟩ | ⟨hc, g1, g2, g3, h1⟩ | ⟨hc, g1, g2, g3, h1⟩
  · rw [hc] at CK
    have H1 := Lib.hid h1
    clear h1 hc
    go_enter Try.func17, Try.ntmps17
    go_wp2_with fail
    refine CK.out.mono ?_
    rintro e w1 ⟨rfl, n, rfl⟩
    go_wp2_with fail
    go_ret
    exact ⟨by rw [H1.out]; rfl, n, rfl⟩
  all_goals
    rw [hc] at CK
    have H1 := Lib.hid h1
    have hp := HP.out hc
    obtain ⟨ad, rfl, had, x1, _⟩ := pair_zero HA.out hp
    have hh : (spCell s 0).1 = .int .i64 (head s) := rfl
    rw [hh] at x1
    have hp2 : (0 : Int) < (s.length : Int) := by omega
    clear h1 hc hh
    go_enter Try.func17, Try.ntmps17
    go_wp2_with fail
    refine CK.out.mono ?_
    rintro e w1 ⟨rfl, n, rfl⟩
    go_wp2_with fail
    go_ret
    exact ⟨by rw [H1.out]; rfl, n, rfl⟩
set_option maxRecDepth 100000 in
set_option maxHeartbeats 1600000 in
theorem same16 (st : List Int) (P : List Prm) (a b c d : Value) (w : World) (ha : IntsAt st w a) (hb : prmL.Is P w b) (hc : IntsAt st w c) (hd : prmL.Is P w d) (hl : st.length ≤ 100000) (hp : P.length ≤ 100000) :
    Calls Try.prog 15 #[.agg #[a, b], .agg #[c, d]] w (BoolL true w) := by
  have HX := Lib.hid ((Box2.new w a b 37).alloc (.cells #[c, d] 37))
  have HY0 := Box2.new (w.alloc (.cells #[a, b] 37)) c d 37
  rw [show (w.alloc (.cells #[a, b] 37)).heap.size = w.heap.size + 1 by simp] at HY0
  have HY := Lib.hid HY0
  have HBB := Lib.hid ((box_s w (.cells #[a, b] 37)).alloc (by simp) (.cells #[c, d] 37))
  have C1 := Lib.hid (fun W (hW : Below w.heap.size w W) => same1 st a c W (ha.below hW) (hc.below hW) hl)
  obtain ⟨A1, c1, rfl, _, _⟩ := ha
  obtain ⟨A3, c3, rfl, _, _⟩ := hc
  obtain ⟨A2, c2, rfl, hn2, hA⟩ := prms_open hb
  obtain ⟨A4, c4, rfl, hn4, hB⟩ := prms_open hd
  have HA := Lib.hid hA
  have HB := Lib.hid hB
  clear hA hB hb hd HY0
  have d0 : ((P.length : Int) != (P.length : Int)) = false := by simp
  go_enter Try.func15, Try.ntmps15
  go_upto_region 1 with fail
  generalize (w.alloc (.cells #[.slice A1 st.length c1, .slice A2 P.length c2] 37)).alloc (.cells #[.slice A3 st.length c3, .slice A4 P.length c4] 37) = W0 at *
  obtain ⟨x, x0, x1, _, _⟩ := HX.out
  obtain ⟨y, y0, y1, _, _⟩ := HY.out
  go_wp2_with fail
  go_loopw [5] (fun i wr => ∃ k : Nat, k ≤ P.length ∧ i = .int .i64 k ∧ ∃ n, wr = W0.drewN n) (fun i _ => P.length - (intOf i).toNat)
  case atStart => exact ⟨0, Nat.zero_le _, rfl, 0, rfl⟩
  case round =>
    obtain ⟨k, hk, rfl, n, rfl⟩ := hrel
    by_cases hlt : k < P.length
    · obtain ⟨p, rfl, hpa⟩ := HA.out k hlt
      obtain ⟨q, rfl, hqa⟩ := HB.out k hlt
      obtain ⟨p9, p0, p1, p2⟩ := hpa.below HBB.out
      obtain ⟨q9, q0, q1, q2⟩ := hqa.below HBB.out
      have hlt2 : (k : Int) < (P.length : Int) := by omega
      have hkn : (0 : Int) ≤ (k : Int) := by omega
      have E1 := fun W => ne_prm W P[k]
      clear hpa hqa
      generalize P[k] = j at *
      unfold prmV at E1
      go_wp2_with fail
      go_quiet (fail)
      go_wp2_with fail
      exact ⟨⟨k + 1, by omega, by go_num, _, rfl⟩, by simp [intOf] <;> omega⟩
    · have hbn := Lib.hid (below_drewN HBB.out n)
      go_wp2_with fail
      refine (C1.out _ hbn.out).mono ?_
      rintro e w1 ⟨rfl, m, rfl⟩
      have hbm := Lib.hid (below_drewN hbn.out m)
      go_wp2_with fail
      go_ret
      exact ⟨rfl, by simpa [World.drewN_drewN] using hbm.out⟩
end Go.Proofs.Ytophhiejggnaeaa.SlaRef
namespace Go.Proofs.Ytophhiejggnaeaa.JobRef
open Go.RowKit Go.Proofs.Ytophhiejggnaeaa.JobPlain Go.Proofs.Ytophhiejggnaeaa.Mem Go.Proofs.Ytophhiejggnaeaa.JobMem
def BoolQ (b : Bool) (w : World) (e : Ending) (w' : World) : Prop := e = .returned (.bool b) ∧ w = w'
/-- The first k bytes are letters. -/
def LetTo (s : ByteArray) (k : Nat) : Prop := ∀ c ∈ s.data.toList.take k, letB c = true
theorem LetTo.zero (s : ByteArray) : LetTo s 0 := fun c hc => by simp at hc
theorem let_take (s : ByteArray) (k : Nat) (h : k < s.size) : s.data.toList.take (k + 1) = s.data.toList.take k ++ [s[k]] := by
  have h1 : k < s.data.toList.length := by simpa using h
  rw [List.take_succ_eq_append_getElem h1]; rfl
theorem LetTo.succ {s : ByteArray} {k : Nat} (h : LetTo s k) (hk : k < s.size) (hd : letB s[k] = true) : LetTo s (k + 1) := fun c hc => by
  rw [let_take s k hk] at hc
  rcases List.mem_append.1 hc with hc | hc
  · exact h c hc
  · simp at hc; subst hc; exact hd
theorem LetTo.all {s : ByteArray} {k : Nat} (h : LetTo s k) (hk : s.size ≤ k) : s.data.toList.all letB = true := by
  rw [List.all_eq_true]
  exact fun c hc => h c (by rwa [List.take_of_length_le (by simpa using hk)])
theorem name_no {s : ByteArray} {k : Nat} (hk : k < s.size) (hd : letB s[k] = false) : nameB s = false := by
  unfold nameB
  have : s.data.toList.all letB = false := by
    rw [List.all_eq_false]
    exact ⟨s[k], by rw [show s[k] = s.data.toList[k]'(by simpa using hk) from rfl]; exact List.getElem_mem _, by rw [hd]; decide⟩
  rw [this]; rfl
theorem let_ways (c : UInt8) : (decide ((c.toNat : Int) < 97) = true ∧ letB c = false) ∨ (decide ((c.toNat : Int) < 97) = false ∧ decide (122 < (c.toNat : Int)) = true ∧ letB c = false) ∨ (decide ((c.toNat : Int) < 97) = false ∧ decide (122 < (c.toNat : Int)) = false ∧ letB c = true) := by
  unfold letB
  by_cases h1 : (c.toNat : Int) < 97
  · exact .inl ⟨decide_eq_true h1, by rw [decide_eq_false (by omega)]; rfl⟩
  · by_cases h2 : 122 < (c.toNat : Int)
    · exact .inr (.inl ⟨decide_eq_false h1, decide_eq_true h2, by rw [decide_eq_false (p := c.toNat ≤ 122) (by omega), Bool.and_false]⟩)
    · exact .inr (.inr ⟨decide_eq_false h1, decide_eq_false h2, by rw [decide_eq_true (by omega), decide_eq_true (by omega)]; rfl⟩)
theorem name_ways (s : ByteArray) (h : s.data.toList.all letB = true) : (decide ((1 : Int) ≤ (s.size : Int)) = false ∧ nameB s = false) ∨ (decide ((1 : Int) ≤ (s.size : Int)) = true ∧ decide ((s.size : Int) ≤ 16) = false ∧ nameB s = false) ∨ (decide ((1 : Int) ≤ (s.size : Int)) = true ∧ decide ((s.size : Int) ≤ 16) = true ∧ nameB s = true) := by
  unfold nameB
  rw [h]
  by_cases h1 : (1 : Int) ≤ (s.size : Int)
  · by_cases h2 : (s.size : Int) ≤ 16
    · exact .inr (.inr ⟨decide_eq_true h1, decide_eq_true h2, by rw [decide_eq_true (by omega), decide_eq_true (by omega)]; rfl⟩)
    · exact .inr (.inl ⟨decide_eq_true h1, decide_eq_false h2, by rw [decide_eq_false (p := s.size ≤ 16) (by omega), Bool.and_false]; rfl⟩)
  · exact .inl ⟨decide_eq_false h1, by rw [decide_eq_false (p := 1 ≤ s.size) (by omega)]; rfl⟩
set_option maxHeartbeats 800000 in
theorem name7 (s : ByteArray) (w : World) (hs : s.size ≤ 9223372036854775807) : Calls Try.prog 28 #[.string s] w (BoolQ (nameB s) w) := by
  go_enter Try.func28, Try.ntmps28
  go_wp2_with fail
  go_loop [3] (fun i => ∃ k : Nat, k ≤ s.size ∧ i = .int .i64 k ∧ Hid (LetTo s k)) (fun i => s.size - (intOf i).toNat)
  case atStart => exact ⟨0, Nat.zero_le _, rfl, LetTo.zero s⟩
  case round =>
    obtain ⟨k, hk, rfl, HD⟩ := hrel
    by_cases hlt : k < s.size
    · have hways := let_ways s[k]
      have HNO := Lib.hid (fun h => name_no hlt h)
      have HNX := Lib.hid (fun h => HD.out.succ hlt h)
      rcases hways with ⟨h1, h2⟩ | ⟨h1, h3, h2⟩ | ⟨h1, h3, h2⟩
      all_goals
        have HR := Lib.hid h2
        clear h2
        go_wp2_with fail
        first
          | exact ⟨⟨k + 1, by omega, by go_num, HNX.out HR.out⟩, by simp [intOf]; omega⟩
          | (go_ret; rw [HNO.out HR.out]; exact ⟨rfl, rfl⟩)
    · have hways := name_ways s (HD.out.all (by omega))
      rcases hways with ⟨h1, h2⟩ | ⟨h1, h3, h2⟩ | ⟨h1, h3, h2⟩
      all_goals
        have HR := Lib.hid h2
        clear h2
        go_wp2_with fail
        go_ret
        rw [HR.out]
        exact ⟨rfl, rfl⟩
end Go.Proofs.Ytophhiejggnaeaa.JobRef
namespace Go.Proofs.Ytophhiejggnaeaa.JobRef
open Go.RowKit Go.Proofs.Ytophhiejggnaeaa.JobPlain Go.Proofs.Ytophhiejggnaeaa.Mem Go.Proofs.Ytophhiejggnaeaa.JobMem
def BoolIs (b : Bool) (w : World) (e : Ending) (w' : World) : Prop := e = .returned (.bool b) ∧ Below w.heap.size w w'
theorem over_ways (j : Jb) (h : Fit j) (hs : 0 ≤ j.sub) : (ranB j = false ∧ overB j = false) ∨ (ranB j = true ∧ decide (j.start ≤ j.fin) = false ∧ overB j = false) ∨
    (ranB j = true ∧ decide (j.start ≤ j.fin) = true ∧ IntKind.i64.wrap (j.fin - j.start) = j.fin - j.start ∧ decide (j.fin - j.start ≤ j.est) = overB j) := by
  obtain ⟨h1, h2, _⟩ := h
  unfold overB
  cases hr : ranB j with
  | false => exact .inl ⟨rfl, rfl⟩
  | true =>
    have h3 := (ran_iff j).1 hr
    by_cases h4 : j.start ≤ j.fin
    · refine .inr (.inr ⟨rfl, decide_eq_true h4, by rw [IntKind.wrap_i64]; omega, ?_⟩)
      rw [decide_eq_true h4]; rfl
    · exact .inr (.inl ⟨rfl, decide_eq_false h4, by rw [decide_eq_false h4]; rfl⟩)
theorem over_wrap {j : Jb} (h : Fit j) (hs : 0 ≤ j.sub) (ho : overB j = true) : IntKind.i64.wrap (j.fin - j.start) = j.fin - j.start := by
  rcases over_ways j h hs with ⟨_, h1⟩ | ⟨_, _, h1⟩ | ⟨_, _, h1, _⟩
  · rw [ho] at h1; cases h1
  · rw [ho] at h1; cases h1
  · exact h1
theorem switch_ways (j : Jb) : ((j.state == 0) = true ∧ stateB j = noneB j) ∨ ((j.state == 0) = false ∧ (j.state == 1) = true ∧ stateB j = noneB j) ∨ ((j.state == 0) = false ∧ (j.state == 1) = false ∧ (j.state == 2) = true ∧ stateB j = (ranB j && (j.fin == 0))) ∨
    ((j.state == 0) = false ∧ (j.state == 1) = false ∧ (j.state == 2) = false ∧ (j.state == 3) = true ∧ stateB j = overB j) ∨
    ((j.state == 0) = false ∧ (j.state == 1) = false ∧ (j.state == 2) = false ∧ (j.state == 3) = false ∧ (j.state == 4) = true ∧ stateB j = (overB j && (j.fin - j.start == j.est))) ∨
    ((j.state == 0) = false ∧ (j.state == 1) = false ∧ (j.state == 2) = false ∧ (j.state == 3) = false ∧ (j.state == 4) = false ∧ (j.state == 5) = true ∧ stateB j = (noneB j || overB j)) ∨
    ((j.state == 0) = false ∧ (j.state == 1) = false ∧ (j.state == 2) = false ∧ (j.state == 3) = false ∧ (j.state == 4) = false ∧ (j.state == 5) = false ∧ stateB j = false) := by
  unfold stateB
  by_cases h0 : j.state = 0
  · exact .inl ⟨by simp [h0], by rw [if_pos h0]⟩
  by_cases h1 : j.state = 1
  · exact .inr (.inl ⟨by simp [h1], by simp [h1], by rw [if_neg h0, if_pos h1]⟩)
  by_cases h2 : j.state = 2
  · exact .inr (.inr (.inl ⟨by simp [h2], by simp [h2], by simp [h2], by rw [if_neg h0, if_neg h1, if_pos h2]⟩))
  by_cases h3 : j.state = 3
  · exact .inr (.inr (.inr (.inl ⟨by simp [h3], by simp [h3], by simp [h3], by simp [h3], by rw [if_neg h0, if_neg h1, if_neg h2, if_pos h3]⟩)))
  by_cases h4 : j.state = 4
  · exact .inr (.inr (.inr (.inr (.inl ⟨by simp [h4], by simp [h4], by simp [h4], by simp [h4], by simp [h4], by rw [if_neg h0, if_neg h1, if_neg h2, if_neg h3, if_pos h4]⟩))))
  by_cases h5 : j.state = 5
  · exact .inr (.inr (.inr (.inr (.inr (.inl ⟨by simp [h5], by simp [h5], by simp [h5], by simp [h5], by simp [h5], by simp [h5], by rw [if_neg h0, if_neg h1, if_neg h2, if_neg h3, if_neg h4, if_pos h5]⟩)))))
  · exact .inr (.inr (.inr (.inr (.inr (.inr ⟨by simpa using h0, by simpa using h1, by simpa using h2, by simpa using h3, by simpa using h4, by simpa using h5, by rw [if_neg h0, if_neg h1, if_neg h2, if_neg h3, if_neg h4, if_neg h5]⟩)))))
theorem may_no {j : Jb} (h : baseB j = false) : mayJ j = false := by unfold mayJ; rw [h]; rfl
set_option maxRecDepth 100000 in
set_option maxHeartbeats 6400000 in
theorem may7 (j : Jb) (w : World) (hf : Fit j) : Calls Try.prog 13 #[jobV j] w (BoolIs (mayJ j) w) := by
  have CN := Lib.hid (fun W => name7 j.user W hf.2.2)
  have HX := Lib.hid (JobBox.new w j 45)
  have HB := Lib.hid ((Below.refl w.heap.size w).alloc (Nat.le_refl _) (.cells #[.int .i64 j.id, .string j.user, .int .i64 j.width, .int .i64 j.est, .int .i64 j.prio, .int .i64 j.sub, .int .i64 j.state, .int .i64 j.start, .int .i64 j.fin] 45))
  have HF := Lib.hid hf
  have hbw := base_ways j
  unfold jobV jobA
  clear hf
  rcases hbw with ⟨a1, hb⟩ | ⟨a1, a2, hb⟩ | ⟨a1, a2, a3, hb⟩ | ⟨a1, a2, a3, a4, hb⟩ | ⟨a1, a2, a3, a4, a5, hb⟩ | ⟨a1, a2, a3, a4, a5, a6, hb⟩ | ⟨a1, a2, a3, a4, a5, a6, a7, hb⟩ | ⟨a1, a2, a3, a4, a5, a6, a7, a8, hb⟩ | ⟨a1, a2, a3, a4, a5, a6, a7, a8, a9, hb⟩ | ⟨a1, a2, a3, a4, a5, a6, a7, a8, a9, a10, hb⟩ | ⟨a1, a2, a3, a4, a5, a6, a7, a8, a9, a10, a11, hb⟩ | ⟨a1, a2, a3, a4, a5, a6, a7, a8, a9, a10, a11, hb⟩
  all_goals
    have HBB := Lib.hid hb
    clear hb
    try rw [a3] at CN
  all_goals try
    go_enter Try.func13, Try.ntmps13
    go_upto_region 1 with fail
    obtain ⟨y, y0, y1, y2, y3, y4, y5, y6, y7, y8, _, _, _, _, _, _, _, _, _⟩ := HX.out
    generalize w.alloc (.cells #[.int .i64 j.id, .string j.user, .int .i64 j.width, .int .i64 j.est, .int .i64 j.prio, .int .i64 j.sub, .int .i64 j.state, .int .i64 j.start, .int .i64 j.fin] 45) = W at *
    go_wp2_with (go_at_call 28; refine (CN.out _).mono ?_; rintro e w1 ⟨rfl, rfl⟩)
    go_ret
    rw [may_no HBB.out]
    exact ⟨rfl, HB.out⟩
  have HBS := Lib.hid ((base_iff j).1 HBB.out)
  have hs1 := HBS.out.s1
  have HMJ : Hid (mayJ j = stateB j) := by have := HBB.out; unfold mayJ; rw [this]; rfl
  have hst : (∃ N R O K : Bool, N = noneB j ∧ R = ranB j ∧ O = overB j ∧ K = (j.fin - j.start == j.est)) := ⟨_, _, _, _, rfl, rfl, rfl, rfl⟩
  go_enter Try.func13, Try.ntmps13
  go_upto_region 1 with fail
  obtain ⟨y, y0, y1, y2, y3, y4, y5, y6, y7, y8, _, _, _, _, _, _, _, _, _⟩ := HX.out
  generalize w.alloc (.cells #[.int .i64 j.id, .string j.user, .int .i64 j.width, .int .i64 j.est, .int .i64 j.prio, .int .i64 j.sub, .int .i64 j.state, .int .i64 j.start, .int .i64 j.fin] 45) = W at *
  go_upto_region 3 with (go_at_call 28; refine (CN.out _).mono ?_; rintro e w1 ⟨rfl, rfl⟩)
  clear a1 a2 a3 a4 a5 a6 a7 a8 a9 a10 a11 CN
  go_cut [3] (fun c wc => c = .bool (noneB j) ∧ W = wc)
  case first =>
    rcases and_ways (j.start == 0) (j.fin == 0) with ⟨h1, h2⟩ | ⟨h1, h3, h2⟩ | ⟨h1, h3, h2⟩
    all_goals
      have HR := Lib.hid h2
      clear h2
      go_wp2_with fail
      go_meet
      exact ⟨by unfold noneB; rw [HR.out], rfl⟩
  case rest =>
    obtain ⟨rfl, rfl⟩ := hcut
    go_upto_region 4 with fail
    go_cut [4] (fun c wc => c = .bool (ranB j) ∧ W = wc)
    case first =>
      rcases and_ways (decide (j.sub ≤ j.start)) (decide (j.start ≤ 1125899906842624)) with ⟨h1, h2⟩ | ⟨h1, h3, h2⟩ | ⟨h1, h3, h2⟩
      all_goals
        have HR := Lib.hid h2
        clear h2
        go_wp2_with fail
        go_meet
        exact ⟨by unfold ranB; rw [HR.out], rfl⟩
    case rest =>
      obtain ⟨rfl, rfl⟩ := hcut
      go_upto_region 5 with fail
      go_cut [5] (fun c wc => c = .bool (overB j) ∧ W = wc)
      case first =>
        have hways := over_ways j HF.out hs1
        generalize overB j = O at *
        generalize ranB j = R at *
        rcases hways with ⟨rfl, rfl⟩ | ⟨rfl, h1, rfl⟩ | ⟨rfl, h1, h2, h3⟩
        all_goals
          go_wp2_with fail
          go_meet
          exact ⟨rfl, rfl⟩
      case rest =>
        obtain ⟨rfl, rfl⟩ := hcut
        have hsw := switch_ways j
        have HOW := Lib.hid (fun h => over_wrap HF.out hs1 h)
        clear hst
        generalize noneB j = N at *
        generalize ranB j = R at *
        generalize overB j = O at *
        rcases hsw with ⟨s0, hs⟩ | ⟨s0, s1, hs⟩ | ⟨s0, s1, s2, hs⟩ | ⟨s0, s1, s2, s3, hs⟩ | ⟨s0, s1, s2, s3, s4, hs⟩ | ⟨s0, s1, s2, s3, s4, s5, hs⟩ | ⟨s0, s1, s2, s3, s4, s5, hs⟩
        · have HS := Lib.hid (HMJ.out.trans hs)
          clear hs
          go_wp2_with fail
          go_ret
          exact ⟨by rw [HS.out]; rfl, HB.out⟩
        · have HS := Lib.hid (HMJ.out.trans hs)
          clear hs
          go_wp2_with fail
          go_ret
          exact ⟨by rw [HS.out]; rfl, HB.out⟩
        · have HS := Lib.hid (HMJ.out.trans hs)
          clear hs
          cases R
          all_goals
            go_wp2_with fail
            go_ret
            exact ⟨by rw [HS.out]; rfl, HB.out⟩
        · have HS := Lib.hid (HMJ.out.trans hs)
          clear hs
          go_wp2_with fail
          go_ret
          exact ⟨by rw [HS.out]; rfl, HB.out⟩
        · have HS := Lib.hid (HMJ.out.trans hs)
          clear hs
          cases O
          · go_wp2_with fail
            go_ret
            exact ⟨by rw [HS.out]; rfl, HB.out⟩
          · have hw := HOW.out rfl
            go_wp2_with fail
            go_ret
            exact ⟨by rw [HS.out]; rfl, HB.out⟩
        · have HS := Lib.hid (HMJ.out.trans hs)
          clear hs
          cases N
          all_goals
            go_wp2_with fail
            go_ret
            exact ⟨by rw [HS.out]; rfl, HB.out⟩
        · have HS := Lib.hid (HMJ.out.trans hs)
          clear hs
          go_wp2_with fail
          go_ret
          exact ⟨by rw [HS.out]; rfl, HB.out⟩
end Go.Proofs.Ytophhiejggnaeaa.JobRef
namespace Go.Proofs.Ytophhiejggnaeaa.QueRef
open Go.RowKit Go.Proofs.Ytophhiejggnaeaa.JobPlain Go.Proofs.Ytophhiejggnaeaa.ApiPlain Go.Proofs.Ytophhiejggnaeaa.QuePlain Go.Proofs.Ytophhiejggnaeaa.Mem Go.Proofs.Ytophhiejggnaeaa.ApiMem
def BoolC (b : Bool) (w : World) (e : Ending) (w' : World) : Prop := e = .returned (.bool b) ∧ Below w.heap.size w w'
def IntC (n : Int) (w : World) (e : Ending) (w' : World) : Prop := e = .returned (.int .i64 n) ∧ Below w.heap.size w w'
theorem box_below (w : World) (o : Obj) : Below w.heap.size w (w.alloc o) := (Below.refl _ _).alloc (Nat.le_refl _) o
set_option maxHeartbeats 1600000 in
theorem may9 (c : Cl) (w : World) (hs : c.name.size ≤ 9223372036854775807) : Calls Try.prog 35 #[clV c] w (BoolC (mayC c) w) := by
  have CN := Lib.hid (fun W => JobRef.name7 c.name W hs)
  have hways := mayC_ways c
  have HX := ClBox.new w c 51
  have HB := Lib.hid (box_below w (.cells #[.string c.name, .int .i64 c.minW, .int .i64 c.maxW, .int .i64 c.minE, .int .i64 c.maxE] 51))
  obtain ⟨x, x0, x1, x2, x3, x4, _, _, _, _, _⟩ := HX
  unfold clV
  rcases hways with ⟨hn, h1⟩ | ⟨hn, d1, h1⟩ | ⟨hn, d1, d2, h1⟩ | ⟨hn, d1, d2, d3, h1⟩ | ⟨hn, d1, d2, d3, d4, h1⟩ | ⟨hn, d1, d2, d3, d4, d5, h1⟩ | ⟨hn, d1, d2, d3, d4, d5, d6, h1⟩ | ⟨hn, d1, d2, d3, d4, d5, d6, h1⟩
  all_goals
    rw [hn] at CN
    rw [h1]
    clear hn h1
    go_enter Try.func35, Try.ntmps35
    go_wp2_with (go_at_call 28; refine (CN.out _).mono ?_; rintro e w1 ⟨rfl, rfl⟩)
    go_ret
    exact ⟨rfl, HB.out⟩
set_option maxHeartbeats 1600000 in
theorem has9 (c : Cl) (wd e : Int) (w : World) (hs : c.name.size ≤ 9223372036854775807) : Calls Try.prog 27 #[clV c, .int .i64 wd, .int .i64 e] w (BoolC (hasC c wd e) w) := by
  have CN := Lib.hid (fun W => may9 c W hs)
  have hways := hasC_ways c wd e
  have HX := Lib.hid (ClBox.new w c 51)
  have HB := Lib.hid (box_below w (.cells #[.string c.name, .int .i64 c.minW, .int .i64 c.maxW, .int .i64 c.minE, .int .i64 c.maxE] 51))
  obtain ⟨x, x0, x1, x2, x3, x4, _, _, _, _, _⟩ := HX.out
  unfold clV at *
  rcases hways with ⟨hn, h1⟩ | ⟨hn, d1, h1⟩ | ⟨hn, d1, d2, h1⟩ | ⟨hn, d1, d2, d3, h1⟩ | ⟨hn, d1, d2, d3, d4, h1⟩ | ⟨hn, d1, d2, d3, d4, h1⟩
  all_goals
    rw [hn] at CN
    rw [h1]
    clear hn h1
    go_enter Try.func27, Try.ntmps27
    go_wp2_with fail
    refine (CN.out _).mono ?_
    rintro e1 w1 ⟨rfl, hb1⟩
    obtain ⟨y, y0, y1, y2, y3, y4, _, _, _, _, _⟩ := HX.out.below hb1
    have HB1 := Lib.hid (HB.out.trans (hb1.mono HB.out.size))
    clear hb1
    go_wp2_with fail
    go_ret
    exact ⟨rfl, HB1.out⟩
theorem max_ways (x y : Int) : (decide (x < y) = true ∧ max x y = y) ∨ (decide (x < y) = false ∧ max x y = x) := by
  by_cases h : x < y
  · exact .inl ⟨decide_eq_true h, by omega⟩
  · exact .inr ⟨decide_eq_false h, by omega⟩
set_option maxHeartbeats 3200000 in
theorem meet9 (a b : Cl) (w : World) (ha : a.name.size ≤ 9223372036854775807) (hb : b.name.size ≤ 9223372036854775807) : Calls Try.prog 36 #[clV a, clV b] w (BoolC (meetC a b) w) := by
  obtain ⟨W, hW⟩ : ∃ W, W = max a.minW b.minW := ⟨_, rfl⟩
  obtain ⟨E, hE⟩ : ∃ E, E = max a.minE b.minE := ⟨_, rfl⟩
  have w1 := max_ways a.minW b.minW
  have w2 := max_ways a.minE b.minE
  have hm : meetC a b = (hasC a W E && hasC b W E) := by unfold meetC; rw [← hW, ← hE]
  rw [← hW] at w1
  rw [← hE] at w2
  clear hW hE
  have C1 := Lib.hid (fun w => has9 a W E w ha)
  have C2 := Lib.hid (fun w => has9 b W E w hb)
  have HX := Lib.hid ((ClBox.new w a 51).alloc (.cells #[.string b.name, .int .i64 b.minW, .int .i64 b.maxW, .int .i64 b.minE, .int .i64 b.maxE] 51))
  have HY := Lib.hid (ClBox.new_at (w := w.alloc (.cells #[.string a.name, .int .i64 a.minW, .int .i64 a.maxW, .int .i64 a.minE, .int .i64 a.maxE] 51)) (n := w.heap.size + 1) (by simp) b 51)
  have HB := Lib.hid ((box_below w (.cells #[.string a.name, .int .i64 a.minW, .int .i64 a.maxW, .int .i64 a.minE, .int .i64 a.maxE] 51)).alloc (by simp) (.cells #[.string b.name, .int .i64 b.minW, .int .i64 b.maxW, .int .i64 b.minE, .int .i64 b.maxE] 51))
  rw [hm]
  clear hm ha hb
  unfold clV at *
  go_enter Try.func36, Try.ntmps36
  go_upto_region 1 with fail
  generalize (w.alloc (.cells #[.string a.name, .int .i64 a.minW, .int .i64 a.maxW, .int .i64 a.minE, .int .i64 a.maxE] 51)).alloc (.cells #[.string b.name, .int .i64 b.minW, .int .i64 b.maxW, .int .i64 b.minE, .int .i64 b.maxE] 51) = w0 at *
  obtain ⟨x, x0, x1, x2, x3, x4, _, _, _, _, _⟩ := HX.out
  obtain ⟨y, y0, y1, y2, y3, y4, _, _, _, _, _⟩ := HY.out
  go_quiet (fail)
  cases h1 : hasC a W E with
  | false =>
    rw [h1] at C1
    have H1 := Lib.hid h1
    clear h1 C2
    rcases w1 with ⟨d1, e1⟩ | ⟨d1, e1⟩ <;> rcases w2 with ⟨d2, e2⟩ | ⟨d2, e2⟩
    all_goals
      subst e1
      subst e2
      go_wp2_with fail
      refine (C1.out _).mono ?_
      rintro e w3 ⟨rfl, hb3⟩
      have HB3 := Lib.hid ((below_drewN HB.out _).trans (hb3.mono HB.out.size))
      clear hb3
      go_wp2_with fail
      go_ret
      exact ⟨by rw [H1.out]; rfl, HB3.out⟩
  | true =>
    rw [h1] at C1
    have H1 := Lib.hid h1
    clear h1
    cases h2 : hasC b W E
    all_goals
      rw [h2] at C2
      have H2 := Lib.hid h2
      clear h2
      rcases w1 with ⟨d1, e1⟩ | ⟨d1, e1⟩ <;> rcases w2 with ⟨d2, e2⟩ | ⟨d2, e2⟩
      all_goals
        subst e1
        subst e2
        go_wp2_with fail
        refine (C1.out _).mono ?_
        rintro e w3 ⟨rfl, hb3⟩
        obtain ⟨z, z0, z1, z2, z3, z4, _, _, _, _, _⟩ := (HY.out.drewN _).below hb3
        have HB3 := Lib.hid ((below_drewN HB.out _).trans (hb3.mono HB.out.size))
        clear hb3 C1
        go_wp2_with fail
        refine (C2.out _).mono ?_
        rintro e w4 ⟨rfl, hb4⟩
        have HB4 := Lib.hid (HB3.out.trans (hb4.mono HB3.out.size))
        clear hb4
        go_wp2_with fail
        go_ret
        exact ⟨by rw [H1.out, H2.out]; rfl, HB4.out⟩
end Go.Proofs.Ytophhiejggnaeaa.QueRef
namespace Go.Proofs.Ytophhiejggnaeaa.QueRef
open Go.RowKit Go.Proofs.Ytophhiejggnaeaa.JobPlain Go.Proofs.Ytophhiejggnaeaa.ApiPlain Go.Proofs.Ytophhiejggnaeaa.QuePlain Go.Proofs.Ytophhiejggnaeaa.Mem Go.Proofs.Ytophhiejggnaeaa.ApiMem
/-- Names' lengths are lengths. -/
def Short (l : List Cl) : Prop := ∀ c ∈ l, ClFit c
theorem Short.at {l : List Cl} (h : Short l) {k : Nat} (hk : k < l.length) : (nthC l k).name.size ≤ 9223372036854775807 := (h _ (by rw [nthC_at hk]; exact List.getElem_mem hk)).f0
theorem Short.fit {l : List Cl} (h : Short l) {k : Nat} (hk : k < l.length) : ClFit (nthC l k) := h _ (by rw [nthC_at hk]; exact List.getElem_mem hk)
/-- A class's place, in words of cells. -/
theorem cls_nth {l : List Cl} {w w' : World} {A : Option Addr} (h : ∀ i (hi : i < l.length), ∃ a, A = some a ∧ ClAt w (a.add (i * 5)) l[i]) (hb : Below w.heap.size w w') {k : Nat} (hk : k < l.length) : ∃ a, A = some a ∧ ClAt w' (a.add (k * 5)) (nthC l k) := by
  obtain ⟨a, ea, h1⟩ := h k hk
  exact ⟨a, ea, by rw [nthC_at hk]; exact h1.below hb⟩
theorem pair_ways (l : List Cl) {i k : Nat} : (((nthC l i).name.toList == (nthC l k).name.toList) = true ∧ Hid (clash (nthC l i) (nthC l k) = true)) ∨ (((nthC l i).name.toList == (nthC l k).name.toList) = false ∧ meetC (nthC l i) (nthC l k) = true ∧ Hid (clash (nthC l i) (nthC l k) = true)) ∨
    (((nthC l i).name.toList == (nthC l k).name.toList) = false ∧ meetC (nthC l i) (nthC l k) = false ∧ Hid (clash (nthC l i) (nthC l k) = false)) := by
  unfold clash
  cases (nthC l i).name.toList == (nthC l k).name.toList with
  | true => exact .inl ⟨rfl, rfl⟩
  | false =>
    cases meetC (nthC l i) (nthC l k) with
    | true => exact .inr (.inl ⟨rfl, rfl, rfl⟩)
    | false => exact .inr (.inr ⟨rfl, rfl, rfl⟩)
theorem ret_i {a b : Int} (h : a = b) : Ending.returned (.int .i64 a) = .returned (.int .i64 b) := by rw [h]
set_option maxRecDepth 100000 in
set_option maxHeartbeats 6400000 in
theorem check9 (l : List Cl) (v : Value) (w : World) (hv : clL.Is l w v) (hs : Short l) (hl : l.length ≤ 1000) : Calls Try.prog 18 #[v] w (IntC (checkC l) w) := by
  obtain ⟨A, c, rfl, hn, hA⟩ := cls_open hv
  have HA := Lib.hid hA
  have HS := Lib.hid hs
  clear hA hv hs
  by_cases h20 : 20 < l.length
  · have HR := Lib.hid (checkC_full h20)
    have d1 : decide ((20 : Int) < (l.length : Int)) = true := decide_eq_true (by omega)
    go_enter Try.func18, Try.ntmps18
    go_wp2_with fail
    go_ret
    exact ⟨ret_i HR.out.symm, Below.refl _ _⟩
  · have d1 : decide ((20 : Int) < (l.length : Int)) = false := decide_eq_false (by omega)
    have HARG := Lib.hid (fun h => checkC_arg h20 h)
    have HTHERE := Lib.hid (fun h h2 => checkC_there h20 h h2)
    have HOK := Lib.hid (fun h h2 => checkC_ok h20 h h2)
    go_enter Try.func18, Try.ntmps18
    go_wp2_with fail
    go_loopw [3] (fun i wr => ∃ k : Nat, i = .int .i64 k ∧ k ≤ l.length ∧ Hid (MayTo l k ∧ Below w.heap.size w wr)) (fun i _ => l.length - (intOf i).toNat)
    case atStart => exact ⟨0, rfl, Nat.zero_le _, fun i hi => absurd hi (Nat.not_lt_zero _), Below.refl _ _⟩
    case round =>
      obtain ⟨k, rfl, hk, HL⟩ := hrel
      obtain ⟨hm, hbl⟩ := HL.out
      have HBL := Lib.hid hbl
      by_cases hlt : k < l.length
      · obtain ⟨ad, rfl, ⟨p, p0, p1, p2, p3, p4⟩⟩ := cls_nth HA.out hbl hlt
        have CM := Lib.hid (fun W => may9 (nthC l k) W (HS.out.at hlt))
        have HNO := Lib.hid (fun h => HARG.out (all_no hlt h))
        have HNX := Lib.hid (fun h => hm.next h)
        have hlt2 : (k : Int) < (l.length : Int) := by omega
        have i0 : (0 : Int) ≤ (k : Int) := Int.natCast_nonneg _
        clear hm hbl HL HTHERE HOK
        unfold clV at CM
        generalize nthC l k = x at *
        cases hb : mayC x with
        | false =>
          rw [hb] at CM
          have HR := Lib.hid (HNO.out hb)
          clear hb HNO HNX
          go_wp2_with fail
          refine (CM.out _).mono ?_
          rintro e w1 ⟨rfl, hb1⟩
          have HB1 := Lib.hid (HBL.out.trans (hb1.mono HBL.out.size))
          clear hb1
          go_wp2_with fail
          go_ret
          exact ⟨ret_i HR.out.symm, HB1.out⟩
        | true =>
          rw [hb] at CM
          have HR := Lib.hid (HNX.out hb)
          clear hb HNO HNX
          go_wp2_with fail
          refine (CM.out _).mono ?_
          rintro e w1 ⟨rfl, hb1⟩
          have HB1 := Lib.hid (HBL.out.trans (hb1.mono HBL.out.size))
          clear hb1
          go_wp2_with fail
          exact ⟨⟨k + 1, by go_num, by omega, HR.out, HB1.out⟩, by simp [intOf] <;> omega⟩
      · have HALL := Lib.hid (hm.all (by omega))
        clear hm hbl HL HARG
        go_wp2_with fail
        go_loopw [4] (fun i wq => ∃ k : Nat, i = .int .i64 k ∧ k ≤ l.length ∧ Hid (apartTo l k = true ∧ Below w.heap.size w wq)) (fun i _ => l.length - (intOf i).toNat)
        case atStart => exact ⟨0, rfl, Nat.zero_le _, rfl, HBL.out⟩
        case round =>
          obtain ⟨k, rfl, hk, HL⟩ := hrel
          obtain ⟨hap, hbl⟩ := HL.out
          have HAP := Lib.hid hap
          have HBQ := Lib.hid hbl
          by_cases hlt : k < l.length
          · clear hap hbl HL
            go_wp2_with fail
            go_loopw [5] (fun j wi => ∃ m : Nat, j = .int .i64 m ∧ m ≤ k ∧ Hid (apartAt l k m = true ∧ Below w.heap.size w wi)) (fun j _ => k - (intOf j).toNat)
            case atStart => exact ⟨0, rfl, Nat.zero_le _, rfl, HBQ.out⟩
            case round =>
              obtain ⟨m, rfl, hmk, HI⟩ := hrel
              obtain ⟨haa, hbi⟩ := HI.out
              have HAA := Lib.hid haa
              have HBI := Lib.hid hbi
              by_cases hml : m < k
              · obtain ⟨ad, rfl, ⟨p, p0, p1, p2, p3, p4⟩⟩ := cls_nth HA.out hbi hlt
                obtain ⟨ad2, ead, ⟨q, q0, q1, q2, q3, q4⟩⟩ := cls_nth HA.out hbi (show m < l.length by omega)
                injection ead with ead
                subst ead
                have CM := Lib.hid (fun W => meet9 (nthC l k) (nthC l m) W (HS.out.at hlt) (HS.out.at (show m < l.length by omega)))
                have hways := pair_ways l (i := k) (k := m)
                have HNO := Lib.hid (fun h => HTHERE.out HALL.out (apartTo_no hlt (apartAt_no hml h)))
                have HNX : Hid (clash (nthC l k) (nthC l m) = false → apartAt l k (m + 1) = true) := fun h => by rw [apartAt_next, HAA.out, h]; rfl
                have i0 : (0 : Int) ≤ (k : Int) := Int.natCast_nonneg _
                have i1 : (k : Int) < (l.length : Int) := by omega
                have i2 : (0 : Int) ≤ (m : Int) := Int.natCast_nonneg _
                have i3 : (m : Int) < (l.length : Int) := by omega
                have i4 : (m : Int) < (k : Int) := by omega
                have P0 := calm_cell p p0
                have P1 := calm_cell (a := ⟨_, _, none⟩) p p1
                have P2 := calm_cell (a := ⟨_, _, none⟩) p p2
                have P3 := calm_cell (a := ⟨_, _, none⟩) p p3
                have P4 := calm_cell (a := ⟨_, _, none⟩) p p4
                have Q0 := calm_cell q q0
                have Q1 := calm_cell (a := ⟨_, _, none⟩) q q1
                have Q2 := calm_cell (a := ⟨_, _, none⟩) q q2
                have Q3 := calm_cell (a := ⟨_, _, none⟩) q q3
                have Q4 := calm_cell (a := ⟨_, _, none⟩) q q4
                clear haa hbi HI HAA p p0 p1 p2 p3 p4 q q0 q1 q2 q3 q4
                unfold clV at CM
                generalize nthC l k = x at *
                generalize nthC l m = y at *
                rcases hways with ⟨h1, HR⟩ | ⟨h1, h2, HR⟩ | ⟨h1, h2, HR⟩
                · have HE := Lib.hid (HNO.out HR.out)
                  clear HNO HNX HR CM
                  go_wp2_with fail
                  refine wp_region_calm (by kernel_rfl) (by kernel_rfl) ?_
                  repeat (first | go_big_quiet_step (fail) | quiet_step (fail))
                  refine wpQuiet_nil ?_
                  intro w1 hw
                  have hb1 := lull_below hw
                  clear hw
                  have HB1 := Lib.hid (HBI.out.trans (hb1.mono HBI.out.size))
                  clear hb1 P0 P1 P2 P3 P4 Q0 Q1 Q2 Q3 Q4
                  go_wp2_with fail
                  go_ret
                  exact ⟨ret_i HE.out.symm, HB1.out⟩
                · have HE := Lib.hid (HNO.out HR.out)
                  rw [h2] at CM
                  clear HNO HNX HR h2
                  go_wp2_with fail
                  refine wp_region_calm (by kernel_rfl) (by kernel_rfl) ?_
                  repeat (first | go_big_quiet_step ((go_at_call 36; exact calm_of (v := .bool true) (CM.out _))) | quiet_step ((go_at_call 36; exact calm_of (v := .bool true) (CM.out _))))
                  refine wpQuiet_nil ?_
                  intro w1 hw
                  have hb1 := lull_below hw
                  clear hw
                  have HB1 := Lib.hid (HBI.out.trans (hb1.mono HBI.out.size))
                  clear hb1 P0 P1 P2 P3 P4 Q0 Q1 Q2 Q3 Q4
                  go_wp2_with fail
                  go_ret
                  exact ⟨ret_i HE.out.symm, HB1.out⟩
                · have HE := Lib.hid (HNX.out HR.out)
                  rw [h2] at CM
                  clear HNO HNX HR h2
                  go_wp2_with fail
                  refine wp_region_calm (by kernel_rfl) (by kernel_rfl) ?_
                  repeat (first | go_big_quiet_step ((go_at_call 36; exact calm_of (v := .bool false) (CM.out _))) | quiet_step ((go_at_call 36; exact calm_of (v := .bool false) (CM.out _))))
                  refine wpQuiet_nil ?_
                  intro w1 hw
                  have hb1 := lull_below hw
                  clear hw
                  have HB1 := Lib.hid (HBI.out.trans (hb1.mono HBI.out.size))
                  clear hb1 P0 P1 P2 P3 P4 Q0 Q1 Q2 Q3 Q4
                  go_wp2_with fail
                  exact ⟨⟨m + 1, by go_num, by omega, HE.out, HB1.out⟩, by simp [intOf] <;> omega⟩
              · obtain rfl : m = k := by omega
                have HN : Hid (apartTo l (m + 1) = true) := by show _ = _; rw [apartTo_next, HAP.out, HAA.out]; rfl
                clear haa hbi HI
                go_wp2_with fail
                exact ⟨⟨m + 1, by go_num, by omega, HN.out, HBI.out⟩, by simp [intOf] <;> omega⟩
          · obtain rfl : k = l.length := by omega
            have HE := Lib.hid (HOK.out HALL.out hap)
            clear hap hbl HL
            go_wp2_with fail
            go_ret
            exact ⟨ret_i HE.out.symm, HBQ.out⟩
set_option maxRecDepth 100000 in
set_option maxHeartbeats 1600000 in
theorem of9 (l : List Cl) (wd e : Int) (v : Value) (w : World) (hv : clL.Is l w v) (hs : Short l) (hl : l.length ≤ 1000) : Calls Try.prog 12 #[v, .int .i64 wd, .int .i64 e] w (IntC (ofC l wd e) w) := by
  obtain ⟨A, c, rfl, hn, hA⟩ := cls_open hv
  have HA := Lib.hid hA
  have HS := Lib.hid hs
  clear hA hv hs
  unfold ofC
  go_enter Try.func12, Try.ntmps12
  go_wp2_with fail
  go_loopw [7] (fun i wr => ∃ k : Nat, i = .int .i64 k ∧ k ≤ l.length ∧ Hid (ofFrom l wd e 0 = ofFrom l wd e k ∧ Below w.heap.size w wr)) (fun i _ => l.length - (intOf i).toNat)
  case atStart => exact ⟨0, rfl, Nat.zero_le _, rfl, Below.refl _ _⟩
  case round =>
    obtain ⟨k, rfl, hk, HL⟩ := hrel
    obtain ⟨ho, hbl⟩ := HL.out
    have HBL := Lib.hid hbl
    by_cases hlt : k < l.length
    · obtain ⟨ad, rfl, ⟨p, p0, p1, p2, p3, p4⟩⟩ := cls_nth HA.out hbl hlt
      have CM := Lib.hid (fun W => has9 (nthC l k) wd e W (HS.out.at hlt))
      have HYES := Lib.hid (fun h => ho.trans (of_yes hlt h))
      have HNX := Lib.hid (fun h => ho.trans (of_next hlt h))
      have hlt2 : (k : Int) < (l.length : Int) := by omega
      have i0 : (0 : Int) ≤ (k : Int) := Int.natCast_nonneg _
      clear ho hbl HL
      unfold clV at CM
      generalize nthC l k = x at *
      cases hb : hasC x wd e with
      | true =>
        rw [hb] at CM
        have HR := Lib.hid (HYES.out hb)
        clear hb HYES HNX
        go_wp2_with fail
        refine (CM.out _).mono ?_
        rintro e1 w1 ⟨rfl, hb1⟩
        have HB1 := Lib.hid (HBL.out.trans (hb1.mono HBL.out.size))
        clear hb1
        go_wp2_with fail
        go_ret
        exact ⟨ret_i HR.out.symm, HB1.out⟩
      | false =>
        rw [hb] at CM
        have HR := Lib.hid (HNX.out hb)
        clear hb HYES HNX
        go_wp2_with fail
        refine (CM.out _).mono ?_
        rintro e1 w1 ⟨rfl, hb1⟩
        have HB1 := Lib.hid (HBL.out.trans (hb1.mono HBL.out.size))
        clear hb1
        go_wp2_with fail
        exact ⟨⟨k + 1, by go_num, by omega, HR.out, HB1.out⟩, by simp [intOf] <;> omega⟩
    · have HR := Lib.hid (ho.trans (of_end (by omega)))
      clear ho hbl HL
      go_wp2_with fail
      go_ret
      exact ⟨ret_i HR.out.symm, HBL.out⟩
end Go.Proofs.Ytophhiejggnaeaa.QueRef
namespace Go.Proofs.Ytophhiejggnaeaa.OrdTake
open Go.RowKit Go.Proofs.Ytophhiejggnaeaa.JobPlain Go.Proofs.Ytophhiejggnaeaa.OrdPlain Go.Proofs.Ytophhiejggnaeaa.Mem Go.Proofs.Ytophhiejggnaeaa.JobMem Go.Proofs.Ytophhiejggnaeaa.OrdMem
def nthJ (js : List Jb) (k : Nat) : Jb := js.getD k noJb
theorem nthJ_at {js : List Jb} {k : Nat} (h : k < js.length) : nthJ js k = js[k] := by unfold nthJ; simp [List.getD, h]
theorem jvals_take (js : List Jb) {k : Nat} (hk : k ≤ js.length) : (jvals js).take (k * 9) = jvals (js.take k) := by
  have h : jvals js = jvals (js.take k) ++ jvals (js.drop k) := by rw [← jvals_append, List.take_append_drop]
  rw [h]
  exact List.take_left' (by rw [jvals_len, List.length_take, Nat.min_eq_left hk])
theorem jobs_take {js : List Jb} {w : World} {ad : Addr} {d k : Nat} (h : JobsIs js w (.slice (some ad) js.length d)) (hk : k ≤ js.length) : JobsIs (js.take k) w (.slice (some ad) k d) := by
  rcases h with ⟨h, _⟩ | ⟨a, c, e, hr, hn⟩
  · cases h
  · injection e with e1 e2 e3
    injection e1 with e1
    subst e1 e3
    refine .inr ⟨ad, d, by rw [List.length_take, Nat.min_eq_left hk], ?_, by rw [List.length_take]; omega⟩
    rw [← jvals_take js hk]
    exact hr.take _
theorem find_less {l : List Jb} {id : Int} (h : findL l id < 0) : ∀ j ∈ l, j.id ≠ id := by
  unfold findL at h
  split at h
  · omega
  · rename_i he
    unfold findTo at he
    rw [List.findIdx?_eq_none_iff] at he
    intro j hj e
    have := he j hj
    simp [e] at this
/-- Of unlike Ids, up to a place. -/
def unlikeTo (js : List Jb) (k : Nat) : Bool := (List.range k).all fun i => decide (findL (js.take i) (nthJ js i).id < 0)
theorem unlike_next (js : List Jb) (k : Nat) : unlikeTo js (k + 1) = (unlikeTo js k && decide (findL (js.take k) (nthJ js k).id < 0)) := by unfold unlikeTo; rw [List.range_succ, List.all_append]; simp
theorem unlike_no {js : List Jb} {k n : Nat} (hk : k < n) (h : ¬ findL (js.take k) (nthJ js k).id < 0) : unlikeTo js n = false := by
  unfold unlikeTo
  rw [List.all_eq_false]
  exact ⟨k, List.mem_range.2 hk, by rw [decide_eq_false h]; decide⟩
theorem unlike_at {js : List Jb} {k n : Nat} (h : unlikeTo js n = true) (hk : k < n) : findL (js.take k) (nthJ js k).id < 0 := by
  unfold unlikeTo at h
  rw [List.all_eq_true] at h
  simpa using h k (List.mem_range.2 hk)
theorem nodup_of {js : List Jb} (h : ∀ k, k < js.length → findL (js.take k) (nthJ js k).id < 0) : (js.map (·.id)).Nodup := by
  rw [List.nodup_iff_pairwise_ne, List.pairwise_iff_getElem]
  intro i k hi hk hik
  rw [List.length_map] at hi hk
  rw [List.getElem_map, List.getElem_map]
  have h1 := find_less (h k hk) js[i] (by
    rw [List.mem_iff_getElem]
    exact ⟨i, by rw [List.length_take]; omega, by rw [List.getElem_take]⟩)
  rwa [nthJ_at hk] at h1
theorem unlike_nodup {js : List Jb} (h : unlikeTo js js.length = true) : (js.map (·.id)).Nodup := nodup_of fun _ hk => unlike_at h hk
theorem id_inj {js : List Jb} (hd : (js.map (·.id)).Nodup) {a b : Jb} (ha : a ∈ js) (hb : b ∈ js) (e : a.id = b.id) : a = b := by
  have hp := List.pairwise_iff_getElem.1 (List.nodup_iff_pairwise_ne.1 hd)
  obtain ⟨a1, ha1, rfl⟩ := List.mem_iff_getElem.1 ha
  obtain ⟨a2, ha2, rfl⟩ := List.mem_iff_getElem.1 hb
  rcases Nat.lt_trichotomy a1 a2 with g | g | g
  · exact absurd (by rw [List.getElem_map, List.getElem_map]; exact e) (hp a1 a2 (by simpa using ha1) (by simpa using ha2) g)
  · subst g; rfl
  · exact absurd (by rw [List.getElem_map, List.getElem_map]; exact e.symm) (hp a2 a1 (by simpa using ha2) (by simpa using ha1) g)
/-- Where a job of unlike ones stands. -/
theorem find_there {js : List Jb} (hd : (js.map (·.id)).Nodup) {j : Jb} (hj : j ∈ js) : ∃ k : Nat, k < js.length ∧ findL js j.id = k ∧ nthJ js k = j := by
  cases h : findTo js j.id with
  | none =>
    exfalso
    unfold findTo at h
    rw [List.findIdx?_eq_none_iff] at h
    have := h j hj
    simp at this
  | some k =>
    have hf : findL js j.id = k := by unfold findL; rw [h]
    unfold findTo at h
    rw [List.findIdx?_eq_some_iff_getElem] at h
    obtain ⟨hk, h1, _⟩ := h
    refine ⟨k, hk, hf, ?_⟩
    rw [nthJ_at hk]
    exact id_inj hd (List.getElem_mem hk) hj (by simpa using h1)
end Go.Proofs.Ytophhiejggnaeaa.OrdTake
namespace Go.Proofs.Ytophhiejggnaeaa.MulRef
open Go.RowKit Go.Proofs.Ytophhiejggnaeaa.SpanPlain Go.Proofs.Ytophhiejggnaeaa.StepPlain Go.Proofs.Ytophhiejggnaeaa.JobPlain Go.Proofs.Ytophhiejggnaeaa.OrdPlain Go.Proofs.Ytophhiejggnaeaa.ApiPlain Go.Proofs.Ytophhiejggnaeaa.QuePlain Go.Proofs.Ytophhiejggnaeaa.Mem Go.Proofs.Ytophhiejggnaeaa.SpanMem Go.Proofs.Ytophhiejggnaeaa.StepMem Go.Proofs.Ytophhiejggnaeaa.JobMem Go.Proofs.Ytophhiejggnaeaa.OrdMem Go.Proofs.Ytophhiejggnaeaa.ApiMem Go.Proofs.Ytophhiejggnaeaa.StepRef Go.Proofs.Ytophhiejggnaeaa.ShaRef Go.Proofs.Ytophhiejggnaeaa.SlaRef Go.Proofs.Ytophhiejggnaeaa.QueRef Go.Proofs.Ytophhiejggnaeaa.OrdTake
/-- Why there is no pass. -/
def c21 (s : List Sp) (now : Int) (js : List Jb) (cl : List Cl) : Int :=
  if c16 s now js.length ≠ 0 then c16 s now js.length else if checkC cl ≠ 0 then checkC cl else if unlikeTo js js.length = true then 0 else 1
theorem c21_first {s : List Sp} {now : Int} {js : List Jb} {cl : List Cl} (h : c16 s now js.length ≠ 0) : c21 s now js cl = c16 s now js.length := by unfold c21; rw [if_pos h]
theorem c21_second {s : List Sp} {now : Int} {js : List Jb} {cl : List Cl} (h : c16 s now js.length = 0) (h2 : checkC cl ≠ 0) : c21 s now js cl = checkC cl := by unfold c21; rw [if_neg (by omega), if_pos h2]
theorem c21_third {s : List Sp} {now : Int} {js : List Jb} {cl : List Cl} (h : c16 s now js.length = 0) (h2 : checkC cl = 0) (h3 : unlikeTo js js.length = false) : c21 s now js cl = 1 := by unfold c21; rw [if_neg (by omega), if_neg (by omega), if_neg (by rw [h3]; decide)]
theorem c21_ok {s : List Sp} {now : Int} {js : List Jb} {cl : List Cl} (h : c16 s now js.length = 0) (h2 : checkC cl = 0) (h3 : unlikeTo js js.length = true) : c21 s now js cl = 0 := by unfold c21; rw [if_neg (by omega), if_neg (by omega), if_pos h3]
theorem c21_zero {s : List Sp} {now : Int} {js : List Jb} {cl : List Cl} (h : c21 s now js cl = 0) : c16 s now js.length = 0 ∧ checkC cl = 0 ∧ unlikeTo js js.length = true := by
  by_cases h1 : c16 s now js.length = 0
  · by_cases h2 : checkC cl = 0
    · cases h3 : unlikeTo js js.length with
      | true => exact ⟨h1, h2, rfl⟩
      | false => rw [c21_third h1 h2 h3] at h; cases h
    · rw [c21_second h1 h2] at h; exact absurd h h2
  · rw [c21_first h1] at h; exact absurd h h1
def IntM (n : Int) (w : World) (e : Ending) (w' : World) : Prop := e = .returned (.int .i64 n) ∧ Below w.heap.size w w'
set_option maxRecDepth 100000 in
set_option maxHeartbeats 3200000 in
theorem check21 (s : List Sp) (now : Int) (js : List Jb) (cl : List Cl) (v u q : Value) (w : World) (hv : SpansIs s w v) (hl : s.length ≤ 9000) (hu : JobsIs js w u) (hq : clL.Is cl w q) (hs : Short cl) (hc : cl.length ≤ 1000) :
    Calls Try.prog 6 #[v, .int .i64 now, u, q] w (IntM (c21 s now js cl) w) := by
  have HU := Lib.hid hu
  have C1 : Hid (∀ W, Below w.heap.size w W → Calls Try.prog 17 #[v, .int .i64 now, u] W (IntN (c16 s now js.length) W)) := fun W hW => check16 s now js v u W (hv.below hW) hl (hu.below hW)
  have C2 : Hid (∀ W, Below w.heap.size w W → Calls Try.prog 18 #[q] W (IntC (checkC cl) W)) := fun W hW => check9 cl q W (hq.below hW) hs hc
  obtain ⟨A, a, rfl, _⟩ := hv.open_
  obtain ⟨B, b, rfl, _, hB⟩ := hu.open_
  have HB := Lib.hid hB
  obtain ⟨D, d, rfl, _, _⟩ := cls_open hq
  clear hv hu hq hs hB
  by_cases h1 : c16 s now js.length = 0
  · by_cases h2 : checkC cl = 0
    · have HNO := Lib.hid (fun h => c21_third (js := js) h1 h2 h)
      have HYES := Lib.hid (fun h => c21_ok (js := js) h1 h2 h)
      have hjs : js.length ≤ 100 := by
        unfold c16 at h1
        split at h1
        · split at h1 <;> omega
        · omega
      rw [h1] at C1
      rw [h2] at C2
      clear h1 h2
      go_enter Try.func6, Try.ntmps6
      go_wp2_with fail
      refine (C1.out _ (Below.refl _ _)).mono ?_
      rintro e w1 ⟨rfl, n1, rfl⟩
      have HB1 := Lib.hid (below_drewN (Below.refl w.heap.size w) n1)
      generalize w.drewN n1 = W1 at *
      go_wp2_with fail
      refine (C2.out _ HB1.out).mono ?_
      rintro e w2 ⟨rfl, hb2⟩
      have HB2 := Lib.hid (thenS HB1.out hb2)
      clear hb2 C1 C2 HB1
      go_wp2_with fail
      go_loopw [9] (fun i wr => ∃ k : Nat, i = .int .i64 k ∧ k ≤ js.length ∧ Hid (unlikeTo js k = true ∧ Below w.heap.size w wr)) (fun i _ => js.length - (intOf i).toNat)
      case atStart => exact ⟨0, rfl, Nat.zero_le _, rfl, HB2.out⟩
      case round =>
        obtain ⟨k, rfl, hk, HL⟩ := hrel
        have HBW := Lib.hid HL.out.2
        by_cases hlt : k < js.length
        · obtain ⟨ad, rfl, hat⟩ := HB.out k hlt
          rw [← nthJ_at hlt] at hat
          have HAT := Lib.hid (hat.below HBW.out)
          have CF := Lib.hid (fun (z : Lull wr) => OrdRef.find8 (js.take k) (nthJ js k).id _ z.u (jobs_take (HU.out.below (thenS HBW.out z.h)) hk) (by rw [List.length_take]; omega))
          have J0 : ∀ z : Lull wr, _ := fun z => (HAT.out.below z.h).c0
          have hlt2 : (k : Int) < (js.length : Int) := by omega
          have i0 : (0 : Int) ≤ (k : Int) := Int.natCast_nonneg _
          have i1 : k ≤ b := by
            rcases HU.out with ⟨h, _⟩ | ⟨a9, c9, h, _, h9⟩
            · cases h
            · injection h with _ _ h; omega
          have i2 : k ≤ js.length := by omega
          have HNX : Hid (findL (js.take k) (nthJ js k).id < 0 → unlikeTo js (k + 1) = true) := fun h => by rw [unlike_next, HL.out.1, decide_eq_true h]; rfl
          have HN := Lib.hid (fun h => HNO.out (unlike_no hlt h))
          clear hat
          generalize nthJ js k = j at *
          generalize findL (js.take k) j.id = F at *
          by_cases hF : 0 ≤ F
          · have d1 := decide_eq_true hF
            have HE := Lib.hid (HN.out (by omega))
            go_upto_region 8 with fail
            refine wp_region_calm (by kernel_rfl) (by kernel_rfl) ?_
            repeat (first | go_big_quiet_step ((go_at_call 9; exact calm_same (CF.out _))) | quiet_step ((go_at_call 9; exact calm_same (CF.out _))))
            refine wpQuiet_nil ?_
            intro w5 hw5
            have HB5 := Lib.hid (thenS HBW.out (lull_below hw5))
            clear hw5 J0 CF
            go_wp2_with fail
            go_ret
            exact ⟨by rw [HE.out]; rfl, HB5.out⟩
          · have d1 := decide_eq_false hF
            have HE := Lib.hid (HNX.out (by omega))
            go_upto_region 8 with fail
            refine wp_region_calm (by kernel_rfl) (by kernel_rfl) ?_
            repeat (first | go_big_quiet_step ((go_at_call 9; exact calm_same (CF.out _))) | quiet_step ((go_at_call 9; exact calm_same (CF.out _))))
            refine wpQuiet_nil ?_
            intro w5 hw5
            have HB5 := Lib.hid (thenS HBW.out (lull_below hw5))
            clear hw5 J0 CF
            go_wp2_with fail
            exact ⟨⟨k + 1, by go_num, by omega, HE.out, HB5.out⟩, by simp [intOf] <;> omega⟩
        · obtain rfl : k = js.length := by omega
          have HE := Lib.hid (HYES.out HL.out.1)
          go_wp2_with fail
          go_ret
          exact ⟨by rw [HE.out]; rfl, HBW.out⟩
    · have H := Lib.hid (c21_second (js := js) h1 h2)
      have g : (checkC cl != 0) = true := by simpa using h2
      rw [h1] at C1
      clear h1 h2
      generalize checkC cl = C at *
      go_enter Try.func6, Try.ntmps6
      go_wp2_with fail
      refine (C1.out _ (Below.refl _ _)).mono ?_
      rintro e w1 ⟨rfl, n1, rfl⟩
      have HB1 := Lib.hid (below_drewN (Below.refl w.heap.size w) n1)
      generalize w.drewN n1 = W1 at *
      go_wp2_with fail
      refine (C2.out _ HB1.out).mono ?_
      rintro e w2 ⟨rfl, hb2⟩
      have HB2 := Lib.hid (thenS HB1.out hb2)
      clear hb2
      go_wp2_with fail
      refine (C2.out _ HB2.out).mono ?_
      rintro e w3 ⟨rfl, hb3⟩
      have HB3 := Lib.hid (thenS HB2.out hb3)
      clear hb3
      go_wp2_with fail
      go_ret
      exact ⟨by rw [H.out]; rfl, HB3.out⟩
  · have H := Lib.hid (c21_first (cl := cl) h1)
    have g : (c16 s now js.length != 0) = true := by simpa using h1
    clear h1 C2
    generalize c16 s now js.length = C at *
    go_enter Try.func6, Try.ntmps6
    go_wp2_with fail
    refine (C1.out _ (Below.refl _ _)).mono ?_
    rintro e w1 ⟨rfl, n1, rfl⟩
    have HB1 := Lib.hid (below_drewN (Below.refl w.heap.size w) n1)
    generalize w.drewN n1 = W1 at *
    go_wp2_with fail
    refine (C1.out _ HB1.out).mono ?_
    rintro e w2 ⟨rfl, n2, rfl⟩
    have HB2 := Lib.hid (below_drewN HB1.out n2)
    go_wp2_with fail
    go_ret
    exact ⟨by rw [H.out]; rfl, HB2.out⟩
end Go.Proofs.Ytophhiejggnaeaa.MulRef
namespace Go.Proofs.Ytophhiejggnaeaa.QueLight
open Go.Proofs.Ytophhiejggnaeaa.ApiPlain Go.Proofs.Ytophhiejggnaeaa.QuePlain
def LightTo (l : List Cl) (k : Nat) : Prop := ∀ i, i < k → i < l.length → (nthC l i).name.size ≤ 100
def lightB (l : List Cl) : Bool := decide (l.length ≤ 30) && l.all fun c => decide (c.name.size ≤ 100)
theorem light_long {l : List Cl} (h : ¬ l.length ≤ 30) : lightB l = false := by unfold lightB; rw [decide_eq_false h]; rfl
theorem light_no {l : List Cl} {k : Nat} (hk : k < l.length) (h : ¬ (nthC l k).name.size ≤ 100) : lightB l = false := by
  unfold lightB
  have : (l.all fun c => decide (c.name.size ≤ 100)) = false := by
    rw [List.all_eq_false]
    exact ⟨nthC l k, by rw [nthC_at hk]; exact List.getElem_mem hk, by rw [decide_eq_false h]; decide⟩
  rw [this, Bool.and_false]
theorem light_yes {l : List Cl} {k : Nat} (h1 : l.length ≤ 30) (hk : l.length ≤ k) (h : LightTo l k) : lightB l = true := by
  unfold lightB
  rw [decide_eq_true h1, Bool.true_and, List.all_eq_true]
  intro c hc
  obtain ⟨i, hi, rfl⟩ := List.mem_iff_getElem.1 hc
  rw [← nthC_at hi]
  exact decide_eq_true (h i (by omega) hi)
theorem light_len {l : List Cl} (h : lightB l = true) : l.length ≤ 30 := by
  unfold lightB at h
  rw [Bool.and_eq_true, decide_eq_true_eq] at h
  exact h.1
end Go.Proofs.Ytophhiejggnaeaa.QueLight
namespace Go.Proofs.Ytophhiejggnaeaa.MulWalk
open Go.RowKit Go.Proofs.Ytophhiejggnaeaa.SpanPlain Go.Proofs.Ytophhiejggnaeaa.StepPlain Go.Proofs.Ytophhiejggnaeaa.JobPlain Go.Proofs.Ytophhiejggnaeaa.OrdPlain Go.Proofs.Ytophhiejggnaeaa.ApiPlain Go.Proofs.Ytophhiejggnaeaa.QuePlain Go.Proofs.Ytophhiejggnaeaa.TogPlain Go.Proofs.Ytophhiejggnaeaa.PasPlain Go.Proofs.Ytophhiejggnaeaa.MulPlain Go.Proofs.Ytophhiejggnaeaa.Mem Go.Proofs.Ytophhiejggnaeaa.SpanMem Go.Proofs.Ytophhiejggnaeaa.StepMem Go.Proofs.Ytophhiejggnaeaa.JobMem Go.Proofs.Ytophhiejggnaeaa.OrdMem Go.Proofs.Ytophhiejggnaeaa.ApiMem Go.Proofs.Ytophhiejggnaeaa.StepRef Go.Proofs.Ytophhiejggnaeaa.ShaRef Go.Proofs.Ytophhiejggnaeaa.SlaRef Go.Proofs.Ytophhiejggnaeaa.QueRef Go.Proofs.Ytophhiejggnaeaa.OrdTake Go.Proofs.Ytophhiejggnaeaa.MulRef Go.Proofs.Ytophhiejggnaeaa.QueLight
def TrueIs (w : World) (e : Ending) (w' : World) : Prop := e = .returned (.bool true) ∧ Below w.heap.size w w'
/-- Rows of Bools. -/
def boolL : Lay Bool := ⟨1, fun x => [.bool x], fun _ => rfl, fun _ u hu => by simp at hu; subst hu; rfl, by decide⟩
/-- A plan that is told: with no error the pass's, else none. -/
def PlanSays (code : Int) (x : Pas) (w : World) (e : Ending) (w' : World) : Prop :=
  ∃ a b c st P t, e = .returned (.tuple #[.agg #[a, b], c, .int .i64 code]) ∧ IntsAt st w' a ∧ prmL.Is P w' b ∧ SpansIs t w' c ∧ ((code = 0 ∧ st = x.st ∧ P = x.P ∧ t = x.s) ∨ (code ≠ 0 ∧ st = [] ∧ P = [] ∧ t = [])) ∧ Below w.heap.size w w'
def HeadsSays (code : Int) (l : List Int) (w : World) (e : Ending) (w' : World) : Prop :=
  ∃ a h, e = .returned (.tuple #[a, .int .i64 code]) ∧ IntsAt h w' a ∧ ((code = 0 ∧ h = l) ∨ (code ≠ 0 ∧ h = [])) ∧ Below w.heap.size w w'
def exS : List Sp := [(0, 1), (9, 8)]
def exA : Cl := ⟨⟨#[97]⟩, 1, 4, 1, 99⟩
def exB : Cl := ⟨⟨#[98]⟩, 5, 8, 1, 99⟩
def exCl : List Cl := [exA, exB]
def exJs : List Jb := [⟨1, ⟨#[]⟩, 6, 2, 0, 0, 0, 0, 0⟩, ⟨2, ⟨#[]⟩, 3, 5, 0, 0, 0, 0, 0⟩, ⟨3, ⟨#[]⟩, 1, 5, 0, 0, 0, 0, 0⟩]
theorem ex_c16 : c16 exS 0 3 = 0 := by decide
theorem may_a : mayC exA = true := (mayC_iff _).2 ⟨by rfl, by decide, by decide, by decide, by decide, by decide, by decide⟩
theorem may_b : mayC exB = true := (mayC_iff _).2 ⟨by rfl, by decide, by decide, by decide, by decide, by decide, by decide⟩
theorem not_meet : meetC exB exA = false := by
  unfold meetC
  have h : hasC exA (max exB.minW exA.minW) (max exB.minE exA.minE) = false := by
    cases hb : hasC exA (max exB.minW exA.minW) (max exB.minE exA.minE) with
    | false => rfl
    | true =>
      have := ((hasC_iff _ _ _).1 hb).2.2.1
      exact absurd this (by decide)
  rw [h, Bool.and_false]
theorem ex_names : ((⟨#[98]⟩ : ByteArray).toList == (⟨#[97]⟩ : ByteArray).toList) = false := by rw [ByteArray.toList_eq, ByteArray.toList_eq]; rfl
theorem ex_check : checkC exCl = 0 := by
  refine checkC_ok (by decide) (by unfold exCl; simp [may_a, may_b]) ?_
  have h : clash exB exA = false := by unfold clash; rw [not_meet]; exact (Bool.or_false _).trans ex_names
  unfold apartTo apartAt exCl
  show ((List.range 2).all fun i => (List.range i).all fun j => !clash (nthC [exA, exB] i) (nthC [exA, exB] j)) = true
  simp [List.range, List.range.loop, nthC, h]
theorem ex_unlike : unlikeTo exJs 3 = true := by decide
theorem ex_c21 : c21 exS 0 exJs exCl = 0 := c21_ok ex_c16 ex_check ex_unlike
theorem ex_st : (mulP exCl [] exS 0 exJs).st = [3] := by rfl
theorem ex_P : (mulP exCl [] exS 0 exJs).P = [⟨2, 9, 0⟩, ⟨1, 14, 0⟩] := by rfl
theorem ex_heads : headsP exCl exS 0 exJs = [2, 1] := by rfl
theorem ex_short : Short exCl := fun c hc => by
  simp [exCl, exA, exB] at hc
  rcases hc with rfl | rfl <;> exact ⟨by decide, by decide, by decide, by decide, by decide⟩
end Go.Proofs.Ytophhiejggnaeaa.MulWalk
