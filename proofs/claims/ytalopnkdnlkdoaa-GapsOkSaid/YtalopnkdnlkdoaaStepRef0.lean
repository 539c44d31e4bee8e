/-
  Words for the walks of the document's answers for layer 4; of which function soever.
-/
import Derived.Test.YtalopnkdnlkdoaaStepMem
import Derived.Test.YtalopnkdnlkdoaaSpanRef0
namespace Go.Proofs.Ytalopnkdnlkdoaa.StepRef
open Go.RowKit Go.Proofs.Ytalopnkdnlkdoaa.SpanPlain Go.Proofs.Ytalopnkdnlkdoaa.StepPlain Go.Proofs.Ytalopnkdnlkdoaa.Mem Go.Proofs.Ytalopnkdnlkdoaa.SpanMem Go.Proofs.Ytalopnkdnlkdoaa.StepMem Go.Proofs.Ytalopnkdnlkdoaa.SpanRef
theorem below_alloc (w : World) (o : Obj) : Below w.heap.size w (w.alloc o) := (Below.refl _ _).alloc (Nat.le_refl _) o
theorem by_ways (b : By) : (mayB (b.1, b.2.1) = false ∧ byB b = false) ∨ (mayB (b.1, b.2.1) = true ∧ decide (1 ≤ b.2.2) = false ∧ byB b = false) ∨
    (mayB (b.1, b.2.1) = true ∧ decide (1 ≤ b.2.2) = true ∧ decide (b.2.2 ≤ 256) = false ∧ byB b = false) ∨ (mayB (b.1, b.2.1) = true ∧ decide (1 ≤ b.2.2) = true ∧ decide (b.2.2 ≤ 256) = true ∧ byB b = true) := by
  unfold byB
  cases mayB (b.1, b.2.1) <;> cases decide (1 ≤ b.2.2) <;> cases decide (b.2.2 ≤ 256) <;> simp
def IntQ (n : Int) (w : World) (e : Ending) (w' : World) : Prop := e = .returned (.int .i64 n) ∧ w = w'
theorem free_take {l : List By} {k : Nat} (hk : k < l.length) (p t : Int) : freeL p (l.take (k + 1)) t = if (byCell l k).1 ≤ t ∧ t < (byCell l k).2.1 then freeL p (l.take k) t - (byCell l k).2.2 else freeL p (l.take k) t := by
  rw [List.take_succ_eq_append_getElem hk, free_snoc, by_at hk]
theorem free_bounds {l : List By} (h : ∀ b ∈ l, -256 ≤ b.2.2 ∧ b.2.2 ≤ 256) (p t : Int) (k : Nat) : p - 256 * k ≤ freeL p (l.take k) t ∧ freeL p (l.take k) t ≤ p + 256 * k := by
  have h' : ∀ b ∈ l.take k, -256 ≤ b.2.2 ∧ b.2.2 ≤ 256 := fun b hb => h b (List.mem_of_mem_take hb)
  have h1 := free_range h' t p
  rw [List.length_take] at h1
  omega
theorem by_bounds {l : List By} (h : ∀ b ∈ l, -256 ≤ b.2.2 ∧ b.2.2 ≤ 256) {k : Nat} (hk : k < l.length) : -256 ≤ (byCell l k).2.2 ∧ (byCell l k).2.2 ≤ 256 := h (byCell l k) (by rw [by_at hk]; exact List.getElem_mem hk)
theorem by_wide {b : By} (h : byB b = true) : -256 ≤ b.2.2 ∧ b.2.2 ≤ 256 := by
  unfold byB at h
  simp only [Bool.and_eq_true, decide_eq_true_eq] at h
  omega
/-- How the loop of Turns over the busy times stands. -/
def TurnA (l : List By) (w wr : World) (v : Value) (k : Nat) : Prop := OwnR 36 2 w.heap.size wr v k (svals (busySp (l.take k))) ∧ Below w.heap.size w wr
def TurnB (t : Int) (e : List Int) (w wr : World) (v : Value) (k : Nat) : Prop :=
  OwnR 3 1 w.heap.size wr v (t :: (e.take k).filter fun x => decide (t < x)).length (ivals (t :: (e.take k).filter fun x => decide (t < x))) ∧ Below w.heap.size w wr
theorem busy_take {l : List By} {k : Nat} (hk : k < l.length) : svals (busySp (l.take (k + 1))) = svals (busySp (l.take k)) ++ [.int .i64 (byCell l k).1, .int .i64 (byCell l k).2.1] := by
  rw [List.take_succ_eq_append_getElem hk, by_at hk]
  unfold busySp
  rw [List.map_append, svals_append]
  rfl
theorem filter_take {e : List Int} {k : Nat} (hk : k < e.length) (t : Int) : ((e.take (k + 1)).filter fun x => decide (t < x)) = ((e.take k).filter fun x => decide (t < x)) ++ if t < e.getD k 0 then [e.getD k 0] else [] := by
  rw [List.take_succ_eq_append_getElem hk, List.filter_append, getD_el hk, List.filter_cons, List.filter_nil]
  by_cases h : t < e[k] <;> simp [h]
def TurnsIs (t : Int) (l : List By) (w : World) (e : Ending) (w' : World) : Prop := ∃ v, e = .returned v ∧ IntsIs (turnsL t l) w' v ∧ Below w.heap.size w w'
theorem filter_len (e : List Int) (k : Nat) (t : Int) : ((e.take k).filter fun x => decide (t < x)).length ≤ e.length := by
  have h1 := List.length_filter_le (fun x => decide (t < x)) (e.take k)
  rw [List.length_take] at h1
  omega
theorem trip_held {w w' : World} {a : Addr} {k : Nat} {u v : Value} (hb : Below w.heap.size w w') (h1 : w.cell? (a.add k) = some u) (h2 : w.cell? ⟨(a.add k).block, (a.add k).off + 1, none⟩ = some v) (hl : a.block < w.heap.size) :
    w'.cell? (a.add k) = some u ∧ w'.cell? ⟨(a.add k).block, (a.add k).off + 1, none⟩ = some v := by
  obtain ⟨a1, a2, a3⟩ := pair_below hb hl h1 h2
  exact ⟨a2, a3⟩
theorem val_take {s : List Sp} {k : Nat} (hk : k < s.length) (t : Int) : val (s.take (k + 1)) t = if (s.getD k (0, 0)).1 ≤ t then (s.getD k (0, 0)).2 else val (s.take k) t := by
  rw [List.take_succ_eq_append_getElem hk, val_snoc, getSp hk]
def BoolD (b : Bool) (w : World) (e : Ending) (w' : World) : Prop := e = .returned (.bool b) ∧ ∃ n, w' = w.drewN n
theorem pair_zero {w : World} {A : Option Addr} {n : Nat} {f : Nat → Value × Value} (h : Pairs w A n f) (hn : 0 < n) : ∃ ad, A = some ad ∧ ad.block < w.heap.size ∧ w.cell? ad = some (f 0).1 ∧ w.cell? ⟨ad.block, ad.off + 1, none⟩ = some (f 0).2 := by
  obtain ⟨ad, rfl, had, c1, c2⟩ := h 0 hn
  have e : ad.add (0 * 2) = ad := by unfold Addr.add; simp
  rw [e] at c1 c2
  exact ⟨ad, rfl, had, c1, c2⟩
def IntB (n : Int) (w : World) (e : Ending) (w' : World) : Prop := e = .returned (.int .i64 n) ∧ Below w.heap.size w w'
theorem busy_len (l : List By) (k : Nat) : (busySp (l.take k)).length ≤ l.length := by unfold busySp; rw [List.length_map, List.length_take]; omega
theorem busy_at {l : List By} (h : (busySp l).length = l.length → True) : (busySp l).length = l.length := by unfold busySp; rw [List.length_map]
theorem build_take (P : Int → Int) {e : List Int} {k : Nat} (hk : k < e.length) : buildL P (e.take (k + 1)) = addStep P (buildL P (e.take k)) (e.getD k 0) := by
  rw [List.take_succ_eq_append_getElem hk, build_snoc, getD_el hk]
theorem take_all {P : Int → Prop} {e : List Int} {k : Nat} (hk : k < e.length) (h : ∀ x ∈ e.take k, P x) (hx : P (e.getD k 0)) : ∀ x ∈ e.take (k + 1), P x := by
  intro x hm
  rw [List.take_succ_eq_append_getElem hk, List.mem_append] at hm
  rcases hm with hm | hm
  · exact h x hm
  · simp at hm; subst hm; rwa [← getD_el hk]
theorem turns_len {t : Int} {l : List By} (hl : l.length ≤ 310) : (turnsL t l).length ≤ 621 := by
  have h1 := (ends_spec (busySp l)).2.2
  rw [busy_at (fun _ => trivial)] at h1
  have h2 := List.length_filter_le (fun e => decide (t < e)) (endsL (busySp l))
  unfold turnsL
  rw [List.length_cons]
  omega
theorem build_take_len (P : Int → Int) (e : List Int) (k : Nat) : (buildL P (e.take k)).length ≤ k := by
  have := build_len P (e.take k)
  rw [List.length_take] at this
  omega
theorem some_bad {l : List By} {k : Nat} (hk : k < l.length) (h : byB (byCell l k) = false) : ∃ b ∈ l, byB b = false := ⟨_, by rw [by_at hk]; exact List.getElem_mem hk, h⟩
theorem all_next {l : List By} {k : Nat} (hk : k < l.length) (h : ∀ b ∈ l.take k, byB b = true) (hx : byB (byCell l k) = true) : ∀ b ∈ l.take (k + 1), byB b = true := by
  intro b hm
  rw [List.take_succ_eq_append_getElem hk, List.mem_append] at hm
  rcases hm with hm | hm
  · exact h b hm
  · simp at hm; subst hm; rwa [← by_at hk]
theorem add_len (s : List Sp) (x : Sp) : (addSpans s x).length = s.length + 1 := by unfold addSpans; rw [List.length_cons, List.length_map]
end Go.Proofs.Ytalopnkdnlkdoaa.StepRef
