/-
  The plain mathematics of layer 3, further: the ends of spans, rising; between two of them nothing changes; how many times a cover has.
-/
import Derived.Test.YtnjhboanhjjldaaSpanPlain
import Derived.Test.YtnjhboanhjjldaaUtil
namespace Go.Proofs.Ytnjhboanhjjldaa.SpanPlain

abbrev Rise (l : List Int) : Prop := l.Pairwise (· < ·)
/-- One behind the last of the first k that are less. -/
def atTo (l : List Int) (n : Int) : Nat → Nat
  | 0 => 0
  | k + 1 => if l.getD k 0 < n then k + 1 else atTo l n k
theorem atTo_le (l : List Int) (n : Int) (k : Nat) : atTo l n k ≤ k := by
  induction k with
  | zero => exact Nat.le_refl _
  | succ k ih => unfold atTo; split <;> omega
theorem atTo_spec (l : List Int) (n : Int) (k : Nat) : (atTo l n k = 0 ∨ l.getD (atTo l n k - 1) 0 < n) ∧ ∀ i, atTo l n k ≤ i → i < k → ¬ l.getD i 0 < n := by
  induction k with
  | zero => exact ⟨.inl rfl, fun i _ h => by omega⟩
  | succ k ih =>
    unfold atTo
    by_cases h : l.getD k 0 < n
    · rw [if_pos h]
      exact ⟨.inr (by simpa using h), fun i h1 h2 => by omega⟩
    · rw [if_neg h]
      refine ⟨ih.1, fun i h1 h2 => ?_⟩
      by_cases e : i = k
      · subst e; exact h
      · exact ih.2 i h1 (by omega)
def putL (l : List Int) (n : Int) : List Int := if n ∈ l then l else l.take (atTo l n l.length) ++ ([n] ++ l.drop (atTo l n l.length))
theorem putL_in {l : List Int} {n : Int} (h : n ∈ l) : putL l n = l := if_pos h
theorem putL_out {l : List Int} {n : Int} (h : n ∉ l) : putL l n = l.take (atTo l n l.length) ++ ([n] ++ l.drop (atTo l n l.length)) := if_neg h
theorem putL_len (l : List Int) (n : Int) : (putL l n).length ≤ l.length + 1 := by
  by_cases h : n ∈ l
  · rw [putL_in h]; omega
  · rw [putL_out h]
    have := atTo_le l n l.length
    simp
    omega
theorem getD_mem {l : List Int} {i : Nat} (h : i < l.length) : l.getD i 0 ∈ l := by
  have e : l.getD i 0 = l[i] := by simp [List.getD, h]
  rw [e]; exact List.getElem_mem h
theorem getD_el {l : List Int} {i : Nat} (h : i < l.length) : l.getD i 0 = l[i] := by simp [List.getD, h]
theorem Rise.le {l : List Int} (h : Rise l) {i j : Nat} (hij : i ≤ j) (hj : j < l.length) : l.getD i 0 ≤ l.getD j 0 := by
  by_cases e : i = j
  · subst e; exact Int.le_refl _
  · have := List.pairwise_iff_getElem.1 h i j (by omega) hj (by omega)
    rw [getD_el (by omega), getD_el hj]
    omega
theorem putL_spec {l : List Int} {n : Int} (h : Rise l) : Rise (putL l n) ∧ ∀ x, x ∈ putL l n ↔ x ∈ l ∨ x = n := by
  by_cases hn : n ∈ l
  · rw [putL_in hn]
    exact ⟨h, fun x => ⟨.inl, fun hx => hx.elim id fun e => by rw [e]; exact hn⟩⟩
  · rw [putL_out hn]
    have hk := atTo_le l n l.length
    obtain ⟨h1, h2⟩ := atTo_spec l n l.length
    generalize atTo l n l.length = k at *
    have hlo : ∀ x ∈ l.take k, x < n := fun x hx => by
      obtain ⟨i, hi, rfl⟩ := List.mem_take_iff_getElem.1 hx
      rcases h1 with h1 | h1
      · omega
      · have := h.le (i := i) (j := k - 1) (by omega) (by omega)
        rw [getD_el (by omega)] at this
        omega
    have hhi : ∀ x ∈ l.drop k, n < x := fun x hx => by
      obtain ⟨i, hi, rfl⟩ := List.mem_drop_iff_getElem.1 hx
      have h3 := h2 (i + k) (by omega) (by omega)
      rw [getD_el (by omega)] at h3
      have h4 : l[i + k] ≠ n := fun e => hn (by rw [← e]; exact List.getElem_mem _)
      have e : l[k + i] = l[i + k] := by congr 1; omega
      omega
    refine ⟨List.pairwise_append.2 ⟨h.sublist (List.take_sublist _ _), List.pairwise_cons.2 ⟨hhi, h.sublist (List.drop_sublist _ _)⟩, fun a ha b hb => ?_⟩, fun x => ?_⟩
    · have h3 := hlo a ha
      rcases List.mem_cons.1 hb with hb | hb
      · omega
      · have := hhi b hb; omega
    · rw [List.mem_append, List.mem_append, List.mem_singleton]
      constructor
      · rintro (hx | hx | hx)
        · exact .inl (List.mem_of_mem_take hx)
        · exact .inr hx
        · exact .inl (List.mem_of_mem_drop hx)
      · rintro (hx | hx)
        · rw [← List.take_append_drop k l] at hx
          rcases List.mem_append.1 hx with hx | hx
          · exact .inl hx
          · exact .inr (.inr hx)
        · exact .inr (.inl hx)

def endsStep (o : List Int) (s : Sp) : List Int := if mayB s then putL (putL o s.1) s.2 else o
def endsL (l : List Sp) : List Int := l.foldl endsStep []
theorem endsL_snoc (l : List Sp) (s : Sp) : endsL (l ++ [s]) = endsStep (endsL l) s := by unfold endsL; rw [List.foldl_append]; rfl
def EndsOf (l : List Sp) (o : List Int) : Prop := Rise o ∧ (∀ x, x ∈ o ↔ ∃ s ∈ l, May s ∧ (x = s.1 ∨ x = s.2)) ∧ o.length ≤ 2 * l.length
theorem endsStep_len (o : List Int) (s : Sp) : (endsStep o s).length ≤ o.length + 2 := by
  unfold endsStep
  split
  · have := putL_len (putL o s.1) s.2
    have := putL_len o s.1
    omega
  · omega
theorem ends_spec (l : List Sp) : EndsOf l (endsL l) := by
  refine Util.snoc_ind (p := fun l => EndsOf l (endsL l)) ⟨List.Pairwise.nil, fun x => by simp [endsL], by simp [endsL]⟩ (fun l s ih => ?_) l
  · show EndsOf (l ++ [s]) (endsL (l ++ [s]))
    rw [endsL_snoc]
    obtain ⟨h1, h2, h3⟩ := ih
    have h4 := endsStep_len (endsL l) s
    refine ⟨?_, ?_, by rw [List.length_append, List.length_singleton]; omega⟩
    · unfold endsStep
      split
      · exact (putL_spec (putL_spec h1).1).1
      · exact h1
    · intro x
      have key : x ∈ endsStep (endsL l) s ↔ x ∈ endsL l ∨ (May s ∧ (x = s.1 ∨ x = s.2)) := by
        unfold endsStep
        split
        · rename_i hm
          have hm' := (mayB_iff s).1 hm
          rw [(putL_spec (putL_spec h1).1).2, (putL_spec h1).2]
          constructor
          · rintro ((h | h) | h)
            · exact .inl h
            · exact .inr ⟨hm', .inl h⟩
            · exact .inr ⟨hm', .inr h⟩
          · rintro (h | ⟨_, h | h⟩)
            · exact .inl (.inl h)
            · exact .inl (.inr h)
            · exact .inr h
        · rename_i hm
          constructor
          · exact .inl
          · rintro (h | ⟨h, _⟩)
            · exact h
            · exact absurd ((mayB_iff s).2 h) hm
      rw [key, h2]
      constructor
      · rintro (⟨r, hr, h⟩ | h)
        · exact ⟨r, by simp [hr], h⟩
        · exact ⟨s, by simp, h⟩
      · rintro ⟨r, hr, h⟩
        rcases List.mem_append.1 hr with hr | hr
        · exact .inl ⟨r, hr, h⟩
        · simp at hr; subst hr; exact .inr h

theorem Rise.gap {e : List Int} (h : Rise e) {i : Nat} (hi : i + 1 < e.length) {x : Int} (hx : x ∈ e) : x ≤ e.getD i 0 ∨ e.getD (i + 1) 0 ≤ x := by
  obtain ⟨j, hj, rfl⟩ := List.mem_iff_getElem.1 hx
  rw [← getD_el hj]
  by_cases hji : j ≤ i
  · exact .inl (h.le hji (by omega))
  · exact .inr (h.le (by omega) hj)
/-- Between two ends that follow each other nothing changes. -/
theorem const_between {l : List Sp} {e : List Int} (hr : Rise e) (hin : ∀ s ∈ l, May s → s.1 ∈ e ∧ s.2 ∈ e) {i : Nat} (hi : i + 1 < e.length) {t : Int} (h1 : e.getD i 0 ≤ t) (h2 : t < e.getD (i + 1) 0) : anyB l t = anyB l (e.getD i 0) := by
  apply bool_ext
  rw [any_iff, any_iff]
  constructor
  · rintro ⟨s, hs, hm, h3, h4⟩
    have h5 := hr.gap hi (hin s hs hm).1
    exact ⟨s, hs, hm, by omega, by omega⟩
  · rintro ⟨s, hs, hm, h3, h4⟩
    have h5 := hr.gap hi (hin s hs hm).2
    exact ⟨s, hs, hm, by omega, by omega⟩
theorem none_ahead {l : List Sp} {e : List Int} (hr : Rise e) (hin : ∀ s ∈ l, May s → s.1 ∈ e ∧ s.2 ∈ e) (h0 : 0 < e.length) {t : Int} (h1 : t < e.getD 0 0) : anyB l t = false := by
  cases hb : anyB l t with
  | false => rfl
  | true =>
    exfalso
    obtain ⟨s, hs, hm, h3, h4⟩ := any_iff.1 hb
    obtain ⟨j, hj, he⟩ := List.mem_iff_getElem.1 (hin s hs hm).1
    have := hr.le (Nat.zero_le j) hj
    rw [getD_el hj, he] at this
    omega
theorem none_behind {l : List Sp} {e : List Int} (hr : Rise e) (hin : ∀ s ∈ l, May s → s.1 ∈ e ∧ s.2 ∈ e) {i : Nat} {t : Int} (h : e.length = 0 ∨ (i + 1 = e.length ∧ e.getD i 0 ≤ t)) : anyB l t = false := by
  cases hb : anyB l t with
  | false => rfl
  | true =>
    exfalso
    obtain ⟨s, hs, hm, h3, h4⟩ := any_iff.1 hb
    obtain ⟨j, hj, he⟩ := List.mem_iff_getElem.1 (hin s hs hm).2
    rcases h with h | ⟨h, h1⟩
    · omega
    · have := hr.le (show j ≤ i by omega) (by omega)
      rw [getD_el hj, he] at this
      omega

/-- The cover of what some spans have, and others have not. -/
def LessOf (l m c : List Sp) : Prop := Cov c ∧ ∀ t, anyB c t = (anyB l t && !anyB m t)
theorem LessOf.unique {l m c d : List Sp} (h : LessOf l m c) (g : LessOf l m d) : c = d := cov_unique h.1 g.1 fun t => by rw [h.2, g.2]

/-- Where the loop over the ends stands: up to the end at i. -/
def LessAt (l m : List Sp) (e : List Int) (i : Nat) (c : List Sp) : Prop :=
  (e.length = 0 ∧ c = []) ∨ (i < e.length ∧ CovTo c (e.getD i 0) (fun t => anyB l t && !anyB m t))
/-- What the loop leans on. -/
def EndsIn (l m : List Sp) (e : List Int) : Prop :=
  Rise e ∧ (∀ s ∈ l, May s → s.1 ∈ e ∧ s.2 ∈ e) ∧ (∀ s ∈ m, May s → s.1 ∈ e ∧ s.2 ∈ e) ∧ ∀ x ∈ e, 0 ≤ x ∧ x ≤ 4503599627370496
theorem ends_in {l m : List Sp} {e : List Int} (h : EndsOf (l ++ m) e) : EndsIn l m e := by
  obtain ⟨h1, h2, _⟩ := h
  refine ⟨h1, fun s hs hm => ⟨(h2 _).2 ⟨s, by simp [hs], hm, .inl rfl⟩, (h2 _).2 ⟨s, by simp [hs], hm, .inr rfl⟩⟩, fun s hs hm => ⟨(h2 _).2 ⟨s, by simp [hs], hm, .inl rfl⟩, (h2 _).2 ⟨s, by simp [hs], hm, .inr rfl⟩⟩, fun x hx => ?_⟩
  obtain ⟨s, _, ⟨a1, a2, a3⟩, rfl | rfl⟩ := (h2 x).1 hx
  · omega
  · omega
theorem LessAt.start {l m : List Sp} {e : List Int} (h : EndsIn l m e) : LessAt l m e 0 [] := by
  by_cases h0 : e.length = 0
  · exact .inl ⟨h0, rfl⟩
  · refine .inr ⟨by omega, Cov.nil, fun s hs => by simp at hs, fun t => ?_⟩
    rw [any_nil]
    by_cases ht : t < e.getD 0 0
    · dsimp only
      rw [none_ahead h.1 h.2.1 (by omega) ht, Bool.false_and, Bool.and_false]
    · rw [decide_eq_false ht, Bool.false_and]
theorem el_range {l m : List Sp} {e : List Int} (h : EndsIn l m e) {i : Nat} (hi : i + 1 < e.length) : 0 ≤ e.getD i 0 ∧ e.getD i 0 < e.getD (i + 1) 0 ∧ e.getD (i + 1) 0 ≤ 4503599627370496 := by
  have h1 := h.2.2.2 _ (getD_mem (l := e) (i := i) (by omega))
  have h2 := h.2.2.2 _ (getD_mem (l := e) (i := i + 1) hi)
  have h3 := List.pairwise_iff_getElem.1 h.1 i (i + 1) (by omega) hi (by omega)
  rw [getD_el (by omega), getD_el hi] at *
  omega
theorem LessAt.skip {l m : List Sp} {e : List Int} {i : Nat} {c : List Sp} (h : EndsIn l m e) (ha : LessAt l m e i c) (hi : i + 1 < e.length) (hP : anyB l (e.getD i 0) = false ∨ anyB m (e.getD i 0) = true) : LessAt l m e (i + 1) c := by
  rcases ha with ⟨h0, _⟩ | ⟨_, ha⟩
  · omega
  · obtain ⟨r1, r2, r3⟩ := el_range h hi
    refine .inr ⟨hi, ha.skip (by omega) fun t h1 h2 => ?_⟩
    rw [const_between h.1 h.2.1 hi h1 h2, const_between h.1 h.2.2.1 hi h1 h2]
    rcases hP with hP | hP <;> rw [hP] <;> simp
theorem between_true {l m : List Sp} {e : List Int} {i : Nat} (h : EndsIn l m e) (hi : i + 1 < e.length) (h1 : anyB l (e.getD i 0) = true) (h2 : anyB m (e.getD i 0) = false) : ∀ t, e.getD i 0 ≤ t → t < e.getD (i + 1) 0 → (anyB l t && !anyB m t) = true := by
  intro t g1 g2
  rw [const_between h.1 h.2.1 hi g1 g2, const_between h.1 h.2.2.1 hi g1 g2, h1, h2]
  rfl
theorem LessAt.add {l m : List Sp} {e : List Int} {i : Nat} {c : List Sp} (h : EndsIn l m e) (ha : LessAt l m e i c) (hi : i + 1 < e.length) (h1 : anyB l (e.getD i 0) = true) (h2 : anyB m (e.getD i 0) = false) (hl : ∀ s ∈ c, s.2 ≠ e.getD i 0) :
    LessAt l m e (i + 1) (c ++ [(e.getD i 0, e.getD (i + 1) 0)]) := by
  rcases ha with ⟨h0, _⟩ | ⟨_, ha⟩
  · omega
  · obtain ⟨r1, r2, r3⟩ := el_range h hi
    exact .inr ⟨hi, ha.add r1 r2 r3 (between_true h hi h1 h2) hl⟩
theorem LessAt.grow {l m : List Sp} {e : List Int} {i : Nat} {c : List Sp} {f : Int} (h : EndsIn l m e) (ha : LessAt l m e i (c ++ [(f, e.getD i 0)])) (hi : i + 1 < e.length) (h1 : anyB l (e.getD i 0) = true) (h2 : anyB m (e.getD i 0) = false) :
    LessAt l m e (i + 1) (c ++ [(f, e.getD (i + 1) 0)]) := by
  rcases ha with ⟨h0, _⟩ | ⟨_, ha⟩
  · omega
  · obtain ⟨r1, r2, r3⟩ := el_range h hi
    exact .inr ⟨hi, ha.grow r2 r3 (between_true h hi h1 h2)⟩
theorem LessAt.done {l m : List Sp} {e : List Int} {i : Nat} {c : List Sp} (h : EndsIn l m e) (ha : LessAt l m e i c) (hi : ¬ i + 1 < e.length) : LessOf l m c := by
  rcases ha with ⟨h0, rfl⟩ | ⟨hl, ha⟩
  · refine ⟨Cov.nil, fun t => ?_⟩
    rw [none_behind (i := 0) h.1 h.2.1 (.inl h0), any_nil]
    rfl
  · refine ⟨ha.1, fun t => ?_⟩
    rw [ha.2.2 t]
    by_cases ht : t < e.getD i 0
    · rw [decide_eq_true ht, Bool.true_and]
    · rw [none_behind (i := i) h.1 h.2.1 (.inr ⟨by omega, by omega⟩), decide_eq_false ht, Bool.false_and, Bool.false_and]
/-- Only the last one of a cover can touch. -/
theorem last_only {c : List Sp} {s : Sp} {x : Int} {P : Int → Bool} (h : CovTo (c ++ [s]) x P) (hs : s.2 ≠ x) : ∀ r ∈ c ++ [s], r.2 ≠ x := by
  intro r hr
  rcases List.mem_append.1 hr with hr | hr
  · have h1 := (List.pairwise_append.1 h.1.2).2.2 r hr s (by simp)
    have h2 := (h.1.1 s (by simp)).2.1
    have h3 := h.2.1 s (by simp)
    omega
  · simp at hr; subst hr; exact hs
end Go.Proofs.Ytnjhboanhjjldaa.SpanPlain
