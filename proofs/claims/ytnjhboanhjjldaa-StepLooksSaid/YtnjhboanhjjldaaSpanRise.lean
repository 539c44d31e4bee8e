/-
  The plain mathematics of layer 3 for an answer that goes from span to span: the cover of rising spans; what a span has and a cover has not; a cover less a cover.
-/
import Derived.Test.YtnjhboanhjjldaaSpanLen
namespace Go.Proofs.Ytnjhboanhjjldaa.SpanPlain

theorem any_take {l : List Sp} {k : Nat} (hk : k < l.length) (t : Int) : anyB (l.take (k + 1)) t = (anyB (l.take k) t || hasB (l.getD k (0, 0)) t) := by
  rw [List.take_succ_eq_append_getElem hk, any_append, any_cons, any_nil, Bool.or_false]
  simp [List.getD, hk]
theorem getSp {l : List Sp} {k : Nat} (hk : k < l.length) : l.getD k (0, 0) = l[k] := by simp [List.getD, hk]
theorem has_no {s : Sp} {t : Int} (h : ¬ (May s ∧ s.1 ≤ t ∧ t < s.2)) : hasB s t = false := by
  cases hb : hasB s t with
  | false => rfl
  | true => exact absurd (hasB_iff.1 hb) h

/-- Rising beginnings, of spans that may be. -/
def Rises (l : List Sp) : Prop := (∀ s ∈ l, May s) ∧ l.Pairwise fun a b => a.1 ≤ b.1
theorem Rises.le {l : List Sp} (h : Rises l) {k : Nat} (hk : k < l.length) : ∀ r ∈ l.take k, r.1 ≤ (l.getD k (0, 0)).1 := fun r hr => by
  obtain ⟨i, hi, rfl⟩ := List.mem_take_iff_getElem.1 hr
  rw [getSp hk]
  exact List.pairwise_iff_getElem.1 h.2 i k (by omega) hk (by omega)
theorem Rises.may {l : List Sp} (h : Rises l) {k : Nat} (hk : k < l.length) : May (l.getD k (0, 0)) := by rw [getSp hk]; exact h.1 _ (List.getElem_mem hk)

/-- How the cover of rising spans stands behind the first k. -/
def CoverAt (l : List Sp) (k : Nat) (c : List Sp) : Prop := Cov c ∧ (∀ t, anyB c t = anyB (l.take k) t) ∧ ∀ s ∈ c, ∃ r ∈ l.take k, s.1 = r.1
theorem CoverAt.start (l : List Sp) : CoverAt l 0 [] := ⟨Cov.nil, fun t => rfl, fun s h => by simp at h⟩
theorem mem_take_succ {l : List Sp} {k : Nat} (hk : k < l.length) {r : Sp} : r ∈ l.take (k + 1) ↔ r ∈ l.take k ∨ r = l.getD k (0, 0) := by
  rw [List.take_succ_eq_append_getElem hk, List.mem_append, List.mem_singleton, getSp hk]
theorem CoverAt.add {l c : List Sp} {k : Nat} (hr : Rises l) (h : CoverAt l k c) (hk : k < l.length) (hs : ∀ x ∈ c, x.2 < (l.getD k (0, 0)).1) : CoverAt l (k + 1) (c ++ [l.getD k (0, 0)]) := by
  have hm := hr.may hk
  refine ⟨⟨fun s h1 => ?_, List.pairwise_append.2 ⟨h.1.2, List.pairwise_singleton _ _, fun a ha b hb => ?_⟩⟩, fun t => ?_, fun s h1 => ?_⟩
  · rcases List.mem_append.1 h1 with h1 | h1
    · exact h.1.1 s h1
    · rw [List.mem_singleton] at h1; subst h1; exact hm
  · rw [List.mem_singleton] at hb; subst hb; exact hs a ha
  · rw [any_append, any_cons, any_nil, Bool.or_false, any_take hk, h.2.1]
  · rcases List.mem_append.1 h1 with h1 | h1
    · obtain ⟨r, h2, h3⟩ := h.2.2 s h1
      exact ⟨r, (mem_take_succ hk).2 (.inl h2), h3⟩
    · rw [List.mem_singleton] at h1; subst h1; exact ⟨_, (mem_take_succ hk).2 (.inr rfl), rfl⟩
theorem last_all {d : List Sp} {q : Sp} {x : Int} (h : Cov (d ++ [q])) (hq : q.2 < x) : ∀ r ∈ d ++ [q], r.2 < x := by
  intro r hr
  rcases List.mem_append.1 hr with hr | hr
  · have h1 := (List.pairwise_append.1 h.2).2.2 r hr q (by simp)
    have h2 := (h.1 q (by simp)).2.1
    omega
  · rw [List.mem_singleton] at hr; subst hr; exact hq
theorem CoverAt.grow {l d : List Sp} {q : Sp} {k : Nat} (hr : Rises l) (h : CoverAt l k (d ++ [q])) (hk : k < l.length) (hq : ¬ q.2 < (l.getD k (0, 0)).1) : CoverAt l (k + 1) (d ++ [(q.1, max q.2 (l.getD k (0, 0)).2)]) := by
  have hm := hr.may hk
  obtain ⟨r0, hr0, hq0⟩ := h.2.2 q (by simp)
  have hq1 : q.1 ≤ (l.getD k (0, 0)).1 := by have := hr.le hk r0 hr0; omega
  have hmq := h.1.1 q (by simp)
  obtain ⟨p1, p2, p3⟩ := List.pairwise_append.1 h.1.2
  have hT := h.2.1
  have hS := h.2.2
  have hC := h.1.1
  have hT2 := fun t => any_take hk t
  have hS2 : ∀ r, r ∈ l.take k ∨ r = l.getD k (0, 0) → r ∈ l.take (k + 1) := fun r h => (mem_take_succ hk).2 h
  generalize l.getD k (0, 0) = s at *
  have hn : May (q.1, max q.2 s.2) := ⟨hmq.1, by have := hmq.2.1; dsimp only; omega, by have := hmq.2.2; have := hm.2.2; dsimp only; omega⟩
  refine ⟨⟨fun x h1 => ?_, List.pairwise_append.2 ⟨p1, List.pairwise_singleton _ _, fun a ha b hb => ?_⟩⟩, fun t => ?_, fun x h1 => ?_⟩
  · rcases List.mem_append.1 h1 with h1 | h1
    · exact hC x (by simp [h1])
    · rw [List.mem_singleton] at h1; subst h1; exact hn
  · rw [List.mem_singleton] at hb; subst hb; exact p3 a ha q (by simp)
  · rw [hT2, ← hT]
    simp only [any_append, any_cons, any_nil, Bool.or_false, Bool.or_assoc]
    congr 1
    apply bool_ext
    rw [Bool.or_eq_true, hasB_iff, hasB_iff, hasB_iff]
    have e1 := hmq.2.1
    have e2 := hm.2.1
    dsimp only
    constructor
    · rintro ⟨_, h1, h2⟩
      by_cases h3 : t < q.2
      · exact .inl ⟨hmq, h1, h3⟩
      · exact .inr ⟨hm, by omega, by omega⟩
    · rintro (⟨_, h1, h2⟩ | ⟨_, h1, h2⟩)
      · exact ⟨hn, h1, by omega⟩
      · exact ⟨hn, by omega, by omega⟩
  · rcases List.mem_append.1 h1 with h1 | h1
    · obtain ⟨r, h2, h3⟩ := hS x (by simp [h1])
      exact ⟨r, hS2 r (.inl h2), h3⟩
    · rw [List.mem_singleton] at h1; subst h1; exact ⟨r0, hS2 r0 (.inl hr0), hq0⟩
theorem CoverAt.done {l c : List Sp} {k : Nat} (h : CoverAt l k c) (hk : l.length ≤ k) : Cov c ∧ ∀ t, anyB c t = anyB l t := by
  refine ⟨h.1, fun t => ?_⟩
  rw [h.2.1, List.take_of_length_le hk]
/-- The cover of rising spans that have what l has. -/
theorem CoverAt.less {l r c : List Sp} {k : Nat} (h : CoverAt r k c) (hk : r.length ≤ k) (hl : ∀ t, anyB r t = anyB l t) : LessOf l [] c := by
  obtain ⟨h1, h2⟩ := h.done hk
  exact ⟨h1, fun t => by rw [h2, hl, any_nil, Bool.not_false, Bool.and_true]⟩

/-- How what a span has, and a cover has not, stands: up to the time f, behind the first j of the cover. -/
def WithAt (s : Sp) (g : List Sp) (j : Nat) (f : Int) (c : List Sp) : Prop :=
  s.1 ≤ f ∧ CovTo c f (fun t => hasB s t && !anyB g t) ∧ (∀ x ∈ c, x.2 < f) ∧ (∀ r ∈ g.take j, r.2 ≤ f) ∧ ∀ r ∈ g.drop j, f < r.2
theorem WithAt.start {s : Sp} {g : List Sp} (hg : ∀ r ∈ g, s.1 < r.2) : WithAt s g 0 s.1 [] := by
  refine ⟨Int.le_refl _, ⟨Cov.nil, fun x h => by simp at h, fun t => ?_⟩, fun x h => by simp at h, fun r h => by simp at h, fun r h => hg r (by simpa using h)⟩
  rw [any_nil]
  by_cases h : t < s.1
  · dsimp only
    rw [has_no (fun h1 => by omega), Bool.false_and, Bool.and_false]
  · rw [decide_eq_false h, Bool.false_and]
theorem cov_later {g : List Sp} (hg : Cov g) {j : Nat} (hj : j < g.length) : (∀ r ∈ g.take j, r.2 < (g.getD j (0, 0)).1) ∧ ∀ r ∈ g.drop (j + 1), (g.getD j (0, 0)).2 < r.1 ∧ May r := by
  refine ⟨fun r hr => ?_, fun r hr => ?_⟩
  · obtain ⟨i, hi, rfl⟩ := List.mem_take_iff_getElem.1 hr
    rw [getSp hj]
    exact List.pairwise_iff_getElem.1 hg.2 i j (by omega) hj (by omega)
  · obtain ⟨i, hi, rfl⟩ := List.mem_drop_iff_getElem.1 hr
    rw [getSp hj]
    exact ⟨List.pairwise_iff_getElem.1 hg.2 j (j + 1 + i) hj (by omega) (by omega), hg.1 _ (List.getElem_mem _)⟩
theorem any_parts (g : List Sp) {j : Nat} (hj : j < g.length) (t : Int) : anyB g t = (anyB (g.take j) t || (hasB (g.getD j (0, 0)) t || anyB (g.drop (j + 1)) t)) := by
  have e : g = g.take j ++ (g[j] :: g.drop (j + 1)) := by rw [List.getElem_cons_drop, List.take_append_drop]
  rw [getSp hj]
  conv => lhs; rw [e]
  rw [any_append, any_cons]
theorem any_split (g : List Sp) (j : Nat) (t : Int) : anyB g t = (anyB (g.take j) t || anyB (g.drop j) t) := by
  rw [← any_append, List.take_append_drop]
theorem any_off {l : List Sp} {t : Int} (h : ∀ r ∈ l, ¬ (r.1 ≤ t ∧ t < r.2)) : anyB l t = false := by
  cases hb : anyB l t with
  | false => rfl
  | true => obtain ⟨r, hr, _, h1, h2⟩ := any_iff.1 hb; exact absurd ⟨h1, h2⟩ (h r hr)
theorem drop_cases {g : List Sp} {j : Nat} (hj : j < g.length) {r : Sp} : r ∈ g.drop j ↔ r = g.getD j (0, 0) ∨ r ∈ g.drop (j + 1) := by
  rw [getSp hj, ← List.getElem_cons_drop hj, List.mem_cons]
/-- What is within one of the cover is passed over. -/
theorem WithAt.over {s : Sp} {g : List Sp} {j : Nat} {f : Int} {c : List Sp} (hg : Cov g) (h : WithAt s g j f c) (hj : j < g.length) (h1 : ¬ f < (g.getD j (0, 0)).1) : WithAt s g (j + 1) (g.getD j (0, 0)).2 c := by
  obtain ⟨a1, a2, a3, a4, a5⟩ := h
  obtain ⟨l1, l2⟩ := cov_later hg hj
  have hm : May (g.getD j (0, 0)) := by rw [getSp hj]; exact hg.1 _ (List.getElem_mem hj)
  have hf := a5 _ ((drop_cases hj).2 (.inl rfl))
  have hP := any_parts g hj
  have hT : ∀ r, r ∈ g.take (j + 1) → r ∈ g.take j ∨ r = g.getD j (0, 0) := fun r h => (mem_take_succ hj).1 h
  generalize g.getD j (0, 0) = r at *
  refine ⟨by omega, a2.skip (by omega) fun t h2 h3 => ?_, fun x hx => by have := a3 x hx; omega, fun q hq => ?_, fun q hq => ?_⟩
  · rw [hP, hasB_iff.2 ⟨hm, by omega, h3⟩]
    simp
  · rcases hT q hq with hq | rfl
    · have := l1 q hq; have := hm.2.1; omega
    · exact Int.le_refl _
  · have h2 := l2 q hq
    have := h2.2.2.1
    omega
/-- What is ahead of one of the cover is had. -/
theorem WithAt.cut {s : Sp} {g : List Sp} {j : Nat} {f : Int} {c : List Sp} (hs : May s) (hg : Cov g) (h : WithAt s g j f c) (hj : j < g.length) (h0 : (g.getD j (0, 0)).1 < s.2) (h1 : f < (g.getD j (0, 0)).1) :
    WithAt s g (j + 1) (g.getD j (0, 0)).2 (c ++ [(f, (g.getD j (0, 0)).1)]) := by
  obtain ⟨a1, a2, a3, a4, a5⟩ := h
  obtain ⟨l1, l2⟩ := cov_later hg hj
  have hm : May (g.getD j (0, 0)) := by rw [getSp hj]; exact hg.1 _ (List.getElem_mem hj)
  have hf := a5 _ ((drop_cases hj).2 (.inl rfl))
  have hP := any_parts g hj
  have hT : ∀ r, r ∈ g.take (j + 1) → r ∈ g.take j ∨ r = g.getD j (0, 0) := fun r h => (mem_take_succ hj).1 h
  generalize g.getD j (0, 0) = r at *
  have hs1 := hs.1
  have hs3 := hs.2.2
  have hm2 := hm.2.1
  have b : CovTo (c ++ [(f, r.1)]) r.1 (fun t => hasB s t && !anyB g t) := a2.add (by omega) h1 (by omega) (fun t h2 h3 => by
    rw [hasB_iff.2 ⟨hs, by omega, by omega⟩, hP, any_off (fun q hq => by have := a4 q hq; omega), any_off (fun q hq => by have := (l2 q hq).1; omega), has_no (fun h4 => by omega)]
    rfl) (fun x hx => by have := a3 x hx; omega)
  refine ⟨by omega, b.skip (by omega) fun t h2 h3 => ?_, fun x hx => ?_, fun q hq => ?_, fun q hq => ?_⟩
  · rw [hP, hasB_iff.2 ⟨hm, h2, h3⟩]
    simp
  · rcases List.mem_append.1 hx with hx | hx
    · have := a3 x hx; omega
    · rw [List.mem_singleton] at hx; subst hx; exact hm2
  · rcases hT q hq with hq | rfl
    · have := l1 q hq; omega
    · exact Int.le_refl _
  · have h2 := l2 q hq
    have := h2.2.2.1
    omega
/-- No more of the cover is in the span. -/
def Over (s : Sp) (g : List Sp) (j : Nat) : Prop := ∀ r ∈ g.drop j, s.2 ≤ r.1
theorem Over.end_ {s : Sp} {g : List Sp} {j : Nat} (h : g.length ≤ j) : Over s g j := fun r hr => by rw [List.drop_of_length_le h] at hr; simp at hr
theorem Over.stop {s : Sp} {g : List Sp} {j : Nat} (hg : Cov g) (hj : j < g.length) (h : ¬ (g.getD j (0, 0)).1 < s.2) : Over s g j := fun r hr => by
  have hm : May (g.getD j (0, 0)) := by rw [getSp hj]; exact hg.1 _ (List.getElem_mem hj)
  rcases (drop_cases hj).1 hr with rfl | hr
  · omega
  · have := ((cov_later hg hj).2 r hr).1
    have := hm.2.1
    omega
theorem WithAt.rest {s : Sp} {g : List Sp} {j : Nat} {f : Int} {c : List Sp} (hs : May s) (h : WithAt s g j f c) (ho : Over s g j) (hf : f < s.2) : LessOf [s] g (c ++ [(f, s.2)]) := by
  obtain ⟨a1, a2, a3, a4, a5⟩ := h
  have hs1 := hs.1
  have b := a2.add (y := s.2) (by omega) hf hs.2.2 (fun t h2 h3 => by
    rw [hasB_iff.2 ⟨hs, by omega, h3⟩, any_split g j, any_off (fun q hq => by have := a4 q hq; omega), any_off (fun q hq => by have := ho q hq; omega)]
    rfl) (fun x hx => by have := a3 x hx; omega)
  refine ⟨b.1, fun t => ?_⟩
  rw [b.2.2 t, any_cons, any_nil, Bool.or_false]
  by_cases ht : t < s.2
  · rw [decide_eq_true ht, Bool.true_and]
  · rw [decide_eq_false ht, has_no (fun h4 => by omega), Bool.false_and, Bool.false_and]
theorem WithAt.full {s : Sp} {g : List Sp} {j : Nat} {f : Int} {c : List Sp} (h : WithAt s g j f c) (hf : ¬ f < s.2) : LessOf [s] g c := by
  obtain ⟨a1, a2, a3, a4, a5⟩ := h
  refine ⟨a2.1, fun t => ?_⟩
  rw [a2.2.2 t, any_cons, any_nil, Bool.or_false]
  by_cases ht : t < f
  · rw [decide_eq_true ht, Bool.true_and]
  · rw [decide_eq_false ht, has_no (fun h4 => by omega), Bool.false_and, Bool.false_and]
/-- A cover of times of a span lies within it. -/
theorem cov_within {s : Sp} {c : List Sp} (h : Cov c) (hs : ∀ t, anyB c t = true → hasB s t = true) : ∀ x ∈ c, s.1 ≤ x.1 ∧ x.2 ≤ s.2 := fun x hx => by
  have hm := h.1 x hx
  have h1 := hasB_iff.1 (hs x.1 (any_iff.2 ⟨x, hx, hm, Int.le_refl _, hm.2.1⟩))
  have h2 := hasB_iff.1 (hs (x.2 - 1) (any_iff.2 ⟨x, hx, hm, by have := hm.2.1; omega, by omega⟩))
  omega

/-- How a cover less a cover stands: behind the first k; the first j of the other one are over. -/
def LessRow (l g : List Sp) (k j : Nat) (c : List Sp) : Prop := LessOf (l.take k) g c ∧ ∀ r ∈ g.take j, ∀ s ∈ l.drop k, r.2 ≤ s.1
theorem LessRow.start (l g : List Sp) : LessRow l g 0 0 [] := ⟨⟨Cov.nil, fun t => by rw [List.take_zero, any_nil, Bool.false_and]⟩, fun r h => by simp at h⟩
theorem LessRow.pass {l g : List Sp} {k j : Nat} {c : List Sp} (hl : Cov l) (h : LessRow l g k j c) (hk : k < l.length) (hj : j < g.length) (ho : (g.getD j (0, 0)).2 ≤ (l.getD k (0, 0)).1) : LessRow l g k (j + 1) c := by
  refine ⟨h.1, fun r hr s hs => ?_⟩
  rcases (mem_take_succ hj).1 hr with hr | rfl
  · exact h.2 r hr s hs
  · have hm : May (l.getD k (0, 0)) := by rw [getSp hk]; exact hl.1 _ (List.getElem_mem hk)
    rcases (drop_cases hk).1 hs with rfl | hs
    · exact ho
    · have := ((cov_later hl hk).2 s hs).1
      have := hm.2.1
      omega
theorem LessRow.next {l g : List Sp} {k j : Nat} {c w : List Sp} (hl : Cov l) (h : LessRow l g k j c) (hk : k < l.length) (hw : LessOf [l.getD k (0, 0)] (g.drop j) w) : LessRow l g (k + 1) j (c ++ w) := by
  obtain ⟨⟨c1, c2⟩, h2⟩ := h
  have hm : May (l.getD k (0, 0)) := by rw [getSp hk]; exact hl.1 _ (List.getElem_mem hk)
  have hT := any_take hk
  have hL := (cov_later hl hk).1
  have hh := fun r hr => h2 r hr (l.getD k (0, 0)) ((drop_cases hk).2 (.inl rfl))
  have hN : ∀ r ∈ g.take j, ∀ s ∈ l.drop (k + 1), r.2 ≤ s.1 := fun r hr s hs => h2 r hr s ((drop_cases hk).2 (.inr hs))
  generalize l.getD k (0, 0) = s at *
  have hw2 : ∀ t, anyB w t = (hasB s t && !anyB g t) := fun t => by
    rw [hw.2, any_cons, any_nil, Bool.or_false, any_split g j]
    cases hb : hasB s t with
    | false => rfl
    | true =>
      have h3 := hasB_iff.1 hb
      rw [any_off (l := g.take j) (fun q hq => by have := hh q hq; omega), Bool.false_or]
  have hin := cov_within hw.1 (s := s) (fun t ht => by rw [hw2, Bool.and_eq_true] at ht; exact ht.1)
  refine ⟨⟨⟨fun x hx => ?_, List.pairwise_append.2 ⟨c1.2, hw.1.2, fun x hx y hy => ?_⟩⟩, fun t => ?_⟩, hN⟩
  · rcases List.mem_append.1 hx with hx | hx
    · exact c1.1 x hx
    · exact hw.1.1 x hx
  · have hmx := c1.1 x hx
    have h3 : anyB c (x.2 - 1) = true := any_iff.2 ⟨x, hx, hmx, by have := hmx.2.1; omega, by omega⟩
    rw [c2, Bool.and_eq_true] at h3
    obtain ⟨q, hq, _, h4, h5⟩ := any_iff.1 h3.1
    have := hL q hq
    have := hin y hy
    omega
  · rw [any_append, c2, hw2, hT]
    cases anyB (l.take k) t <;> cases hasB s t <;> cases anyB g t <;> rfl
/-- What is left when the other cover's first one is not over ahead of a span. -/
theorem LessRow.ahead {l g : List Sp} {k j : Nat} (hg : Cov g) (ho : j < g.length → ¬ (g.getD j (0, 0)).2 ≤ (l.getD k (0, 0)).1) : ∀ r ∈ g.drop j, (l.getD k (0, 0)).1 < r.2 := fun r hr => by
  by_cases hj : j < g.length
  · have h1 := ho hj
    rcases (drop_cases hj).1 hr with rfl | hr
    · omega
    · have h2 := (cov_later hg hj).2 r hr
      have := h2.2.2.1
      omega
  · rw [List.drop_of_length_le (by omega)] at hr
    simp at hr
theorem cov_drop {g : List Sp} (h : Cov g) (j : Nat) : Cov (g.drop j) := ⟨fun s hs => h.1 s (List.mem_of_mem_drop hs), h.2.sublist (List.drop_sublist j g)⟩
theorem LessRow.done {l m a g c : List Sp} {k j : Nat} (h : LessRow a g k j c) (hk : a.length ≤ k) (ha : LessOf l [] a) (hg : LessOf m [] g) : LessOf l m c := by
  refine ⟨h.1.1, fun t => ?_⟩
  rw [h.1.2, List.take_of_length_le hk, ha.2, hg.2, any_nil, Bool.not_false, Bool.and_true, Bool.and_true]

/-- Spans that may be, of some. -/
def maysL (l : List Sp) : List Sp := l.filter mayB
theorem mays_take {l : List Sp} {k : Nat} (hk : k < l.length) : maysL (l.take (k + 1)) = maysL (l.take k) ++ if mayB (l.getD k (0, 0)) then [l.getD k (0, 0)] else [] := by
  unfold maysL
  rw [List.take_succ_eq_append_getElem hk, List.filter_append, getSp hk, List.filter_cons, List.filter_nil]
theorem mays_len (l : List Sp) (k : Nat) : (maysL (l.take k)).length ≤ l.length := by
  unfold maysL
  have h1 := List.length_filter_le mayB (l.take k)
  rw [List.length_take] at h1
  omega
theorem mays_any {l r : List Sp} (h : r.Perm (maysL l)) (t : Int) : anyB r t = anyB l t := by
  apply bool_ext
  rw [any_iff, any_iff]
  constructor
  · rintro ⟨s, hs, h1⟩
    exact ⟨s, (List.mem_filter.1 (h.mem_iff.1 hs)).1, h1⟩
  · rintro ⟨s, hs, h1, h2⟩
    exact ⟨s, h.mem_iff.2 (List.mem_filter.2 ⟨hs, (mayB_iff s).2 h1⟩), h1, h2⟩
theorem mays_may {l r : List Sp} (h : r.Perm (maysL l)) : ∀ s ∈ r, May s := fun s hs => (mayB_iff s).1 (List.mem_filter.1 (h.mem_iff.1 hs)).2
end Go.Proofs.Ytnjhboanhjjldaa.SpanPlain
