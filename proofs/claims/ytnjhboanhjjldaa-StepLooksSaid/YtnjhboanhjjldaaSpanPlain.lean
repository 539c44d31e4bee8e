/-
  The plain mathematics of layer 3: spans, which times they have, and covers. No program is spoken of here.
-/
import Derived.Below
namespace Go.Proofs.Ytnjhboanhjjldaa.SpanPlain

/-- A span: from one time on, up to one. -/
abbrev Sp := Int × Int
/-- May a span be? -/
def May (s : Sp) : Prop := 0 ≤ s.1 ∧ s.1 < s.2 ∧ s.2 ≤ 4503599627370496
def mayB (s : Sp) : Bool := decide (0 ≤ s.1 ∧ s.1 < s.2 ∧ s.2 ≤ 4503599627370496)
theorem mayB_iff (s : Sp) : mayB s = true ↔ May s := by unfold mayB May; rw [decide_eq_true_eq]
theorem may_cases (s : Sp) : (mayB s = true ∧ decide (0 ≤ s.1) = true ∧ decide (s.1 < s.2) = true ∧ decide (s.2 ≤ 4503599627370496) = true) ∨ (mayB s = false ∧ decide (0 ≤ s.1) = false) ∨
    (mayB s = false ∧ decide (0 ≤ s.1) = true ∧ decide (s.1 < s.2) = false) ∨ (mayB s = false ∧ decide (0 ≤ s.1) = true ∧ decide (s.1 < s.2) = true ∧ decide (s.2 ≤ 4503599627370496) = false) := by
  unfold mayB
  by_cases h1 : 0 ≤ s.1 <;> by_cases h2 : s.1 < s.2 <;> by_cases h3 : s.2 ≤ 4503599627370496 <;> simp [h1, h2, h3]
/-- Has a span a time? -/
def hasB (s : Sp) (t : Int) : Bool := mayB s && decide (s.1 ≤ t) && decide (t < s.2)
/-- Has one of some spans a time? -/
def anyB (l : List Sp) (t : Int) : Bool := l.any fun s => hasB s t
theorem has_cases (s : Sp) (t : Int) : (hasB s t = false ∧ mayB s = false) ∨ (hasB s t = false ∧ mayB s = true ∧ decide (s.1 ≤ t) = false) ∨ (hasB s t = false ∧ mayB s = true ∧ decide (s.1 ≤ t) = true ∧ decide (t < s.2) = false) ∨
    (hasB s t = true ∧ mayB s = true ∧ decide (s.1 ≤ t) = true ∧ decide (t < s.2) = true) := by
  unfold hasB
  cases mayB s <;> by_cases h2 : s.1 ≤ t <;> by_cases h3 : t < s.2 <;> simp [h2, h3]
theorem any_next {l : List Sp} {t : Int} {k : Nat} (hk : k < l.length) (h : anyB (l.take k) t = false) (hs : hasB (l.getD k (0, 0)) t = false) : anyB (l.take (k + 1)) t = false := by
  unfold anyB at *
  rw [List.take_succ_eq_append_getElem hk, List.any_append, h]
  have e : l.getD k (0, 0) = l[k] := by simp [List.getD, hk]
  rw [e] at hs
  simp [hs]
theorem any_found {l : List Sp} {t : Int} {k : Nat} (hk : k < l.length) (hs : hasB (l.getD k (0, 0)) t = true) : anyB l t = true := by
  unfold anyB
  have e : l.getD k (0, 0) = l[k] := by simp [List.getD, hk]
  rw [e] at hs
  exact List.any_eq_true.2 ⟨l[k], List.getElem_mem hk, hs⟩
theorem any_all {l : List Sp} {t : Int} {k : Nat} (hk : l.length ≤ k) (h : anyB (l.take k) t = false) : anyB l t = false := by
  rwa [List.take_of_length_le hk] at h

theorem hasB_iff {s : Sp} {t : Int} : hasB s t = true ↔ May s ∧ s.1 ≤ t ∧ t < s.2 := by
  unfold hasB
  simp only [Bool.and_eq_true, decide_eq_true_eq, mayB_iff, and_assoc]
theorem any_iff {l : List Sp} {t : Int} : anyB l t = true ↔ ∃ s ∈ l, May s ∧ s.1 ≤ t ∧ t < s.2 := by
  unfold anyB
  rw [List.any_eq_true]
  exact ⟨fun ⟨s, h1, h2⟩ => ⟨s, h1, hasB_iff.1 h2⟩, fun ⟨s, h1, h2⟩ => ⟨s, h1, hasB_iff.2 h2⟩⟩
theorem any_append (l m : List Sp) (t : Int) : anyB (l ++ m) t = (anyB l t || anyB m t) := List.any_append
theorem any_cons (s : Sp) (l : List Sp) (t : Int) : anyB (s :: l) t = (hasB s t || anyB l t) := rfl
theorem any_nil (t : Int) : anyB [] t = false := rfl
theorem bool_ext {a b : Bool} (h : a = true ↔ b = true) : a = b := by cases a <;> cases b <;> simp_all

/-- A cover: spans that may be, rising, none of which meets or touches the next one. -/
def Cov (c : List Sp) : Prop := (∀ s ∈ c, May s) ∧ c.Pairwise fun a b => a.2 < b.1
theorem Cov.nil : Cov [] := ⟨fun s h => by simp at h, List.Pairwise.nil⟩
theorem Cov.tail {s : Sp} {c : List Sp} (h : Cov (s :: c)) : Cov c := ⟨fun x hx => h.1 x (by simp [hx]), (List.pairwise_cons.1 h.2).2⟩
theorem Cov.head_lt {s : Sp} {c : List Sp} (h : Cov (s :: c)) : ∀ x ∈ c, s.2 < x.1 := (List.pairwise_cons.1 h.2).1
theorem Cov.head {s : Sp} {c : List Sp} (h : Cov (s :: c)) : May s := h.1 s (by simp)
theorem Cov.tail_gt {s : Sp} {c : List Sp} (h : Cov (s :: c)) {t : Int} (ht : anyB c t = true) : s.2 < t := by
  obtain ⟨x, hx, _, h1, _⟩ := any_iff.1 ht
  have := h.head_lt x hx
  omega
/-- Covers that have the same times are the same. -/
theorem cov_unique : ∀ {c d : List Sp}, Cov c → Cov d → (∀ t, anyB c t = anyB d t) → c = d := by
  intro c
  induction c with
  | nil =>
    intro d _ hd h
    cases d with
    | nil => rfl
    | cons s d =>
      exfalso
      have hm := hd.head
      have h1 := h s.1
      rw [any_cons, hasB_iff.2 ⟨hm, Int.le_refl _, hm.2.1⟩] at h1
      simp [any_nil] at h1
  | cons s c ih =>
    intro d hc hd h
    have hm := hc.head
    cases d with
    | nil =>
      exfalso
      have h1 := h s.1
      rw [any_cons, hasB_iff.2 ⟨hm, Int.le_refl _, hm.2.1⟩] at h1
      simp [any_nil] at h1
    | cons r d =>
      have hn := hd.head
      have k1 : anyB (s :: c) s.1 = true := by rw [any_cons, hasB_iff.2 ⟨hm, Int.le_refl _, hm.2.1⟩]; rfl
      have k2 : anyB (r :: d) r.1 = true := by rw [any_cons, hasB_iff.2 ⟨hn, Int.le_refl _, hn.2.1⟩]; rfl
      have first : ∀ {x : Sp} {l : List Sp} {t : Int}, Cov (x :: l) → anyB (x :: l) t = true → x.1 ≤ t := by
        intro x l t hl ht
        rw [any_cons, Bool.or_eq_true] at ht
        rcases ht with ht | ht
        · exact (hasB_iff.1 ht).2.1
        · have := hl.tail_gt ht
          have := hl.head.2.1
          omega
      have e1 : s.1 = r.1 := by
        have a1 := first hd (by rw [← h]; exact k1)
        have a2 := first hc (by rw [h]; exact k2)
        omega
      have gap : ∀ {x y : Sp} {l m : List Sp}, Cov (x :: l) → Cov (y :: m) → (∀ t, anyB (x :: l) t = anyB (y :: m) t) → x.1 = y.1 → ¬ x.2 < y.2 := by
        intro x y l m hl hm2 hh e hlt
        have b1 : anyB (y :: m) x.2 = true := by rw [any_cons, hasB_iff.2 ⟨hm2.head, by have := hl.head.2.1; omega, hlt⟩]; rfl
        rw [← hh, any_cons, Bool.or_eq_true] at b1
        rcases b1 with b1 | b1
        · have := (hasB_iff.1 b1).2.2; omega
        · have := hl.tail_gt b1; omega
      have e2 : s.2 = r.2 := by
        have a1 := gap hc hd h e1
        have a2 := gap hd hc (fun t => (h t).symm) e1.symm
        omega
      have e : s = r := Prod.ext e1 e2
      subst e
      congr 1
      refine ih hc.tail hd.tail fun t => ?_
      have ht := h t
      rw [any_cons, any_cons] at ht
      cases hh : hasB s t with
      | false => rwa [hh, Bool.false_or, Bool.false_or] at ht
      | true =>
        have h3 := (hasB_iff.1 hh).2.2
        have z : ∀ {l : List Sp}, Cov (s :: l) → anyB l t = false := fun {l} hl => by
          cases hb : anyB l t with
          | false => rfl
          | true => have := hl.tail_gt hb; omega
        rw [z hc, z hd]

/-- Where a cover up to a time stands. -/
def CovTo (c : List Sp) (x : Int) (P : Int → Bool) : Prop := Cov c ∧ (∀ s ∈ c, s.2 ≤ x) ∧ ∀ t, anyB c t = (decide (t < x) && P t)
theorem CovTo.skip {c : List Sp} {x y : Int} {P : Int → Bool} (h : CovTo c x P) (hxy : x ≤ y) (hP : ∀ t, x ≤ t → t < y → P t = false) : CovTo c y P := by
  refine ⟨h.1, fun s hs => Int.le_trans (h.2.1 s hs) hxy, fun t => ?_⟩
  rw [h.2.2 t]
  by_cases h1 : t < x
  · simp [h1, show t < y by omega]
  · by_cases h2 : t < y
    · simp [h1, h2, hP t (by omega) h2]
    · simp [h1, h2]
theorem CovTo.add {c : List Sp} {x y : Int} {P : Int → Bool} (h : CovTo c x P) (hx : 0 ≤ x) (hxy : x < y) (hy : y ≤ 4503599627370496) (hP : ∀ t, x ≤ t → t < y → P t = true) (hl : ∀ s ∈ c, s.2 ≠ x) :
    CovTo (c ++ [(x, y)]) y P := by
  have hm : May (x, y) := ⟨hx, hxy, hy⟩
  refine ⟨⟨fun s hs => ?_, ?_⟩, fun s hs => ?_, fun t => ?_⟩
  · rcases List.mem_append.1 hs with hs | hs
    · exact h.1.1 s hs
    · simp at hs; subst hs; exact hm
  · refine List.pairwise_append.2 ⟨h.1.2, List.pairwise_singleton _ _, fun a ha b hb => ?_⟩
    simp at hb; subst hb
    have h1 := h.2.1 a ha
    have h2 := hl a ha
    show a.2 < x
    omega
  · rcases List.mem_append.1 hs with hs | hs
    · have := h.2.1 s hs; omega
    · simp at hs; subst hs; exact Int.le_refl _
  · rw [any_append, h.2.2 t, any_cons, any_nil, Bool.or_false]
    by_cases h1 : t < x
    · have h2 : hasB (x, y) t = false := by
        cases hb : hasB (x, y) t with
        | false => rfl
        | true => have := (hasB_iff.1 hb).2.1; dsimp only at this; omega
      simp [h1, h2, show t < y by omega]
    · by_cases h2 : t < y
      · have h3 : hasB (x, y) t = true := hasB_iff.2 ⟨hm, by dsimp only; omega, h2⟩
        simp [h1, h2, h3, hP t (by omega) h2]
      · have h3 : hasB (x, y) t = false := by
          cases hb : hasB (x, y) t with
          | false => rfl
          | true => have := (hasB_iff.1 hb).2.2; dsimp only at this; omega
        simp [h1, h2, h3]
theorem CovTo.grow {c : List Sp} {f x y : Int} {P : Int → Bool} (h : CovTo (c ++ [(f, x)]) x P) (hxy : x < y) (hy : y ≤ 4503599627370496) (hP : ∀ t, x ≤ t → t < y → P t = true) : CovTo (c ++ [(f, y)]) y P := by
  have hmx : May (f, x) := h.1.1 _ (by simp)
  have hm : May (f, y) := ⟨hmx.1, by have := hmx.2.1; dsimp only at this ⊢; omega, hy⟩
  obtain ⟨p1, p2, p3⟩ := List.pairwise_append.1 h.1.2
  refine ⟨⟨fun s hs => ?_, ?_⟩, fun s hs => ?_, fun t => ?_⟩
  · rcases List.mem_append.1 hs with hs | hs
    · exact h.1.1 s (by simp [hs])
    · simp at hs; subst hs; exact hm
  · refine List.pairwise_append.2 ⟨p1, List.pairwise_singleton _ _, fun a ha b hb => ?_⟩
    simp at hb; subst hb
    exact p3 a ha (f, x) (by simp)
  · rcases List.mem_append.1 hs with hs | hs
    · have := h.2.1 s (by simp [hs]); omega
    · simp at hs; subst hs; exact Int.le_refl _
  · have h0 := h.2.2 t
    rw [any_append, any_cons, any_nil, Bool.or_false] at h0
    rw [any_append, any_cons, any_nil, Bool.or_false]
    have e1 : hasB (f, y) t = (hasB (f, x) t || (decide (x ≤ t) && decide (t < y))) := by
      apply bool_ext
      rw [Bool.or_eq_true, hasB_iff, hasB_iff, Bool.and_eq_true, decide_eq_true_eq, decide_eq_true_eq]
      have := hmx.2.1
      dsimp only at this ⊢
      constructor
      · rintro ⟨_, h1, h2⟩
        by_cases h3 : x ≤ t
        · exact .inr ⟨h3, h2⟩
        · exact .inl ⟨hmx, h1, by omega⟩
      · rintro (⟨_, h1, h2⟩ | ⟨h1, h2⟩)
        · exact ⟨hm, h1, by omega⟩
        · exact ⟨hm, by omega, h2⟩
    rw [e1, ← Bool.or_assoc, h0]
    by_cases h1 : t < x
    · simp [h1, show ¬ x ≤ t by omega, show t < y by omega]
    · by_cases h2 : t < y
      · simp [h1, h2, show x ≤ t by omega, hP t (by omega) h2]
      · simp [h1, h2]
end Go.Proofs.Ytnjhboanhjjldaa.SpanPlain
