/-
  The plain mathematics of layer 3: spans, which times they have, and covers. No program is spoken of here. The plain mathematics of layer 3, further: the ends of spans, rising; between two of them nothing changes; how many times a cover has. The plain mathematics of layer 3, at last: how many times there are, and the theorem of parts. The plain mathematics of layer 3: a cover is no longer than the spans that it is of. The plain mathematics of layer 3 for an answer that goes from span to span: the cover of rising spans; what a span has and a cover has not; a cover less a cover.
-/
import Derived.Below
import Derived.Test.YtonapgbokbeopaaBase
namespace Go.Proofs.Ytonapgbokbeopaa.SpanPlain
/-- A span: from one time on, up to one. -/
abbrev Sp := Int × Int
/-- May a span be? -/
def May (s : Sp) : Prop := 0 ≤ s.1 ∧ s.1 < s.2 ∧ s.2 ≤ 4503599627370496
def mayB (s : Sp) : Bool := decide (0 ≤ s.1 ∧ s.1 < s.2 ∧ s.2 ≤ 4503599627370496)
theorem mayB_iff (s : Sp) : mayB s = true ↔ May s := by unfold mayB May; rw [decide_eq_true_eq]
theorem may_cases (s : Sp) : (mayB s = true ∧ decide (0 ≤ s.1) = true ∧ decide (s.1 < s.2) = true ∧ decide (s.2 ≤ 4503599627370496) = true) ∨ (mayB s = false ∧ decide (0 ≤ s.1) = false) ∨
    (mayB s = false ∧ decide (0 ≤ s.1) = true ∧ decide (s.1 < s.2) = false) ∨ (mayB s = false ∧ decide (0 ≤ s.1) = true ∧ decide (s.1 < s.2) = true ∧ decide (s.2 ≤ 4503599627370496) = false) := by
  unfold mayB
  by_cases h1 : 0 ≤ s.1 <;> by_cases h2 : s.1 < s.2 <;> by_cases h3 : s.2 ≤ 4503599627370496 <;> simp [h1, h2, h3]
/-- Has a span a time? -/
def hasB (s : Sp) (t : Int) : Bool := mayB s && decide (s.1 ≤ t) && decide (t < s.2)
/-- Has one of some spans a time? -/
def anyB (l : List Sp) (t : Int) : Bool := l.any fun s => hasB s t
theorem has_cases (s : Sp) (t : Int) : (hasB s t = false ∧ mayB s = false) ∨ (hasB s t = false ∧ mayB s = true ∧ decide (s.1 ≤ t) = false) ∨ (hasB s t = false ∧ mayB s = true ∧ decide (s.1 ≤ t) = true ∧ decide (t < s.2) = false) ∨
    (hasB s t = true ∧ mayB s = true ∧ decide (s.1 ≤ t) = true ∧ decide (t < s.2) = true) := by
  unfold hasB
  cases mayB s <;> by_cases h2 : s.1 ≤ t <;> by_cases h3 : t < s.2 <;> simp [h2, h3]
theorem any_next {l : List Sp} {t : Int} {k : Nat} (hk : k < l.length) (h : anyB (l.take k) t = false) (hs : hasB (l.getD k (0, 0)) t = false) : anyB (l.take (k + 1)) t = false := by
  unfold anyB at *
  rw [List.take_succ_eq_append_getElem hk, List.any_append, h]
  have e : l.getD k (0, 0) = l[k] := by simp [List.getD, hk]
  rw [e] at hs
  simp [hs]
theorem any_found {l : List Sp} {t : Int} {k : Nat} (hk : k < l.length) (hs : hasB (l.getD k (0, 0)) t = true) : anyB l t = true := by
  unfold anyB
  have e : l.getD k (0, 0) = l[k] := by simp [List.getD, hk]
  rw [e] at hs
  exact List.any_eq_true.2 ⟨l[k], List.getElem_mem hk, hs⟩
theorem any_all {l : List Sp} {t : Int} {k : Nat} (hk : l.length ≤ k) (h : anyB (l.take k) t = false) : anyB l t = false := by
  rwa [List.take_of_length_le hk] at h
theorem hasB_iff {s : Sp} {t : Int} : hasB s t = true ↔ May s ∧ s.1 ≤ t ∧ t < s.2 := by
  unfold hasB
  simp only [Bool.and_eq_true, decide_eq_true_eq, mayB_iff, and_assoc]
theorem any_iff {l : List Sp} {t : Int} : anyB l t = true ↔ ∃ s ∈ l, May s ∧ s.1 ≤ t ∧ t < s.2 := by
  unfold anyB
  rw [List.any_eq_true]
  exact ⟨fun ⟨s, h1, h2⟩ => ⟨s, h1, hasB_iff.1 h2⟩, fun ⟨s, h1, h2⟩ => ⟨s, h1, hasB_iff.2 h2⟩⟩
theorem any_append (l m : List Sp) (t : Int) : anyB (l ++ m) t = (anyB l t || anyB m t) := List.any_append
theorem any_cons (s : Sp) (l : List Sp) (t : Int) : anyB (s :: l) t = (hasB s t || anyB l t) := rfl
theorem any_nil (t : Int) : anyB [] t = false := rfl
theorem bool_ext {a b : Bool} (h : a = true ↔ b = true) : a = b := by cases a <;> cases b <;> simp_all
/-- A cover: spans that may be, rising, none of which meets or touches the next one. -/
def Cov (c : List Sp) : Prop := (∀ s ∈ c, May s) ∧ c.Pairwise fun a b => a.2 < b.1
theorem Cov.nil : Cov [] := ⟨fun s h => by simp at h, List.Pairwise.nil⟩
theorem Cov.tail {s : Sp} {c : List Sp} (h : Cov (s :: c)) : Cov c := ⟨fun x hx => h.1 x (by simp [hx]), (List.pairwise_cons.1 h.2).2⟩
theorem Cov.head_lt {s : Sp} {c : List Sp} (h : Cov (s :: c)) : ∀ x ∈ c, s.2 < x.1 := (List.pairwise_cons.1 h.2).1
theorem Cov.head {s : Sp} {c : List Sp} (h : Cov (s :: c)) : May s := h.1 s (by simp)
theorem Cov.tail_gt {s : Sp} {c : List Sp} (h : Cov (s :: c)) {t : Int} (ht : anyB c t = true) : s.2 < t := by
  obtain ⟨x, hx, _, h1, _⟩ := any_iff.1 ht
  have := h.head_lt x hx
  omega
/-- Covers that have the same times are the same. -/
theorem cov_unique : ∀ {c d : List Sp}, Cov c → Cov d → (∀ t, anyB c t = anyB d t) → c = d := by
  intro c
  induction c with
  | nil =>
    intro d _ hd h
    cases d with
    | nil => rfl
    | cons s d =>
      exfalso
      have hm := hd.head
      have h1 := h s.1
      rw [any_cons, hasB_iff.2 ⟨hm, Int.le_refl _, hm.2.1⟩] at h1
      simp [any_nil] at h1
  | cons s c ih =>
    intro d hc hd h
    have hm := hc.head
    cases d with
    | nil =>
      exfalso
      have h1 := h s.1
      rw [any_cons, hasB_iff.2 ⟨hm, Int.le_refl _, hm.2.1⟩] at h1
      simp [any_nil] at h1
    | cons r d =>
      have hn := hd.head
      have k1 : anyB (s :: c) s.1 = true := by rw [any_cons, hasB_iff.2 ⟨hm, Int.le_refl _, hm.2.1⟩]; rfl
      have k2 : anyB (r :: d) r.1 = true := by rw [any_cons, hasB_iff.2 ⟨hn, Int.le_refl _, hn.2.1⟩]; rfl
      have first : ∀ {x : Sp} {l : List Sp} {t : Int}, Cov (x :: l) → anyB (x :: l) t = true → x.1 ≤ t := by
        intro x l t hl ht
        rw [any_cons, Bool.or_eq_true] at ht
        rcases ht with ht | ht
        · exact (hasB_iff.1 ht).2.1
        · have := hl.tail_gt ht
          have := hl.head.2.1
          omega
      have e1 : s.1 = r.1 := by
        have a1 := first hd (by rw [← h]; exact k1)
        have a2 := first hc (by rw [h]; exact k2)
        omega
      have gap : ∀ {x y : Sp} {l m : List Sp}, Cov (x :: l) → Cov (y :: m) → (∀ t, anyB (x :: l) t = anyB (y :: m) t) → x.1 = y.1 → ¬ x.2 < y.2 := by
        intro x y l m hl hm2 hh e hlt
        have b1 : anyB (y :: m) x.2 = true := by rw [any_cons, hasB_iff.2 ⟨hm2.head, by have := hl.head.2.1; omega, hlt⟩]; rfl
        rw [← hh, any_cons, Bool.or_eq_true] at b1
        rcases b1 with b1 | b1
        · have := (hasB_iff.1 b1).2.2; omega
        · have := hl.tail_gt b1; omega
      have e2 : s.2 = r.2 := by
        have a1 := gap hc hd h e1
        have a2 := gap hd hc (fun t => (h t).symm) e1.symm
        omega
      have e : s = r := Prod.ext e1 e2
      subst e
      congr 1
      refine ih hc.tail hd.tail fun t => ?_
      have ht := h t
      rw [any_cons, any_cons] at ht
      cases hh : hasB s t with
      | false => rwa [hh, Bool.false_or, Bool.false_or] at ht
      | true =>
        have h3 := (hasB_iff.1 hh).2.2
        have z : ∀ {l : List Sp}, Cov (s :: l) → anyB l t = false := fun {l} hl => by
          cases hb : anyB l t with
          | false => rfl
          | true => have := hl.tail_gt hb; omega
        rw [z hc, z hd]
/-- Where a cover up to a time stands. -/
def CovTo (c : List Sp) (x : Int) (P : Int → Bool) : Prop := Cov c ∧ (∀ s ∈ c, s.2 ≤ x) ∧ ∀ t, anyB c t = (decide (t < x) && P t)
theorem CovTo.skip {c : List Sp} {x y : Int} {P : Int → Bool} (h : CovTo c x P) (hxy : x ≤ y) (hP : ∀ t, x ≤ t → t < y → P t = false) : CovTo c y P := by
  refine ⟨h.1, fun s hs => Int.le_trans (h.2.1 s hs) hxy, fun t => ?_⟩
  rw [h.2.2 t]
  by_cases h1 : t < x
  · simp [h1, show t < y by omega]
  · by_cases h2 : t < y
    · simp [h1, h2, hP t (by omega) h2]
    · simp [h1, h2]
theorem CovTo.add {c : List Sp} {x y : Int} {P : Int → Bool} (h : CovTo c x P) (hx : 0 ≤ x) (hxy : x < y) (hy : y ≤ 4503599627370496) (hP : ∀ t, x ≤ t → t < y → P t = true) (hl : ∀ s ∈ c, s.2 ≠ x) :
    CovTo (c ++ [(x, y)]) y P := by
  have hm : May (x, y) := ⟨hx, hxy, hy⟩
  refine ⟨⟨fun s hs => ?_, ?_⟩, fun s hs => ?_, fun t => ?_⟩
  · rcases List.mem_append.1 hs with hs | hs
    · exact h.1.1 s hs
    · simp at hs; subst hs; exact hm
  · refine List.pairwise_append.2 ⟨h.1.2, List.pairwise_singleton _ _, fun a ha b hb => ?_⟩
    simp at hb; subst hb
    have h1 := h.2.1 a ha
    have h2 := hl a ha
    show a.2 < x
    omega
  · rcases List.mem_append.1 hs with hs | hs
    · have := h.2.1 s hs; omega
    · simp at hs; subst hs; exact Int.le_refl _
  · rw [any_append, h.2.2 t, any_cons, any_nil, Bool.or_false]
    by_cases h1 : t < x
    · have h2 : hasB (x, y) t = false := by
        cases hb : hasB (x, y) t with
        | false => rfl
        | true => have := (hasB_iff.1 hb).2.1; dsimp only at this; omega
      simp [h1, h2, show t < y by omega]
    · by_cases h2 : t < y
      · have h3 : hasB (x, y) t = true := hasB_iff.2 ⟨hm, by dsimp only; omega, h2⟩
        simp [h1, h2, h3, hP t (by omega) h2]
      · have h3 : hasB (x, y) t = false := by
          cases hb : hasB (x, y) t with
          | false => rfl
          | true => have := (hasB_iff.1 hb).2.2; dsimp only at this; omega
        simp [h1, h2, h3]
theorem CovTo.grow {c : List Sp} {f x y : Int} {P : Int → Bool} (h : CovTo (c ++ [(f, x)]) x P) (hxy : x < y) (hy : y ≤ 4503599627370496) (hP : ∀ t, x ≤ t → t < y → P t = true) : CovTo (c ++ [(f, y)]) y P := by
  have hmx : May (f, x) := h.1.1 _ (by simp)
  have hm : May (f, y) := ⟨hmx.1, by have := hmx.2.1; dsimp only at this ⊢; omega, hy⟩
  obtain ⟨p1, p2, p3⟩ := List.pairwise_append.1 h.1.2
  refine ⟨⟨fun s hs => ?_, ?_⟩, fun s hs => ?_, fun t => ?_⟩
  · rcases List.mem_append.1 hs with hs | hs
    · exact h.1.1 s (by simp [hs])
    · simp at hs; subst hs; exact hm
  · refine List.pairwise_append.2 ⟨p1, List.pairwise_singleton _ _, fun a ha b hb => ?_⟩
    simp at hb; subst hb
    exact p3 a ha (f, x) (by simp)
  · rcases List.mem_append.1 hs with hs | hs
    · have := h.2.1 s (by simp [hs]); omega
    · simp at hs; subst hs; exact Int.le_refl _
  · have h0 := h.2.2 t
    rw [any_append, any_cons, any_nil, Bool.or_false] at h0
    rw [any_append, any_cons, any_nil, Bool.or_false]
    have e1 : hasB (f, y) t = (hasB (f, x) t || (decide (x ≤ t) && decide (t < y))) := by
      apply bool_ext
      rw [Bool.or_eq_true, hasB_iff, hasB_iff, Bool.and_eq_true, decide_eq_true_eq, decide_eq_true_eq]
      have := hmx.2.1
      dsimp only at this ⊢
      constructor
      · rintro ⟨_, h1, h2⟩
        by_cases h3 : x ≤ t
        · exact .inr ⟨h3, h2⟩
        · exact .inl ⟨hmx, h1, by omega⟩
      · rintro (⟨_, h1, h2⟩ | ⟨h1, h2⟩)
        · exact ⟨hm, h1, by omega⟩
        · exact ⟨hm, by omega, h2⟩
    rw [e1, ← Bool.or_assoc, h0]
    by_cases h1 : t < x
    · simp [h1, show ¬ x ≤ t by omega, show t < y by omega]
    · by_cases h2 : t < y
      · simp [h1, h2, show x ≤ t by omega, hP t (by omega) h2]
      · simp [h1, h2]
end Go.Proofs.Ytonapgbokbeopaa.SpanPlain
namespace Go.Proofs.Ytonapgbokbeopaa.SpanPlain
abbrev Rise (l : List Int) : Prop := l.Pairwise (· < ·)
/-- One behind the last of the first k that are less. -/
def atTo (l : List Int) (n : Int) : Nat → Nat
  | 0 => 0
  | k + 1 => if l.getD k 0 < n then k + 1 else atTo l n k
theorem atTo_le (l : List Int) (n : Int) (k : Nat) : atTo l n k ≤ k := by
  induction k with
  | zero => exact Nat.le_refl _
  | succ k ih => unfold atTo; split <;> omega
theorem atTo_spec (l : List Int) (n : Int) (k : Nat) : (atTo l n k = 0 ∨ l.getD (atTo l n k - 1) 0 < n) ∧ ∀ i, atTo l n k ≤ i → i < k → ¬ l.getD i 0 < n := by
  induction k with
  | zero => exact ⟨.inl rfl, fun i _ h => by omega⟩
  | succ k ih =>
    unfold atTo
    by_cases h : l.getD k 0 < n
    · rw [if_pos h]
      exact ⟨.inr (by simpa using h), fun i h1 h2 => by omega⟩
    · rw [if_neg h]
      refine ⟨ih.1, fun i h1 h2 => ?_⟩
      by_cases e : i = k
      · subst e; exact h
      · exact ih.2 i h1 (by omega)
def putL (l : List Int) (n : Int) : List Int := if n ∈ l then l else l.take (atTo l n l.length) ++ ([n] ++ l.drop (atTo l n l.length))
theorem putL_in {l : List Int} {n : Int} (h : n ∈ l) : putL l n = l := if_pos h
theorem putL_out {l : List Int} {n : Int} (h : n ∉ l) : putL l n = l.take (atTo l n l.length) ++ ([n] ++ l.drop (atTo l n l.length)) := if_neg h
theorem putL_len (l : List Int) (n : Int) : (putL l n).length ≤ l.length + 1 := by
  by_cases h : n ∈ l
  · rw [putL_in h]; omega
  · rw [putL_out h]
    have := atTo_le l n l.length
    simp
    omega
theorem getD_mem {l : List Int} {i : Nat} (h : i < l.length) : l.getD i 0 ∈ l := by
  have e : l.getD i 0 = l[i] := by simp [List.getD, h]
  rw [e]; exact List.getElem_mem h
theorem getD_el {l : List Int} {i : Nat} (h : i < l.length) : l.getD i 0 = l[i] := by simp [List.getD, h]
theorem Rise.le {l : List Int} (h : Rise l) {i j : Nat} (hij : i ≤ j) (hj : j < l.length) : l.getD i 0 ≤ l.getD j 0 := by
  by_cases e : i = j
  · subst e; exact Int.le_refl _
  · have := List.pairwise_iff_getElem.1 h i j (by omega) hj (by omega)
    rw [getD_el (by omega), getD_el hj]
    omega
theorem putL_spec {l : List Int} {n : Int} (h : Rise l) : Rise (putL l n) ∧ ∀ x, x ∈ putL l n ↔ x ∈ l ∨ x = n := by
  by_cases hn : n ∈ l
  · rw [putL_in hn]
    exact ⟨h, fun x => ⟨.inl, fun hx => hx.elim id fun e => by rw [e]; exact hn⟩⟩
  · rw [putL_out hn]
    have hk := atTo_le l n l.length
    obtain ⟨h1, h2⟩ := atTo_spec l n l.length
    generalize atTo l n l.length = k at *
    have hlo : ∀ x ∈ l.take k, x < n := fun x hx => by
      obtain ⟨i, hi, rfl⟩ := List.mem_take_iff_getElem.1 hx
      rcases h1 with h1 | h1
      · omega
      · have := h.le (i := i) (j := k - 1) (by omega) (by omega)
        rw [getD_el (by omega)] at this
        omega
    have hhi : ∀ x ∈ l.drop k, n < x := fun x hx => by
      obtain ⟨i, hi, rfl⟩ := List.mem_drop_iff_getElem.1 hx
      have h3 := h2 (i + k) (by omega) (by omega)
      rw [getD_el (by omega)] at h3
      have h4 : l[i + k] ≠ n := fun e => hn (by rw [← e]; exact List.getElem_mem _)
      have e : l[k + i] = l[i + k] := by congr 1; omega
      omega
    refine ⟨List.pairwise_append.2 ⟨h.sublist (List.take_sublist _ _), List.pairwise_cons.2 ⟨hhi, h.sublist (List.drop_sublist _ _)⟩, fun a ha b hb => ?_⟩, fun x => ?_⟩
    · have h3 := hlo a ha
      rcases List.mem_cons.1 hb with hb | hb
      · omega
      · have := hhi b hb; omega
    · rw [List.mem_append, List.mem_append, List.mem_singleton]
      constructor
      · rintro (hx | hx | hx)
        · exact .inl (List.mem_of_mem_take hx)
        · exact .inr hx
        · exact .inl (List.mem_of_mem_drop hx)
      · rintro (hx | hx)
        · rw [← List.take_append_drop k l] at hx
          rcases List.mem_append.1 hx with hx | hx
          · exact .inl hx
          · exact .inr (.inr hx)
        · exact .inr (.inl hx)
def endsStep (o : List Int) (s : Sp) : List Int := if mayB s then putL (putL o s.1) s.2 else o
def endsL (l : List Sp) : List Int := l.foldl endsStep []
theorem endsL_snoc (l : List Sp) (s : Sp) : endsL (l ++ [s]) = endsStep (endsL l) s := by unfold endsL; rw [List.foldl_append]; rfl
def EndsOf (l : List Sp) (o : List Int) : Prop := Rise o ∧ (∀ x, x ∈ o ↔ ∃ s ∈ l, May s ∧ (x = s.1 ∨ x = s.2)) ∧ o.length ≤ 2 * l.length
theorem endsStep_len (o : List Int) (s : Sp) : (endsStep o s).length ≤ o.length + 2 := by
  unfold endsStep
  split
  · have := putL_len (putL o s.1) s.2
    have := putL_len o s.1
    omega
  · omega
theorem ends_spec (l : List Sp) : EndsOf l (endsL l) := by
  refine Util.snoc_ind (p := fun l => EndsOf l (endsL l)) ⟨List.Pairwise.nil, fun x => by simp [endsL], by simp [endsL]⟩ (fun l s ih => ?_) l
  · show EndsOf (l ++ [s]) (endsL (l ++ [s]))
    rw [endsL_snoc]
    obtain ⟨h1, h2, h3⟩ := ih
    have h4 := endsStep_len (endsL l) s
    refine ⟨?_, ?_, by rw [List.length_append, List.length_singleton]; omega⟩
    · unfold endsStep
      split
      · exact (putL_spec (putL_spec h1).1).1
      · exact h1
    · intro x
      have key : x ∈ endsStep (endsL l) s ↔ x ∈ endsL l ∨ (May s ∧ (x = s.1 ∨ x = s.2)) := by
        unfold endsStep
        split
        · rename_i hm
          have hm' := (mayB_iff s).1 hm
          rw [(putL_spec (putL_spec h1).1).2, (putL_spec h1).2]
          constructor
          · rintro ((h | h) | h)
            · exact .inl h
            · exact .inr ⟨hm', .inl h⟩
            · exact .inr ⟨hm', .inr h⟩
          · rintro (h | ⟨_, h | h⟩)
            · exact .inl (.inl h)
            · exact .inl (.inr h)
            · exact .inr h
        · rename_i hm
          constructor
          · exact .inl
          · rintro (h | ⟨h, _⟩)
            · exact h
            · exact absurd ((mayB_iff s).2 h) hm
      rw [key, h2]
      constructor
      · rintro (⟨r, hr, h⟩ | h)
        · exact ⟨r, by simp [hr], h⟩
        · exact ⟨s, by simp, h⟩
      · rintro ⟨r, hr, h⟩
        rcases List.mem_append.1 hr with hr | hr
        · exact .inl ⟨r, hr, h⟩
        · simp at hr; subst hr; exact .inr h
theorem Rise.gap {e : List Int} (h : Rise e) {i : Nat} (hi : i + 1 < e.length) {x : Int} (hx : x ∈ e) : x ≤ e.getD i 0 ∨ e.getD (i + 1) 0 ≤ x := by
  obtain ⟨j, hj, rfl⟩ := List.mem_iff_getElem.1 hx
  rw [← getD_el hj]
  by_cases hji : j ≤ i
  · exact .inl (h.le hji (by omega))
  · exact .inr (h.le (by omega) hj)
/-- Between two ends that follow each other nothing changes. -/
theorem const_between {l : List Sp} {e : List Int} (hr : Rise e) (hin : ∀ s ∈ l, May s → s.1 ∈ e ∧ s.2 ∈ e) {i : Nat} (hi : i + 1 < e.length) {t : Int} (h1 : e.getD i 0 ≤ t) (h2 : t < e.getD (i + 1) 0) : anyB l t = anyB l (e.getD i 0) := by
  apply bool_ext
  rw [any_iff, any_iff]
  constructor
  · rintro ⟨s, hs, hm, h3, h4⟩
    have h5 := hr.gap hi (hin s hs hm).1
    exact ⟨s, hs, hm, by omega, by omega⟩
  · rintro ⟨s, hs, hm, h3, h4⟩
    have h5 := hr.gap hi (hin s hs hm).2
    exact ⟨s, hs, hm, by omega, by omega⟩
theorem none_ahead {l : List Sp} {e : List Int} (hr : Rise e) (hin : ∀ s ∈ l, May s → s.1 ∈ e ∧ s.2 ∈ e) (h0 : 0 < e.length) {t : Int} (h1 : t < e.getD 0 0) : anyB l t = false := by
  cases hb : anyB l t with
  | false => rfl
  | true =>
    exfalso
    obtain ⟨s, hs, hm, h3, h4⟩ := any_iff.1 hb
    obtain ⟨j, hj, he⟩ := List.mem_iff_getElem.1 (hin s hs hm).1
    have := hr.le (Nat.zero_le j) hj
    rw [getD_el hj, he] at this
    omega
theorem none_behind {l : List Sp} {e : List Int} (hr : Rise e) (hin : ∀ s ∈ l, May s → s.1 ∈ e ∧ s.2 ∈ e) {i : Nat} {t : Int} (h : e.length = 0 ∨ (i + 1 = e.length ∧ e.getD i 0 ≤ t)) : anyB l t = false := by
  cases hb : anyB l t with
  | false => rfl
  | true =>
    exfalso
    obtain ⟨s, hs, hm, h3, h4⟩ := any_iff.1 hb
    obtain ⟨j, hj, he⟩ := List.mem_iff_getElem.1 (hin s hs hm).2
    rcases h with h | ⟨h, h1⟩
    · omega
    · have := hr.le (show j ≤ i by omega) (by omega)
      rw [getD_el hj, he] at this
      omega
/-- The cover of what some spans have, and others have not. -/
def LessOf (l m c : List Sp) : Prop := Cov c ∧ ∀ t, anyB c t = (anyB l t && !anyB m t)
theorem LessOf.unique {l m c d : List Sp} (h : LessOf l m c) (g : LessOf l m d) : c = d := cov_unique h.1 g.1 fun t => by rw [h.2, g.2]
/-- Where the loop over the ends stands: up to the end at i. -/
def LessAt (l m : List Sp) (e : List Int) (i : Nat) (c : List Sp) : Prop :=
  (e.length = 0 ∧ c = []) ∨ (i < e.length ∧ CovTo c (e.getD i 0) (fun t => anyB l t && !anyB m t))
/-- What the loop leans on. -/
def EndsIn (l m : List Sp) (e : List Int) : Prop :=
  Rise e ∧ (∀ s ∈ l, May s → s.1 ∈ e ∧ s.2 ∈ e) ∧ (∀ s ∈ m, May s → s.1 ∈ e ∧ s.2 ∈ e) ∧ ∀ x ∈ e, 0 ≤ x ∧ x ≤ 4503599627370496
theorem ends_in {l m : List Sp} {e : List Int} (h : EndsOf (l ++ m) e) : EndsIn l m e := by
  obtain ⟨h1, h2, _⟩ := h
  refine ⟨h1, fun s hs hm => ⟨(h2 _).2 ⟨s, by simp [hs], hm, .inl rfl⟩, (h2 _).2 ⟨s, by simp [hs], hm, .inr rfl⟩⟩, fun s hs hm => ⟨(h2 _).2 ⟨s, by simp [hs], hm, .inl rfl⟩, (h2 _).2 ⟨s, by simp [hs], hm, .inr rfl⟩⟩, fun x hx => ?_⟩
  obtain ⟨s, _, ⟨a1, a2, a3⟩, rfl | rfl⟩ := (h2 x).1 hx
  · omega
  · omega
theorem LessAt.start {l m : List Sp} {e : List Int} (h : EndsIn l m e) : LessAt l m e 0 [] := by
  by_cases h0 : e.length = 0
  · exact .inl ⟨h0, rfl⟩
  · refine .inr ⟨by omega, Cov.nil, fun s hs => by simp at hs, fun t => ?_⟩
    rw [any_nil]
    by_cases ht : t < e.getD 0 0
    · dsimp only
      rw [none_ahead h.1 h.2.1 (by omega) ht, Bool.false_and, Bool.and_false]
    · rw [decide_eq_false ht, Bool.false_and]
theorem el_range {l m : List Sp} {e : List Int} (h : EndsIn l m e) {i : Nat} (hi : i + 1 < e.length) : 0 ≤ e.getD i 0 ∧ e.getD i 0 < e.getD (i + 1) 0 ∧ e.getD (i + 1) 0 ≤ 4503599627370496 := by
  have h1 := h.2.2.2 _ (getD_mem (l := e) (i := i) (by omega))
  have h2 := h.2.2.2 _ (getD_mem (l := e) (i := i + 1) hi)
  have h3 := List.pairwise_iff_getElem.1 h.1 i (i + 1) (by omega) hi (by omega)
  rw [getD_el (by omega), getD_el hi] at *
  omega
theorem LessAt.skip {l m : List Sp} {e : List Int} {i : Nat} {c : List Sp} (h : EndsIn l m e) (ha : LessAt l m e i c) (hi : i + 1 < e.length) (hP : anyB l (e.getD i 0) = false ∨ anyB m (e.getD i 0) = true) : LessAt l m e (i + 1) c := by
  rcases ha with ⟨h0, _⟩ | ⟨_, ha⟩
  · omega
  · obtain ⟨r1, r2, r3⟩ := el_range h hi
    refine .inr ⟨hi, ha.skip (by omega) fun t h1 h2 => ?_⟩
    rw [const_between h.1 h.2.1 hi h1 h2, const_between h.1 h.2.2.1 hi h1 h2]
    rcases hP with hP | hP <;> rw [hP] <;> simp
theorem between_true {l m : List Sp} {e : List Int} {i : Nat} (h : EndsIn l m e) (hi : i + 1 < e.length) (h1 : anyB l (e.getD i 0) = true) (h2 : anyB m (e.getD i 0) = false) : ∀ t, e.getD i 0 ≤ t → t < e.getD (i + 1) 0 → (anyB l t && !anyB m t) = true := by
  intro t g1 g2
  rw [const_between h.1 h.2.1 hi g1 g2, const_between h.1 h.2.2.1 hi g1 g2, h1, h2]
  rfl
theorem LessAt.add {l m : List Sp} {e : List Int} {i : Nat} {c : List Sp} (h : EndsIn l m e) (ha : LessAt l m e i c) (hi : i + 1 < e.length) (h1 : anyB l (e.getD i 0) = true) (h2 : anyB m (e.getD i 0) = false) (hl : ∀ s ∈ c, s.2 ≠ e.getD i 0) :
    LessAt l m e (i + 1) (c ++ [(e.getD i 0, e.getD (i + 1) 0)]) := by
  rcases ha with ⟨h0, _⟩ | ⟨_, ha⟩
  · omega
  · obtain ⟨r1, r2, r3⟩ := el_range h hi
    exact .inr ⟨hi, ha.add r1 r2 r3 (between_true h hi h1 h2) hl⟩
theorem LessAt.grow {l m : List Sp} {e : List Int} {i : Nat} {c : List Sp} {f : Int} (h : EndsIn l m e) (ha : LessAt l m e i (c ++ [(f, e.getD i 0)])) (hi : i + 1 < e.length) (h1 : anyB l (e.getD i 0) = true) (h2 : anyB m (e.getD i 0) = false) :
    LessAt l m e (i + 1) (c ++ [(f, e.getD (i + 1) 0)]) := by
  rcases ha with ⟨h0, _⟩ | ⟨_, ha⟩
  · omega
  · obtain ⟨r1, r2, r3⟩ := el_range h hi
    exact .inr ⟨hi, ha.grow r2 r3 (between_true h hi h1 h2)⟩
theorem LessAt.done {l m : List Sp} {e : List Int} {i : Nat} {c : List Sp} (h : EndsIn l m e) (ha : LessAt l m e i c) (hi : ¬ i + 1 < e.length) : LessOf l m c := by
  rcases ha with ⟨h0, rfl⟩ | ⟨hl, ha⟩
  · refine ⟨Cov.nil, fun t => ?_⟩
    rw [none_behind (i := 0) h.1 h.2.1 (.inl h0), any_nil]
    rfl
  · refine ⟨ha.1, fun t => ?_⟩
    rw [ha.2.2 t]
    by_cases ht : t < e.getD i 0
    · rw [decide_eq_true ht, Bool.true_and]
    · rw [none_behind (i := i) h.1 h.2.1 (.inr ⟨by omega, by omega⟩), decide_eq_false ht, Bool.false_and, Bool.false_and]
/-- Only the last one of a cover can touch. -/
theorem last_only {c : List Sp} {s : Sp} {x : Int} {P : Int → Bool} (h : CovTo (c ++ [s]) x P) (hs : s.2 ≠ x) : ∀ r ∈ c ++ [s], r.2 ≠ x := by
  intro r hr
  rcases List.mem_append.1 hr with hr | hr
  · have h1 := (List.pairwise_append.1 h.1.2).2.2 r hr s (by simp)
    have h2 := (h.1.1 s (by simp)).2.1
    have h3 := h.2.1 s (by simp)
    omega
  · simp at hr; subst hr; exact hs
end Go.Proofs.Ytonapgbokbeopaa.SpanPlain
namespace Go.Proofs.Ytonapgbokbeopaa.SpanPlain
/-- How many of the first n times are meant. -/
def cnt (P : Int → Bool) : Nat → Int
  | 0 => 0
  | n + 1 => cnt P n + if P n then 1 else 0
theorem cnt_congr {P Q : Int → Bool} (h : ∀ t, P t = Q t) (n : Nat) : cnt P n = cnt Q n := by
  have e : P = Q := funext h
  rw [e]
theorem cnt_or {P Q : Int → Bool} (h : ∀ t, P t = true → Q t = true → False) (n : Nat) : cnt (fun t => P t || Q t) n = cnt P n + cnt Q n := by
  induction n with
  | zero => rfl
  | succ n ih =>
    unfold cnt
    rw [ih]
    have := h n
    cases hp : P n <;> cases hq : Q n <;> simp_all <;> omega
theorem cnt_range (P : Int → Bool) (n : Nat) : 0 ≤ cnt P n ∧ cnt P n ≤ n := by
  induction n with
  | zero => simp [cnt]
  | succ n ih => unfold cnt; split <;> omega
theorem cnt_none {P : Int → Bool} {n : Nat} (h : ∀ t, P t = false) : cnt P n = 0 := by
  induction n with
  | zero => rfl
  | succ n ih => unfold cnt; rw [ih, h]; rfl
theorem cnt_span {s : Sp} (h : May s) : ∀ n : Nat, cnt (hasB s) n = if (n : Int) ≤ s.1 then 0 else if (n : Int) ≤ s.2 then n - s.1 else s.2 - s.1 := by
  obtain ⟨h1, h2, h3⟩ := h
  intro n
  induction n with
  | zero => simp [cnt, h1]
  | succ n ih =>
    unfold cnt
    rw [ih]
    have hb : hasB s n = decide (s.1 ≤ (n : Int) ∧ (n : Int) < s.2) := by
      apply bool_ext
      rw [hasB_iff, decide_eq_true_eq]
      exact ⟨fun h => h.2, fun h => ⟨⟨h1, h2, h3⟩, h⟩⟩
    rw [hb]
    by_cases a : s.1 ≤ (n : Int) <;> by_cases b : (n : Int) < s.2 <;> simp only [a, b, and_true, and_false, true_and, decide_true, decide_false, if_true, Bool.false_eq_true, if_false, and_self] <;> split <;> (try split) <;> (try split) <;> (try split) <;> (first | omega | (simp_all; omega))
/-- How many times a cover's spans have together. -/
def totL (l : List Sp) : Int := l.foldl (fun n s => n + s.2 - s.1) 0
theorem totL_snoc (l : List Sp) (s : Sp) : totL (l ++ [s]) = totL l + s.2 - s.1 := by unfold totL; rw [List.foldl_append]; rfl
def allTimes : Nat := 4503599627370496
theorem span_all {s : Sp} (h : May s) : cnt (hasB s) allTimes = s.2 - s.1 := by
  rw [cnt_span h]
  obtain ⟨h1, h2, h3⟩ := h
  have e : ((allTimes : Nat) : Int) = 4503599627370496 := rfl
  rw [e]
  split
  · omega
  · split <;> omega
theorem cov_count : ∀ c : List Sp, Cov c → totL c = cnt (anyB c) allTimes := by
  refine Util.snoc_ind ?_ ?_
  · intro _
    rw [cnt_none (fun t => any_nil t)]
    rfl
  · intro c s ih h
    have hc : Cov c := ⟨fun x hx => h.1 x (by simp [hx]), (List.pairwise_append.1 h.2).1⟩
    have hs : May s := h.1 s (by simp)
    have e : cnt (anyB (c ++ [s])) allTimes = cnt (fun t => anyB c t || hasB s t) allTimes := cnt_congr (fun t => by rw [any_append, any_cons, any_nil, Bool.or_false]) _
    rw [totL_snoc, ih hc, e, cnt_or, span_all hs]
    · omega
    · intro t h1 h2
      obtain ⟨x, hx, hm, h3, h4⟩ := any_iff.1 h1
      have h5 := (List.pairwise_append.1 h.2).2.2 x hx s (by simp)
      have h6 := (hasB_iff.1 h2).2.1
      omega
theorem tot_range {c : List Sp} (h : Cov c) : 0 ≤ totL c ∧ totL c ≤ 4503599627370496 := by
  rw [cov_count c h]
  have := cnt_range (anyB c) allTimes
  have e : ((allTimes : Nat) : Int) = 4503599627370496 := rfl
  rw [e] at this
  exact this
/-- A cover's cover is itself. -/
theorem cov_self {c d : List Sp} (h : Cov c) (g : LessOf c [] d) : d = c :=
  cov_unique g.1 h fun t => by rw [g.2, any_nil, Bool.not_false, Bool.and_true]
/-- What spans have alone, and what both have, is as long as what one of them has. -/
theorem parts {l m a b c d e all : List Sp} (ha : LessOf l m a) (hb : LessOf m l b) (hc : LessOf l [] c) (hd : LessOf c a d) (he : LessOf d b e) (hall : LessOf (l ++ m) [] all) : totL a + totL b + totL e = totL all := by
  rw [cov_count a ha.1, cov_count b hb.1, cov_count e he.1, cov_count all hall.1]
  have e1 : ∀ t, anyB c t = anyB l t := fun t => by rw [hc.2, any_nil, Bool.not_false, Bool.and_true]
  have e2 : ∀ t, anyB e t = (anyB l t && anyB m t) := fun t => by
    rw [he.2, hd.2, e1, ha.2, hb.2]
    cases anyB l t <;> cases anyB m t <;> rfl
  have e3 : ∀ t, anyB all t = ((anyB a t || anyB b t) || anyB e t) := fun t => by
    rw [hall.2, any_append, any_nil, e2, ha.2, hb.2]
    cases anyB l t <;> cases anyB m t <;> rfl
  rw [cnt_congr e3, cnt_or, cnt_or]
  · intro t h1 h2
    rw [ha.2] at h1
    rw [hb.2] at h2
    cases hl : anyB l t <;> cases hm : anyB m t <;> simp_all
  · intro t h1 h2
    rw [ha.2, hb.2] at h1
    rw [e2] at h2
    cases hl : anyB l t <;> cases hm : anyB m t <;> simp_all
/-- What two spans have in common. -/
def meetL (a b : Sp) : Sp × Bool := if mayB a && mayB b && decide (max a.1 b.1 < min a.2 b.2) then ((max a.1 b.1, min a.2 b.2), true) else ((0, 0), false)
theorem meet_yes {a b : Sp} (ha : mayB a = true) (hb : mayB b = true) (h : max a.1 b.1 < min a.2 b.2) : meetL a b = ((max a.1 b.1, min a.2 b.2), true) := by
  unfold meetL; rw [ha, hb, decide_eq_true h]; rfl
theorem meet_no {a b : Sp} (h : mayB a = false ∨ mayB b = false ∨ ¬ max a.1 b.1 < min a.2 b.2) : meetL a b = ((0, 0), false) := by
  unfold meetL
  rcases h with h | h | h
  · rw [h]; rfl
  · rw [h]; cases mayB a <;> rfl
  · rw [decide_eq_false h]; cases mayB a <;> cases mayB b <;> rfl
/-- What the statement asks of it. -/
theorem meet_spec (a b : Sp) : (meetL a b).2 = (mayB a && mayB b && decide (a.1 < b.2) && decide (b.1 < a.2)) ∧ (∀ t, hasB (meetL a b).1 t = (hasB a t && hasB b t)) ∧
    ((meetL a b).2 = false → (meetL a b).1 = (0, 0)) ∧ ((meetL a b).2 = true → mayB (meetL a b).1 = true) := by
  have z : ∀ t, hasB (0, 0) t = false := fun t => by
    cases h : hasB (0, 0) t with
    | false => rfl
    | true => have := (hasB_iff.1 h).1.2.1; dsimp only at this; omega
  by_cases ha : May a
  · by_cases hb : May b
    · have ha' := (mayB_iff a).2 ha
      have hb' := (mayB_iff b).2 hb
      obtain ⟨a1, a2, a3⟩ := ha
      obtain ⟨b1, b2, b3⟩ := hb
      by_cases h : max a.1 b.1 < min a.2 b.2
      · rw [meet_yes ha' hb' h]
        refine ⟨?_, fun t => ?_, fun h => absurd h (by simp), fun _ => (mayB_iff _).2 ⟨by show (0 : Int) ≤ max a.1 b.1; omega, h, by show min a.2 b.2 ≤ (4503599627370496 : Int); omega⟩⟩
        · rw [ha', hb', decide_eq_true (by omega), decide_eq_true (by omega)]; rfl
        · apply bool_ext
          rw [Bool.and_eq_true, hasB_iff, hasB_iff, hasB_iff]
          unfold May
          dsimp only
          omega
      · rw [meet_no (.inr (.inr h))]
        refine ⟨?_, fun t => ?_, fun _ => rfl, fun h => by cases h⟩
        · rw [ha', hb']
          have : ¬ (a.1 < b.2 ∧ b.1 < a.2) := by omega
          by_cases h1 : a.1 < b.2
          · rw [decide_eq_true h1, decide_eq_false (fun h2 => this ⟨h1, h2⟩)]; rfl
          · rw [decide_eq_false h1]; rfl
        · rw [z]
          symm
          cases hx : (hasB a t && hasB b t) with
          | false => rfl
          | true =>
            rw [Bool.and_eq_true, hasB_iff, hasB_iff] at hx
            omega
    · have hb' : mayB b = false := by cases hx : mayB b with | false => rfl | true => exact absurd ((mayB_iff b).1 hx) hb
      rw [meet_no (.inr (.inl hb'))]
      refine ⟨by rw [hb']; cases mayB a <;> rfl, fun t => ?_, fun _ => rfl, fun h => by cases h⟩
      have : hasB b t = false := by unfold hasB; rw [hb']; rfl
      rw [z, this, Bool.and_false]
  · have ha' : mayB a = false := by cases hx : mayB a with | false => rfl | true => exact absurd ((mayB_iff a).1 hx) ha
    rw [meet_no (.inl ha')]
    refine ⟨by rw [ha']; rfl, fun t => ?_, fun _ => rfl, fun h => by cases h⟩
    have : hasB a t = false := by unfold hasB; rw [ha']; rfl
    rw [z, this, Bool.false_and]
end Go.Proofs.Ytonapgbokbeopaa.SpanPlain
namespace Go.Proofs.Ytonapgbokbeopaa.SpanPlain
theorem sub_len : ∀ (a b : List Int), a.Nodup → (∀ x ∈ a, x ∈ b) → a.length ≤ b.length := by
  intro a
  induction a with
  | nil => intro b _ _; simp
  | cons x a ih =>
    intro b hn hs
    have hx : x ∈ b := hs x (by simp)
    obtain ⟨h1, h2⟩ := List.nodup_cons.1 hn
    have := ih (b.erase x) h2 (fun y hy => by
      have hne : y ≠ x := fun e => h1 (e ▸ hy)
      exact (List.mem_erase_of_ne hne).2 (hs y (by simp [hy])))
    rw [List.length_erase_of_mem hx] at this
    have := List.length_pos_of_mem hx
    simp only [List.length_cons]
    omega
theorem cov_starts {c : List Sp} (h : Cov c) : (c.map (·.1)).Nodup := by
  refine List.Pairwise.map _ (fun a b (hab : a.2 < b.1 ∧ a.1 < a.2) => ?_) (List.Pairwise.imp_of_mem (fun {a b} ha _ hab => ⟨hab, (h.1 a ha).2.1⟩) h.2)
  intro e
  omega
theorem cov_before {c : List Sp} (h : Cov c) {s : Sp} (hs : s ∈ c) : anyB c (s.1 - 1) = false := by
  cases hx : anyB c (s.1 - 1) with
  | false => rfl
  | true =>
    obtain ⟨r, hr, h1, h2, h3⟩ := any_iff.1 hx
    exfalso
    obtain ⟨i, hi, rfl⟩ := List.mem_iff_getElem.1 hs
    obtain ⟨j, hj, rfl⟩ := List.mem_iff_getElem.1 hr
    have hm := h.1 _ hs
    rcases Nat.lt_trichotomy i j with hij | hij | hij
    · have := List.pairwise_iff_getElem.1 h.2 i j hi hj hij
      have := hm.2.1
      omega
    · subst hij; omega
    · have := List.pairwise_iff_getElem.1 h.2 j i hj hi hij
      omega
theorem cov_len {l m c : List Sp} (h : LessOf l m c) : c.length ≤ l.length + m.length := by
  have := sub_len (c.map (·.1)) (l.map (·.1) ++ m.map (·.2)) (cov_starts h.1) (fun x hx => by
    obtain ⟨s, hs, rfl⟩ := List.mem_map.1 hx
    have hm := h.1.1 s hs
    have h1 : anyB c s.1 = true := any_iff.2 ⟨s, hs, hm, Int.le_refl _, hm.2.1⟩
    have h2 := cov_before h.1 hs
    rw [h.2, Bool.and_eq_true] at h1
    rw [h.2] at h2
    obtain ⟨r, hr, r1, r2, r3⟩ := any_iff.1 h1.1
    rw [List.mem_append]
    by_cases hl : anyB l (s.1 - 1) = true
    · right
      rw [hl, Bool.true_and] at h2
      have h3 : anyB m (s.1 - 1) = true := by cases hx : anyB m (s.1 - 1) <;> simp_all
      obtain ⟨q, hq, q1, q2, q3⟩ := any_iff.1 h3
      have h4 : ¬ s.1 < q.2 := fun h5 => by
        have : anyB m s.1 = true := any_iff.2 ⟨q, hq, q1, by omega, h5⟩
        rw [this] at h1
        simp at h1
      exact List.mem_map.2 ⟨q, hq, by omega⟩
    · left
      have h4 : ¬ r.1 ≤ s.1 - 1 := fun h5 => hl (any_iff.2 ⟨r, hr, r1, h5, by omega⟩)
      exact List.mem_map.2 ⟨r, hr, by omega⟩)
  simpa using this
end Go.Proofs.Ytonapgbokbeopaa.SpanPlain
namespace Go.Proofs.Ytonapgbokbeopaa.SpanPlain
theorem any_take {l : List Sp} {k : Nat} (hk : k < l.length) (t : Int) : anyB (l.take (k + 1)) t = (anyB (l.take k) t || hasB (l.getD k (0, 0)) t) := by
  rw [List.take_succ_eq_append_getElem hk, any_append, any_cons, any_nil, Bool.or_false]
  simp [List.getD, hk]
theorem getSp {l : List Sp} {k : Nat} (hk : k < l.length) : l.getD k (0, 0) = l[k] := by simp [List.getD, hk]
theorem has_no {s : Sp} {t : Int} (h : ¬ (May s ∧ s.1 ≤ t ∧ t < s.2)) : hasB s t = false := by
  cases hb : hasB s t with
  | false => rfl
  | true => exact absurd (hasB_iff.1 hb) h
/-- Rising beginnings, of spans that may be. -/
def Rises (l : List Sp) : Prop := (∀ s ∈ l, May s) ∧ l.Pairwise fun a b => a.1 ≤ b.1
theorem Rises.le {l : List Sp} (h : Rises l) {k : Nat} (hk : k < l.length) : ∀ r ∈ l.take k, r.1 ≤ (l.getD k (0, 0)).1 := fun r hr => by
  obtain ⟨i, hi, rfl⟩ := List.mem_take_iff_getElem.1 hr
  rw [getSp hk]
  exact List.pairwise_iff_getElem.1 h.2 i k (by omega) hk (by omega)
theorem Rises.may {l : List Sp} (h : Rises l) {k : Nat} (hk : k < l.length) : May (l.getD k (0, 0)) := by rw [getSp hk]; exact h.1 _ (List.getElem_mem hk)
/-- How the cover of rising spans stands behind the first k. -/
def CoverAt (l : List Sp) (k : Nat) (c : List Sp) : Prop := Cov c ∧ (∀ t, anyB c t = anyB (l.take k) t) ∧ ∀ s ∈ c, ∃ r ∈ l.take k, s.1 = r.1
theorem CoverAt.start (l : List Sp) : CoverAt l 0 [] := ⟨Cov.nil, fun t => rfl, fun s h => by simp at h⟩
theorem mem_take_succ {l : List Sp} {k : Nat} (hk : k < l.length) {r : Sp} : r ∈ l.take (k + 1) ↔ r ∈ l.take k ∨ r = l.getD k (0, 0) := by
  rw [List.take_succ_eq_append_getElem hk, List.mem_append, List.mem_singleton, getSp hk]
theorem CoverAt.add {l c : List Sp} {k : Nat} (hr : Rises l) (h : CoverAt l k c) (hk : k < l.length) (hs : ∀ x ∈ c, x.2 < (l.getD k (0, 0)).1) : CoverAt l (k + 1) (c ++ [l.getD k (0, 0)]) := by
  have hm := hr.may hk
  refine ⟨⟨fun s h1 => ?_, List.pairwise_append.2 ⟨h.1.2, List.pairwise_singleton _ _, fun a ha b hb => ?_⟩⟩, fun t => ?_, fun s h1 => ?_⟩
  · rcases List.mem_append.1 h1 with h1 | h1
    · exact h.1.1 s h1
    · rw [List.mem_singleton] at h1; subst h1; exact hm
  · rw [List.mem_singleton] at hb; subst hb; exact hs a ha
  · rw [any_append, any_cons, any_nil, Bool.or_false, any_take hk, h.2.1]
  · rcases List.mem_append.1 h1 with h1 | h1
    · obtain ⟨r, h2, h3⟩ := h.2.2 s h1
      exact ⟨r, (mem_take_succ hk).2 (.inl h2), h3⟩
    · rw [List.mem_singleton] at h1; subst h1; exact ⟨_, (mem_take_succ hk).2 (.inr rfl), rfl⟩
theorem last_all {d : List Sp} {q : Sp} {x : Int} (h : Cov (d ++ [q])) (hq : q.2 < x) : ∀ r ∈ d ++ [q], r.2 < x := by
  intro r hr
  rcases List.mem_append.1 hr with hr | hr
  · have h1 := (List.pairwise_append.1 h.2).2.2 r hr q (by simp)
    have h2 := (h.1 q (by simp)).2.1
    omega
  · rw [List.mem_singleton] at hr; subst hr; exact hq
theorem CoverAt.grow {l d : List Sp} {q : Sp} {k : Nat} (hr : Rises l) (h : CoverAt l k (d ++ [q])) (hk : k < l.length) (hq : ¬ q.2 < (l.getD k (0, 0)).1) : CoverAt l (k + 1) (d ++ [(q.1, max q.2 (l.getD k (0, 0)).2)]) := by
  have hm := hr.may hk
  obtain ⟨r0, hr0, hq0⟩ := h.2.2 q (by simp)
  have hq1 : q.1 ≤ (l.getD k (0, 0)).1 := by have := hr.le hk r0 hr0; omega
  have hmq := h.1.1 q (by simp)
  obtain ⟨p1, p2, p3⟩ := List.pairwise_append.1 h.1.2
  have hT := h.2.1
  have hS := h.2.2
  have hC := h.1.1
  have hT2 := fun t => any_take hk t
  have hS2 : ∀ r, r ∈ l.take k ∨ r = l.getD k (0, 0) → r ∈ l.take (k + 1) := fun r h => (mem_take_succ hk).2 h
  generalize l.getD k (0, 0) = s at *
  have hn : May (q.1, max q.2 s.2) := ⟨hmq.1, by have := hmq.2.1; dsimp only; omega, by have := hmq.2.2; have := hm.2.2; dsimp only; omega⟩
  refine ⟨⟨fun x h1 => ?_, List.pairwise_append.2 ⟨p1, List.pairwise_singleton _ _, fun a ha b hb => ?_⟩⟩, fun t => ?_, fun x h1 => ?_⟩
  · rcases List.mem_append.1 h1 with h1 | h1
    · exact hC x (by simp [h1])
    · rw [List.mem_singleton] at h1; subst h1; exact hn
  · rw [List.mem_singleton] at hb; subst hb; exact p3 a ha q (by simp)
  · rw [hT2, ← hT]
    simp only [any_append, any_cons, any_nil, Bool.or_false, Bool.or_assoc]
    congr 1
    apply bool_ext
    rw [Bool.or_eq_true, hasB_iff, hasB_iff, hasB_iff]
    have e1 := hmq.2.1
    have e2 := hm.2.1
    dsimp only
    constructor
    · rintro ⟨_, h1, h2⟩
      by_cases h3 : t < q.2
      · exact .inl ⟨hmq, h1, h3⟩
      · exact .inr ⟨hm, by omega, by omega⟩
    · rintro (⟨_, h1, h2⟩ | ⟨_, h1, h2⟩)
      · exact ⟨hn, h1, by omega⟩
      · exact ⟨hn, by omega, by omega⟩
  · rcases List.mem_append.1 h1 with h1 | h1
    · obtain ⟨r, h2, h3⟩ := hS x (by simp [h1])
      exact ⟨r, hS2 r (.inl h2), h3⟩
    · rw [List.mem_singleton] at h1; subst h1; exact ⟨r0, hS2 r0 (.inl hr0), hq0⟩
theorem CoverAt.done {l c : List Sp} {k : Nat} (h : CoverAt l k c) (hk : l.length ≤ k) : Cov c ∧ ∀ t, anyB c t = anyB l t := by
  refine ⟨h.1, fun t => ?_⟩
  rw [h.2.1, List.take_of_length_le hk]
/-- The cover of rising spans that have what l has. -/
theorem CoverAt.less {l r c : List Sp} {k : Nat} (h : CoverAt r k c) (hk : r.length ≤ k) (hl : ∀ t, anyB r t = anyB l t) : LessOf l [] c := by
  obtain ⟨h1, h2⟩ := h.done hk
  exact ⟨h1, fun t => by rw [h2, hl, any_nil, Bool.not_false, Bool.and_true]⟩
/-- How what a span has, and a cover has not, stands: up to the time f, behind the first j of the cover. -/
def WithAt (s : Sp) (g : List Sp) (j : Nat) (f : Int) (c : List Sp) : Prop :=
  s.1 ≤ f ∧ CovTo c f (fun t => hasB s t && !anyB g t) ∧ (∀ x ∈ c, x.2 < f) ∧ (∀ r ∈ g.take j, r.2 ≤ f) ∧ ∀ r ∈ g.drop j, f < r.2
theorem WithAt.start {s : Sp} {g : List Sp} (hg : ∀ r ∈ g, s.1 < r.2) : WithAt s g 0 s.1 [] := by
  refine ⟨Int.le_refl _, ⟨Cov.nil, fun x h => by simp at h, fun t => ?_⟩, fun x h => by simp at h, fun r h => by simp at h, fun r h => hg r (by simpa using h)⟩
  rw [any_nil]
  by_cases h : t < s.1
  · dsimp only
    rw [has_no (fun h1 => by omega), Bool.false_and, Bool.and_false]
  · rw [decide_eq_false h, Bool.false_and]
theorem cov_later {g : List Sp} (hg : Cov g) {j : Nat} (hj : j < g.length) : (∀ r ∈ g.take j, r.2 < (g.getD j (0, 0)).1) ∧ ∀ r ∈ g.drop (j + 1), (g.getD j (0, 0)).2 < r.1 ∧ May r := by
  refine ⟨fun r hr => ?_, fun r hr => ?_⟩
  · obtain ⟨i, hi, rfl⟩ := List.mem_take_iff_getElem.1 hr
    rw [getSp hj]
    exact List.pairwise_iff_getElem.1 hg.2 i j (by omega) hj (by omega)
  · obtain ⟨i, hi, rfl⟩ := List.mem_drop_iff_getElem.1 hr
    rw [getSp hj]
    exact ⟨List.pairwise_iff_getElem.1 hg.2 j (j + 1 + i) hj (by omega) (by omega), hg.1 _ (List.getElem_mem _)⟩
theorem any_parts (g : List Sp) {j : Nat} (hj : j < g.length) (t : Int) : anyB g t = (anyB (g.take j) t || (hasB (g.getD j (0, 0)) t || anyB (g.drop (j + 1)) t)) := by
  have e : g = g.take j ++ (g[j] :: g.drop (j + 1)) := by rw [List.getElem_cons_drop, List.take_append_drop]
  rw [getSp hj]
  conv => lhs; rw [e]
  rw [any_append, any_cons]
theorem any_split (g : List Sp) (j : Nat) (t : Int) : anyB g t = (anyB (g.take j) t || anyB (g.drop j) t) := by
  rw [← any_append, List.take_append_drop]
theorem any_off {l : List Sp} {t : Int} (h : ∀ r ∈ l, ¬ (r.1 ≤ t ∧ t < r.2)) : anyB l t = false := by
  cases hb : anyB l t with
  | false => rfl
  | true => obtain ⟨r, hr, _, h1, h2⟩ := any_iff.1 hb; exact absurd ⟨h1, h2⟩ (h r hr)
theorem drop_cases {g : List Sp} {j : Nat} (hj : j < g.length) {r : Sp} : r ∈ g.drop j ↔ r = g.getD j (0, 0) ∨ r ∈ g.drop (j + 1) := by
  rw [getSp hj, ← List.getElem_cons_drop hj, List.mem_cons]
/-- What is within one of the cover is passed over. -/
theorem WithAt.over {s : Sp} {g : List Sp} {j : Nat} {f : Int} {c : List Sp} (hg : Cov g) (h : WithAt s g j f c) (hj : j < g.length) (h1 : ¬ f < (g.getD j (0, 0)).1) : WithAt s g (j + 1) (g.getD j (0, 0)).2 c := by
  obtain ⟨a1, a2, a3, a4, a5⟩ := h
  obtain ⟨l1, l2⟩ := cov_later hg hj
  have hm : May (g.getD j (0, 0)) := by rw [getSp hj]; exact hg.1 _ (List.getElem_mem hj)
  have hf := a5 _ ((drop_cases hj).2 (.inl rfl))
  have hP := any_parts g hj
  have hT : ∀ r, r ∈ g.take (j + 1) → r ∈ g.take j ∨ r = g.getD j (0, 0) := fun r h => (mem_take_succ hj).1 h
  generalize g.getD j (0, 0) = r at *
  refine ⟨by omega, a2.skip (by omega) fun t h2 h3 => ?_, fun x hx => by have := a3 x hx; omega, fun q hq => ?_, fun q hq => ?_⟩
  · rw [hP, hasB_iff.2 ⟨hm, by omega, h3⟩]
    simp
  · rcases hT q hq with hq | rfl
    · have := l1 q hq; have := hm.2.1; omega
    · exact Int.le_refl _
  · have h2 := l2 q hq
    have := h2.2.2.1
    omega
/-- What is ahead of one of the cover is had. -/
theorem WithAt.cut {s : Sp} {g : List Sp} {j : Nat} {f : Int} {c : List Sp} (hs : May s) (hg : Cov g) (h : WithAt s g j f c) (hj : j < g.length) (h0 : (g.getD j (0, 0)).1 < s.2) (h1 : f < (g.getD j (0, 0)).1) :
    WithAt s g (j + 1) (g.getD j (0, 0)).2 (c ++ [(f, (g.getD j (0, 0)).1)]) := by
  obtain ⟨a1, a2, a3, a4, a5⟩ := h
  obtain ⟨l1, l2⟩ := cov_later hg hj
  have hm : May (g.getD j (0, 0)) := by rw [getSp hj]; exact hg.1 _ (List.getElem_mem hj)
  have hf := a5 _ ((drop_cases hj).2 (.inl rfl))
  have hP := any_parts g hj
  have hT : ∀ r, r ∈ g.take (j + 1) → r ∈ g.take j ∨ r = g.getD j (0, 0) := fun r h => (mem_take_succ hj).1 h
  generalize g.getD j (0, 0) = r at *
  have hs1 := hs.1
  have hs3 := hs.2.2
  have hm2 := hm.2.1
  have b : CovTo (c ++ [(f, r.1)]) r.1 (fun t => hasB s t && !anyB g t) := a2.add (by omega) h1 (by omega) (fun t h2 h3 => by
    rw [hasB_iff.2 ⟨hs, by omega, by omega⟩, hP, any_off (fun q hq => by have := a4 q hq; omega), any_off (fun q hq => by have := (l2 q hq).1; omega), has_no (fun h4 => by omega)]
    rfl) (fun x hx => by have := a3 x hx; omega)
  refine ⟨by omega, b.skip (by omega) fun t h2 h3 => ?_, fun x hx => ?_, fun q hq => ?_, fun q hq => ?_⟩
  · rw [hP, hasB_iff.2 ⟨hm, h2, h3⟩]
    simp
  · rcases List.mem_append.1 hx with hx | hx
    · have := a3 x hx; omega
    · rw [List.mem_singleton] at hx; subst hx; exact hm2
  · rcases hT q hq with hq | rfl
    · have := l1 q hq; omega
    · exact Int.le_refl _
  · have h2 := l2 q hq
    have := h2.2.2.1
    omega
/-- No more of the cover is in the span. -/
def Over (s : Sp) (g : List Sp) (j : Nat) : Prop := ∀ r ∈ g.drop j, s.2 ≤ r.1
theorem Over.end_ {s : Sp} {g : List Sp} {j : Nat} (h : g.length ≤ j) : Over s g j := fun r hr => by rw [List.drop_of_length_le h] at hr; simp at hr
theorem Over.stop {s : Sp} {g : List Sp} {j : Nat} (hg : Cov g) (hj : j < g.length) (h : ¬ (g.getD j (0, 0)).1 < s.2) : Over s g j := fun r hr => by
  have hm : May (g.getD j (0, 0)) := by rw [getSp hj]; exact hg.1 _ (List.getElem_mem hj)
  rcases (drop_cases hj).1 hr with rfl | hr
  · omega
  · have := ((cov_later hg hj).2 r hr).1
    have := hm.2.1
    omega
theorem WithAt.rest {s : Sp} {g : List Sp} {j : Nat} {f : Int} {c : List Sp} (hs : May s) (h : WithAt s g j f c) (ho : Over s g j) (hf : f < s.2) : LessOf [s] g (c ++ [(f, s.2)]) := by
  obtain ⟨a1, a2, a3, a4, a5⟩ := h
  have hs1 := hs.1
  have b := a2.add (y := s.2) (by omega) hf hs.2.2 (fun t h2 h3 => by
    rw [hasB_iff.2 ⟨hs, by omega, h3⟩, any_split g j, any_off (fun q hq => by have := a4 q hq; omega), any_off (fun q hq => by have := ho q hq; omega)]
    rfl) (fun x hx => by have := a3 x hx; omega)
  refine ⟨b.1, fun t => ?_⟩
  rw [b.2.2 t, any_cons, any_nil, Bool.or_false]
  by_cases ht : t < s.2
  · rw [decide_eq_true ht, Bool.true_and]
  · rw [decide_eq_false ht, has_no (fun h4 => by omega), Bool.false_and, Bool.false_and]
theorem WithAt.full {s : Sp} {g : List Sp} {j : Nat} {f : Int} {c : List Sp} (h : WithAt s g j f c) (hf : ¬ f < s.2) : LessOf [s] g c := by
  obtain ⟨a1, a2, a3, a4, a5⟩ := h
  refine ⟨a2.1, fun t => ?_⟩
  rw [a2.2.2 t, any_cons, any_nil, Bool.or_false]
  by_cases ht : t < f
  · rw [decide_eq_true ht, Bool.true_and]
  · rw [decide_eq_false ht, has_no (fun h4 => by omega), Bool.false_and, Bool.false_and]
/-- A cover of times of a span lies within it. -/
theorem cov_within {s : Sp} {c : List Sp} (h : Cov c) (hs : ∀ t, anyB c t = true → hasB s t = true) : ∀ x ∈ c, s.1 ≤ x.1 ∧ x.2 ≤ s.2 := fun x hx => by
  have hm := h.1 x hx
  have h1 := hasB_iff.1 (hs x.1 (any_iff.2 ⟨x, hx, hm, Int.le_refl _, hm.2.1⟩))
  have h2 := hasB_iff.1 (hs (x.2 - 1) (any_iff.2 ⟨x, hx, hm, by have := hm.2.1; omega, by omega⟩))
  omega
/-- How a cover less a cover stands: behind the first k; the first j of the other one are over. -/
def LessRow (l g : List Sp) (k j : Nat) (c : List Sp) : Prop := LessOf (l.take k) g c ∧ ∀ r ∈ g.take j, ∀ s ∈ l.drop k, r.2 ≤ s.1
theorem LessRow.start (l g : List Sp) : LessRow l g 0 0 [] := ⟨⟨Cov.nil, fun t => by rw [List.take_zero, any_nil, Bool.false_and]⟩, fun r h => by simp at h⟩
theorem LessRow.pass {l g : List Sp} {k j : Nat} {c : List Sp} (hl : Cov l) (h : LessRow l g k j c) (hk : k < l.length) (hj : j < g.length) (ho : (g.getD j (0, 0)).2 ≤ (l.getD k (0, 0)).1) : LessRow l g k (j + 1) c := by
  refine ⟨h.1, fun r hr s hs => ?_⟩
  rcases (mem_take_succ hj).1 hr with hr | rfl
  · exact h.2 r hr s hs
  · have hm : May (l.getD k (0, 0)) := by rw [getSp hk]; exact hl.1 _ (List.getElem_mem hk)
    rcases (drop_cases hk).1 hs with rfl | hs
    · exact ho
    · have := ((cov_later hl hk).2 s hs).1
      have := hm.2.1
      omega
theorem LessRow.next {l g : List Sp} {k j : Nat} {c w : List Sp} (hl : Cov l) (h : LessRow l g k j c) (hk : k < l.length) (hw : LessOf [l.getD k (0, 0)] (g.drop j) w) : LessRow l g (k + 1) j (c ++ w) := by
  obtain ⟨⟨c1, c2⟩, h2⟩ := h
  have hm : May (l.getD k (0, 0)) := by rw [getSp hk]; exact hl.1 _ (List.getElem_mem hk)
  have hT := any_take hk
  have hL := (cov_later hl hk).1
  have hh := fun r hr => h2 r hr (l.getD k (0, 0)) ((drop_cases hk).2 (.inl rfl))
  have hN : ∀ r ∈ g.take j, ∀ s ∈ l.drop (k + 1), r.2 ≤ s.1 := fun r hr s hs => h2 r hr s ((drop_cases hk).2 (.inr hs))
  generalize l.getD k (0, 0) = s at *
  have hw2 : ∀ t, anyB w t = (hasB s t && !anyB g t) := fun t => by
    rw [hw.2, any_cons, any_nil, Bool.or_false, any_split g j]
    cases hb : hasB s t with
    | false => rfl
    | true =>
      have h3 := hasB_iff.1 hb
      rw [any_off (l := g.take j) (fun q hq => by have := hh q hq; omega), Bool.false_or]
  have hin := cov_within hw.1 (s := s) (fun t ht => by rw [hw2, Bool.and_eq_true] at ht; exact ht.1)
  refine ⟨⟨⟨fun x hx => ?_, List.pairwise_append.2 ⟨c1.2, hw.1.2, fun x hx y hy => ?_⟩⟩, fun t => ?_⟩, hN⟩
  · rcases List.mem_append.1 hx with hx | hx
    · exact c1.1 x hx
    · exact hw.1.1 x hx
  · have hmx := c1.1 x hx
    have h3 : anyB c (x.2 - 1) = true := any_iff.2 ⟨x, hx, hmx, by have := hmx.2.1; omega, by omega⟩
    rw [c2, Bool.and_eq_true] at h3
    obtain ⟨q, hq, _, h4, h5⟩ := any_iff.1 h3.1
    have := hL q hq
    have := hin y hy
    omega
  · rw [any_append, c2, hw2, hT]
    cases anyB (l.take k) t <;> cases hasB s t <;> cases anyB g t <;> rfl
/-- What is left when the other cover's first one is not over ahead of a span. -/
theorem LessRow.ahead {l g : List Sp} {k j : Nat} (hg : Cov g) (ho : j < g.length → ¬ (g.getD j (0, 0)).2 ≤ (l.getD k (0, 0)).1) : ∀ r ∈ g.drop j, (l.getD k (0, 0)).1 < r.2 := fun r hr => by
  by_cases hj : j < g.length
  · have h1 := ho hj
    rcases (drop_cases hj).1 hr with rfl | hr
    · omega
    · have h2 := (cov_later hg hj).2 r hr
      have := h2.2.2.1
      omega
  · rw [List.drop_of_length_le (by omega)] at hr
    simp at hr
theorem cov_drop {g : List Sp} (h : Cov g) (j : Nat) : Cov (g.drop j) := ⟨fun s hs => h.1 s (List.mem_of_mem_drop hs), h.2.sublist (List.drop_sublist j g)⟩
theorem LessRow.done {l m a g c : List Sp} {k j : Nat} (h : LessRow a g k j c) (hk : a.length ≤ k) (ha : LessOf l [] a) (hg : LessOf m [] g) : LessOf l m c := by
  refine ⟨h.1.1, fun t => ?_⟩
  rw [h.1.2, List.take_of_length_le hk, ha.2, hg.2, any_nil, Bool.not_false, Bool.and_true, Bool.and_true]
/-- Spans that may be, of some. -/
def maysL (l : List Sp) : List Sp := l.filter mayB
theorem mays_take {l : List Sp} {k : Nat} (hk : k < l.length) : maysL (l.take (k + 1)) = maysL (l.take k) ++ if mayB (l.getD k (0, 0)) then [l.getD k (0, 0)] else [] := by
  unfold maysL
  rw [List.take_succ_eq_append_getElem hk, List.filter_append, getSp hk, List.filter_cons, List.filter_nil]
theorem mays_len (l : List Sp) (k : Nat) : (maysL (l.take k)).length ≤ l.length := by
  unfold maysL
  have h1 := List.length_filter_le mayB (l.take k)
  rw [List.length_take] at h1
  omega
theorem mays_any {l r : List Sp} (h : r.Perm (maysL l)) (t : Int) : anyB r t = anyB l t := by
  apply bool_ext
  rw [any_iff, any_iff]
  constructor
  · rintro ⟨s, hs, h1⟩
    exact ⟨s, (List.mem_filter.1 (h.mem_iff.1 hs)).1, h1⟩
  · rintro ⟨s, hs, h1, h2⟩
    exact ⟨s, h.mem_iff.2 (List.mem_filter.2 ⟨hs, (mayB_iff s).2 h1⟩), h1, h2⟩
theorem mays_may {l r : List Sp} (h : r.Perm (maysL l)) : ∀ s ∈ r, May s := fun s hs => (mayB_iff s).1 (List.mem_filter.1 (h.mem_iff.1 hs)).2
end Go.Proofs.Ytonapgbokbeopaa.SpanPlain
