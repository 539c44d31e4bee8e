/-
  The plain mathematics of layer 5: what was taken and given back, as busy times whose widths may be below 0; the least and the greatest number within a span; what is told of a taking, and of a giving back.
-/
import Derived.Test.YtjkninldenoanaaStepPlain
namespace Go.Proofs.Ytjkninldenoanaa.ProfPlain
open Go.Proofs.Ytjkninldenoanaa.SpanPlain Go.Proofs.Ytjkninldenoanaa.StepPlain

/-- What was done may be: spans that may be, widths within bounds. -/
def Done (l : List By) : Prop := ∀ b ∈ l, mayB (b.1, b.2.1) = true ∧ -256 ≤ b.2.2 ∧ b.2.2 ≤ 256
theorem Done.may {l : List By} (h : Done l) : ∀ b ∈ l, mayB (b.1, b.2.1) = true := fun b hb => (h b hb).1
theorem Done.wide {l : List By} (h : Done l) : ∀ b ∈ l, -256 ≤ b.2.2 ∧ b.2.2 ≤ 256 := fun b hb => (h b hb).2
/-- The turns within a span, its begin first. -/
def within (l : List By) (s : Sp) : List Int := (turnsL s.1 l).filter fun e => decide (e < s.2)
theorem within_mem {l : List By} {s : Sp} {x : Int} : x ∈ within l s ↔ x ∈ turnsL s.1 l ∧ x < s.2 := by unfold within; rw [List.mem_filter, decide_eq_true_eq]
theorem within_ge {l : List By} {s : Sp} : ∀ x ∈ within l s, s.1 ≤ x ∧ x < s.2 := fun x hx => ⟨turns_ge x (within_mem.1 hx).1, (within_mem.1 hx).2⟩
/-- Within a span a number is told at one of its turns. -/
theorem within_at {p : Int} {l : List By} (h : Done l) {s : Sp} {t : Int} (h1 : s.1 ≤ t) (h2 : t < s.2) : ∃ x ∈ within l s, freeL p l t = freeL p l x := by
  obtain ⟨x, hx, hxt, hmax⟩ := floor_el (turnsL s.1 l) (turns_rise s.1 l) (by simp [turnsL]) t (by simp [turnsL]; exact h1)
  exact ⟨x, within_mem.2 ⟨hx, by omega⟩, turns_at h.may t x hx hxt hmax⟩
/-- The least number of a function within a span. -/
def LeastOf (P : Int → Int) (s : Sp) (n : Int) : Prop := (∃ t, s.1 ≤ t ∧ t < s.2 ∧ P t = n) ∧ ∀ t, s.1 ≤ t → t < s.2 → n ≤ P t
def MostOf (P : Int → Int) (s : Sp) (n : Int) : Prop := (∃ t, s.1 ≤ t ∧ t < s.2 ∧ P t = n) ∧ ∀ t, s.1 ≤ t → t < s.2 → P t ≤ n
theorem LeastOf.unique {P : Int → Int} {s : Sp} {n m : Int} (a : LeastOf P s n) (b : LeastOf P s m) : n = m := by
  obtain ⟨⟨t, a1, a2, a3⟩, a4⟩ := a
  obtain ⟨⟨u, b1, b2, b3⟩, b4⟩ := b
  have := a4 u b1 b2
  have := b4 t a1 a2
  omega
theorem MostOf.unique {P : Int → Int} {s : Sp} {n m : Int} (a : MostOf P s n) (b : MostOf P s m) : n = m := by
  obtain ⟨⟨t, a1, a2, a3⟩, a4⟩ := a
  obtain ⟨⟨u, b1, b2, b3⟩, b4⟩ := b
  have := a4 u b1 b2
  have := b4 t a1 a2
  omega
theorem min_least {s : List Sp} {x : Sp} {n : Int} : MinOf s x n ↔ LeastOf (val s) x n := Iff.rfl
theorem LeastOf.congr {P Q : Int → Int} {s : Sp} {n : Int} (a : LeastOf P s n) (e : ∀ t, s.1 ≤ t → t < s.2 → P t = Q t) : LeastOf Q s n := by
  obtain ⟨⟨t, a1, a2, a3⟩, a4⟩ := a
  exact ⟨⟨t, a1, a2, by rw [← e t a1 a2]; exact a3⟩, fun u h1 h2 => by rw [← e u h1 h2]; exact a4 u h1 h2⟩
theorem MostOf.congr {P Q : Int → Int} {s : Sp} {n : Int} (a : MostOf P s n) (e : ∀ t, s.1 ≤ t → t < s.2 → P t = Q t) : MostOf Q s n := by
  obtain ⟨⟨t, a1, a2, a3⟩, a4⟩ := a
  exact ⟨⟨t, a1, a2, by rw [← e t a1 a2]; exact a3⟩, fun u h1 h2 => by rw [← e u h1 h2]; exact a4 u h1 h2⟩
def lowStep (P : Int → Int) (n : Int) (x : Int) : Int := if P x < n then P x else n
def highStep (P : Int → Int) (n : Int) (x : Int) : Int := if n < P x then P x else n
def lowTo (P : Int → Int) (s : Sp) (e : List Int) (k : Nat) : Int := (e.take k).foldl (lowStep P) (P s.1)
def highTo (P : Int → Int) (s : Sp) (e : List Int) (k : Nat) : Int := (e.take k).foldl (highStep P) (P s.1)
theorem low_next {P : Int → Int} {s : Sp} {e : List Int} {k : Nat} (hk : k < e.length) : lowTo P s e (k + 1) = lowStep P (lowTo P s e k) (e.getD k 0) := by
  unfold lowTo
  rw [List.take_succ_eq_append_getElem hk, List.foldl_append, getD_el hk]
  rfl
theorem high_next {P : Int → Int} {s : Sp} {e : List Int} {k : Nat} (hk : k < e.length) : highTo P s e (k + 1) = highStep P (highTo P s e k) (e.getD k 0) := by
  unfold highTo
  rw [List.take_succ_eq_append_getElem hk, List.foldl_append, getD_el hk]
  rfl
theorem low_inv {P : Int → Int} {s : Sp} {e : List Int} (hs : s.1 < s.2) (he : ∀ x ∈ e, s.1 ≤ x ∧ x < s.2) (k : Nat) (hk : k ≤ e.length) :
    (∃ t, s.1 ≤ t ∧ t < s.2 ∧ P t = lowTo P s e k) ∧ ∀ x ∈ e.take k, lowTo P s e k ≤ P x := by
  induction k with
  | zero => exact ⟨⟨s.1, Int.le_refl _, hs, rfl⟩, fun x hx => by simp at hx⟩
  | succ k ih =>
    obtain ⟨h1, h2⟩ := ih (by omega)
    have hk' : k < e.length := by omega
    rw [low_next hk']
    have hm := he _ (getD_mem hk')
    have hmt : ∀ x, x ∈ e.take (k + 1) → x ∈ e.take k ∨ x = e.getD k 0 := fun x hx => by
      rw [List.take_succ_eq_append_getElem hk', List.mem_append] at hx
      rcases hx with hx | hx
      · exact .inl hx
      · simp at hx; subst hx; exact .inr (getD_el hk').symm
    generalize e.getD k 0 = y at *
    unfold lowStep
    by_cases hc : P y < lowTo P s e k
    · rw [if_pos hc]
      refine ⟨⟨y, hm.1, hm.2, rfl⟩, fun x hx => ?_⟩
      rcases hmt x hx with hx | rfl
      · have := h2 x hx; omega
      · exact Int.le_refl _
    · rw [if_neg hc]
      refine ⟨h1, fun x hx => ?_⟩
      rcases hmt x hx with hx | rfl
      · exact h2 x hx
      · omega
theorem high_inv {P : Int → Int} {s : Sp} {e : List Int} (hs : s.1 < s.2) (he : ∀ x ∈ e, s.1 ≤ x ∧ x < s.2) (k : Nat) (hk : k ≤ e.length) :
    (∃ t, s.1 ≤ t ∧ t < s.2 ∧ P t = highTo P s e k) ∧ ∀ x ∈ e.take k, P x ≤ highTo P s e k := by
  induction k with
  | zero => exact ⟨⟨s.1, Int.le_refl _, hs, rfl⟩, fun x hx => by simp at hx⟩
  | succ k ih =>
    obtain ⟨h1, h2⟩ := ih (by omega)
    have hk' : k < e.length := by omega
    rw [high_next hk']
    have hm := he _ (getD_mem hk')
    have hmt : ∀ x, x ∈ e.take (k + 1) → x ∈ e.take k ∨ x = e.getD k 0 := fun x hx => by
      rw [List.take_succ_eq_append_getElem hk', List.mem_append] at hx
      rcases hx with hx | hx
      · exact .inl hx
      · simp at hx; subst hx; exact .inr (getD_el hk').symm
    generalize e.getD k 0 = y at *
    unfold highStep
    by_cases hc : highTo P s e k < P y
    · rw [if_pos hc]
      refine ⟨⟨y, hm.1, hm.2, rfl⟩, fun x hx => ?_⟩
      rcases hmt x hx with hx | rfl
      · have := h2 x hx; omega
      · exact Int.le_refl _
    · rw [if_neg hc]
      refine ⟨h1, fun x hx => ?_⟩
      rcases hmt x hx with hx | rfl
      · exact h2 x hx
      · omega
theorem least_spec {p : Int} {l : List By} (h : Done l) {s : Sp} (hs : s.1 < s.2) : LeastOf (freeL p l) s (lowTo (freeL p l) s (within l s) (within l s).length) := by
  obtain ⟨h1, h2⟩ := low_inv (P := freeL p l) hs within_ge (within l s).length (Nat.le_refl _)
  rw [List.take_length] at h2
  refine ⟨h1, fun t a1 a2 => ?_⟩
  obtain ⟨x, hx, e⟩ := within_at (p := p) h a1 a2
  rw [e]
  exact h2 x hx
theorem most_spec {p : Int} {l : List By} (h : Done l) {s : Sp} (hs : s.1 < s.2) : MostOf (freeL p l) s (highTo (freeL p l) s (within l s) (within l s).length) := by
  obtain ⟨h1, h2⟩ := high_inv (P := freeL p l) hs within_ge (within l s).length (Nat.le_refl _)
  rw [List.take_length] at h2
  refine ⟨h1, fun t a1 a2 => ?_⟩
  obtain ⟨x, hx, e⟩ := within_at (p := p) h a1 a2
  rw [e]
  exact h2 x hx

/-- A profile by what was done: processors, begin, busy times; it has room for what is taken. -/
structure Prof where
  p : Int
  t : Int
  l : List By
structure Prof.Fair (x : Prof) : Prop where
  p1 : 1 ≤ x.p
  p2 : x.p ≤ 256
  t1 : 0 ≤ x.t
  t2 : x.t ≤ 1125899906842624
  done : Done x.l
  free : ∀ u, x.t ≤ u → 0 ≤ freeL x.p x.l u ∧ freeL x.p x.l u ≤ x.p
/-- Its steps. -/
theorem Prof.Fair.rep {x : Prof} (h : x.Fair) : Rep (buildL (freeL x.p x.l) (turnsL x.t x.l)) x.t (freeL x.p x.l) :=
  built_rep (turns_rise x.t x.l) (turns_at h.done.may) (by simp [turnsL]) h.t1 h.t2 (turns_top h.t2) fun u hu => by
    have h1 := h.free u (turns_ge u hu)
    have := h.p2
    omega
theorem free_more (p : Int) (l : List By) (b : By) (t : Int) : freeL p (l ++ [b]) t = if hasB (b.1, b.2.1) t then freeL p l t - b.2.2 else if b.1 ≤ t ∧ t < b.2.1 then freeL p l t - b.2.2 else freeL p l t := by
  rw [free_snoc]
  cases hh : hasB (b.1, b.2.1) t with
  | true =>
    have := hasB_iff.1 hh
    rw [if_pos ⟨this.2.1, this.2.2⟩]
    rfl
  | false => rfl
theorem free_take {p : Int} {l : List By} {b : By} (hm : mayB (b.1, b.2.1) = true) (t : Int) : freeL p (l ++ [b]) t = if hasB (b.1, b.2.1) t then freeL p l t - b.2.2 else freeL p l t := by
  rw [free_snoc]
  cases hh : hasB (b.1, b.2.1) t with
  | true =>
    have := hasB_iff.1 hh
    rw [if_pos ⟨this.2.1, this.2.2⟩]
    rfl
  | false =>
    rw [if_neg]
    · rfl
    · intro h
      rw [hasB_iff.2 ⟨(mayB_iff _).1 hm, h⟩] at hh
      cases hh
def turnBad (x : Prof) (b : By) : Prop := byB b = false ∨ b.1 < x.t
/-- What is told of a taking: 0, 1, 8; and what becomes of it. -/
def TakeIs (x : Prof) (b : By) (y : Prof) (c : Int) : Prop :=
  (turnBad x b ∧ y = x ∧ c = 1) ∨ (¬ turnBad x b ∧ (∃ u, b.1 ≤ u ∧ u < b.2.1 ∧ freeL x.p x.l u < b.2.2) ∧ y = x ∧ c = 8) ∨
  (¬ turnBad x b ∧ (∀ u, b.1 ≤ u → u < b.2.1 → b.2.2 ≤ freeL x.p x.l u) ∧ y = ⟨x.p, x.t, x.l ++ [b]⟩ ∧ c = 0)
/-- What is told of a giving back: 0, 1, 11. -/
def GiveIs (x : Prof) (b : By) (y : Prof) (c : Int) : Prop :=
  (turnBad x b ∧ y = x ∧ c = 1) ∨ (¬ turnBad x b ∧ (∃ u, b.1 ≤ u ∧ u < b.2.1 ∧ x.p < freeL x.p x.l u + b.2.2) ∧ y = x ∧ c = 11) ∨
  (¬ turnBad x b ∧ (∀ u, b.1 ≤ u → u < b.2.1 → freeL x.p x.l u + b.2.2 ≤ x.p) ∧ y = ⟨x.p, x.t, x.l ++ [(b.1, b.2.1, -b.2.2)]⟩ ∧ c = 0)
theorem not_turnBad {x : Prof} {b : By} (h : ¬ turnBad x b) : byB b = true ∧ x.t ≤ b.1 := by
  unfold turnBad at h
  simp only [not_or, Bool.not_eq_false] at h
  exact ⟨h.1, by omega⟩
theorem by_parts {b : By} (h : byB b = true) : mayB (b.1, b.2.1) = true ∧ 1 ≤ b.2.2 ∧ b.2.2 ≤ 256 := by
  unfold byB at h
  simp only [Bool.and_eq_true, decide_eq_true_eq] at h
  exact ⟨h.1.1, h.1.2, h.2⟩
theorem Done.snoc {l : List By} (h : Done l) {b : By} (hm : mayB (b.1, b.2.1) = true) (h1 : -256 ≤ b.2.2) (h2 : b.2.2 ≤ 256) : Done (l ++ [b]) := fun c hc => by
  rcases List.mem_append.1 hc with hc | hc
  · exact h c hc
  · simp at hc; subst hc; exact ⟨hm, h1, h2⟩
theorem TakeIs.fair {x y : Prof} {b : By} {c : Int} (h : TakeIs x b y c) (hx : x.Fair) : y.Fair := by
  rcases h with ⟨_, rfl, _⟩ | ⟨_, _, rfl, _⟩ | ⟨h1, h2, rfl, _⟩
  · exact hx
  · exact hx
  · obtain ⟨hb, _⟩ := not_turnBad h1
    obtain ⟨hm, b1, b2⟩ := by_parts hb
    refine ⟨hx.p1, hx.p2, hx.t1, hx.t2, hx.done.snoc hm (by omega) b2, fun u hu => ?_⟩
    have h3 := hx.free u hu
    rw [free_take hm]
    cases hh : hasB (b.1, b.2.1) u with
    | true =>
      have h4 := hasB_iff.1 hh
      have := h2 u h4.2.1 h4.2.2
      simp
      omega
    | false => simpa using h3
theorem GiveIs.fair {x y : Prof} {b : By} {c : Int} (h : GiveIs x b y c) (hx : x.Fair) : y.Fair := by
  rcases h with ⟨_, rfl, _⟩ | ⟨_, _, rfl, _⟩ | ⟨h1, h2, rfl, _⟩
  · exact hx
  · exact hx
  · obtain ⟨hb, _⟩ := not_turnBad h1
    obtain ⟨hm, b1, b2⟩ := by_parts hb
    refine ⟨hx.p1, hx.p2, hx.t1, hx.t2, hx.done.snoc (b := (b.1, b.2.1, -b.2.2)) hm (by dsimp only; omega) (by dsimp only; omega), fun u hu => ?_⟩
    have h3 := hx.free u hu
    dsimp only
    rw [free_take (b := (b.1, b.2.1, -b.2.2)) hm]
    dsimp only
    cases hh : hasB (b.1, b.2.1) u with
    | true =>
      have h4 := hasB_iff.1 hh
      have := h2 u h4.2.1 h4.2.2
      simp
      omega
    | false => simpa using h3
theorem TakeIs.unique {x y z : Prof} {b : By} {c d : Int} (a : TakeIs x b y c) (e : TakeIs x b z d) : y = z ∧ c = d := by
  rcases a with ⟨a1, rfl, rfl⟩ | ⟨a1, ⟨u, u1, u2, u3⟩, rfl, rfl⟩ | ⟨a1, a2, rfl, rfl⟩ <;> rcases e with ⟨e1, rfl, rfl⟩ | ⟨e1, ⟨v, v1, v2, v3⟩, rfl, rfl⟩ | ⟨e1, e2, rfl, rfl⟩
  · exact ⟨rfl, rfl⟩
  · exact absurd a1 e1
  · exact absurd a1 e1
  · exact absurd e1 a1
  · exact ⟨rfl, rfl⟩
  · have := e2 u u1 u2; omega
  · exact absurd e1 a1
  · have := a2 v v1 v2; omega
  · exact ⟨rfl, rfl⟩
theorem GiveIs.unique {x y z : Prof} {b : By} {c d : Int} (a : GiveIs x b y c) (e : GiveIs x b z d) : y = z ∧ c = d := by
  rcases a with ⟨a1, rfl, rfl⟩ | ⟨a1, ⟨u, u1, u2, u3⟩, rfl, rfl⟩ | ⟨a1, a2, rfl, rfl⟩ <;> rcases e with ⟨e1, rfl, rfl⟩ | ⟨e1, ⟨v, v1, v2, v3⟩, rfl, rfl⟩ | ⟨e1, e2, rfl, rfl⟩
  · exact ⟨rfl, rfl⟩
  · exact absurd a1 e1
  · exact absurd a1 e1
  · exact absurd e1 a1
  · exact ⟨rfl, rfl⟩
  · have := e2 u u1 u2; omega
  · exact absurd e1 a1
  · have := a2 v v1 v2; omega
  · exact ⟨rfl, rfl⟩
end Go.Proofs.Ytjkninldenoanaa.ProfPlain
