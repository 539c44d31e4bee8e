/-
  The plain mathematics of layer 4, further: what is free of busy times, and the steps of them; the least number within a span; steps from a time on; steps with more free within a span.
-/
import Derived.Test.YtnjhboanhjjldaaStepPlain
namespace Go.Proofs.Ytnjhboanhjjldaa.StepPlain
open Go.Proofs.Ytnjhboanhjjldaa.SpanPlain

/-- Busy times: from, to, and how wide. -/
abbrev By := Int × Int × Int
def byB (b : By) : Bool := mayB (b.1, b.2.1) && decide (1 ≤ b.2.2) && decide (b.2.2 ≤ 256)
def freeL (p : Int) (l : List By) (t : Int) : Int := l.foldl (fun p b => if b.1 ≤ t ∧ t < b.2.1 then p - b.2.2 else p) p
theorem free_snoc (p : Int) (l : List By) (b : By) (t : Int) : freeL p (l ++ [b]) t = if b.1 ≤ t ∧ t < b.2.1 then freeL p l t - b.2.2 else freeL p l t := by unfold freeL; rw [List.foldl_append]; rfl
theorem free_same {l : List By} {t u : Int} (h : ∀ b ∈ l, (b.1 ≤ t ∧ t < b.2.1) ↔ (b.1 ≤ u ∧ u < b.2.1)) : ∀ p, freeL p l t = freeL p l u := by
  induction l with
  | nil => intro p; rfl
  | cons b l ih =>
    intro p
    unfold freeL at *
    rw [List.foldl_cons, List.foldl_cons]
    have hb := h b (by simp)
    by_cases h1 : b.1 ≤ t ∧ t < b.2.1
    · rw [if_pos h1, if_pos (hb.1 h1)]; exact ih (fun c hc => h c (by simp [hc])) _
    · rw [if_neg h1, if_neg (fun h2 => h1 (hb.2 h2))]; exact ih (fun c hc => h c (by simp [hc])) _
theorem free_le {l : List By} (h : ∀ b ∈ l, byB b = true) (t : Int) : ∀ p, freeL p l t ≤ p := by
  induction l with
  | nil => intro p; exact Int.le_refl _
  | cons b l ih =>
    intro p
    have hb := h b (by simp)
    unfold byB at hb
    simp only [Bool.and_eq_true, decide_eq_true_eq] at hb
    have := ih (fun c hc => h c (by simp [hc])) (if b.1 ≤ t ∧ t < b.2.1 then p - b.2.2 else p)
    unfold freeL at *
    rw [List.foldl_cons]
    split at this <;> split <;> omega
theorem free_ge {l : List By} (h : ∀ b ∈ l, byB b = true) (t : Int) : ∀ p, p - 256 * l.length ≤ freeL p l t := by
  induction l with
  | nil => intro p; simp [freeL]
  | cons b l ih =>
    intro p
    have hb := h b (by simp)
    unfold byB at hb
    simp only [Bool.and_eq_true, decide_eq_true_eq] at hb
    have := ih (fun c hc => h c (by simp [hc])) (if b.1 ≤ t ∧ t < b.2.1 then p - b.2.2 else p)
    unfold freeL at *
    rw [List.foldl_cons, List.length_cons]
    split at this <;> split <;> omega
def busySp (l : List By) : List Sp := l.map fun b => (b.1, b.2.1)
/-- The times from one on at which what is free may change. -/
def turnsL (t : Int) (l : List By) : List Int := t :: (endsL (busySp l)).filter fun e => decide (t < e)
theorem turns_rise (t : Int) (l : List By) : Rise (turnsL t l) :=
  List.pairwise_cons.2 ⟨fun y hy => by simpa using (List.mem_filter.1 hy).2, (ends_spec (busySp l)).1.sublist List.filter_sublist⟩
theorem turns_ge {t : Int} {l : List By} : ∀ y ∈ turnsL t l, t ≤ y := fun y hy => by
  rcases List.mem_cons.1 hy with rfl | hy
  · exact Int.le_refl _
  · have h := (List.mem_filter.1 hy).2
    rw [decide_eq_true_eq] at h
    omega
theorem by_may {b : By} (h : byB b = true) : mayB (b.1, b.2.1) = true := by
  unfold byB at h
  simp only [Bool.and_eq_true] at h
  exact h.1.1
theorem free_range {l : List By} (h : ∀ b ∈ l, -256 ≤ b.2.2 ∧ b.2.2 ≤ 256) (t : Int) : ∀ p, p - 256 * l.length ≤ freeL p l t ∧ freeL p l t ≤ p + 256 * l.length := by
  induction l with
  | nil => intro p; simp [freeL]
  | cons b l ih =>
    intro p
    have hb := h b (by simp)
    have := ih (fun c hc => h c (by simp [hc])) (if b.1 ≤ t ∧ t < b.2.1 then p - b.2.2 else p)
    unfold freeL at *
    rw [List.foldl_cons, List.length_cons]
    split at this <;> split <;> omega
theorem turns_in {t : Int} {l : List By} (h : ∀ b ∈ l, mayB (b.1, b.2.1) = true) {b : By} (hb : b ∈ l) : (b.1 ≤ t ∨ b.1 ∈ turnsL t l) ∧ (b.2.1 ≤ t ∨ b.2.1 ∈ turnsL t l) := by
  have hm := h b hb
  have he := (ends_spec (busySp l)).2.1
  have hin : (b.1, b.2.1) ∈ busySp l := List.mem_map.2 ⟨b, hb, rfl⟩
  constructor
  · by_cases h1 : b.1 ≤ t
    · exact .inl h1
    · exact .inr (List.mem_cons.2 (.inr (List.mem_filter.2 ⟨(he _).2 ⟨_, hin, (mayB_iff _).1 hm, .inl rfl⟩, decide_eq_true (by omega)⟩)))
  · by_cases h1 : b.2.1 ≤ t
    · exact .inl h1
    · exact .inr (List.mem_cons.2 (.inr (List.mem_filter.2 ⟨(he _).2 ⟨_, hin, (mayB_iff _).1 hm, .inr rfl⟩, decide_eq_true (by omega)⟩)))
theorem turns_at {p t : Int} {l : List By} (h : ∀ b ∈ l, mayB (b.1, b.2.1) = true) : TurnsAt (freeL p l) (turnsL t l) := by
  intro u x hx hxu hmax
  have h0 := turns_ge x hx
  refine free_same (fun b hb => ?_) p
  obtain ⟨h1, h2⟩ := turns_in (t := t) h hb
  constructor
  · rintro ⟨a1, a2⟩
    refine ⟨?_, by omega⟩
    rcases h1 with h1 | h1
    · omega
    · exact hmax _ h1 a1
  · rintro ⟨a1, a2⟩
    refine ⟨by omega, ?_⟩
    rcases h2 with h2 | h2
    · omega
    · rcases Int.lt_or_le u b.2.1 with h3 | h3
      · exact h3
      · have := hmax _ h2 h3; omega
theorem turns_top {t : Int} {l : List By} (ht : t ≤ 1125899906842624) : ∀ x ∈ turnsL t l, x ≤ 4503599627370496 := fun x hx => by
  rcases List.mem_cons.1 hx with rfl | hx
  · omega
  · obtain ⟨s, _, hm, h⟩ := ((ends_spec (busySp l)).2.1 x).1 (List.mem_filter.1 hx).1
    have := hm.2.1
    have := hm.2.2
    rcases h with rfl | rfl <;> omega
def ofBad (p t : Int) (l : List By) : Prop := (∃ b ∈ l, byB b = false) ∨ p < 1 ∨ 256 < p ∨ t < 0 ∨ 1125899906842624 < t ∨ 300 < l.length
/-- What Of tells. -/
def OfIs (p t : Int) (l : List By) (s : List Sp) (e : Int) : Prop :=
  (ofBad p t l ∧ s = [] ∧ e = 1) ∨ (¬ ofBad p t l ∧ (∃ u, t ≤ u ∧ freeL p l u < 0) ∧ s = [] ∧ e = 11) ∨ (¬ ofBad p t l ∧ e = 0 ∧ Rep s t (freeL p l))
theorem OfIs.unique {p t : Int} {l : List By} {s r : List Sp} {e f : Int} (a : OfIs p t l s e) (b : OfIs p t l r f) : s = r ∧ e = f := by
  have hno : ∀ {s : List Sp}, Rep s t (freeL p l) → ¬ ∃ u, t ≤ u ∧ freeL p l u < 0 := fun {s} h ⟨u, h1, h2⟩ => by
    have := (h.1.val_free (t := u) (by rw [h.2.1]; exact h1)).1
    rw [h.2.2 u h1] at this
    omega
  rcases a with ⟨a1, rfl, rfl⟩ | ⟨a1, a2, rfl, rfl⟩ | ⟨a1, rfl, a2⟩ <;> rcases b with ⟨b1, rfl, rfl⟩ | ⟨b1, b2, rfl, rfl⟩ | ⟨b1, rfl, b2⟩
  · exact ⟨rfl, rfl⟩
  · exact absurd a1 b1
  · exact absurd a1 b1
  · exact absurd b1 a1
  · exact ⟨rfl, rfl⟩
  · exact absurd a2 (hno b2)
  · exact absurd b1 a1
  · exact absurd b2 (hno a2)
  · exact ⟨a2.unique b2, rfl⟩
theorem not_bad {p t : Int} {l : List By} (h : ¬ ofBad p t l) : (∀ b ∈ l, byB b = true) ∧ 1 ≤ p ∧ p ≤ 256 ∧ 0 ≤ t ∧ t ≤ 1125899906842624 ∧ l.length ≤ 300 := by
  unfold ofBad at h
  simp only [not_or] at h
  refine ⟨fun b hb => ?_, by omega, by omega, by omega, by omega, by omega⟩
  cases hx : byB b with
  | true => rfl
  | false => exact absurd ⟨b, hb, hx⟩ h.1
theorem of_over {p t : Int} {l : List By} (h : ¬ ofBad p t l) {x : Int} (hx : x ∈ turnsL t l) (hn : freeL p l x < 0) : OfIs p t l [] 11 := .inr (.inl ⟨h, ⟨x, turns_ge x hx, hn⟩, rfl, rfl⟩)
theorem of_done {p t : Int} {l : List By} (h : ¬ ofBad p t l) (hn : ∀ x ∈ turnsL t l, 0 ≤ freeL p l x) : OfIs p t l (buildL (freeL p l) (turnsL t l)) 0 := by
  obtain ⟨h1, h2, h3, h4, h5, _⟩ := not_bad h
  exact .inr (.inr ⟨h, rfl, built_rep (turns_rise t l) (turns_at (fun b hb => by_may (h1 b hb))) (by simp [turnsL]) h4 h5 (turns_top h5) fun x hx => ⟨hn x hx, by have := free_le h1 x p; omega⟩⟩)

/-- A step's own time tells its number. -/
theorem val_own {s : List Sp} (h : Alt s) {y : Sp} (hy : y ∈ s) (n : Int) : valFrom n s y.1 = y.2 := by
  induction s generalizing n with
  | nil => simp at hy
  | cons x s ih =>
    rcases List.mem_cons.1 hy with rfl | hy
    · exact h.here n
    · rw [valFrom_le (by have := h.later y hy; omega)]
      exact ih h.tail hy _
theorem alt_rise {s : List Sp} (h : Alt s) : Rise (s.map (·.1)) := by
  induction s with
  | nil => exact List.Pairwise.nil
  | cons x s ih => exact List.pairwise_cons.2 ⟨fun y hy => by obtain ⟨z, hz, rfl⟩ := List.mem_map.1 hy; exact h.later z hz, ih h.tail⟩
theorem Chk.floor {s : List Sp} (h : Chk s) {t : Int} (ht : head s ≤ t) : ∃ y ∈ s, y.1 ≤ t ∧ val s t = y.2 ∧ ∀ z ∈ s, z.1 ≤ t → z.1 ≤ y.1 := by
  obtain ⟨x, r, rfl, hx⟩ := h.cons
  obtain ⟨z, hz, h1, h2⟩ := floor_el _ (alt_rise h.alt) (by simp) t (by show x.1 ≤ t; omega)
  obtain ⟨y, hy, rfl⟩ := List.mem_map.1 hz
  have h3 : ∀ z ∈ x :: r, z.1 ≤ t → z.1 ≤ y.1 := fun z hz hzt => h2 _ (List.mem_map.2 ⟨z, hz, rfl⟩) hzt
  refine ⟨y, hy, h1, ?_, h3⟩
  have := val_own h.alt hy (-1)
  unfold val
  rw [← this]
  exact valFrom_same fun z hz => ⟨fun h4 => h3 z hz h4, fun h4 => by omega⟩
/-- The least number within a span. -/
def MinOf (s : List Sp) (x : Sp) (n : Int) : Prop := (∃ t, x.1 ≤ t ∧ t < x.2 ∧ val s t = n) ∧ ∀ t, x.1 ≤ t → t < x.2 → n ≤ val s t
theorem MinOf.unique {s : List Sp} {x : Sp} {n m : Int} (a : MinOf s x n) (b : MinOf s x m) : n = m := by
  obtain ⟨⟨t, a1, a2, a3⟩, a4⟩ := a
  obtain ⟨⟨u, b1, b2, b3⟩, b4⟩ := b
  have := a4 u b1 b2
  have := b4 t a1 a2
  omega
def minStep (x : Sp) (n : Int) (y : Sp) : Int := if x.1 < y.1 ∧ y.1 < x.2 ∧ y.2 < n then y.2 else n
def minTo (s : List Sp) (x : Sp) (k : Nat) : Int := (s.take k).foldl (minStep x) (val s x.1)
theorem min_next {s : List Sp} {x : Sp} {k : Nat} (hk : k < s.length) : minTo s x (k + 1) = minStep x (minTo s x k) (s.getD k (0, 0)) := by
  unfold minTo
  rw [List.take_succ_eq_append_getElem hk, List.foldl_append, getSp hk]
  rfl
theorem min_inv {s : List Sp} {x : Sp} (h : Chk s) (hx : x.1 < x.2) (k : Nat) (hk : k ≤ s.length) :
    (∃ t, x.1 ≤ t ∧ t < x.2 ∧ val s t = minTo s x k) ∧ minTo s x k ≤ val s x.1 ∧ ∀ y ∈ s.take k, x.1 < y.1 → y.1 < x.2 → minTo s x k ≤ y.2 := by
  induction k with
  | zero => exact ⟨⟨x.1, Int.le_refl _, hx, rfl⟩, Int.le_refl _, fun y hy => by simp at hy⟩
  | succ k ih =>
    obtain ⟨h1, h2, h3⟩ := ih (by omega)
    have hk' : k < s.length := by omega
    have hm : s.getD k (0, 0) ∈ s := by rw [getSp hk']; exact List.getElem_mem hk'
    have hv := val_own h.alt hm (-1)
    rw [min_next hk']
    have hmt : ∀ y, y ∈ s.take (k + 1) → y ∈ s.take k ∨ y = s.getD k (0, 0) := fun y hy => (mem_take_succ hk').1 hy
    generalize s.getD k (0, 0) = z at *
    unfold minStep
    by_cases hc : x.1 < z.1 ∧ z.1 < x.2 ∧ z.2 < minTo s x k
    · rw [if_pos hc]
      refine ⟨⟨z.1, by omega, hc.2.1, hv⟩, by omega, fun y hy a1 a2 => ?_⟩
      rcases hmt y hy with hy | rfl
      · have := h3 y hy a1 a2; omega
      · exact Int.le_refl _
    · rw [if_neg hc]
      refine ⟨h1, h2, fun y hy a1 a2 => ?_⟩
      rcases hmt y hy with hy | rfl
      · exact h3 y hy a1 a2
      · omega
theorem min_spec {s : List Sp} {x : Sp} (h : Chk s) (hx : x.1 < x.2) (hh : head s ≤ x.1) : MinOf s x (minTo s x s.length) := by
  obtain ⟨h1, h2, h3⟩ := min_inv h hx s.length (Nat.le_refl _)
  rw [List.take_length] at h3
  refine ⟨h1, fun t a1 a2 => ?_⟩
  obtain ⟨y, hy, b1, b2, b3⟩ := h.floor (t := t) (by omega)
  rw [b2]
  by_cases hc : x.1 < y.1
  · exact h3 y hy hc (by omega)
  · have e : val s x.1 = val s t := valFrom_same fun z hz => ⟨fun h4 => by omega, fun h4 => by have := b3 z hz h4; omega⟩
    omega

/-- Steps from a time on. -/
theorem trim_alt {t : Int} : ∀ (s : List Sp) (x : Sp), Alt (x :: s) → x.1 ≤ t → Alt ((t, valFrom x.2 s t) :: s.filter fun y => decide (t < y.1)) := by
  intro s
  induction s with
  | nil => intro x _ _; trivial
  | cons y s ih =>
    intro x h hx
    by_cases hy : y.1 ≤ t
    · rw [List.filter_cons, if_neg (by simp; omega), valFrom_le hy]
      exact ih y h.2.2 hy
    · have hall : (y :: s).filter (fun y => decide (t < y.1)) = y :: s := List.filter_eq_self.2 fun z hz => by
        rcases List.mem_cons.1 hz with rfl | hz
        · exact decide_eq_true (by omega)
        · have := h.2.2.later z hz; exact decide_eq_true (by omega)
      rw [hall, h.2.2.late (by omega)]
      exact ⟨by dsimp only; omega, h.2.1, h.2.2⟩
theorem trim_val {t u : Int} (hu : t ≤ u) : ∀ (s : List Sp) (n : Int), valFrom (valFrom n s t) (s.filter fun y => decide (t < y.1)) u = valFrom n s u ∨ ¬ Alt s := by
  intro s
  induction s with
  | nil => intro n; exact .inl rfl
  | cons y s ih =>
    intro n
    by_cases ha : Alt (y :: s)
    · left
      by_cases hy : y.1 ≤ t
      · rw [List.filter_cons, if_neg (by simp; omega), valFrom_le hy, valFrom_le (by omega)]
        exact (ih y.2).resolve_right (fun h => h ha.tail)
      · have hall : (y :: s).filter (fun y => decide (t < y.1)) = y :: s := List.filter_eq_self.2 fun z hz => by
          rcases List.mem_cons.1 hz with rfl | hz
          · exact decide_eq_true (by omega)
          · have := ha.later z hz; exact decide_eq_true (by omega)
        rw [hall, ha.late (t := t) (by omega) n]
    · exact .inr ha
def trimL (s : List Sp) (t : Int) : List Sp := (t, val s t) :: s.filter fun y => decide (t < y.1)
theorem trim_rep {s : List Sp} {t : Int} (h : Chk s) (ht : head s ≤ t) (hi : t ≤ 1125899906842624) : Rep (trimL s t) t (val s) := by
  have hv := h.val_free ht
  have hlo := h.lo
  have hfr := h.free
  have htp := h.top
  obtain ⟨x, r, rfl, hx⟩ := h.cons
  have e : trimL (x :: r) t = (t, valFrom x.2 r t) :: r.filter fun y => decide (t < y.1) := by
    unfold trimL
    rw [val_le (by omega), List.filter_cons, if_neg (by simp; omega)]
  have hval := val_le (x := x) (s := r) (t := t) (by omega)
  rw [e]
  refine ⟨⟨by simp, by show 0 ≤ t; omega, hi, trim_alt r x h.alt (by omega), fun y hy => ?_, fun y hy => ?_⟩, rfl, fun u hu => ?_⟩
  · rcases List.mem_cons.1 hy with rfl | hy
    · dsimp only; rw [← hval]; exact hv
    · exact hfr y (by simp [(List.mem_filter.1 hy).1])
  · rcases List.mem_cons.1 hy with rfl | hy
    · dsimp only; omega
    · exact htp y (by simp [(List.mem_filter.1 hy).1])
  · rw [val_le (x := (t, valFrom x.2 r t)) hu, val_le (by omega)]
    exact (trim_val hu r x.2).resolve_right (fun h1 => h1 h.alt.tail)

/-- Steps with more free within a span. -/
def addSpans (s : List Sp) (x : Sp) : List Sp := x :: s.map fun y => (y.1, 4503599627370496)
def lastAt (s : List Sp) : Int := (s.getD (s.length - 1) (0, 0)).1
def keepB (s : List Sp) (x : Sp) (e : Int) : Bool := !decide (val s e < 0) && !(e == 4503599627370496 && (e != x.2) && (lastAt s != 4503599627370496))
def addF (s : List Sp) (x : Sp) (n : Int) (t : Int) : Int := if hasB x t then val s t + n else val s t
def addEnds (s : List Sp) (x : Sp) : List Int := (endsL (addSpans s x)).filter (keepB s x)
theorem first_is {e : List Int} (hr : Rise e) {h : Int} (hm : h ∈ e) (hl : ∀ y ∈ e, h ≤ y) : e.getD 0 0 = h := by
  obtain ⟨i, hi, rfl⟩ := List.mem_iff_getElem.1 hm
  have h1 := hl _ (getD_mem (l := e) (i := 0) (by omega))
  have h2 := hr.le (Nat.zero_le i) hi
  rw [getD_el hi] at h2
  omega
theorem keep_iff {s : List Sp} (h : Chk s) {x : Sp} {e : Int} : keepB s x e = true ↔ head s ≤ e ∧ (e = 4503599627370496 → e = x.2 ∨ lastAt s = 4503599627370496) := by
  unfold keepB
  simp only [Bool.and_eq_true, Bool.not_eq_true', decide_eq_false_iff_not, Bool.and_eq_false_iff, beq_eq_false_iff_ne, bne_eq_false_iff_eq]
  constructor
  · rintro ⟨h1, h2⟩
    refine ⟨?_, fun he => ?_⟩
    · rcases Int.lt_or_le e (head s) with h3 | h3
      · rw [h.val_early h3] at h1; omega
      · exact h3
    · rcases h2 with (h2 | h2) | h2
      · exact absurd he h2
      · exact .inl h2
      · exact .inr h2
  · rintro ⟨h1, h2⟩
    refine ⟨by have := (h.val_free h1).1; omega, ?_⟩
    by_cases he : e = 4503599627370496
    · rcases h2 he with h3 | h3
      · exact .inl (.inr h3)
      · exact .inr h3
    · exact .inl (.inl he)
theorem last_at {s : List Sp} (h : Chk s) {y : Sp} (hy : y ∈ s) (he : y.1 = 4503599627370496) : lastAt s = 4503599627370496 := by
  have hp := h.pos
  have hm : s.getD (s.length - 1) (0, 0) ∈ s := by rw [getSp (by omega)]; exact List.getElem_mem _
  have h1 := h.top _ hm
  obtain ⟨i, hi, rfl⟩ := List.mem_iff_getElem.1 hy
  have hr := alt_rise h.alt
  have h2 : (s.getD i (0, 0)).1 ≤ (s.getD (s.length - 1) (0, 0)).1 := by
    rw [getSp hi, getSp (by omega)]
    by_cases e : i = s.length - 1
    · subst e; exact Int.le_refl _
    · have := List.pairwise_iff_getElem.1 hr i (s.length - 1) (by simp; omega) (by simp; omega) (by omega)
      simp at this
      omega
  rw [getSp hi] at h2
  unfold lastAt
  omega
theorem add_mem {s : List Sp} {x : Sp} (h : Chk s) (hx : May x) {e : Int} (he : head s ≤ e) (hc : e = x.1 ∨ e = x.2 ∨ ∃ y ∈ s, y.1 = e) : e ∈ addEnds s x := by
  have hs := (ends_spec (addSpans s x)).2.1 e
  have hh : (head s, 4503599627370496) ∈ addSpans s x := List.mem_cons.2 (.inr (List.mem_map.2 ⟨_, h.head_mem, rfl⟩))
  have hhm : May (head s, 4503599627370496) := ⟨h.lo, by have := h.hi; dsimp only; omega, by dsimp only; omega⟩
  refine List.mem_filter.2 ⟨hs.2 ?_, (keep_iff h).2 ⟨he, fun ht => ?_⟩⟩
  · rcases hc with rfl | rfl | ⟨y, hy, rfl⟩
    · exact ⟨x, by simp [addSpans], hx, .inl rfl⟩
    · exact ⟨x, by simp [addSpans], hx, .inr rfl⟩
    · by_cases ht : y.1 = 4503599627370496
      · exact ⟨_, hh, hhm, .inr ht⟩
      · exact ⟨(y.1, 4503599627370496), List.mem_cons.2 (.inr (List.mem_map.2 ⟨y, hy, rfl⟩)), ⟨by have := h.lo; dsimp only; omega, by have := h.top y hy; dsimp only; omega, by dsimp only; omega⟩, .inl rfl⟩
  · rcases hc with rfl | rfl | ⟨y, hy, rfl⟩
    · have := hx.2.1; have := hx.2.2; omega
    · exact .inl rfl
    · exact .inr (last_at h hy ht)
theorem add_head {s : List Sp} {x : Sp} (h : Chk s) (hx : May x) : (addEnds s x).getD 0 0 = head s := by
  refine first_is ((ends_spec (addSpans s x)).1.sublist List.filter_sublist) (add_mem h hx (Int.le_refl _) (.inr (.inr ⟨_, h.head_mem, rfl⟩))) fun y hy => ?_
  exact ((keep_iff h).1 (List.mem_filter.1 hy).2).1
theorem add_turns {s : List Sp} {x : Sp} {n : Int} (h : Chk s) (hx : May x) : TurnsAt (addF s x n) (addEnds s x) := by
  intro t z hz hzt hmax
  have h0 := ((keep_iff h).1 (List.mem_filter.1 hz).2).1
  have ev : val s t = val s z := valFrom_same fun y hy => ⟨fun h1 => hmax _ (add_mem h hx (h.ge y hy) (.inr (.inr ⟨y, hy, rfl⟩))) h1, fun h1 => by omega⟩
  have eh : hasB x t = hasB x z := by
    apply bool_ext
    rw [hasB_iff, hasB_iff]
    constructor
    · rintro ⟨_, h1, h2⟩
      refine ⟨hx, ?_, by omega⟩
      by_cases h3 : x.1 < head s
      · omega
      · exact hmax _ (add_mem h hx (by omega) (.inl rfl)) h1
    · rintro ⟨_, h1, h2⟩
      refine ⟨hx, by omega, ?_⟩
      rcases Int.lt_or_le t x.2 with h3 | h3
      · exact h3
      · have := hmax _ (add_mem h hx (by omega) (.inr (.inl rfl))) h3; omega
  unfold addF
  rw [ev, eh]
theorem add_rep {s : List Sp} {x : Sp} {n : Int} (h : Chk s) (hx : May x) (hf : ∀ e ∈ addEnds s x, 0 ≤ addF s x n e ∧ addF s x n e ≤ 256) : Rep (buildL (addF s x n) (addEnds s x)) (head s) (addF s x n) := by
  have hm := add_mem h hx (Int.le_refl _) (.inr (.inr ⟨_, h.head_mem, rfl⟩))
  have := built_rep ((ends_spec (addSpans s x)).1.sublist List.filter_sublist) (add_turns (n := n) h hx) (fun e => by rw [show addEnds s x = [] from e] at hm; cases hm) (by rw [show ((endsL (addSpans s x)).filter (keepB s x)).getD 0 0 = head s from add_head h hx]; exact h.lo)
    (by rw [show ((endsL (addSpans s x)).filter (keepB s x)).getD 0 0 = head s from add_head h hx]; exact h.hi) (fun e he => by
      obtain ⟨sp, _, hm, h1⟩ := ((ends_spec (addSpans s x)).2.1 e).1 (List.mem_filter.1 he).1
      have := hm.2.1
      have := hm.2.2
      rcases h1 with rfl | rfl <;> omega) hf
  rwa [show ((endsL (addSpans s x)).filter (keepB s x)).getD 0 0 = head s from add_head h hx] at this
/-- What Add tells. -/
def addBad (s : List Sp) (x : Sp) (n : Int) : Prop := chkB s = false ∨ mayB x = false ∨ n < -256 ∨ 256 < n
def addOut (s : List Sp) (x : Sp) (n : Int) : Prop := ∃ t, head s ≤ t ∧ ¬ (0 ≤ addF s x n t ∧ addF s x n t ≤ 256)
def AddIs (s : List Sp) (x : Sp) (n : Int) (r : List Sp) : Prop := (addBad s x n ∧ r = []) ∨ (¬ addBad s x n ∧ addOut s x n ∧ r = []) ∨ (¬ addBad s x n ∧ Rep r (head s) (addF s x n))
theorem rep_fits {s r : List Sp} {x : Sp} {n : Int} (h : Rep r (head s) (addF s x n)) : ¬ addOut s x n := fun ⟨t, h1, h2⟩ => h2 (by
  have := h.1.val_free (t := t) (by rw [h.2.1]; exact h1)
  rwa [h.2.2 t h1] at this)
theorem AddIs.unique {s r q : List Sp} {x : Sp} {n : Int} (a : AddIs s x n r) (b : AddIs s x n q) : r = q := by
  rcases a with ⟨a1, rfl⟩ | ⟨a1, a2, rfl⟩ | ⟨a1, a2⟩ <;> rcases b with ⟨b1, rfl⟩ | ⟨b1, b2, rfl⟩ | ⟨b1, b2⟩
  · rfl
  · rfl
  · exact absurd a1 b1
  · rfl
  · rfl
  · exact absurd a2 (rep_fits b2)
  · exact absurd b1 a1
  · exact absurd b2 (rep_fits a2)
  · exact a2.unique b2
theorem not_addBad {s : List Sp} {x : Sp} {n : Int} (h : ¬ addBad s x n) : Chk s ∧ May x ∧ -256 ≤ n ∧ n ≤ 256 := by
  unfold addBad at h
  simp only [not_or, Bool.not_eq_false] at h
  exact ⟨(chk_iff s).1 h.1, (mayB_iff x).1 h.2.1, by omega, by omega⟩
theorem add_done {s : List Sp} {x : Sp} {n : Int} (h : ¬ addBad s x n) (hf : ∀ e ∈ addEnds s x, 0 ≤ addF s x n e ∧ addF s x n e ≤ 256) : AddIs s x n (buildL (addF s x n) (addEnds s x)) := by
  obtain ⟨h1, h2, _⟩ := not_addBad h
  exact .inr (.inr ⟨h, add_rep h1 h2 hf⟩)
theorem add_over {s : List Sp} {x : Sp} {n : Int} (h : ¬ addBad s x n) {e : Int} (he : e ∈ addEnds s x) (hf : ¬ (0 ≤ addF s x n e ∧ addF s x n e ≤ 256)) : AddIs s x n [] :=
  .inr (.inl ⟨h, ⟨e, ((keep_iff (not_addBad h).1).1 (List.mem_filter.1 he).2).1, hf⟩, rfl⟩)
theorem addF_off {s : List Sp} {x : Sp} {n : Int} (h : x.2 ≤ head s) {t : Int} (ht : head s ≤ t) : addF s x n t = val s t := by
  unfold addF
  rw [has_no (fun h1 => by omega)]
  rfl
/-- A span that is over ahead of the first step. -/
theorem add_none {s : List Sp} {x : Sp} {n : Int} (h : ¬ addBad s x n) (hx : x.2 ≤ head s) : AddIs s x n s :=
  .inr (.inr ⟨h, (Rep.self (not_addBad h).1).congr fun t ht => (addF_off hx ht).symm⟩)
/-- What is added and taken away turned nothing. -/
theorem add_back {s r : List Sp} {x : Sp} {n : Int} (h : ¬ addBad s x n) (hr : Rep r (head s) (addF s x n)) : ¬ addBad r x (-n) ∧ Rep s (head r) (addF r x (-n)) := by
  obtain ⟨h1, h2, h3, h4⟩ := not_addBad h
  refine ⟨?_, ?_⟩
  · unfold addBad
    rw [(chk_iff r).2 hr.1, (mayB_iff x).2 h2]
    simp
    omega
  · rw [hr.2.1]
    refine (Rep.self h1).congr fun t ht => ?_
    have e : addF r x (-n) t = if hasB x t then val r t + -n else val r t := rfl
    rw [e, hr.2.2 t ht]
    unfold addF
    cases hasB x t with
    | true => simp; omega
    | false => rfl
end Go.Proofs.Ytnjhboanhjjldaa.StepPlain
