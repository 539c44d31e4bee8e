/-
  The plain mathematics of layer 3, at last: how many times there are, and the theorem of parts.
-/
import Derived.Test.YtnjhboanhjjldaaSpanEnds
namespace Go.Proofs.Ytnjhboanhjjldaa.SpanPlain

/-- How many of the first n times are meant. -/
def cnt (P : Int → Bool) : Nat → Int
  | 0 => 0
  | n + 1 => cnt P n + if P n then 1 else 0
theorem cnt_congr {P Q : Int → Bool} (h : ∀ t, P t = Q t) (n : Nat) : cnt P n = cnt Q n := by
  have e : P = Q := funext h
  rw [e]
theorem cnt_or {P Q : Int → Bool} (h : ∀ t, P t = true → Q t = true → False) (n : Nat) : cnt (fun t => P t || Q t) n = cnt P n + cnt Q n := by
  induction n with
  | zero => rfl
  | succ n ih =>
    unfold cnt
    rw [ih]
    have := h n
    cases hp : P n <;> cases hq : Q n <;> simp_all <;> omega
theorem cnt_range (P : Int → Bool) (n : Nat) : 0 ≤ cnt P n ∧ cnt P n ≤ n := by
  induction n with
  | zero => simp [cnt]
  | succ n ih => unfold cnt; split <;> omega
theorem cnt_none {P : Int → Bool} {n : Nat} (h : ∀ t, P t = false) : cnt P n = 0 := by
  induction n with
  | zero => rfl
  | succ n ih => unfold cnt; rw [ih, h]; rfl
theorem cnt_span {s : Sp} (h : May s) : ∀ n : Nat, cnt (hasB s) n = if (n : Int) ≤ s.1 then 0 else if (n : Int) ≤ s.2 then n - s.1 else s.2 - s.1 := by
  obtain ⟨h1, h2, h3⟩ := h
  intro n
  induction n with
  | zero => simp [cnt, h1]
  | succ n ih =>
    unfold cnt
    rw [ih]
    have hb : hasB s n = decide (s.1 ≤ (n : Int) ∧ (n : Int) < s.2) := by
      apply bool_ext
      rw [hasB_iff, decide_eq_true_eq]
      exact ⟨fun h => h.2, fun h => ⟨⟨h1, h2, h3⟩, h⟩⟩
    rw [hb]
    by_cases a : s.1 ≤ (n : Int) <;> by_cases b : (n : Int) < s.2 <;> simp only [a, b, and_true, and_false, true_and, decide_true, decide_false, if_true, Bool.false_eq_true, if_false, and_self] <;> split <;> (try split) <;> (try split) <;> (try split) <;> (first | omega | (simp_all; omega))
/-- How many times a cover's spans have together. -/
def totL (l : List Sp) : Int := l.foldl (fun n s => n + s.2 - s.1) 0
theorem totL_snoc (l : List Sp) (s : Sp) : totL (l ++ [s]) = totL l + s.2 - s.1 := by unfold totL; rw [List.foldl_append]; rfl
def allTimes : Nat := 4503599627370496
theorem span_all {s : Sp} (h : May s) : cnt (hasB s) allTimes = s.2 - s.1 := by
  rw [cnt_span h]
  obtain ⟨h1, h2, h3⟩ := h
  have e : ((allTimes : Nat) : Int) = 4503599627370496 := rfl
  rw [e]
  split
  · omega
  · split <;> omega
theorem cov_count : ∀ c : List Sp, Cov c → totL c = cnt (anyB c) allTimes := by
  refine Util.snoc_ind ?_ ?_
  · intro _
    rw [cnt_none (fun t => any_nil t)]
    rfl
  · intro c s ih h
    have hc : Cov c := ⟨fun x hx => h.1 x (by simp [hx]), (List.pairwise_append.1 h.2).1⟩
    have hs : May s := h.1 s (by simp)
    have e : cnt (anyB (c ++ [s])) allTimes = cnt (fun t => anyB c t || hasB s t) allTimes := cnt_congr (fun t => by rw [any_append, any_cons, any_nil, Bool.or_false]) _
    rw [totL_snoc, ih hc, e, cnt_or, span_all hs]
    · omega
    · intro t h1 h2
      obtain ⟨x, hx, hm, h3, h4⟩ := any_iff.1 h1
      have h5 := (List.pairwise_append.1 h.2).2.2 x hx s (by simp)
      have h6 := (hasB_iff.1 h2).2.1
      omega
theorem tot_range {c : List Sp} (h : Cov c) : 0 ≤ totL c ∧ totL c ≤ 4503599627370496 := by
  rw [cov_count c h]
  have := cnt_range (anyB c) allTimes
  have e : ((allTimes : Nat) : Int) = 4503599627370496 := rfl
  rw [e] at this
  exact this
/-- A cover's cover is itself. -/
theorem cov_self {c d : List Sp} (h : Cov c) (g : LessOf c [] d) : d = c :=
  cov_unique g.1 h fun t => by rw [g.2, any_nil, Bool.not_false, Bool.and_true]
/-- What spans have alone, and what both have, is as long as what one of them has. -/
theorem parts {l m a b c d e all : List Sp} (ha : LessOf l m a) (hb : LessOf m l b) (hc : LessOf l [] c) (hd : LessOf c a d) (he : LessOf d b e) (hall : LessOf (l ++ m) [] all) : totL a + totL b + totL e = totL all := by
  rw [cov_count a ha.1, cov_count b hb.1, cov_count e he.1, cov_count all hall.1]
  have e1 : ∀ t, anyB c t = anyB l t := fun t => by rw [hc.2, any_nil, Bool.not_false, Bool.and_true]
  have e2 : ∀ t, anyB e t = (anyB l t && anyB m t) := fun t => by
    rw [he.2, hd.2, e1, ha.2, hb.2]
    cases anyB l t <;> cases anyB m t <;> rfl
  have e3 : ∀ t, anyB all t = ((anyB a t || anyB b t) || anyB e t) := fun t => by
    rw [hall.2, any_append, any_nil, e2, ha.2, hb.2]
    cases anyB l t <;> cases anyB m t <;> rfl
  rw [cnt_congr e3, cnt_or, cnt_or]
  · intro t h1 h2
    rw [ha.2] at h1
    rw [hb.2] at h2
    cases hl : anyB l t <;> cases hm : anyB m t <;> simp_all
  · intro t h1 h2
    rw [ha.2, hb.2] at h1
    rw [e2] at h2
    cases hl : anyB l t <;> cases hm : anyB m t <;> simp_all

/-- What two spans have in common. -/
def meetL (a b : Sp) : Sp × Bool := if mayB a && mayB b && decide (max a.1 b.1 < min a.2 b.2) then ((max a.1 b.1, min a.2 b.2), true) else ((0, 0), false)
theorem meet_yes {a b : Sp} (ha : mayB a = true) (hb : mayB b = true) (h : max a.1 b.1 < min a.2 b.2) : meetL a b = ((max a.1 b.1, min a.2 b.2), true) := by
  unfold meetL; rw [ha, hb, decide_eq_true h]; rfl
theorem meet_no {a b : Sp} (h : mayB a = false ∨ mayB b = false ∨ ¬ max a.1 b.1 < min a.2 b.2) : meetL a b = ((0, 0), false) := by
  unfold meetL
  rcases h with h | h | h
  · rw [h]; rfl
  · rw [h]; cases mayB a <;> rfl
  · rw [decide_eq_false h]; cases mayB a <;> cases mayB b <;> rfl
/-- What the statement asks of it. -/
theorem meet_spec (a b : Sp) : (meetL a b).2 = (mayB a && mayB b && decide (a.1 < b.2) && decide (b.1 < a.2)) ∧ (∀ t, hasB (meetL a b).1 t = (hasB a t && hasB b t)) ∧
    ((meetL a b).2 = false → (meetL a b).1 = (0, 0)) ∧ ((meetL a b).2 = true → mayB (meetL a b).1 = true) := by
  have z : ∀ t, hasB (0, 0) t = false := fun t => by
    cases h : hasB (0, 0) t with
    | false => rfl
    | true => have := (hasB_iff.1 h).1.2.1; dsimp only at this; omega
  by_cases ha : May a
  · by_cases hb : May b
    · have ha' := (mayB_iff a).2 ha
      have hb' := (mayB_iff b).2 hb
      obtain ⟨a1, a2, a3⟩ := ha
      obtain ⟨b1, b2, b3⟩ := hb
      by_cases h : max a.1 b.1 < min a.2 b.2
      · rw [meet_yes ha' hb' h]
        refine ⟨?_, fun t => ?_, fun h => absurd h (by simp), fun _ => (mayB_iff _).2 ⟨by show (0 : Int) ≤ max a.1 b.1; omega, h, by show min a.2 b.2 ≤ (4503599627370496 : Int); omega⟩⟩
        · rw [ha', hb', decide_eq_true (by omega), decide_eq_true (by omega)]; rfl
        · apply bool_ext
          rw [Bool.and_eq_true, hasB_iff, hasB_iff, hasB_iff]
          unfold May
          dsimp only
          omega
      · rw [meet_no (.inr (.inr h))]
        refine ⟨?_, fun t => ?_, fun _ => rfl, fun h => by cases h⟩
        · rw [ha', hb']
          have : ¬ (a.1 < b.2 ∧ b.1 < a.2) := by omega
          by_cases h1 : a.1 < b.2
          · rw [decide_eq_true h1, decide_eq_false (fun h2 => this ⟨h1, h2⟩)]; rfl
          · rw [decide_eq_false h1]; rfl
        · rw [z]
          symm
          cases hx : (hasB a t && hasB b t) with
          | false => rfl
          | true =>
            rw [Bool.and_eq_true, hasB_iff, hasB_iff] at hx
            omega
    · have hb' : mayB b = false := by cases hx : mayB b with | false => rfl | true => exact absurd ((mayB_iff b).1 hx) hb
      rw [meet_no (.inr (.inl hb'))]
      refine ⟨by rw [hb']; cases mayB a <;> rfl, fun t => ?_, fun _ => rfl, fun h => by cases h⟩
      have : hasB b t = false := by unfold hasB; rw [hb']; rfl
      rw [z, this, Bool.and_false]
  · have ha' : mayB a = false := by cases hx : mayB a with | false => rfl | true => exact absurd ((mayB_iff a).1 hx) ha
    rw [meet_no (.inl ha')]
    refine ⟨by rw [ha']; rfl, fun t => ?_, fun _ => rfl, fun h => by cases h⟩
    have : hasB a t = false := by unfold hasB; rw [ha']; rfl
    rw [z, this, Bool.false_and]
end Go.Proofs.Ytnjhboanhjjldaa.SpanPlain
