/-
  The plain mathematics of layer 6: room for a width and a length from a time on; the least time from which on there is room; all times at which a width is free; for how long it is. The plain mathematics of the landed way of layer 6: room told along the cover of the times at which a width is free.
-/
import Derived.Test.YtonapgbokbeopaaStepPlain
import Derived.Lib.Hide
namespace Go.Proofs.Ytonapgbokbeopaa.GapPlain
open Go.Proofs.Ytonapgbokbeopaa.SpanPlain Go.Proofs.Ytonapgbokbeopaa.StepPlain
def mayG (s : List Sp) (w n : Int) : Bool := chkB s && decide (1 ≤ w) && decide (w ≤ 256) && decide (1 ≤ n) && decide (n ≤ 1099511627776)
theorem mayG_iff {s : List Sp} {w n : Int} : mayG s w n = true ↔ Chk s ∧ (1 ≤ w ∧ w ≤ 256) ∧ 1 ≤ n ∧ n ≤ 1099511627776 := by
  unfold mayG
  simp only [Bool.and_eq_true, decide_eq_true_eq, chk_iff]
  constructor
  · rintro ⟨⟨⟨⟨h1, h2⟩, h3⟩, h4⟩, h5⟩; exact ⟨h1, ⟨h2, h3⟩, h4, h5⟩
  · rintro ⟨h1, ⟨h2, h3⟩, h4, h5⟩; exact ⟨⟨⟨⟨h1, h2⟩, h3⟩, h4⟩, h5⟩
/-- Room from a time on. -/
def Room (s : List Sp) (a w n : Int) : Prop := head s ≤ a ∧ a ≤ 1125899906842624 ∧ ∀ t, a ≤ t → t < a + n → w ≤ val s t
def roomB (s : List Sp) (a w n : Int) : Bool := decide (head s ≤ a) && decide (a ≤ 1125899906842624) && decide (w ≤ minTo s (a, a + n) s.length)
theorem room_iff {s : List Sp} (h : Chk s) {a w n : Int} (hn : 1 ≤ n) : roomB s a w n = true ↔ Room s a w n := by
  unfold roomB Room
  simp only [Bool.and_eq_true, decide_eq_true_eq]
  constructor
  · rintro ⟨⟨h1, h2⟩, h3⟩
    have hm := min_spec h (x := (a, a + n)) (by dsimp only; omega) h1
    exact ⟨h1, h2, fun t a1 a2 => Int.le_trans h3 (hm.2 t a1 a2)⟩
  · rintro ⟨h1, h2, h3⟩
    have hm := min_spec h (x := (a, a + n)) (by dsimp only; omega) h1
    obtain ⟨t, a1, a2, a3⟩ := hm.1
    exact ⟨⟨h1, h2⟩, by rw [← a3]; exact h3 t a1 a2⟩
/-- Room goes back to the step ahead, or to any time behind it. -/
theorem room_back {s : List Sp} (h : Chk s) {f u w n : Int} (hn : 1 ≤ n) (hf : head s ≤ f) (hu : Room s u w n) (hfu : f ≤ u) : ∃ y ∈ s, y.1 ≤ u ∧ Room s (max f y.1) w n := by
  obtain ⟨h1, h2, h3⟩ := hu
  obtain ⟨y, hy, b1, b2, b3⟩ := h.floor (t := u) h1
  refine ⟨y, hy, b1, by omega, by omega, fun t a1 a2 => ?_⟩
  rcases Int.lt_or_le t u with ht | ht
  · have e : val s t = val s u := valFrom_same fun z hz => ⟨fun h4 => by omega, fun h4 => by have := b3 z hz h4; omega⟩
    rw [e]
    exact h3 u (Int.le_refl _) (by omega)
  · exact h3 t ht (by omega)
/-- What Fit tells: the least time not ahead of one from which on there is room. -/
def FitIs (s : List Sp) (f w n r : Int) (b : Bool) : Prop :=
  (b = true ∧ mayG s w n = true ∧ f ≤ r ∧ Room s r w n ∧ ∀ u, f ≤ u → Room s u w n → r ≤ u) ∨ (b = false ∧ r = 0 ∧ (mayG s w n = false ∨ ∀ u, f ≤ u → ¬ Room s u w n))
theorem FitIs.unique {s : List Sp} {f w n r q : Int} {b c : Bool} (x : FitIs s f w n r b) (y : FitIs s f w n q c) : r = q ∧ b = c := by
  rcases x with ⟨rfl, x1, x2, x3, x4⟩ | ⟨rfl, rfl, x1⟩ <;> rcases y with ⟨rfl, y1, y2, y3, y4⟩ | ⟨rfl, rfl, y1⟩
  · have := x4 q y2 y3
    have := y4 r x2 x3
    exact ⟨by omega, rfl⟩
  · rcases y1 with y1 | y1
    · rw [x1] at y1; cases y1
    · exact absurd x3 (y1 r x2)
  · rcases x1 with x1 | x1
    · rw [y1] at x1; cases x1
    · exact absurd y3 (x1 q y2)
  · exact ⟨rfl, rfl⟩
/-- The document's way: the first time, then the steps behind it. -/
def fitStep (s : List Sp) (f w n : Int) : List Sp → Int
  | [] => -1
  | y :: r => if f < y.1 ∧ roomB s y.1 w n = true then y.1 else fitStep s f w n r
def fitL (s : List Sp) (f w n : Int) : Int := if 1125899906842624 < max f (head s) then -1 else if roomB s (max f (head s)) w n = true then max f (head s) else fitStep s (max f (head s)) w n s
theorem fitStep_spec {s : List Sp} {f w n : Int} : ∀ {l : List Sp}, Up l → (∀ y ∈ l, 0 ≤ y.1) → (0 ≤ fitStep s f w n l → ∃ y ∈ l, fitStep s f w n l = y.1 ∧ f < y.1 ∧ roomB s y.1 w n = true ∧ ∀ z ∈ l, f < z.1 → roomB s z.1 w n = true → y.1 ≤ z.1) ∧
    (fitStep s f w n l < 0 → ∀ z ∈ l, f < z.1 → roomB s z.1 w n = false) := by
  intro l
  induction l with
  | nil => intro _ _; exact ⟨fun h => by simp [fitStep] at h, fun _ z hz => by simp at hz⟩
  | cons y r ih =>
    intro hu h0
    have hu' := List.pairwise_cons.1 hu
    have ih := ih hu'.2 (fun z hz => h0 z (by simp [hz]))
    unfold fitStep
    by_cases hc : f < y.1 ∧ roomB s y.1 w n = true
    · rw [if_pos hc]
      refine ⟨fun _ => ⟨y, by simp, rfl, hc.1, hc.2, fun z hz _ _ => ?_⟩, fun h => ?_⟩
      · rcases List.mem_cons.1 hz with rfl | hz
        · exact Int.le_refl _
        · have := hu'.1 z hz; omega
      · have := h0 y (by simp); omega
    · rw [if_neg hc]
      refine ⟨fun h => ?_, fun h z hz hf => ?_⟩
      · obtain ⟨v, hv, e1, e2, e3, e4⟩ := ih.1 h
        refine ⟨v, by simp [hv], e1, e2, e3, fun z hz hf hr => ?_⟩
        rcases List.mem_cons.1 hz with rfl | hz
        · exact absurd ⟨hf, hr⟩ hc
        · exact e4 z hz hf hr
      · rcases List.mem_cons.1 hz with rfl | hz
        · cases hb : roomB s z.1 w n with
          | false => rfl
          | true => exact absurd ⟨hf, hb⟩ hc
        · exact ih.2 h z hz hf
theorem fit_spec {s : List Sp} {f w n : Int} (h : mayG s w n = true) : (0 ≤ fitL s f w n → FitIs s f w n (fitL s f w n) true) ∧ (fitL s f w n < 0 → FitIs s f w n 0 false) := by
  obtain ⟨hc, _, hn, _⟩ := mayG_iff.1 h
  have hlo := hc.lo
  have hge := hc.ge
  have hmin : ∀ u, f ≤ u → Room s u w n → max f (head s) ≤ u := fun u h1 h2 => by have := h2.1; omega
  unfold fitL
  by_cases h1 : 1125899906842624 < max f (head s)
  · rw [if_pos h1]
    exact ⟨fun h => by omega, fun _ => .inr ⟨rfl, rfl, .inr fun u hu hr => by have := hmin u hu hr; have := hr.2.1; omega⟩⟩
  · rw [if_neg h1]
    by_cases h2 : roomB s (max f (head s)) w n = true
    · rw [if_pos h2]
      exact ⟨fun _ => .inl ⟨rfl, h, by omega, (room_iff hc hn).1 h2, hmin⟩, fun h3 => by omega⟩
    · rw [if_neg h2]
      have hsp := fitStep_spec (s := s) (f := max f (head s)) (w := w) (n := n) hc.up (fun y hy => by have := hge y hy; omega)
      have hback : ∀ u, f ≤ u → Room s u w n → ∃ y ∈ s, max f (head s) < y.1 ∧ y.1 ≤ u ∧ roomB s y.1 w n = true := fun u h3 h4 => by
        obtain ⟨y, hy, b1, b2⟩ := room_back hc hn (f := max f (head s)) (Int.le_max_right _ _) h4 (hmin u h3 h4)
        rcases Int.lt_or_le (max f (head s)) y.1 with h5 | h5
        · rw [Int.max_eq_right (by omega)] at b2
          exact ⟨y, hy, h5, b1, (room_iff hc hn).2 b2⟩
        · rw [Int.max_eq_left h5] at b2
          exact absurd ((room_iff hc hn).2 b2) h2
      refine ⟨fun h3 => ?_, fun h3 => ?_⟩
      · obtain ⟨y, hy, e1, e2, e3, e4⟩ := hsp.1 h3
        rw [e1]
        refine .inl ⟨rfl, h, Int.le_trans (Int.le_max_left _ _) (Int.le_of_lt e2), (room_iff hc hn).1 e3, fun u h5 h6 => ?_⟩
        obtain ⟨z, hz, b1, b2, b3⟩ := hback u h5 h6
        exact Int.le_trans (e4 z hz b1 b3) b2
      · refine .inr ⟨rfl, rfl, .inr fun u h5 h6 => ?_⟩
        obtain ⟨z, hz, b1, b2, b3⟩ := hback u h5 h6
        rw [hsp.2 h3 z hz b1] at b3
        cases b3
/-- What Ok tells. -/
def okG (s : List Sp) (a w n : Int) : Bool := mayG s w n && roomB s a w n
theorem okG_iff {s : List Sp} {a w n : Int} : okG s a w n = true ↔ mayG s w n = true ∧ Room s a w n := by
  unfold okG
  rw [Bool.and_eq_true]
  constructor
  · rintro ⟨h1, h2⟩
    obtain ⟨hc, _, hn, _⟩ := mayG_iff.1 h1
    exact ⟨h1, (room_iff hc hn).1 h2⟩
  · rintro ⟨h1, h2⟩
    obtain ⟨hc, _, hn, _⟩ := mayG_iff.1 h1
    exact ⟨h1, (room_iff hc hn).2 h2⟩
/-- From the least time on there is room, and from none ahead. -/
theorem FitIs.okG {s : List Sp} {f w n r : Int} (h : FitIs s f w n r true) : GapPlain.okG s r w n = true := by
  rcases h with ⟨_, h1, _, h2, _⟩ | ⟨h, _⟩
  · exact okG_iff.2 ⟨h1, h2⟩
  · cases h
theorem FitIs.no {s : List Sp} {f w n r : Int} (h : FitIs s f w n r true) (hf : f < r) : GapPlain.okG s (r - 1) w n = false := by
  rcases h with ⟨_, h1, _, _, h2⟩ | ⟨h, _⟩
  · cases hb : GapPlain.okG s (r - 1) w n with
    | false => rfl
    | true => have := h2 (r - 1) (by omega) (okG_iff.1 hb).2; omega
  · cases h
/-- Is a width free at a time? -/
def inG (s : List Sp) (w t : Int) : Bool := decide (head s ≤ t) && decide (t < 4503599627370496) && decide (w ≤ val s t)
theorem inG_iff {s : List Sp} {w t : Int} : inG s w t = true ↔ head s ≤ t ∧ t < 4503599627370496 ∧ w ≤ val s t := by
  unfold inG
  simp only [Bool.and_eq_true, decide_eq_true_eq, and_assoc]
/-- The cover of all such times. -/
def AllIs (s : List Sp) (w : Int) (c : List Sp) : Prop := Cov c ∧ ∀ t, anyB c t = inG s w t
theorem AllIs.unique {s : List Sp} {w : Int} {c d : List Sp} (a : AllIs s w c) (b : AllIs s w d) : c = d := cov_unique a.1 b.1 fun t => by rw [a.2, b.2]
def gapSp (s : List Sp) (w : Int) (i : Nat) : List Sp := if w ≤ (nth s i).2 then [((nth s i).1, if i + 1 < s.length then (nth s (i + 1)).1 else 4503599627370496)] else []
def gapsTo (s : List Sp) (w : Int) (k : Nat) : List Sp := (List.range k).flatMap (gapSp s w)
theorem gaps_next (s : List Sp) (w : Int) (k : Nat) : gapsTo s w (k + 1) = gapsTo s w k ++ gapSp s w k := by unfold gapsTo; rw [List.range_succ, List.flatMap_append]; simp
theorem gaps_len (s : List Sp) (w : Int) (k : Nat) : (gapsTo s w k).length ≤ k := by
  induction k with
  | zero => simp [gapsTo]
  | succ k ih =>
    rw [gaps_next, List.length_append]
    have : (gapSp s w k).length ≤ 1 := by unfold gapSp; split <;> simp
    omega
theorem gaps_all {s : List Sp} (h : Chk s) (w t : Int) : anyB (gapsTo s w s.length) t = inG s w t := by
  apply bool_ext
  rw [any_iff, inG_iff]
  constructor
  · rintro ⟨x, hx, hm, h1, h2⟩
    unfold gapsTo at hx
    rw [List.mem_flatMap] at hx
    obtain ⟨i, hi, hx⟩ := hx
    rw [List.mem_range] at hi
    unfold gapSp at hx
    split at hx
    · rename_i hw
      rw [List.mem_singleton] at hx
      subst hx
      dsimp only at h1 h2
      have hl : LastIs s t i := ⟨hi, h1, fun j h3 h4 => by
        rw [if_pos (by omega)] at h2
        have := h.up.le (i := i + 1) (j := j) (by omega) h4
        omega⟩
      refine ⟨by have := h.ge _ (nth_mem hi); omega, ?_, by rw [hl.val]; exact hw⟩
      split at h2
      · rename_i h5
        have := h.top _ (nth_mem h5)
        omega
      · exact h2
    · simp at hx
  · rintro ⟨h1, h2, h3⟩
    obtain ⟨k, hk⟩ := h.up.last h.pos h1
    rw [hk.val] at h3
    have hx : ((nth s k).1, if k + 1 < s.length then (nth s (k + 1)).1 else 4503599627370496) ∈ gapsTo s w s.length := by
      unfold gapsTo
      rw [List.mem_flatMap]
      refine ⟨k, List.mem_range.2 hk.lt, ?_⟩
      unfold gapSp
      rw [if_pos h3]
      simp
    have hto : t < (if k + 1 < s.length then (nth s (k + 1)).1 else 4503599627370496) := by
      split
      · rename_i h5; exact hk.late (k + 1) (by omega) h5
      · exact h2
    have htop : (if k + 1 < s.length then (nth s (k + 1)).1 else 4503599627370496) ≤ 4503599627370496 := by
      split
      · rename_i h5; exact h.top _ (nth_mem h5)
      · exact Int.le_refl _
    have hle := hk.le
    have hlo := h.lo
    have hge := h.ge _ (nth_mem hk.lt)
    exact ⟨_, hx, ⟨by dsimp only; omega, by dsimp only; omega, htop⟩, hle, hto⟩
theorem all_of_less {s c : List Sp} (h : Chk s) {w : Int} (hl : LessOf (gapsTo s w s.length) [] c) : AllIs s w c := ⟨hl.1, fun t => by rw [hl.2, gaps_all h]; simp [any_nil]⟩
/-- What All tells. -/
def AllSays (s : List Sp) (w : Int) (c : List Sp) : Prop := (mayG s w 1 = true ∧ AllIs s w c) ∨ (mayG s w 1 = false ∧ c = [])
theorem AllSays.unique {s : List Sp} {w : Int} {c d : List Sp} (a : AllSays s w c) (b : AllSays s w d) : c = d := by
  rcases a with ⟨a1, a2⟩ | ⟨a1, rfl⟩ <;> rcases b with ⟨b1, b2⟩ | ⟨b1, rfl⟩
  · exact a2.unique b2
  · rw [a1] at b1; cases b1
  · rw [a1] at b1; cases b1
  · rfl
/-- For how long a width is free from a time on. -/
def LongIs (s : List Sp) (a w m : Int) : Prop :=
  (mayG s w 1 = true ∧ inG s w a = true ∧ 0 < m ∧ (∀ t, a ≤ t → t < a + m → inG s w t = true) ∧ inG s w (a + m) = false) ∨ ((mayG s w 1 = false ∨ inG s w a = false) ∧ m = 0)
theorem LongIs.unique {s : List Sp} {a w m n : Int} (x : LongIs s a w m) (y : LongIs s a w n) : m = n := by
  rcases x with ⟨x0, x1, x2, x3, x4⟩ | ⟨x1, rfl⟩ <;> rcases y with ⟨y0, y1, y2, y3, y4⟩ | ⟨y1, rfl⟩
  · rcases Int.lt_trichotomy m n with h | h | h
    · have := y3 (a + m) (by omega) (by omega); rw [x4] at this; cases this
    · exact h
    · have := x3 (a + n) (by omega) (by omega); rw [y4] at this; cases this
  · rcases y1 with y1 | y1
    · rw [x0] at y1; cases y1
    · rw [x1] at y1; cases y1
  · rcases x1 with x1 | x1
    · rw [y0] at x1; cases x1
    · rw [y1] at x1; cases x1
  · rfl
/-- The document's way: along the cover. -/
def longStep (a : Int) (m : Int) (x : Sp) : Int := if x.1 ≤ a ∧ a < x.2 then x.2 - a else m
def longTo (c : List Sp) (a : Int) (k : Nat) : Int := (c.take k).foldl (longStep a) 0
theorem long_next {c : List Sp} {a : Int} {k : Nat} (hk : k < c.length) : longTo c a (k + 1) = longStep a (longTo c a k) (nth c k) := by
  unfold longTo nth
  rw [List.take_succ_eq_append_getElem hk, List.foldl_append, getSp hk]
  rfl
theorem long_cov {c : List Sp} (hc : Cov c) {a : Int} : ∀ {m : Int}, (∃ x ∈ c, x.1 ≤ a ∧ a < x.2 ∧ c.foldl (longStep a) m = x.2 - a) ∨ ((∀ x ∈ c, ¬ (x.1 ≤ a ∧ a < x.2)) ∧ c.foldl (longStep a) m = m) := by
  induction c with
  | nil => intro m; exact .inr ⟨fun x hx => by simp at hx, rfl⟩
  | cons y c ih =>
    intro m
    rw [List.foldl_cons]
    rcases ih hc.tail (m := longStep a m y) with ⟨x, hx, h1, h2, h3⟩ | ⟨h1, h2⟩
    · exact .inl ⟨x, by simp [hx], h1, h2, h3⟩
    · by_cases hy : y.1 ≤ a ∧ a < y.2
      · refine .inl ⟨y, by simp, hy.1, hy.2, ?_⟩
        rw [h2]
        unfold longStep
        rw [if_pos hy]
      · refine .inr ⟨fun x hx => ?_, ?_⟩
        · rcases List.mem_cons.1 hx with rfl | hx
          · exact hy
          · exact h1 x hx
        · rw [h2]
          unfold longStep
          rw [if_neg hy]
theorem cov_after {c : List Sp} (hc : Cov c) {x : Sp} (hx : x ∈ c) : anyB c x.2 = false := by
  cases hb : anyB c x.2 with
  | false => rfl
  | true =>
    obtain ⟨y, hy, hm, h1, h2⟩ := any_iff.1 hb
    obtain ⟨i, hi, rfl⟩ := List.mem_iff_getElem.1 hx
    obtain ⟨j, hj, rfl⟩ := List.mem_iff_getElem.1 hy
    have hmx := hc.1 _ (List.getElem_mem hi)
    have h3 := hmx.2.1
    rcases Nat.lt_trichotomy i j with h4 | h4 | h4
    · have := List.pairwise_iff_getElem.1 hc.2 i j hi hj h4; omega
    · subst h4; omega
    · have := List.pairwise_iff_getElem.1 hc.2 j i hj hi h4; omega
theorem long_is {s c : List Sp} {a w : Int} (hm : mayG s w 1 = true) (h : AllIs s w c) : LongIs s a w (longTo c a c.length) := by
  unfold longTo
  rw [List.take_length]
  rcases long_cov h.1 (a := a) (m := 0) with ⟨x, hx, h1, h2, h3⟩ | ⟨h1, h2⟩
  · rw [h3]
    have hmx := h.1.1 x hx
    have hin : ∀ t, x.1 ≤ t → t < x.2 → inG s w t = true := fun t a1 a2 => by rw [← h.2]; exact any_iff.2 ⟨x, hx, hmx, a1, a2⟩
    refine .inl ⟨hm, hin a h1 h2, by omega, fun t a1 a2 => hin t (by omega) (by omega), ?_⟩
    rw [← h.2, show a + (x.2 - a) = x.2 by omega]
    exact cov_after h.1 hx
  · rw [h2]
    refine .inr ⟨.inr ?_, rfl⟩
    rw [← h.2]
    cases hb : anyB c a with
    | false => rfl
    | true =>
      obtain ⟨x, hx, _, b1, b2⟩ := any_iff.1 hb
      exact absurd ⟨b1, b2⟩ (h1 x hx)
/-- The least that is free. -/
def WideIs (s : List Sp) (a n m : Int) : Prop := (mayG s 1 n = true ∧ head s ≤ a ∧ a ≤ 1125899906842624 ∧ MinOf s (a, a + n) m) ∨ ((mayG s 1 n = false ∨ a < head s ∨ 1125899906842624 < a) ∧ m = 0)
theorem WideIs.unique {s : List Sp} {a n m k : Int} (x : WideIs s a n m) (y : WideIs s a n k) : m = k := by
  rcases x with ⟨x1, x2, x3, x4⟩ | ⟨x1, rfl⟩ <;> rcases y with ⟨y1, y2, y3, y4⟩ | ⟨y1, rfl⟩
  · exact x4.unique y4
  · rcases y1 with y1 | y1 | y1
    · rw [x1] at y1; cases y1
    all_goals omega
  · rcases x1 with x1 | x1 | x1
    · rw [y1] at x1; cases x1
    all_goals omega
  · rfl
theorem wide_is {s : List Sp} {a n : Int} (h : mayG s 1 n = true) (h1 : head s ≤ a) (h2 : a ≤ 1125899906842624) : WideIs s a n (minTo s (a, a + n) s.length) := by
  obtain ⟨hc, _, hn, _⟩ := mayG_iff.1 h
  exact .inl ⟨h, h1, h2, min_spec hc (by dsimp only; omega) h1⟩
end Go.Proofs.Ytonapgbokbeopaa.GapPlain
namespace Go.Proofs.Ytonapgbokbeopaa.GapPlain
open Go.RowKit Go.Proofs.Ytonapgbokbeopaa.SpanPlain Go.Proofs.Ytonapgbokbeopaa.StepPlain
theorem may_one {s : List Sp} {w n : Int} (h : mayG s w n = true) : mayG s w 1 = true := by
  obtain ⟨h1, h2, _⟩ := mayG_iff.1 h
  exact mayG_iff.2 ⟨h1, h2, by omega, by omega⟩
theorem may_long {s : List Sp} {w n : Int} (h : mayG s w 1 = true) (h1 : 1 ≤ n) (h2 : n ≤ 1099511627776) : mayG s w n = true := by
  obtain ⟨a1, a2, _⟩ := mayG_iff.1 h
  exact mayG_iff.2 ⟨a1, a2, h1, h2⟩
theorem cov_nth {c : List Sp} (hc : Cov c) {i j : Nat} (h : i < j) (hj : j < c.length) : (nth c i).2 < (nth c j).1 := by
  unfold nth
  rw [getSp hj, getSp (Nat.lt_trans h hj)]
  exact List.pairwise_iff_getElem.1 hc.2 i j (Nat.lt_trans h hj) hj h
theorem cov_may {c : List Sp} (hc : Cov c) {i : Nat} (h : i < c.length) : May (nth c i) := hc.1 _ (nth_mem h)
theorem room_cov {s c : List Sp} {m : Int} (ha : AllIs s m c) {n : Int} (hn : 1 ≤ n) (hn2 : n ≤ 1099511627776) {u : Int} : Room s u m n ↔ u ≤ 1125899906842624 ∧ ∃ j, j < c.length ∧ (nth c j).1 ≤ u ∧ u + n ≤ (nth c j).2 := by
  constructor
  · rintro ⟨h1, h2, h3⟩
    have hin : ∀ t, u ≤ t → t < u + n → anyB c t = true := fun t a1 a2 => by
      rw [ha.2]
      exact inG_iff.2 ⟨by omega, by omega, h3 t a1 a2⟩
    obtain ⟨x, hx, hm, b1, b2⟩ := any_iff.1 (hin u (Int.le_refl _) (by omega))
    obtain ⟨j, hj, rfl⟩ := List.mem_iff_getElem.1 hx
    refine ⟨h2, j, hj, by unfold nth; rw [getSp hj]; exact b1, ?_⟩
    unfold nth
    rw [getSp hj]
    rcases Int.lt_or_le c[j].2 (u + n) with h4 | h4
    · have h5 := hin c[j].2 (by omega) h4
      rw [cov_after ha.1 hx] at h5
      cases h5
    · exact h4
  · rintro ⟨h2, j, hj, h3, h4⟩
    have hin : ∀ t, u ≤ t → t < u + n → inG s m t = true := fun t a1 a2 => by
      rw [← ha.2]
      exact any_iff.2 ⟨nth c j, nth_mem hj, cov_may ha.1 hj, by omega, by omega⟩
    refine ⟨(inG_iff.1 (hin u (Int.le_refl _) (by omega))).1, h2, fun t a1 a2 => (inG_iff.1 (hin t a1 a2)).2.2⟩
/-- None of the first k spans has room. -/
def NoFit (c : List Sp) (f n : Int) (k : Nat) : Prop := ∀ j, j < k → j < c.length → ∀ u, f ≤ u → u ≤ 1125899906842624 → (nth c j).1 ≤ u → ¬ u + n ≤ (nth c j).2
theorem fit_start (c : List Sp) (f n : Int) : NoFit c f n 0 := fun j hj => absurd hj (Nat.not_lt_zero _)
theorem fit_found {s c : List Sp} {f m n : Int} (hm : mayG s m n = true) (ha : AllIs s m c) {k : Nat} (hk : k < c.length) (hf : NoFit c f n k) (h1 : max f (nth c k).1 ≤ 1125899906842624) (h2 : n ≤ (nth c k).2 - max f (nth c k).1) : FitIs s f m n (max f (nth c k).1) true := by
  obtain ⟨_, _, a1, a2⟩ := mayG_iff.1 hm
  refine .inl ⟨rfl, hm, Int.le_max_left _ _, (room_cov ha a1 a2).2 ⟨h1, k, hk, Int.le_max_right _ _, by omega⟩, fun u hu hr => ?_⟩
  obtain ⟨b1, j, hj, b2, b3⟩ := (room_cov ha a1 a2).1 hr
  rcases Nat.lt_trichotomy j k with h | h | h
  · exact absurd b3 (hf j h hj u hu b1 b2)
  · subst h; omega
  · have := cov_nth ha.1 h hj
    omega
theorem fit_none {s c : List Sp} {f m n : Int} (hm : mayG s m n = true) (ha : AllIs s m c) (h : ∀ j, j < c.length → ∀ u, f ≤ u → u ≤ 1125899906842624 → (nth c j).1 ≤ u → ¬ u + n ≤ (nth c j).2) : FitIs s f m n 0 false := by
  obtain ⟨_, _, a1, a2⟩ := mayG_iff.1 hm
  refine .inr ⟨rfl, rfl, .inr fun u hu hr => ?_⟩
  obtain ⟨b1, j, hj, b2, b3⟩ := (room_cov ha a1 a2).1 hr
  exact h j hj u hu b1 b2 b3
theorem fit_break {s c : List Sp} {f m n : Int} (hm : mayG s m n = true) (ha : AllIs s m c) {k : Nat} (hk : k < c.length) (hf : NoFit c f n k) (h1 : 1125899906842624 < max f (nth c k).1) : FitIs s f m n 0 false := by
  refine fit_none hm ha fun j hj u hu b1 b2 b3 => ?_
  rcases Nat.lt_trichotomy j k with h | h | h
  · exact hf j h hj u hu b1 b2 b3
  · subst h; omega
  · have h3 := cov_nth ha.1 h hj
    have := (cov_may ha.1 hk).2.1
    omega
theorem fit_next {c : List Sp} {f n : Int} {k : Nat} (hf : NoFit c f n k) (h2 : ¬ n ≤ (nth c k).2 - max f (nth c k).1) : NoFit c f n (k + 1) := fun j hj hl u hu b1 b2 b3 => by
  rcases Nat.lt_or_ge j k with h | h
  · exact hf j h hl u hu b1 b2 b3
  · obtain rfl : j = k := by omega
    omega
theorem fit_done {s c : List Sp} {f m n : Int} (h1 : 1 ≤ n) (h2 : n ≤ 1099511627776) (ha : AllSays s m c) {k : Nat} (hk : c.length ≤ k) (hf : NoFit c f n k) : FitIs s f m n 0 false := by
  rcases ha with ⟨hm, ha⟩ | ⟨hm, _⟩
  · exact fit_none (may_long hm h1 h2) ha fun j hj => hf j (by omega) hj
  · refine .inr ⟨rfl, rfl, .inl ?_⟩
    cases hb : mayG s m n with
    | false => rfl
    | true => rw [may_one hb] at hm; cases hm
theorem says_is {s c : List Sp} {m : Int} (ha : AllSays s m c) {k : Nat} (hk : k < c.length) : mayG s m 1 = true ∧ AllIs s m c := by
  rcases ha with h | ⟨_, rfl⟩
  · exact h
  · simp at hk
theorem fit_short (s : List Sp) (f m n : Int) (h : ¬ (1 ≤ n ∧ n ≤ 1099511627776)) : FitIs s f m n 0 false := by
  refine .inr ⟨rfl, rfl, .inl ?_⟩
  cases hb : mayG s m n with
  | false => rfl
  | true => exact absurd (mayG_iff.1 hb).2.2 h
/-- The way of one round of Fit. -/
theorem fit_ways2 (s c : List Sp) (f m n : Int) (h1 : 1 ≤ n) (h2 : n ≤ 1099511627776) (ha : AllSays s m c) {k : Nat} (hk : k < c.length) (hf : NoFit c f n k) :
    (decide ((1125899906842624 : Int) < max f (nth c k).1) = true ∧ Hid (FitIs s f m n 0 false)) ∨
    (decide ((1125899906842624 : Int) < max f (nth c k).1) = false ∧ IntKind.i64.wrap ((nth c k).2 - max f (nth c k).1) = (nth c k).2 - max f (nth c k).1 ∧ decide (n ≤ (nth c k).2 - max f (nth c k).1) = true ∧ Hid (FitIs s f m n (max f (nth c k).1) true)) ∨
     (decide ((1125899906842624 : Int) < max f (nth c k).1) = false ∧ IntKind.i64.wrap ((nth c k).2 - max f (nth c k).1) = (nth c k).2 - max f (nth c k).1 ∧ decide (n ≤ (nth c k).2 - max f (nth c k).1) = false ∧ Hid (NoFit c f n (k + 1))) := by
  obtain ⟨hm, ha⟩ := says_is ha hk
  have hm := may_long hm h1 h2
  have hmay := cov_may ha.1 hk
  obtain ⟨m1, m2, m3⟩ := hmay
  by_cases h3 : 1125899906842624 < max f (nth c k).1
  · exact .inl ⟨decide_eq_true h3, fit_break hm ha hk hf h3⟩
  · have hw : IntKind.i64.wrap ((nth c k).2 - max f (nth c k).1) = (nth c k).2 - max f (nth c k).1 := by rw [IntKind.wrap_i64]; omega
    by_cases h4 : n ≤ (nth c k).2 - max f (nth c k).1
    · exact .inr (.inl ⟨decide_eq_false h3, hw, decide_eq_true h4, fit_found hm ha hk hf (by omega) h4⟩)
    · exact .inr (.inr ⟨decide_eq_false h3, hw, decide_eq_false h4, fit_next hf h4⟩)
/-- Longest along the cover. -/
def NoLong (c : List Sp) (a : Int) (k : Nat) : Prop := ∀ j, j < k → j < c.length → hasB (nth c j) a = false
theorem has_iff2 {x : Sp} (hx : May x) (a : Int) : hasB x a = true ↔ x.1 ≤ a ∧ a < x.2 := by
  unfold hasB
  rw [(mayB_iff x).2 hx]
  simp
theorem long_ways {s c : List Sp} {a m : Int} (ha : AllSays s m c) {k : Nat} (hk : k < c.length) (hn : NoLong c a k) :
    (hasB (nth c k) a = true ∧ 0 ≤ (nth c k).1 ∧ (nth c k).1 ≤ a ∧ a < (nth c k).2 ∧ (nth c k).2 ≤ 4503599627370496 ∧ Hid (LongIs s a m ((nth c k).2 - a))) ∨ (hasB (nth c k) a = false ∧ Hid (NoLong c a (k + 1))) := by
  obtain ⟨hm, ha⟩ := says_is ha hk
  have hmay := cov_may ha.1 hk
  cases hb : hasB (nth c k) a with
  | false =>
    refine .inr ⟨rfl, fun j hj hl => ?_⟩
    rcases Nat.lt_or_ge j k with h | h
    · exact hn j h hl
    · obtain rfl : j = k := by omega
      exact hb
  | true =>
    obtain ⟨h1, h2⟩ := (has_iff2 hmay a).1 hb
    refine .inl ⟨rfl, hmay.1, h1, h2, hmay.2.2, ?_⟩
    have hin : ∀ t, a ≤ t → t < (nth c k).2 → inG s m t = true := fun t a1 a2 => by
      rw [← ha.2]
      exact any_iff.2 ⟨nth c k, nth_mem hk, hmay, by omega, a2⟩
    refine .inl ⟨hm, hin a (Int.le_refl _) h2, by omega, fun t a1 a2 => hin t a1 (by omega), ?_⟩
    rw [← ha.2, show a + ((nth c k).2 - a) = (nth c k).2 by omega]
    exact cov_after ha.1 (nth_mem hk)
theorem long_done {s c : List Sp} {a m : Int} (ha : AllSays s m c) {k : Nat} (hk : c.length ≤ k) (hn : NoLong c a k) : LongIs s a m 0 := by
  rcases ha with ⟨hm, ha⟩ | ⟨hm, _⟩
  · refine .inr ⟨.inr ?_, rfl⟩
    rw [← ha.2]
    cases hb : anyB c a with
    | false => rfl
    | true =>
      obtain ⟨x, hx, h1, h2, h3⟩ := any_iff.1 hb
      obtain ⟨j, hj, rfl⟩ := List.mem_iff_getElem.1 hx
      have h4 := hn j (by omega) hj
      unfold nth at h4
      rw [getSp hj] at h4
      rw [(has_iff2 h1 a).2 ⟨h2, h3⟩] at h4
      cases h4
  · exact .inr ⟨.inl hm, rfl⟩
/-- Ok by Widest. -/
theorem ok_wide {s : List Sp} {a m n k : Int} (h : WideIs s a n k) (h1 : 1 ≤ m) (h2 : m ≤ 256) : okG s a m n = decide (m ≤ k) := by
  rcases h with ⟨b1, b2, b3, b4⟩ | ⟨b1, rfl⟩
  · obtain ⟨c1, _, c3, c4⟩ := mayG_iff.1 b1
    have e : k = minTo s (a, a + n) s.length := b4.unique (min_spec c1 (by dsimp only; omega) b2)
    unfold okG roomB
    rw [mayG_iff.2 ⟨c1, ⟨h1, h2⟩, c3, c4⟩, decide_eq_true b2, decide_eq_true b3, e]
    rfl
  · rw [decide_eq_false (by omega)]
    unfold okG roomB
    rcases b1 with b1 | b1 | b1
    · cases hb : mayG s m n with
      | false => rfl
      | true =>
        obtain ⟨c1, _, c3, c4⟩ := mayG_iff.1 hb
        rw [mayG_iff.2 ⟨c1, ⟨by omega, by omega⟩, c3, c4⟩] at b1
        cases b1
    · rw [decide_eq_false (by omega)]; simp
    · rw [decide_eq_false (show ¬ a ≤ 1125899906842624 by omega)]; simp
theorem ok_not {s : List Sp} {a m n : Int} (h : ¬ (1 ≤ m ∧ m ≤ 256)) : okG s a m n = false := by
  cases hb : okG s a m n with
  | false => rfl
  | true => exact absurd (mayG_iff.1 (okG_iff.1 hb).1).2.1 h
/-- Widest by the least within a span. -/
theorem wide_no {s : List Sp} {a n : Int} (h : ¬ (1 ≤ n ∧ n ≤ 1099511627776) ∨ 1125899906842624 < a) : WideIs s a n 0 := by
  refine .inr ⟨?_, rfl⟩
  rcases h with h | h
  · refine .inl ?_
    cases hb : mayG s 1 n with
    | false => rfl
    | true => exact absurd (mayG_iff.1 hb).2.2 h
  · exact .inr (.inr h)
theorem wide_yes {s : List Sp} {a n b k : Int} (hn : 1 ≤ n ∧ n ≤ 1099511627776) (ha : a ≤ 1125899906842624) (hb : 0 ≤ a → b = a + n) (h : ((chkB s && mayB (a, b) && decide (head s ≤ a)) = true ∧ MinOf s (a, b) k) ∨ ((chkB s && mayB (a, b) && decide (head s ≤ a)) = false ∧ k = 0)) : WideIs s a n k := by
  rcases h with ⟨h1, h2⟩ | ⟨h1, rfl⟩
  · rw [Bool.and_eq_true, Bool.and_eq_true, decide_eq_true_eq] at h1
    obtain ⟨⟨c1, c2⟩, c3⟩ := h1
    have c4 := ((mayB_iff _).1 c2).1
    dsimp only at c4
    rw [hb c4] at h2
    exact .inl ⟨mayG_iff.2 ⟨(chk_iff s).1 c1, by omega, hn.1, hn.2⟩, c3, ha, h2⟩
  · refine .inr ⟨?_, rfl⟩
    cases hc : chkB s with
    | false =>
      refine .inl ?_
      cases hb : mayG s 1 n with
      | false => rfl
      | true => rw [(chk_iff s).2 (mayG_iff.1 hb).1] at hc; cases hc
    | true =>
      rcases Int.lt_or_le a (head s) with h3 | h3
      · exact .inr (.inl h3)
      · have h4 := ((chk_iff s).1 hc).lo
        rw [hc, decide_eq_true h3, (mayB_iff _).2 ⟨by dsimp only; omega, by dsimp only; rw [hb (by omega)]; omega, by dsimp only; rw [hb (by omega)]; omega⟩] at h1
        cases h1
end Go.Proofs.Ytonapgbokbeopaa.GapPlain
