/-
  The plain mathematics of layer 6: room for a width and a length from a time on; the least time from which on there is room; all times at which a width is free; for how long it is.
-/
import Derived.Test.YtalopnkdnlkdoaaStepPlain
namespace Go.Proofs.Ytalopnkdnlkdoaa.GapPlain
open Go.Proofs.Ytalopnkdnlkdoaa.SpanPlain Go.Proofs.Ytalopnkdnlkdoaa.StepPlain
def mayG (s : List Sp) (w n : Int) : Bool := chkB s && decide (1 ≤ w) && decide (w ≤ 256) && decide (1 ≤ n) && decide (n ≤ 1099511627776)
theorem mayG_iff {s : List Sp} {w n : Int} : mayG s w n = true ↔ Chk s ∧ (1 ≤ w ∧ w ≤ 256) ∧ 1 ≤ n ∧ n ≤ 1099511627776 := by
  unfold mayG
  simp only [Bool.and_eq_true, decide_eq_true_eq, chk_iff]
  constructor
  · rintro ⟨⟨⟨⟨h1, h2⟩, h3⟩, h4⟩, h5⟩; exact ⟨h1, ⟨h2, h3⟩, h4, h5⟩
  · rintro ⟨h1, ⟨h2, h3⟩, h4, h5⟩; exact ⟨⟨⟨⟨h1, h2⟩, h3⟩, h4⟩, h5⟩
/-- Room from a time on. -/
def Room (s : List Sp) (a w n : Int) : Prop := head s ≤ a ∧ a ≤ 1125899906842624 ∧ ∀ t, a ≤ t → t < a + n → w ≤ val s t
def roomB (s : List Sp) (a w n : Int) : Bool := decide (head s ≤ a) && decide (a ≤ 1125899906842624) && decide (w ≤ minTo s (a, a + n) s.length)
theorem room_iff {s : List Sp} (h : Chk s) {a w n : Int} (hn : 1 ≤ n) : roomB s a w n = true ↔ Room s a w n := by
  unfold roomB Room
  simp only [Bool.and_eq_true, decide_eq_true_eq]
  constructor
  · rintro ⟨⟨h1, h2⟩, h3⟩
    have hm := min_spec h (x := (a, a + n)) (by dsimp only; omega) h1
    exact ⟨h1, h2, fun t a1 a2 => Int.le_trans h3 (hm.2 t a1 a2)⟩
  · rintro ⟨h1, h2, h3⟩
    have hm := min_spec h (x := (a, a + n)) (by dsimp only; omega) h1
    obtain ⟨t, a1, a2, a3⟩ := hm.1
    exact ⟨⟨h1, h2⟩, by rw [← a3]; exact h3 t a1 a2⟩
/-- Room goes back to the step ahead, or to any time behind it. -/
theorem room_back {s : List Sp} (h : Chk s) {f u w n : Int} (hn : 1 ≤ n) (hf : head s ≤ f) (hu : Room s u w n) (hfu : f ≤ u) : ∃ y ∈ s, y.1 ≤ u ∧ Room s (max f y.1) w n := by
  obtain ⟨h1, h2, h3⟩ := hu
  obtain ⟨y, hy, b1, b2, b3⟩ := h.floor (t := u) h1
  refine ⟨y, hy, b1, by omega, by omega, fun t a1 a2 => ?_⟩
  rcases Int.lt_or_le t u with ht | ht
  · have e : val s t = val s u := valFrom_same fun z hz => ⟨fun h4 => by omega, fun h4 => by have := b3 z hz h4; omega⟩
    rw [e]
    exact h3 u (Int.le_refl _) (by omega)
  · exact h3 t ht (by omega)
/-- What Fit tells: the least time not ahead of one from which on there is room. -/
def FitIs (s : List Sp) (f w n r : Int) (b : Bool) : Prop :=
  (b = true ∧ mayG s w n = true ∧ f ≤ r ∧ Room s r w n ∧ ∀ u, f ≤ u → Room s u w n → r ≤ u) ∨ (b = false ∧ r = 0 ∧ (mayG s w n = false ∨ ∀ u, f ≤ u → ¬ Room s u w n))
theorem FitIs.unique {s : List Sp} {f w n r q : Int} {b c : Bool} (x : FitIs s f w n r b) (y : FitIs s f w n q c) : r = q ∧ b = c := by
  rcases x with ⟨rfl, x1, x2, x3, x4⟩ | ⟨rfl, rfl, x1⟩ <;> rcases y with ⟨rfl, y1, y2, y3, y4⟩ | ⟨rfl, rfl, y1⟩
  · have := x4 q y2 y3
    have := y4 r x2 x3
    exact ⟨by omega, rfl⟩
  · rcases y1 with y1 | y1
    · rw [x1] at y1; cases y1
    · exact absurd x3 (y1 r x2)
  · rcases x1 with x1 | x1
    · rw [y1] at x1; cases x1
    · exact absurd y3 (x1 q y2)
  · exact ⟨rfl, rfl⟩
/-- The document's way: the first time, then the steps behind it. -/
def fitStep (s : List Sp) (f w n : Int) : List Sp → Int
  | [] => -1
  | y :: r => if f < y.1 ∧ roomB s y.1 w n = true then y.1 else fitStep s f w n r
def fitL (s : List Sp) (f w n : Int) : Int := if 1125899906842624 < max f (head s) then -1 else if roomB s (max f (head s)) w n = true then max f (head s) else fitStep s (max f (head s)) w n s
theorem fitStep_spec {s : List Sp} {f w n : Int} : ∀ {l : List Sp}, Up l → (∀ y ∈ l, 0 ≤ y.1) → (0 ≤ fitStep s f w n l → ∃ y ∈ l, fitStep s f w n l = y.1 ∧ f < y.1 ∧ roomB s y.1 w n = true ∧ ∀ z ∈ l, f < z.1 → roomB s z.1 w n = true → y.1 ≤ z.1) ∧
    (fitStep s f w n l < 0 → ∀ z ∈ l, f < z.1 → roomB s z.1 w n = false) := by
  intro l
  induction l with
  | nil => intro _ _; exact ⟨fun h => by simp [fitStep] at h, fun _ z hz => by simp at hz⟩
  | cons y r ih =>
    intro hu h0
    have hu' := List.pairwise_cons.1 hu
    have ih := ih hu'.2 (fun z hz => h0 z (by simp [hz]))
    unfold fitStep
    by_cases hc : f < y.1 ∧ roomB s y.1 w n = true
    · rw [if_pos hc]
      refine ⟨fun _ => ⟨y, by simp, rfl, hc.1, hc.2, fun z hz _ _ => ?_⟩, fun h => ?_⟩
      · rcases List.mem_cons.1 hz with rfl | hz
        · exact Int.le_refl _
        · have := hu'.1 z hz; omega
      · have := h0 y (by simp); omega
    · rw [if_neg hc]
      refine ⟨fun h => ?_, fun h z hz hf => ?_⟩
      · obtain ⟨v, hv, e1, e2, e3, e4⟩ := ih.1 h
        refine ⟨v, by simp [hv], e1, e2, e3, fun z hz hf hr => ?_⟩
        rcases List.mem_cons.1 hz with rfl | hz
        · exact absurd ⟨hf, hr⟩ hc
        · exact e4 z hz hf hr
      · rcases List.mem_cons.1 hz with rfl | hz
        · cases hb : roomB s z.1 w n with
          | false => rfl
          | true => exact absurd ⟨hf, hb⟩ hc
        · exact ih.2 h z hz hf
theorem fit_spec {s : List Sp} {f w n : Int} (h : mayG s w n = true) : (0 ≤ fitL s f w n → FitIs s f w n (fitL s f w n) true) ∧ (fitL s f w n < 0 → FitIs s f w n 0 false) := by
  obtain ⟨hc, _, hn, _⟩ := mayG_iff.1 h
  have hlo := hc.lo
  have hge := hc.ge
  have hmin : ∀ u, f ≤ u → Room s u w n → max f (head s) ≤ u := fun u h1 h2 => by have := h2.1; omega
  unfold fitL
  by_cases h1 : 1125899906842624 < max f (head s)
  · rw [if_pos h1]
    exact ⟨fun h => by omega, fun _ => .inr ⟨rfl, rfl, .inr fun u hu hr => by have := hmin u hu hr; have := hr.2.1; omega⟩⟩
  · rw [if_neg h1]
    by_cases h2 : roomB s (max f (head s)) w n = true
    · rw [if_pos h2]
      exact ⟨fun _ => .inl ⟨rfl, h, by omega, (room_iff hc hn).1 h2, hmin⟩, fun h3 => by omega⟩
    · rw [if_neg h2]
      have hsp := fitStep_spec (s := s) (f := max f (head s)) (w := w) (n := n) hc.up (fun y hy => by have := hge y hy; omega)
      have hback : ∀ u, f ≤ u → Room s u w n → ∃ y ∈ s, max f (head s) < y.1 ∧ y.1 ≤ u ∧ roomB s y.1 w n = true := fun u h3 h4 => by
        obtain ⟨y, hy, b1, b2⟩ := room_back hc hn (f := max f (head s)) (Int.le_max_right _ _) h4 (hmin u h3 h4)
        rcases Int.lt_or_le (max f (head s)) y.1 with h5 | h5
        · rw [Int.max_eq_right (by omega)] at b2
          exact ⟨y, hy, h5, b1, (room_iff hc hn).2 b2⟩
        · rw [Int.max_eq_left h5] at b2
          exact absurd ((room_iff hc hn).2 b2) h2
      refine ⟨fun h3 => ?_, fun h3 => ?_⟩
      · obtain ⟨y, hy, e1, e2, e3, e4⟩ := hsp.1 h3
        rw [e1]
        refine .inl ⟨rfl, h, Int.le_trans (Int.le_max_left _ _) (Int.le_of_lt e2), (room_iff hc hn).1 e3, fun u h5 h6 => ?_⟩
        obtain ⟨z, hz, b1, b2, b3⟩ := hback u h5 h6
        exact Int.le_trans (e4 z hz b1 b3) b2
      · refine .inr ⟨rfl, rfl, .inr fun u h5 h6 => ?_⟩
        obtain ⟨z, hz, b1, b2, b3⟩ := hback u h5 h6
        rw [hsp.2 h3 z hz b1] at b3
        cases b3
/-- What Ok tells. -/
def okG (s : List Sp) (a w n : Int) : Bool := mayG s w n && roomB s a w n
theorem okG_iff {s : List Sp} {a w n : Int} : okG s a w n = true ↔ mayG s w n = true ∧ Room s a w n := by
  unfold okG
  rw [Bool.and_eq_true]
  constructor
  · rintro ⟨h1, h2⟩
    obtain ⟨hc, _, hn, _⟩ := mayG_iff.1 h1
    exact ⟨h1, (room_iff hc hn).1 h2⟩
  · rintro ⟨h1, h2⟩
    obtain ⟨hc, _, hn, _⟩ := mayG_iff.1 h1
    exact ⟨h1, (room_iff hc hn).2 h2⟩
/-- From the least time on there is room, and from none ahead. -/
theorem FitIs.okG {s : List Sp} {f w n r : Int} (h : FitIs s f w n r true) : GapPlain.okG s r w n = true := by
  rcases h with ⟨_, h1, _, h2, _⟩ | ⟨h, _⟩
  · exact okG_iff.2 ⟨h1, h2⟩
  · cases h
theorem FitIs.no {s : List Sp} {f w n r : Int} (h : FitIs s f w n r true) (hf : f < r) : GapPlain.okG s (r - 1) w n = false := by
  rcases h with ⟨_, h1, _, _, h2⟩ | ⟨h, _⟩
  · cases hb : GapPlain.okG s (r - 1) w n with
    | false => rfl
    | true => have := h2 (r - 1) (by omega) (okG_iff.1 hb).2; omega
  · cases h
/-- Is a width free at a time? -/
def inG (s : List Sp) (w t : Int) : Bool := decide (head s ≤ t) && decide (t < 4503599627370496) && decide (w ≤ val s t)
theorem inG_iff {s : List Sp} {w t : Int} : inG s w t = true ↔ head s ≤ t ∧ t < 4503599627370496 ∧ w ≤ val s t := by
  unfold inG
  simp only [Bool.and_eq_true, decide_eq_true_eq, and_assoc]
/-- The cover of all such times. -/
def AllIs (s : List Sp) (w : Int) (c : List Sp) : Prop := Cov c ∧ ∀ t, anyB c t = inG s w t
theorem AllIs.unique {s : List Sp} {w : Int} {c d : List Sp} (a : AllIs s w c) (b : AllIs s w d) : c = d := cov_unique a.1 b.1 fun t => by rw [a.2, b.2]
def gapSp (s : List Sp) (w : Int) (i : Nat) : List Sp := if w ≤ (nth s i).2 then [((nth s i).1, if i + 1 < s.length then (nth s (i + 1)).1 else 4503599627370496)] else []
def gapsTo (s : List Sp) (w : Int) (k : Nat) : List Sp := (List.range k).flatMap (gapSp s w)
theorem gaps_next (s : List Sp) (w : Int) (k : Nat) : gapsTo s w (k + 1) = gapsTo s w k ++ gapSp s w k := by unfold gapsTo; rw [List.range_succ, List.flatMap_append]; simp
theorem gaps_len (s : List Sp) (w : Int) (k : Nat) : (gapsTo s w k).length ≤ k := by
  induction k with
  | zero => simp [gapsTo]
  | succ k ih =>
    rw [gaps_next, List.length_append]
    have : (gapSp s w k).length ≤ 1 := by unfold gapSp; split <;> simp
    omega
theorem gaps_all {s : List Sp} (h : Chk s) (w t : Int) : anyB (gapsTo s w s.length) t = inG s w t := by
  apply bool_ext
  rw [any_iff, inG_iff]
  constructor
  · rintro ⟨x, hx, hm, h1, h2⟩
    unfold gapsTo at hx
    rw [List.mem_flatMap] at hx
    obtain ⟨i, hi, hx⟩ := hx
    rw [List.mem_range] at hi
    unfold gapSp at hx
    split at hx
    · rename_i hw
      rw [List.mem_singleton] at hx
      subst hx
      dsimp only at h1 h2
      have hl : LastIs s t i := ⟨hi, h1, fun j h3 h4 => by
        rw [if_pos (by omega)] at h2
        have := h.up.le (i := i + 1) (j := j) (by omega) h4
        omega⟩
      refine ⟨by have := h.ge _ (nth_mem hi); omega, ?_, by rw [hl.val]; exact hw⟩
      split at h2
      · rename_i h5
        have := h.top _ (nth_mem h5)
        omega
      · exact h2
    · simp at hx
  · rintro ⟨h1, h2, h3⟩
    obtain ⟨k, hk⟩ := h.up.last h.pos h1
    rw [hk.val] at h3
    have hx : ((nth s k).1, if k + 1 < s.length then (nth s (k + 1)).1 else 4503599627370496) ∈ gapsTo s w s.length := by
      unfold gapsTo
      rw [List.mem_flatMap]
      refine ⟨k, List.mem_range.2 hk.lt, ?_⟩
      unfold gapSp
      rw [if_pos h3]
      simp
    have hto : t < (if k + 1 < s.length then (nth s (k + 1)).1 else 4503599627370496) := by
      split
      · rename_i h5; exact hk.late (k + 1) (by omega) h5
      · exact h2
    have htop : (if k + 1 < s.length then (nth s (k + 1)).1 else 4503599627370496) ≤ 4503599627370496 := by
      split
      · rename_i h5; exact h.top _ (nth_mem h5)
      · exact Int.le_refl _
    have hle := hk.le
    have hlo := h.lo
    have hge := h.ge _ (nth_mem hk.lt)
    exact ⟨_, hx, ⟨by dsimp only; omega, by dsimp only; omega, htop⟩, hle, hto⟩
theorem all_of_less {s c : List Sp} (h : Chk s) {w : Int} (hl : LessOf (gapsTo s w s.length) [] c) : AllIs s w c := ⟨hl.1, fun t => by rw [hl.2, gaps_all h]; simp [any_nil]⟩
/-- What All tells. -/
def AllSays (s : List Sp) (w : Int) (c : List Sp) : Prop := (mayG s w 1 = true ∧ AllIs s w c) ∨ (mayG s w 1 = false ∧ c = [])
theorem AllSays.unique {s : List Sp} {w : Int} {c d : List Sp} (a : AllSays s w c) (b : AllSays s w d) : c = d := by
  rcases a with ⟨a1, a2⟩ | ⟨a1, rfl⟩ <;> rcases b with ⟨b1, b2⟩ | ⟨b1, rfl⟩
  · exact a2.unique b2
  · rw [a1] at b1; cases b1
  · rw [a1] at b1; cases b1
  · rfl
/-- For how long a width is free from a time on. -/
def LongIs (s : List Sp) (a w m : Int) : Prop :=
  (mayG s w 1 = true ∧ inG s w a = true ∧ 0 < m ∧ (∀ t, a ≤ t → t < a + m → inG s w t = true) ∧ inG s w (a + m) = false) ∨ ((mayG s w 1 = false ∨ inG s w a = false) ∧ m = 0)
theorem LongIs.unique {s : List Sp} {a w m n : Int} (x : LongIs s a w m) (y : LongIs s a w n) : m = n := by
  rcases x with ⟨x0, x1, x2, x3, x4⟩ | ⟨x1, rfl⟩ <;> rcases y with ⟨y0, y1, y2, y3, y4⟩ | ⟨y1, rfl⟩
  · rcases Int.lt_trichotomy m n with h | h | h
    · have := y3 (a + m) (by omega) (by omega); rw [x4] at this; cases this
    · exact h
    · have := x3 (a + n) (by omega) (by omega); rw [y4] at this; cases this
  · rcases y1 with y1 | y1
    · rw [x0] at y1; cases y1
    · rw [x1] at y1; cases y1
  · rcases x1 with x1 | x1
    · rw [y0] at x1; cases x1
    · rw [y1] at x1; cases x1
  · rfl
/-- The document's way: along the cover. -/
def longStep (a : Int) (m : Int) (x : Sp) : Int := if x.1 ≤ a ∧ a < x.2 then x.2 - a else m
def longTo (c : List Sp) (a : Int) (k : Nat) : Int := (c.take k).foldl (longStep a) 0
theorem long_next {c : List Sp} {a : Int} {k : Nat} (hk : k < c.length) : longTo c a (k + 1) = longStep a (longTo c a k) (nth c k) := by
  unfold longTo nth
  rw [List.take_succ_eq_append_getElem hk, List.foldl_append, getSp hk]
  rfl
theorem long_cov {c : List Sp} (hc : Cov c) {a : Int} : ∀ {m : Int}, (∃ x ∈ c, x.1 ≤ a ∧ a < x.2 ∧ c.foldl (longStep a) m = x.2 - a) ∨ ((∀ x ∈ c, ¬ (x.1 ≤ a ∧ a < x.2)) ∧ c.foldl (longStep a) m = m) := by
  induction c with
  | nil => intro m; exact .inr ⟨fun x hx => by simp at hx, rfl⟩
  | cons y c ih =>
    intro m
    rw [List.foldl_cons]
    rcases ih hc.tail (m := longStep a m y) with ⟨x, hx, h1, h2, h3⟩ | ⟨h1, h2⟩
    · exact .inl ⟨x, by simp [hx], h1, h2, h3⟩
    · by_cases hy : y.1 ≤ a ∧ a < y.2
      · refine .inl ⟨y, by simp, hy.1, hy.2, ?_⟩
        rw [h2]
        unfold longStep
        rw [if_pos hy]
      · refine .inr ⟨fun x hx => ?_, ?_⟩
        · rcases List.mem_cons.1 hx with rfl | hx
          · exact hy
          · exact h1 x hx
        · rw [h2]
          unfold longStep
          rw [if_neg hy]
theorem cov_after {c : List Sp} (hc : Cov c) {x : Sp} (hx : x ∈ c) : anyB c x.2 = false := by
  cases hb : anyB c x.2 with
  | false => rfl
  | true =>
    obtain ⟨y, hy, hm, h1, h2⟩ := any_iff.1 hb
    obtain ⟨i, hi, rfl⟩ := List.mem_iff_getElem.1 hx
    obtain ⟨j, hj, rfl⟩ := List.mem_iff_getElem.1 hy
    have hmx := hc.1 _ (List.getElem_mem hi)
    have h3 := hmx.2.1
    rcases Nat.lt_trichotomy i j with h4 | h4 | h4
    · have := List.pairwise_iff_getElem.1 hc.2 i j hi hj h4; omega
    · subst h4; omega
    · have := List.pairwise_iff_getElem.1 hc.2 j i hj hi h4; omega
theorem long_is {s c : List Sp} {a w : Int} (hm : mayG s w 1 = true) (h : AllIs s w c) : LongIs s a w (longTo c a c.length) := by
  unfold longTo
  rw [List.take_length]
  rcases long_cov h.1 (a := a) (m := 0) with ⟨x, hx, h1, h2, h3⟩ | ⟨h1, h2⟩
  · rw [h3]
    have hmx := h.1.1 x hx
    have hin : ∀ t, x.1 ≤ t → t < x.2 → inG s w t = true := fun t a1 a2 => by rw [← h.2]; exact any_iff.2 ⟨x, hx, hmx, a1, a2⟩
    refine .inl ⟨hm, hin a h1 h2, by omega, fun t a1 a2 => hin t (by omega) (by omega), ?_⟩
    rw [← h.2, show a + (x.2 - a) = x.2 by omega]
    exact cov_after h.1 hx
  · rw [h2]
    refine .inr ⟨.inr ?_, rfl⟩
    rw [← h.2]
    cases hb : anyB c a with
    | false => rfl
    | true =>
      obtain ⟨x, hx, _, b1, b2⟩ := any_iff.1 hb
      exact absurd ⟨b1, b2⟩ (h1 x hx)
/-- The least that is free. -/
def WideIs (s : List Sp) (a n m : Int) : Prop := (mayG s 1 n = true ∧ head s ≤ a ∧ a ≤ 1125899906842624 ∧ MinOf s (a, a + n) m) ∨ ((mayG s 1 n = false ∨ a < head s ∨ 1125899906842624 < a) ∧ m = 0)
theorem WideIs.unique {s : List Sp} {a n m k : Int} (x : WideIs s a n m) (y : WideIs s a n k) : m = k := by
  rcases x with ⟨x1, x2, x3, x4⟩ | ⟨x1, rfl⟩ <;> rcases y with ⟨y1, y2, y3, y4⟩ | ⟨y1, rfl⟩
  · exact x4.unique y4
  · rcases y1 with y1 | y1 | y1
    · rw [x1] at y1; cases y1
    all_goals omega
  · rcases x1 with x1 | x1 | x1
    · rw [y1] at x1; cases x1
    all_goals omega
  · rfl
theorem wide_is {s : List Sp} {a n : Int} (h : mayG s 1 n = true) (h1 : head s ≤ a) (h2 : a ≤ 1125899906842624) : WideIs s a n (minTo s (a, a + n) s.length) := by
  obtain ⟨hc, _, hn, _⟩ := mayG_iff.1 h
  exact .inl ⟨h, h1, h2, min_spec hc (by dsimp only; omega) h1⟩
end Go.Proofs.Ytalopnkdnlkdoaa.GapPlain
