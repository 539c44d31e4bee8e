/-
  The plain mathematics of the landed way of layer 6: room told along the cover of the times at which a width is free.
-/
import Derived.Test.YtalopnkdnlkdoaaGapPlain
import Derived.Lib.Hide
namespace Go.Proofs.Ytalopnkdnlkdoaa.GapPlain
open Go.RowKit Go.Proofs.Ytalopnkdnlkdoaa.SpanPlain Go.Proofs.Ytalopnkdnlkdoaa.StepPlain
theorem may_one {s : List Sp} {w n : Int} (h : mayG s w n = true) : mayG s w 1 = true := by
  obtain ⟨h1, h2, _⟩ := mayG_iff.1 h
  exact mayG_iff.2 ⟨h1, h2, by omega, by omega⟩
theorem may_long {s : List Sp} {w n : Int} (h : mayG s w 1 = true) (h1 : 1 ≤ n) (h2 : n ≤ 1099511627776) : mayG s w n = true := by
  obtain ⟨a1, a2, _⟩ := mayG_iff.1 h
  exact mayG_iff.2 ⟨a1, a2, h1, h2⟩
theorem cov_nth {c : List Sp} (hc : Cov c) {i j : Nat} (h : i < j) (hj : j < c.length) : (nth c i).2 < (nth c j).1 := by
  unfold nth
  rw [getSp hj, getSp (Nat.lt_trans h hj)]
  exact List.pairwise_iff_getElem.1 hc.2 i j (Nat.lt_trans h hj) hj h
theorem cov_may {c : List Sp} (hc : Cov c) {i : Nat} (h : i < c.length) : May (nth c i) := hc.1 _ (nth_mem h)
theorem room_cov {s c : List Sp} {m : Int} (ha : AllIs s m c) {n : Int} (hn : 1 ≤ n) (hn2 : n ≤ 1099511627776) {u : Int} : Room s u m n ↔ u ≤ 1125899906842624 ∧ ∃ j, j < c.length ∧ (nth c j).1 ≤ u ∧ u + n ≤ (nth c j).2 := by
  constructor
  · rintro ⟨h1, h2, h3⟩
    have hin : ∀ t, u ≤ t → t < u + n → anyB c t = true := fun t a1 a2 => by
      rw [ha.2]
      exact inG_iff.2 ⟨by omega, by omega, h3 t a1 a2⟩
    obtain ⟨x, hx, hm, b1, b2⟩ := any_iff.1 (hin u (Int.le_refl _) (by omega))
    obtain ⟨j, hj, rfl⟩ := List.mem_iff_getElem.1 hx
    refine ⟨h2, j, hj, by unfold nth; rw [getSp hj]; exact b1, ?_⟩
    unfold nth
    rw [getSp hj]
    rcases Int.lt_or_le c[j].2 (u + n) with h4 | h4
    · have h5 := hin c[j].2 (by omega) h4
      rw [cov_after ha.1 hx] at h5
      cases h5
    · exact h4
  · rintro ⟨h2, j, hj, h3, h4⟩
    have hin : ∀ t, u ≤ t → t < u + n → inG s m t = true := fun t a1 a2 => by
      rw [← ha.2]
      exact any_iff.2 ⟨nth c j, nth_mem hj, cov_may ha.1 hj, by omega, by omega⟩
    refine ⟨(inG_iff.1 (hin u (Int.le_refl _) (by omega))).1, h2, fun t a1 a2 => (inG_iff.1 (hin t a1 a2)).2.2⟩
/-- None of the first k spans has room. -/
def NoFit (c : List Sp) (f n : Int) (k : Nat) : Prop := ∀ j, j < k → j < c.length → ∀ u, f ≤ u → u ≤ 1125899906842624 → (nth c j).1 ≤ u → ¬ u + n ≤ (nth c j).2
theorem fit_start (c : List Sp) (f n : Int) : NoFit c f n 0 := fun j hj => absurd hj (Nat.not_lt_zero _)
theorem fit_found {s c : List Sp} {f m n : Int} (hm : mayG s m n = true) (ha : AllIs s m c) {k : Nat} (hk : k < c.length) (hf : NoFit c f n k) (h1 : max f (nth c k).1 ≤ 1125899906842624) (h2 : n ≤ (nth c k).2 - max f (nth c k).1) : FitIs s f m n (max f (nth c k).1) true := by
  obtain ⟨_, _, a1, a2⟩ := mayG_iff.1 hm
  refine .inl ⟨rfl, hm, Int.le_max_left _ _, (room_cov ha a1 a2).2 ⟨h1, k, hk, Int.le_max_right _ _, by omega⟩, fun u hu hr => ?_⟩
  obtain ⟨b1, j, hj, b2, b3⟩ := (room_cov ha a1 a2).1 hr
  rcases Nat.lt_trichotomy j k with h | h | h
  · exact absurd b3 (hf j h hj u hu b1 b2)
  · subst h; omega
  · have := cov_nth ha.1 h hj
    omega
theorem fit_none {s c : List Sp} {f m n : Int} (hm : mayG s m n = true) (ha : AllIs s m c) (h : ∀ j, j < c.length → ∀ u, f ≤ u → u ≤ 1125899906842624 → (nth c j).1 ≤ u → ¬ u + n ≤ (nth c j).2) : FitIs s f m n 0 false := by
  obtain ⟨_, _, a1, a2⟩ := mayG_iff.1 hm
  refine .inr ⟨rfl, rfl, .inr fun u hu hr => ?_⟩
  obtain ⟨b1, j, hj, b2, b3⟩ := (room_cov ha a1 a2).1 hr
  exact h j hj u hu b1 b2 b3
theorem fit_break {s c : List Sp} {f m n : Int} (hm : mayG s m n = true) (ha : AllIs s m c) {k : Nat} (hk : k < c.length) (hf : NoFit c f n k) (h1 : 1125899906842624 < max f (nth c k).1) : FitIs s f m n 0 false := by
  refine fit_none hm ha fun j hj u hu b1 b2 b3 => ?_
  rcases Nat.lt_trichotomy j k with h | h | h
  · exact hf j h hj u hu b1 b2 b3
  · subst h; omega
  · have h3 := cov_nth ha.1 h hj
    have := (cov_may ha.1 hk).2.1
    omega
theorem fit_next {c : List Sp} {f n : Int} {k : Nat} (hf : NoFit c f n k) (h2 : ¬ n ≤ (nth c k).2 - max f (nth c k).1) : NoFit c f n (k + 1) := fun j hj hl u hu b1 b2 b3 => by
  rcases Nat.lt_or_ge j k with h | h
  · exact hf j h hl u hu b1 b2 b3
  · obtain rfl : j = k := by omega
    omega
theorem fit_done {s c : List Sp} {f m n : Int} (h1 : 1 ≤ n) (h2 : n ≤ 1099511627776) (ha : AllSays s m c) {k : Nat} (hk : c.length ≤ k) (hf : NoFit c f n k) : FitIs s f m n 0 false := by
  rcases ha with ⟨hm, ha⟩ | ⟨hm, _⟩
  · exact fit_none (may_long hm h1 h2) ha fun j hj => hf j (by omega) hj
  · refine .inr ⟨rfl, rfl, .inl ?_⟩
    cases hb : mayG s m n with
    | false => rfl
    | true => rw [may_one hb] at hm; cases hm
theorem says_is {s c : List Sp} {m : Int} (ha : AllSays s m c) {k : Nat} (hk : k < c.length) : mayG s m 1 = true ∧ AllIs s m c := by
  rcases ha with h | ⟨_, rfl⟩
  · exact h
  · simp at hk
theorem fit_short (s : List Sp) (f m n : Int) (h : ¬ (1 ≤ n ∧ n ≤ 1099511627776)) : FitIs s f m n 0 false := by
  refine .inr ⟨rfl, rfl, .inl ?_⟩
  cases hb : mayG s m n with
  | false => rfl
  | true => exact absurd (mayG_iff.1 hb).2.2 h
/-- The way of one round of Fit. -/
theorem fit_ways2 (s c : List Sp) (f m n : Int) (h1 : 1 ≤ n) (h2 : n ≤ 1099511627776) (ha : AllSays s m c) {k : Nat} (hk : k < c.length) (hf : NoFit c f n k) :
    (decide ((1125899906842624 : Int) < max f (nth c k).1) = true ∧ Hid (FitIs s f m n 0 false)) ∨
    (decide ((1125899906842624 : Int) < max f (nth c k).1) = false ∧ IntKind.i64.wrap ((nth c k).2 - max f (nth c k).1) = (nth c k).2 - max f (nth c k).1 ∧ decide (n ≤ (nth c k).2 - max f (nth c k).1) = true ∧ Hid (FitIs s f m n (max f (nth c k).1) true)) ∨
     (decide ((1125899906842624 : Int) < max f (nth c k).1) = false ∧ IntKind.i64.wrap ((nth c k).2 - max f (nth c k).1) = (nth c k).2 - max f (nth c k).1 ∧ decide (n ≤ (nth c k).2 - max f (nth c k).1) = false ∧ Hid (NoFit c f n (k + 1))) := by
  obtain ⟨hm, ha⟩ := says_is ha hk
  have hm := may_long hm h1 h2
  have hmay := cov_may ha.1 hk
  obtain ⟨m1, m2, m3⟩ := hmay
  by_cases h3 : 1125899906842624 < max f (nth c k).1
  · exact .inl ⟨decide_eq_true h3, fit_break hm ha hk hf h3⟩
  · have hw : IntKind.i64.wrap ((nth c k).2 - max f (nth c k).1) = (nth c k).2 - max f (nth c k).1 := by rw [IntKind.wrap_i64]; omega
    by_cases h4 : n ≤ (nth c k).2 - max f (nth c k).1
    · exact .inr (.inl ⟨decide_eq_false h3, hw, decide_eq_true h4, fit_found hm ha hk hf (by omega) h4⟩)
    · exact .inr (.inr ⟨decide_eq_false h3, hw, decide_eq_false h4, fit_next hf h4⟩)
/-- Longest along the cover. -/
def NoLong (c : List Sp) (a : Int) (k : Nat) : Prop := ∀ j, j < k → j < c.length → hasB (nth c j) a = false
theorem has_iff2 {x : Sp} (hx : May x) (a : Int) : hasB x a = true ↔ x.1 ≤ a ∧ a < x.2 := by
  unfold hasB
  rw [(mayB_iff x).2 hx]
  simp
theorem long_ways {s c : List Sp} {a m : Int} (ha : AllSays s m c) {k : Nat} (hk : k < c.length) (hn : NoLong c a k) :
    (hasB (nth c k) a = true ∧ 0 ≤ (nth c k).1 ∧ (nth c k).1 ≤ a ∧ a < (nth c k).2 ∧ (nth c k).2 ≤ 4503599627370496 ∧ Hid (LongIs s a m ((nth c k).2 - a))) ∨ (hasB (nth c k) a = false ∧ Hid (NoLong c a (k + 1))) := by
  obtain ⟨hm, ha⟩ := says_is ha hk
  have hmay := cov_may ha.1 hk
  cases hb : hasB (nth c k) a with
  | false =>
    refine .inr ⟨rfl, fun j hj hl => ?_⟩
    rcases Nat.lt_or_ge j k with h | h
    · exact hn j h hl
    · obtain rfl : j = k := by omega
      exact hb
  | true =>
    obtain ⟨h1, h2⟩ := (has_iff2 hmay a).1 hb
    refine .inl ⟨rfl, hmay.1, h1, h2, hmay.2.2, ?_⟩
    have hin : ∀ t, a ≤ t → t < (nth c k).2 → inG s m t = true := fun t a1 a2 => by
      rw [← ha.2]
      exact any_iff.2 ⟨nth c k, nth_mem hk, hmay, by omega, a2⟩
    refine .inl ⟨hm, hin a (Int.le_refl _) h2, by omega, fun t a1 a2 => hin t a1 (by omega), ?_⟩
    rw [← ha.2, show a + ((nth c k).2 - a) = (nth c k).2 by omega]
    exact cov_after ha.1 (nth_mem hk)
theorem long_done {s c : List Sp} {a m : Int} (ha : AllSays s m c) {k : Nat} (hk : c.length ≤ k) (hn : NoLong c a k) : LongIs s a m 0 := by
  rcases ha with ⟨hm, ha⟩ | ⟨hm, _⟩
  · refine .inr ⟨.inr ?_, rfl⟩
    rw [← ha.2]
    cases hb : anyB c a with
    | false => rfl
    | true =>
      obtain ⟨x, hx, h1, h2, h3⟩ := any_iff.1 hb
      obtain ⟨j, hj, rfl⟩ := List.mem_iff_getElem.1 hx
      have h4 := hn j (by omega) hj
      unfold nth at h4
      rw [getSp hj] at h4
      rw [(has_iff2 h1 a).2 ⟨h2, h3⟩] at h4
      cases h4
  · exact .inr ⟨.inl hm, rfl⟩
/-- Ok by Widest. -/
theorem ok_wide {s : List Sp} {a m n k : Int} (h : WideIs s a n k) (h1 : 1 ≤ m) (h2 : m ≤ 256) : okG s a m n = decide (m ≤ k) := by
  rcases h with ⟨b1, b2, b3, b4⟩ | ⟨b1, rfl⟩
  · obtain ⟨c1, _, c3, c4⟩ := mayG_iff.1 b1
    have e : k = minTo s (a, a + n) s.length := b4.unique (min_spec c1 (by dsimp only; omega) b2)
    unfold okG roomB
    rw [mayG_iff.2 ⟨c1, ⟨h1, h2⟩, c3, c4⟩, decide_eq_true b2, decide_eq_true b3, e]
    rfl
  · rw [decide_eq_false (by omega)]
    unfold okG roomB
    rcases b1 with b1 | b1 | b1
    · cases hb : mayG s m n with
      | false => rfl
      | true =>
        obtain ⟨c1, _, c3, c4⟩ := mayG_iff.1 hb
        rw [mayG_iff.2 ⟨c1, ⟨by omega, by omega⟩, c3, c4⟩] at b1
        cases b1
    · rw [decide_eq_false (by omega)]; simp
    · rw [decide_eq_false (show ¬ a ≤ 1125899906842624 by omega)]; simp
theorem ok_not {s : List Sp} {a m n : Int} (h : ¬ (1 ≤ m ∧ m ≤ 256)) : okG s a m n = false := by
  cases hb : okG s a m n with
  | false => rfl
  | true => exact absurd (mayG_iff.1 (okG_iff.1 hb).1).2.1 h
/-- Widest by the least within a span. -/
theorem wide_no {s : List Sp} {a n : Int} (h : ¬ (1 ≤ n ∧ n ≤ 1099511627776) ∨ 1125899906842624 < a) : WideIs s a n 0 := by
  refine .inr ⟨?_, rfl⟩
  rcases h with h | h
  · refine .inl ?_
    cases hb : mayG s 1 n with
    | false => rfl
    | true => exact absurd (mayG_iff.1 hb).2.2 h
  · exact .inr (.inr h)
theorem wide_yes {s : List Sp} {a n b k : Int} (hn : 1 ≤ n ∧ n ≤ 1099511627776) (ha : a ≤ 1125899906842624) (hb : 0 ≤ a → b = a + n) (h : ((chkB s && mayB (a, b) && decide (head s ≤ a)) = true ∧ MinOf s (a, b) k) ∨ ((chkB s && mayB (a, b) && decide (head s ≤ a)) = false ∧ k = 0)) : WideIs s a n k := by
  rcases h with ⟨h1, h2⟩ | ⟨h1, rfl⟩
  · rw [Bool.and_eq_true, Bool.and_eq_true, decide_eq_true_eq] at h1
    obtain ⟨⟨c1, c2⟩, c3⟩ := h1
    have c4 := ((mayB_iff _).1 c2).1
    dsimp only at c4
    rw [hb c4] at h2
    exact .inl ⟨mayG_iff.2 ⟨(chk_iff s).1 c1, by omega, hn.1, hn.2⟩, c3, ha, h2⟩
  · refine .inr ⟨?_, rfl⟩
    cases hc : chkB s with
    | false =>
      refine .inl ?_
      cases hb : mayG s 1 n with
      | false => rfl
      | true => rw [(chk_iff s).2 (mayG_iff.1 hb).1] at hc; cases hc
    | true =>
      rcases Int.lt_or_le a (head s) with h3 | h3
      · exact .inr (.inl h3)
      · have h4 := ((chk_iff s).1 hc).lo
        rw [hc, decide_eq_true h3, (mayB_iff _).2 ⟨by dsimp only; omega, by dsimp only; rw [hb (by omega)]; omega, by dsimp only; rw [hb (by omega)]; omega⟩] at h1
        cases h1
end Go.Proofs.Ytalopnkdnlkdoaa.GapPlain
