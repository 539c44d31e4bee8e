/-
  The mathematics of layer 12's landed code: which sums the widths behind a place come to, place by place; the choice that takes a place as soon as those behind it can fill what it leaves is the fullest one.
-/
import Derived.Test.YtnojminhbakfaaaSubPlain
namespace Go.Proofs.Ytnojminhbakfaaa.SubPlain
theorem tot_mod (l : List Int) : ∀ (b m : Nat), l.length ≤ m → tot l (b % 2 ^ m) = tot l b := by
  induction l with
  | nil => intro b m _; rfl
  | cons x l ih =>
    intro b m h
    rw [List.length_cons] at h
    unfold tot
    rw [ih b m (by omega), Nat.testBit_mod_two_pow, decide_eq_true (by omega), Bool.true_and]
theorem tot_add (l : List Int) (b : Nat) : tot l (2 ^ l.length + b) = tot l b := by
  rw [← tot_mod l (2 ^ l.length + b) l.length (Nat.le_refl _), Nat.add_mod_left, tot_mod l b _ (Nat.le_refl _)]
theorem tot_low (x : Int) (l : List Int) {b : Nat} (h : b < 2 ^ l.length) : tot (x :: l) b = tot l b := by
  show (if b.testBit l.length = true then x else 0) + tot l b = tot l b
  rw [Nat.testBit_lt_two_pow h]
  simp
theorem tot_high (x : Int) (l : List Int) {b : Nat} (h : b < 2 ^ l.length) : tot (x :: l) (2 ^ l.length + b) = x + tot l b := by
  show (if (2 ^ l.length + b).testBit l.length = true then x else 0) + tot l (2 ^ l.length + b) = x + tot l b
  rw [tot_add, Nat.testBit_two_pow_add_eq, Nat.testBit_lt_two_pow h]
  simp
theorem reach_nil (i : Int) : reachB [] i = decide (i = 0) := by
  unfold reachB
  rw [Bool.eq_iff_iff, there_iff, decide_eq_true_eq]
  constructor
  · rintro ⟨b, _, h⟩; exact h.symm
  · intro h; exact ⟨0, by decide, h.symm⟩
theorem reach_cons (x : Int) (l : List Int) (i : Int) : reachB (x :: l) i = (reachB l i || reachB l (i - x)) := by
  unfold reachB
  rw [Bool.eq_iff_iff, Bool.or_eq_true, there_iff, there_iff, there_iff, List.length_cons, Nat.pow_succ]
  constructor
  · rintro ⟨b, hb, h⟩
    by_cases hl : b < 2 ^ l.length
    · exact .inl ⟨b, hl, by rw [← tot_low x l hl]; exact h⟩
    · refine .inr ⟨b - 2 ^ l.length, by omega, ?_⟩
      have := tot_high x l (b := b - 2 ^ l.length) (by omega)
      rw [show 2 ^ l.length + (b - 2 ^ l.length) = b by omega] at this
      omega
  · rintro (⟨b, hb, h⟩ | ⟨b, hb, h⟩)
    · exact ⟨b, by omega, by rw [tot_low x l hb]; exact h⟩
    · exact ⟨2 ^ l.length + b, by omega, by rw [tot_high x l hb]; omega⟩
theorem reach_neg {l : List Int} (h : l.all wideB = true) {i : Int} (hi : i < 0) : reachB l i = false := by
  cases hr : reachB l i
  · rfl
  · obtain ⟨b, _, e⟩ := there_iff.1 hr
    have := (tot_bound h b).1
    omega
theorem reach_zero (l : List Int) : reachB l 0 = true := there_iff.2 ⟨0, Nat.two_pow_pos _, tot_zero l⟩
/-- What the places from k on come to. -/
def fromB (ws : List Int) (k : Nat) (i : Nat) : Bool := reachB (ws.drop k) (i : Int)
theorem from_end {ws : List Int} {k : Nat} (h : ws.length ≤ k) (i : Nat) : fromB ws k i = decide (i = 0) := by
  unfold fromB
  rw [List.drop_eq_nil_of_le h, reach_nil, Bool.eq_iff_iff, decide_eq_true_eq, decide_eq_true_eq]
  omega
theorem from_low {ws : List Int} (hw : ws.all wideB = true) {k : Nat} (h : k < ws.length) {i : Nat} (hi : (i : Int) < ws[k]) : fromB ws k i = fromB ws (k + 1) i := by
  unfold fromB
  rw [List.drop_eq_getElem_cons h, reach_cons, reach_neg (i := (i : Int) - ws[k]) (all_drop hw _) (by omega), Bool.or_false]
theorem from_high {ws : List Int} {k : Nat} (h : k < ws.length) {i : Nat} (hx : 0 ≤ ws[k]) (hi : ws[k] ≤ (i : Int)) : fromB ws k i = (fromB ws (k + 1) i || fromB ws (k + 1) (i - ws[k].toNat)) := by
  unfold fromB
  rw [List.drop_eq_getElem_cons h, reach_cons, show ((i - ws[k].toNat : Nat) : Int) = (i : Int) - ws[k] by omega]
/-- The choice that takes a place as soon as those behind it can fill what it leaves. -/
def greedy : List Int → Int → Nat
  | [], _ => 0
  | x :: l, r => if (decide (x ≤ r) && reachB l (r - x)) = true then 2 ^ l.length + greedy l (r - x) else greedy l r
theorem greedy_lt (l : List Int) : ∀ r, greedy l r < 2 ^ l.length := by
  induction l with
  | nil => intro r; exact (by decide : (0 : Nat) < 2 ^ 0)
  | cons x l ih =>
    intro r
    unfold greedy
    rw [List.length_cons, Nat.pow_succ]
    have h1 := ih r
    have h2 := ih (r - x)
    split <;> omega
theorem greedy_is {l : List Int} (hw : l.all wideB = true) : ∀ {r : Int}, reachB l r = true → tot l (greedy l r) = r ∧ ∀ c, c < 2 ^ l.length → tot l c = r → c ≤ greedy l r := by
  induction l with
  | nil =>
    intro r h
    rw [reach_nil, decide_eq_true_eq] at h
    subst h
    exact ⟨rfl, fun c hc _ => by have : c < 1 := hc
                                 omega⟩
  | cons x l ih =>
    intro r h
    have hwl : l.all wideB = true := by
      rw [List.all_cons, Bool.and_eq_true] at hw; exact hw.2
    have ih := @ih hwl
    have hg := greedy_lt l
    unfold greedy
    by_cases ht : (decide (x ≤ r) && reachB l (r - x)) = true
    · rw [if_pos ht]
      rw [Bool.and_eq_true] at ht
      obtain ⟨h1, h2⟩ := ih ht.2
      refine ⟨by rw [tot_high x l (hg _), h1]; omega, fun c hc he => ?_⟩
      by_cases hl : c < 2 ^ l.length
      · omega
      · rw [List.length_cons, Nat.pow_succ] at hc
        have e := tot_high x l (b := c - 2 ^ l.length) (by omega)
        rw [show 2 ^ l.length + (c - 2 ^ l.length) = c by omega] at e
        have := h2 (c - 2 ^ l.length) (by omega) (by omega)
        omega
    · rw [if_neg ht]
      have hno : reachB l (r - x) = false := by
        by_cases hx : x ≤ r
        · rw [decide_eq_true hx, Bool.true_and] at ht
          simpa using ht
        · exact reach_neg hwl (by omega)
      rw [reach_cons, hno, Bool.or_false] at h
      obtain ⟨h1, h2⟩ := ih h
      refine ⟨by rw [tot_low x l (hg _)]; exact h1, fun c hc he => ?_⟩
      by_cases hl : c < 2 ^ l.length
      · exact h2 c hl (by rw [← tot_low x l hl]; exact he)
      · rw [List.length_cons, Nat.pow_succ] at hc
        have e := tot_high x l (b := c - 2 ^ l.length) (by omega)
        rw [show 2 ^ l.length + (c - 2 ^ l.length) = c by omega] at e
        have : reachB l (r - x) = true := there_iff.2 ⟨c - 2 ^ l.length, by omega, by omega⟩
        rw [hno] at this
        cases this
theorem greedy_bit {l : List Int} (hw : l.all wideB = true) : ∀ {r : Int}, reachB l r = true → ∀ {k : Nat} (h : k < l.length), (greedy l r).testBit (l.length - 1 - k) = (decide (l[k] ≤ tot (l.drop k) (greedy l r)) && reachB (l.drop (k + 1)) (tot (l.drop k) (greedy l r) - l[k])) := by
  induction l with
  | nil => intro r _ k h; exact absurd h (Nat.not_lt_zero _)
  | cons x l ih =>
    intro r hr k h
    have hwl : l.all wideB = true := by
      rw [List.all_cons, Bool.and_eq_true] at hw; exact hw.2
    have hg := greedy_lt l
    cases k with
    | zero =>
      have ht : tot ((x :: l).drop 0) (greedy (x :: l) r) = r := (greedy_is hw hr).1
      rw [ht]
      show (greedy (x :: l) r).testBit (l.length + 1 - 1 - 0) = (decide (x ≤ r) && reachB l (r - x))
      rw [show l.length + 1 - 1 - 0 = l.length by omega]
      unfold greedy
      by_cases ht : (decide (x ≤ r) && reachB l (r - x)) = true
      · rw [if_pos ht, ht, Nat.testBit_two_pow_add_eq, Nat.testBit_lt_two_pow (hg _)]; rfl
      · rw [if_neg ht, Nat.testBit_lt_two_pow (hg _)]
        simpa using ht
    | succ k =>
      rw [List.length_cons] at h
      have hk : k < l.length := by omega
      show (greedy (x :: l) r).testBit (l.length + 1 - 1 - (k + 1)) = (decide (l[k] ≤ tot (l.drop k) (greedy (x :: l) r)) && reachB (l.drop (k + 1)) (tot (l.drop k) (greedy (x :: l) r) - l[k]))
      rw [show l.length + 1 - 1 - (k + 1) = l.length - 1 - k by omega]
      unfold greedy
      by_cases ht : (decide (x ≤ r) && reachB l (r - x)) = true
      · rw [if_pos ht]
        rw [Bool.and_eq_true] at ht
        have e1 : (2 ^ l.length + greedy l (r - x)).testBit (l.length - 1 - k) = (greedy l (r - x)).testBit (l.length - 1 - k) := Nat.testBit_two_pow_add_gt (by omega) _
        have e2 : tot (l.drop k) (2 ^ l.length + greedy l (r - x)) = tot (l.drop k) (greedy l (r - x)) := by
          rw [← tot_mod (l.drop k) (2 ^ l.length + greedy l (r - x)) l.length (by rw [List.length_drop]; omega), Nat.add_mod_left, tot_mod _ _ _ (by rw [List.length_drop]; omega)]
        rw [e1, e2]
        exact ih hwl ht.2 hk
      · rw [if_neg ht]
        have hno : reachB l (r - x) = false := by
          by_cases hx : x ≤ r
          · rw [decide_eq_true hx, Bool.true_and] at ht
            simpa using ht
          · exact reach_neg hwl (by omega)
        rw [reach_cons, hno, Bool.or_false] at hr
        exact ih hwl hr hk
/-- The greatest sum up to the room. -/
structure IsMost (ws : List Int) (room most : Int) : Prop where
  le : most ≤ room
  is : reachB ws most = true
  none : ∀ i, most < i → i ≤ room → reachB ws i = false
theorem greedy_best {ws : List Int} (hw : ws.all wideB = true) {room most : Int} (h : IsMost ws room most) (hr : 0 ≤ room) : greedy ws most = bestB ws room := by
  obtain ⟨h1, h2⟩ := greedy_is hw h.is
  refine best_one ⟨greedy_lt ws most, by rw [h1]; exact h.le, fun c hc hf => ?_⟩ (best_is ws hr)
  rw [h1]
  by_cases hm : most < tot ws c
  · have := h.none _ hm hf
    rw [there_iff.2 ⟨c, hc, rfl⟩ |> fun h => (show reachB ws (tot ws c) = true from h)] at this
    cases this
  · by_cases e : tot ws c = most
    · exact .inr ⟨e, h2 c hc e⟩
    · exact .inl (by omega)
theorem most_tot {ws : List Int} (hw : ws.all wideB = true) {room most : Int} (h : IsMost ws room most) (hr : 0 ≤ room) : tot ws (bestB ws room) = most := by
  rw [← greedy_best hw h hr]
  exact (greedy_is hw h.is).1
/-- What is left behind the first k places. -/
def leftTo (ws : List Int) (b k : Nat) : Int := tot (ws.drop k) b
theorem left_zero (ws : List Int) (b : Nat) : leftTo ws b 0 = tot ws b := rfl
theorem left_succ {ws : List Int} (b : Nat) {k : Nat} (h : k < ws.length) : leftTo ws b (k + 1) = leftTo ws b k - if b.testBit (ws.length - 1 - k) = true then ws[k] else 0 := by
  have h1 := totTo_succ b h
  unfold totTo at h1
  unfold leftTo
  omega
theorem left_bound {ws : List Int} (hw : ws.all wideB = true) {room : Int} (hr : 0 ≤ room) (k : Nat) : 0 ≤ leftTo ws (bestB ws room) k ∧ leftTo ws (bestB ws room) k ≤ room := by
  have h1 := (tot_bound (all_drop hw k) (bestB ws room)).1
  have h2 := (best_is ws hr).fits
  unfold leftTo
  by_cases hk : k ≤ ws.length
  · have h3 := (totTo_bound hw (bestB ws room) k hk).1
    unfold totTo at h3
    omega
  · rw [List.drop_eq_nil_of_le (by omega)]
    exact ⟨by unfold tot; omega, by unfold tot; omega⟩
theorem best_bit {ws : List Int} (hw : ws.all wideB = true) {room : Int} (hr : 0 ≤ room) {k : Nat} (h : k < ws.length) :
    (bestB ws room).testBit (ws.length - 1 - k) = (decide (ws[k] ≤ leftTo ws (bestB ws room) k) && fromB ws (k + 1) (leftTo ws (bestB ws room) k - ws[k]).toNat) := by
  have hm : IsMost ws room (tot ws (bestB ws room)) := ⟨(best_is ws hr).fits, reach_best ws hr, fun i h1 h2 => reach_not hr h1 h2⟩
  have h1 := greedy_bit hw hm.is h
  rw [greedy_best hw hm hr] at h1
  rw [h1]
  unfold fromB leftTo
  by_cases hx : ws[k] ≤ tot (ws.drop k) (bestB ws room)
  · rw [decide_eq_true hx, Bool.true_and, Bool.true_and, show (((tot (ws.drop k) (bestB ws room) - ws[k]).toNat : Nat) : Int) = tot (ws.drop k) (bestB ws room) - ws[k] by omega]
  · rw [decide_eq_false hx, Bool.false_and, Bool.false_and]
end Go.Proofs.Ytnojminhbakfaaa.SubPlain
