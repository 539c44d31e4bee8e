/-
  The plain mathematics of layer 12: choices as bits, the first place the highest; the fullest one; which sums there are. The mathematics of layer 12's landed code: which sums the widths behind a place come to, place by place; the choice that takes a place as soon as those behind it can fill what it leaves is the fullest one.
-/
import Derived.Below
namespace Go.Proofs.Ytkaepadkdohmpaa.SubPlain
def wideB (x : Int) : Bool := decide (1 ≤ x) && decide (x ≤ 256)
def mayW (ws : List Int) : Bool := ws.all wideB && decide (ws.length ≤ 64)
/-- The widths that bits mean, together. -/
def tot : List Int → Nat → Int
  | [], _ => 0
  | x :: l, b => (if b.testBit l.length = true then x else 0) + tot l b
/-- What is reckoned of the first k places. -/
def totTo (ws : List Int) (b k : Nat) : Int := tot ws b - tot (ws.drop k) b
theorem totTo_zero (ws : List Int) (b : Nat) : totTo ws b 0 = 0 := by unfold totTo; simp
theorem totTo_all (ws : List Int) (b : Nat) {k : Nat} (h : ws.length ≤ k) : totTo ws b k = tot ws b := by unfold totTo; rw [List.drop_eq_nil_of_le h]; simp [tot]
theorem totTo_succ {ws : List Int} (b : Nat) {k : Nat} (h : k < ws.length) : totTo ws b (k + 1) = totTo ws b k + if b.testBit (ws.length - 1 - k) = true then ws[k] else 0 := by
  unfold totTo
  rw [List.drop_eq_getElem_cons h]
  show tot ws b - tot (ws.drop (k + 1)) b = tot ws b - ((if b.testBit (ws.drop (k + 1)).length = true then ws[k] else 0) + tot (ws.drop (k + 1)) b) + _
  rw [List.length_drop, show ws.length - (k + 1) = ws.length - 1 - k by omega]
  omega
theorem tot_bound {ws : List Int} (h : ws.all wideB = true) (b : Nat) : 0 ≤ tot ws b ∧ tot ws b ≤ 256 * ws.length := by
  induction ws with
  | nil => simp [tot]
  | cons x l ih =>
    simp only [List.all_cons, Bool.and_eq_true] at h
    have h1 := ih h.2
    have h2 := h.1
    unfold wideB at h2
    rw [Bool.and_eq_true, decide_eq_true_eq, decide_eq_true_eq] at h2
    unfold tot
    rw [List.length_cons]
    split <;> omega
theorem all_drop {ws : List Int} (h : ws.all wideB = true) (k : Nat) : (ws.drop k).all wideB = true := by
  rw [List.all_eq_true] at h ⊢
  exact fun x hx => h x (List.mem_of_mem_drop hx)
theorem totTo_bound {ws : List Int} (h : ws.all wideB = true) (b k : Nat) (hk : k ≤ ws.length) : 0 ≤ totTo ws b k ∧ totTo ws b k ≤ 256 * k := by
  induction k with
  | zero => rw [totTo_zero]; omega
  | succ k ih =>
    have h1 := ih (by omega)
    rw [totTo_succ b (by omega)]
    have h2 : wideB ws[k] = true := by rw [List.all_eq_true] at h; exact h _ (List.getElem_mem _)
    unfold wideB at h2
    rw [Bool.and_eq_true, decide_eq_true_eq, decide_eq_true_eq] at h2
    split <;> omega
theorem tot_zero (ws : List Int) : tot ws 0 = 0 := by
  induction ws with
  | nil => rfl
  | cons x l ih => unfold tot; rw [ih]; simp
/-- The places that bits mean. -/
def placesTo (n b k : Nat) : List Int := List.map (fun i : Nat => (i : Int)) ((List.range k).filter fun i => b.testBit (n - 1 - i))
def placesB (n b : Nat) : List Int := placesTo n b n
theorem placesTo_succ (n b k : Nat) : placesTo n b (k + 1) = placesTo n b k ++ if b.testBit (n - 1 - k) = true then [(k : Int)] else [] := by
  unfold placesTo
  rw [List.range_succ, List.filter_append, List.map_append]
  congr 1
  cases h : b.testBit (n - 1 - k) <;> simp [h]
theorem placesTo_len (n b k : Nat) : (placesTo n b k).length ≤ k := by
  unfold placesTo
  rw [List.length_map]
  have := List.length_filter_le (fun i => b.testBit (n - 1 - i)) (List.range k)
  rwa [List.length_range] at this
/-- The fullest of the first choices; of these the one with the greatest bits. -/
def takesB (ws : List Int) (room : Int) (b best : Nat) : Bool := decide (tot ws b ≤ room) && decide (tot ws best ≤ tot ws b)
def bestTo (ws : List Int) (room : Int) : Nat → Nat
  | 0 => 0
  | b + 1 => if takesB ws room b (bestTo ws room b) = true then b else bestTo ws room b
def bestB (ws : List Int) (room : Int) : Nat := bestTo ws room (2 ^ ws.length)
structure IsBest (ws : List Int) (room : Int) (B b : Nat) : Prop where
  lt : b < B
  fits : tot ws b ≤ room
  most : ∀ c, c < B → tot ws c ≤ room → tot ws c < tot ws b ∨ (tot ws c = tot ws b ∧ c ≤ b)
theorem bestTo_is (ws : List Int) {room : Int} (hr : 0 ≤ room) (B : Nat) : IsBest ws room (B + 1) (bestTo ws room (B + 1)) := by
  induction B with
  | zero =>
    have h0 : bestTo ws room (0 + 1) = 0 := by unfold bestTo; split <;> rfl
    rw [h0]
    refine ⟨by omega, by rw [tot_zero]; exact hr, fun c hc _ => ?_⟩
    have : c = 0 := by omega
    subst this
    exact .inr ⟨rfl, Nat.le_refl _⟩
  | succ B ih =>
    have hs : bestTo ws room (B + 1 + 1) = if takesB ws room (B + 1) (bestTo ws room (B + 1)) = true then B + 1 else bestTo ws room (B + 1) := rfl
    rw [hs]
    obtain ⟨h1, h2, h3⟩ := ih
    generalize bestTo ws room (B + 1) = m at *
    cases ht : takesB ws room (B + 1) m with
    | true =>
      rw [if_pos rfl]
      unfold takesB at ht
      rw [Bool.and_eq_true, decide_eq_true_eq, decide_eq_true_eq] at ht
      refine ⟨by omega, ht.1, fun c hc hf => ?_⟩
      by_cases e : c = B + 1
      · subst e; exact .inr ⟨rfl, Nat.le_refl _⟩
      · rcases h3 c (by omega) hf with h | ⟨h, h'⟩
        · exact .inl (by omega)
        · by_cases e2 : tot ws c = tot ws (B + 1)
          · exact .inr ⟨e2, by omega⟩
          · exact .inl (by omega)
    | false =>
      rw [if_neg (by decide)]
      unfold takesB at ht
      rw [Bool.and_eq_false_iff, decide_eq_false_iff_not, decide_eq_false_iff_not] at ht
      refine ⟨by omega, h2, fun c hc hf => ?_⟩
      by_cases e : c = B + 1
      · subst e
        rcases ht with ht | ht
        · exact absurd hf ht
        · exact .inl (by omega)
      · exact h3 c (by omega) hf
theorem best_is (ws : List Int) {room : Int} (hr : 0 ≤ room) : IsBest ws room (2 ^ ws.length) (bestB ws room) := by
  unfold bestB
  have : 2 ^ ws.length = (2 ^ ws.length - 1) + 1 := by have := Nat.two_pow_pos ws.length; omega
  rw [this]
  exact bestTo_is ws hr _
theorem best_one {ws : List Int} {room : Int} {B a b : Nat} (ha : IsBest ws room B a) (hb : IsBest ws room B b) : a = b := by
  have h1 := ha.most b hb.lt hb.fits
  have h2 := hb.most a ha.lt ha.fits
  omega
/-- Whether some choice's widths are so many. -/
def thereTo (ws : List Int) (B : Nat) (i : Int) : Bool := (List.range B).any fun b => tot ws b == i
def reachB (ws : List Int) (i : Int) : Bool := thereTo ws (2 ^ ws.length) i
theorem there_iff {ws : List Int} {B : Nat} {i : Int} : thereTo ws B i = true ↔ ∃ b, b < B ∧ tot ws b = i := by
  unfold thereTo
  rw [List.any_eq_true]
  constructor
  · rintro ⟨b, hb, h⟩; exact ⟨b, List.mem_range.1 hb, by simpa using h⟩
  · rintro ⟨b, hb, h⟩; exact ⟨b, List.mem_range.2 hb, by simpa using h⟩
theorem there_succ (ws : List Int) (B : Nat) (i : Int) : thereTo ws (B + 1) i = (thereTo ws B i || (tot ws B == i)) := by
  unfold thereTo
  rw [List.range_succ, List.any_append]
  simp
theorem reach_best (ws : List Int) {room : Int} (hr : 0 ≤ room) : reachB ws (tot ws (bestB ws room)) = true := there_iff.2 ⟨_, (best_is ws hr).lt, rfl⟩
theorem reach_not {ws : List Int} {room i : Int} (hr : 0 ≤ room) (h1 : tot ws (bestB ws room) < i) (h2 : i ≤ room) : reachB ws i = false := by
  cases h : reachB ws i
  · rfl
  · obtain ⟨b, hb, e⟩ := there_iff.1 h
    rcases (best_is ws hr).most b hb (by omega) with h3 | ⟨h3, _⟩ <;> omega
/-- Any places, one behind the other: whether they rise and are there, the last one, the widths so far. -/
def upB (ws : List Int) (last p : Int) : Bool := decide (last < p) && decide (p < (ws.length : Int))
def lastAt (ps : List Int) (k : Nat) : Int := if k = 0 then -1 else ps.getD (k - 1) 0
def okTo (ws ps : List Int) : Nat → Bool
  | 0 => mayW ws
  | k + 1 => okTo ws ps k && upB ws (lastAt ps k) (ps.getD k 0)
def wAt (ws : List Int) (p : Int) : Int := ws.getD p.toNat 0
def sumTo (ws ps : List Int) : Nat → Int
  | 0 => 0
  | k + 1 => sumTo ws ps k + wAt ws (ps.getD k 0)
def okP (ws ps : List Int) : Bool := okTo ws ps ps.length
def sumP (ws ps : List Int) : Int := sumTo ws ps ps.length
theorem ok_may {ws ps : List Int} : ∀ {k : Nat}, okTo ws ps k = true → mayW ws = true
  | 0, h => h
  | k + 1, h => by unfold okTo at h; rw [Bool.and_eq_true] at h; exact ok_may h.1
theorem ok_mono {ws ps : List Int} {k m : Nat} (h : k ≤ m) (hm : okTo ws ps m = true) : okTo ws ps k = true := by
  induction m with
  | zero => have : k = 0 := by omega
            subst this; exact hm
  | succ m ih =>
    by_cases e : k = m + 1
    · subst e; exact hm
    · unfold okTo at hm; rw [Bool.and_eq_true] at hm; exact ih (by omega) hm.1
theorem wAt_bound {ws : List Int} (h : ws.all wideB = true) (p : Int) : 0 ≤ wAt ws p ∧ wAt ws p ≤ 256 := by
  unfold wAt
  by_cases hp : p.toNat < ws.length
  · have h2 : wideB ws[p.toNat] = true := by rw [List.all_eq_true] at h; exact h _ (List.getElem_mem _)
    unfold wideB at h2
    rw [Bool.and_eq_true, decide_eq_true_eq, decide_eq_true_eq] at h2
    rw [List.getD_eq_getElem?_getD, List.getElem?_eq_getElem hp]
    simp only [Option.getD_some]
    omega
  · rw [List.getD_eq_getElem?_getD, List.getElem?_eq_none (by omega)]
    simp
theorem sumTo_bound {ws : List Int} (h : ws.all wideB = true) (ps : List Int) (k : Nat) : 0 ≤ sumTo ws ps k ∧ sumTo ws ps k ≤ 256 * k := by
  induction k with
  | zero => simp [sumTo]
  | succ k ih =>
    have := wAt_bound h (ps.getD k 0)
    unfold sumTo
    omega
theorem lastAt_bound {ws ps : List Int} {k : Nat} (h : okTo ws ps k = true) (hk : k ≤ ps.length) : -1 ≤ lastAt ps k ∧ lastAt ps k < (ws.length : Int) := by
  induction k with
  | zero => unfold lastAt; rw [if_pos rfl]; omega
  | succ k ih =>
    unfold okTo upB at h
    rw [Bool.and_eq_true, Bool.and_eq_true, decide_eq_true_eq, decide_eq_true_eq] at h
    have := ih h.1 (by omega)
    unfold lastAt
    rw [if_neg (by omega), show k + 1 - 1 = k by omega]
    omega
/-- The places of a choice are places, and their widths are the choice's. -/
theorem drop_mono {ws : List Int} {b : Nat} {k : Nat} (h : k < ws.length) (hb : b.testBit (ws.length - 1 - k) = false) : totTo ws b (k + 1) = totTo ws b k := by
  rw [totTo_succ b h, hb]; simp
theorem getD_app_lt {l : List Int} {x d : Int} {i : Nat} (h : i < l.length) : (l ++ [x]).getD i d = l.getD i d := by
  rw [List.getD_eq_getElem?_getD, List.getD_eq_getElem?_getD, List.getElem?_append_left h]
theorem getD_app_eq (l : List Int) (x d : Int) : (l ++ [x]).getD l.length d = x := by
  rw [List.getD_eq_getElem?_getD, List.getElem?_append_right (Nat.le_refl _)]; simp
theorem ok_app {ws l : List Int} {x : Int} : ∀ {k : Nat}, k ≤ l.length → okTo ws (l ++ [x]) k = okTo ws l k
  | 0, _ => rfl
  | k + 1, h => by
    unfold okTo
    rw [ok_app (k := k) (by omega), getD_app_lt (by omega)]
    unfold lastAt
    by_cases e : k = 0
    · rw [if_pos e, if_pos e]
    · rw [if_neg e, if_neg e, getD_app_lt (by omega)]
theorem sum_app {ws l : List Int} {x : Int} : ∀ {k : Nat}, k ≤ l.length → sumTo ws (l ++ [x]) k = sumTo ws l k
  | 0, _ => rfl
  | k + 1, h => by
    unfold sumTo
    rw [sum_app (k := k) (by omega), getD_app_lt (by omega)]
theorem places_ok {ws : List Int} (h : mayW ws = true) (b : Nat) : ∀ k, k ≤ ws.length → okP ws (placesTo ws.length b k) = true ∧ sumP ws (placesTo ws.length b k) = totTo ws b k ∧ lastAt (placesTo ws.length b k) (placesTo ws.length b k).length < (k : Int)
  | 0, _ => ⟨h, by rw [totTo_zero]; rfl, by unfold placesTo lastAt; simp⟩
  | k + 1, hk => by
    obtain ⟨h1, h2, h3⟩ := places_ok h b k (by omega)
    rw [placesTo_succ, totTo_succ b (by omega)]
    cases hb : b.testBit (ws.length - 1 - k)
    · rw [if_neg (by decide), if_neg (by decide), List.append_nil]
      exact ⟨h1, by omega, by omega⟩
    · rw [if_pos rfl, if_pos rfl]
      generalize placesTo ws.length b k = l at *
      unfold okP sumP at *
      have hl : lastAt (l ++ [(k : Int)]) l.length = lastAt l l.length := by
        unfold lastAt
        by_cases e : l.length = 0
        · rw [if_pos e, if_pos e]
        · rw [if_neg e, if_neg e, getD_app_lt (by omega)]
      refine ⟨?_, ?_, ?_⟩
      · rw [List.length_append, List.length_singleton]
        unfold okTo
        rw [ok_app (Nat.le_refl _), h1, getD_app_eq, hl]
        unfold upB
        rw [decide_eq_true h3, decide_eq_true (by omega)]
        rfl
      · rw [List.length_append, List.length_singleton]
        unfold sumTo
        rw [sum_app (Nat.le_refl _), h2, getD_app_eq]
        unfold wAt
        rw [Int.toNat_natCast, List.getD_eq_getElem?_getD, List.getElem?_eq_getElem (by omega)]
        rfl
      · rw [List.length_append, List.length_singleton]
        unfold lastAt
        rw [if_neg (by omega), Nat.add_sub_cancel, getD_app_eq]
        omega
theorem best_ok {ws : List Int} (h : mayW ws = true) (room : Int) : okP ws (placesB ws.length (bestB ws room)) = true ∧ sumP ws (placesB ws.length (bestB ws room)) = tot ws (bestB ws room) := by
  have h1 := places_ok h (bestB ws room) ws.length (Nat.le_refl _)
  rw [totTo_all ws _ (Nat.le_refl _)] at h1
  exact ⟨h1.1, h1.2.1⟩
/-- The example of the statements. -/
theorem ex_best : bestB [3, 5, 2] 7 = 3 := by decide +kernel
theorem ex_places : placesB 3 3 = [1, 2] := by decide +kernel
theorem ex_tot : tot [3, 5, 2] 3 = 7 := by decide +kernel
theorem ex_may : mayW [3, 5, 2] = true := by decide +kernel
end Go.Proofs.Ytkaepadkdohmpaa.SubPlain
namespace Go.Proofs.Ytkaepadkdohmpaa.SubPlain
theorem tot_mod (l : List Int) : ∀ (b m : Nat), l.length ≤ m → tot l (b % 2 ^ m) = tot l b := by
  induction l with
  | nil => intro b m _; rfl
  | cons x l ih =>
    intro b m h
    rw [List.length_cons] at h
    unfold tot
    rw [ih b m (by omega), Nat.testBit_mod_two_pow, decide_eq_true (by omega), Bool.true_and]
theorem tot_add (l : List Int) (b : Nat) : tot l (2 ^ l.length + b) = tot l b := by
  rw [← tot_mod l (2 ^ l.length + b) l.length (Nat.le_refl _), Nat.add_mod_left, tot_mod l b _ (Nat.le_refl _)]
theorem tot_low (x : Int) (l : List Int) {b : Nat} (h : b < 2 ^ l.length) : tot (x :: l) b = tot l b := by
  show (if b.testBit l.length = true then x else 0) + tot l b = tot l b
  rw [Nat.testBit_lt_two_pow h]
  simp
theorem tot_high (x : Int) (l : List Int) {b : Nat} (h : b < 2 ^ l.length) : tot (x :: l) (2 ^ l.length + b) = x + tot l b := by
  show (if (2 ^ l.length + b).testBit l.length = true then x else 0) + tot l (2 ^ l.length + b) = x + tot l b
  rw [tot_add, Nat.testBit_two_pow_add_eq, Nat.testBit_lt_two_pow h]
  simp
theorem reach_nil (i : Int) : reachB [] i = decide (i = 0) := by
  unfold reachB
  rw [Bool.eq_iff_iff, there_iff, decide_eq_true_eq]
  constructor
  · rintro ⟨b, _, h⟩; exact h.symm
  · intro h; exact ⟨0, by decide, h.symm⟩
theorem reach_cons (x : Int) (l : List Int) (i : Int) : reachB (x :: l) i = (reachB l i || reachB l (i - x)) := by
  unfold reachB
  rw [Bool.eq_iff_iff, Bool.or_eq_true, there_iff, there_iff, there_iff, List.length_cons, Nat.pow_succ]
  constructor
  · rintro ⟨b, hb, h⟩
    by_cases hl : b < 2 ^ l.length
    · exact .inl ⟨b, hl, by rw [← tot_low x l hl]; exact h⟩
    · refine .inr ⟨b - 2 ^ l.length, by omega, ?_⟩
      have := tot_high x l (b := b - 2 ^ l.length) (by omega)
      rw [show 2 ^ l.length + (b - 2 ^ l.length) = b by omega] at this
      omega
  · rintro (⟨b, hb, h⟩ | ⟨b, hb, h⟩)
    · exact ⟨b, by omega, by rw [tot_low x l hb]; exact h⟩
    · exact ⟨2 ^ l.length + b, by omega, by rw [tot_high x l hb]; omega⟩
theorem reach_neg {l : List Int} (h : l.all wideB = true) {i : Int} (hi : i < 0) : reachB l i = false := by
  cases hr : reachB l i
  · rfl
  · obtain ⟨b, _, e⟩ := there_iff.1 hr
    have := (tot_bound h b).1
    omega
theorem reach_zero (l : List Int) : reachB l 0 = true := there_iff.2 ⟨0, Nat.two_pow_pos _, tot_zero l⟩
/-- What the places from k on come to. -/
def fromB (ws : List Int) (k : Nat) (i : Nat) : Bool := reachB (ws.drop k) (i : Int)
theorem from_end {ws : List Int} {k : Nat} (h : ws.length ≤ k) (i : Nat) : fromB ws k i = decide (i = 0) := by
  unfold fromB
  rw [List.drop_eq_nil_of_le h, reach_nil, Bool.eq_iff_iff, decide_eq_true_eq, decide_eq_true_eq]
  omega
theorem from_low {ws : List Int} (hw : ws.all wideB = true) {k : Nat} (h : k < ws.length) {i : Nat} (hi : (i : Int) < ws[k]) : fromB ws k i = fromB ws (k + 1) i := by
  unfold fromB
  rw [List.drop_eq_getElem_cons h, reach_cons, reach_neg (i := (i : Int) - ws[k]) (all_drop hw _) (by omega), Bool.or_false]
theorem from_high {ws : List Int} {k : Nat} (h : k < ws.length) {i : Nat} (hx : 0 ≤ ws[k]) (hi : ws[k] ≤ (i : Int)) : fromB ws k i = (fromB ws (k + 1) i || fromB ws (k + 1) (i - ws[k].toNat)) := by
  unfold fromB
  rw [List.drop_eq_getElem_cons h, reach_cons, show ((i - ws[k].toNat : Nat) : Int) = (i : Int) - ws[k] by omega]
/-- The choice that takes a place as soon as those behind it can fill what it leaves. -/
def greedy : List Int → Int → Nat
  | [], _ => 0
  | x :: l, r => if (decide (x ≤ r) && reachB l (r - x)) = true then 2 ^ l.length + greedy l (r - x) else greedy l r
theorem greedy_lt (l : List Int) : ∀ r, greedy l r < 2 ^ l.length := by
  induction l with
  | nil => intro r; exact (by decide : (0 : Nat) < 2 ^ 0)
  | cons x l ih =>
    intro r
    unfold greedy
    rw [List.length_cons, Nat.pow_succ]
    have h1 := ih r
    have h2 := ih (r - x)
    split <;> omega
theorem greedy_is {l : List Int} (hw : l.all wideB = true) : ∀ {r : Int}, reachB l r = true → tot l (greedy l r) = r ∧ ∀ c, c < 2 ^ l.length → tot l c = r → c ≤ greedy l r := by
  induction l with
  | nil =>
    intro r h
    rw [reach_nil, decide_eq_true_eq] at h
    subst h
    exact ⟨rfl, fun c hc _ => by have : c < 1 := hc
                                 omega⟩
  | cons x l ih =>
    intro r h
    have hwl : l.all wideB = true := by
      rw [List.all_cons, Bool.and_eq_true] at hw; exact hw.2
    have ih := @ih hwl
    have hg := greedy_lt l
    unfold greedy
    by_cases ht : (decide (x ≤ r) && reachB l (r - x)) = true
    · rw [if_pos ht]
      rw [Bool.and_eq_true] at ht
      obtain ⟨h1, h2⟩ := ih ht.2
      refine ⟨by rw [tot_high x l (hg _), h1]; omega, fun c hc he => ?_⟩
      by_cases hl : c < 2 ^ l.length
      · omega
      · rw [List.length_cons, Nat.pow_succ] at hc
        have e := tot_high x l (b := c - 2 ^ l.length) (by omega)
        rw [show 2 ^ l.length + (c - 2 ^ l.length) = c by omega] at e
        have := h2 (c - 2 ^ l.length) (by omega) (by omega)
        omega
    · rw [if_neg ht]
      have hno : reachB l (r - x) = false := by
        by_cases hx : x ≤ r
        · rw [decide_eq_true hx, Bool.true_and] at ht
          simpa using ht
        · exact reach_neg hwl (by omega)
      rw [reach_cons, hno, Bool.or_false] at h
      obtain ⟨h1, h2⟩ := ih h
      refine ⟨by rw [tot_low x l (hg _)]; exact h1, fun c hc he => ?_⟩
      by_cases hl : c < 2 ^ l.length
      · exact h2 c hl (by rw [← tot_low x l hl]; exact he)
      · rw [List.length_cons, Nat.pow_succ] at hc
        have e := tot_high x l (b := c - 2 ^ l.length) (by omega)
        rw [show 2 ^ l.length + (c - 2 ^ l.length) = c by omega] at e
        have : reachB l (r - x) = true := there_iff.2 ⟨c - 2 ^ l.length, by omega, by omega⟩
        rw [hno] at this
        cases this
theorem greedy_bit {l : List Int} (hw : l.all wideB = true) : ∀ {r : Int}, reachB l r = true → ∀ {k : Nat} (h : k < l.length), (greedy l r).testBit (l.length - 1 - k) = (decide (l[k] ≤ tot (l.drop k) (greedy l r)) && reachB (l.drop (k + 1)) (tot (l.drop k) (greedy l r) - l[k])) := by
  induction l with
  | nil => intro r _ k h; exact absurd h (Nat.not_lt_zero _)
  | cons x l ih =>
    intro r hr k h
    have hwl : l.all wideB = true := by
      rw [List.all_cons, Bool.and_eq_true] at hw; exact hw.2
    have hg := greedy_lt l
    cases k with
    | zero =>
      have ht : tot ((x :: l).drop 0) (greedy (x :: l) r) = r := (greedy_is hw hr).1
      rw [ht]
      show (greedy (x :: l) r).testBit (l.length + 1 - 1 - 0) = (decide (x ≤ r) && reachB l (r - x))
      rw [show l.length + 1 - 1 - 0 = l.length by omega]
      unfold greedy
      by_cases ht : (decide (x ≤ r) && reachB l (r - x)) = true
      · rw [if_pos ht, ht, Nat.testBit_two_pow_add_eq, Nat.testBit_lt_two_pow (hg _)]; rfl
      · rw [if_neg ht, Nat.testBit_lt_two_pow (hg _)]
        simpa using ht
    | succ k =>
      rw [List.length_cons] at h
      have hk : k < l.length := by omega
      show (greedy (x :: l) r).testBit (l.length + 1 - 1 - (k + 1)) = (decide (l[k] ≤ tot (l.drop k) (greedy (x :: l) r)) && reachB (l.drop (k + 1)) (tot (l.drop k) (greedy (x :: l) r) - l[k]))
      rw [show l.length + 1 - 1 - (k + 1) = l.length - 1 - k by omega]
      unfold greedy
      by_cases ht : (decide (x ≤ r) && reachB l (r - x)) = true
      · rw [if_pos ht]
        rw [Bool.and_eq_true] at ht
        have e1 : (2 ^ l.length + greedy l (r - x)).testBit (l.length - 1 - k) = (greedy l (r - x)).testBit (l.length - 1 - k) := Nat.testBit_two_pow_add_gt (by omega) _
        have e2 : tot (l.drop k) (2 ^ l.length + greedy l (r - x)) = tot (l.drop k) (greedy l (r - x)) := by
          rw [← tot_mod (l.drop k) (2 ^ l.length + greedy l (r - x)) l.length (by rw [List.length_drop]; omega), Nat.add_mod_left, tot_mod _ _ _ (by rw [List.length_drop]; omega)]
        rw [e1, e2]
        exact ih hwl ht.2 hk
      · rw [if_neg ht]
        have hno : reachB l (r - x) = false := by
          by_cases hx : x ≤ r
          · rw [decide_eq_true hx, Bool.true_and] at ht
            simpa using ht
          · exact reach_neg hwl (by omega)
        rw [reach_cons, hno, Bool.or_false] at hr
        exact ih hwl hr hk
/-- The greatest sum up to the room. -/
structure IsMost (ws : List Int) (room most : Int) : Prop where
  le : most ≤ room
  is : reachB ws most = true
  none : ∀ i, most < i → i ≤ room → reachB ws i = false
theorem greedy_best {ws : List Int} (hw : ws.all wideB = true) {room most : Int} (h : IsMost ws room most) (hr : 0 ≤ room) : greedy ws most = bestB ws room := by
  obtain ⟨h1, h2⟩ := greedy_is hw h.is
  refine best_one ⟨greedy_lt ws most, by rw [h1]; exact h.le, fun c hc hf => ?_⟩ (best_is ws hr)
  rw [h1]
  by_cases hm : most < tot ws c
  · have := h.none _ hm hf
    rw [there_iff.2 ⟨c, hc, rfl⟩ |> fun h => (show reachB ws (tot ws c) = true from h)] at this
    cases this
  · by_cases e : tot ws c = most
    · exact .inr ⟨e, h2 c hc e⟩
    · exact .inl (by omega)
theorem most_tot {ws : List Int} (hw : ws.all wideB = true) {room most : Int} (h : IsMost ws room most) (hr : 0 ≤ room) : tot ws (bestB ws room) = most := by
  rw [← greedy_best hw h hr]
  exact (greedy_is hw h.is).1
/-- What is left behind the first k places. -/
def leftTo (ws : List Int) (b k : Nat) : Int := tot (ws.drop k) b
theorem left_zero (ws : List Int) (b : Nat) : leftTo ws b 0 = tot ws b := rfl
theorem left_succ {ws : List Int} (b : Nat) {k : Nat} (h : k < ws.length) : leftTo ws b (k + 1) = leftTo ws b k - if b.testBit (ws.length - 1 - k) = true then ws[k] else 0 := by
  have h1 := totTo_succ b h
  unfold totTo at h1
  unfold leftTo
  omega
theorem left_bound {ws : List Int} (hw : ws.all wideB = true) {room : Int} (hr : 0 ≤ room) (k : Nat) : 0 ≤ leftTo ws (bestB ws room) k ∧ leftTo ws (bestB ws room) k ≤ room := by
  have h1 := (tot_bound (all_drop hw k) (bestB ws room)).1
  have h2 := (best_is ws hr).fits
  unfold leftTo
  by_cases hk : k ≤ ws.length
  · have h3 := (totTo_bound hw (bestB ws room) k hk).1
    unfold totTo at h3
    omega
  · rw [List.drop_eq_nil_of_le (by omega)]
    exact ⟨by unfold tot; omega, by unfold tot; omega⟩
theorem best_bit {ws : List Int} (hw : ws.all wideB = true) {room : Int} (hr : 0 ≤ room) {k : Nat} (h : k < ws.length) :
    (bestB ws room).testBit (ws.length - 1 - k) = (decide (ws[k] ≤ leftTo ws (bestB ws room) k) && fromB ws (k + 1) (leftTo ws (bestB ws room) k - ws[k]).toNat) := by
  have hm : IsMost ws room (tot ws (bestB ws room)) := ⟨(best_is ws hr).fits, reach_best ws hr, fun i h1 h2 => reach_not hr h1 h2⟩
  have h1 := greedy_bit hw hm.is h
  rw [greedy_best hw hm hr] at h1
  rw [h1]
  unfold fromB leftTo
  by_cases hx : ws[k] ≤ tot (ws.drop k) (bestB ws room)
  · rw [decide_eq_true hx, Bool.true_and, Bool.true_and, show (((tot (ws.drop k) (bestB ws room) - ws[k]).toNat : Nat) : Int) = tot (ws.drop k) (bestB ws room) - ws[k] by omega]
  · rw [decide_eq_false hx, Bool.false_and, Bool.false_and]
end Go.Proofs.Ytkaepadkdohmpaa.SubPlain
