/-
  The plain mathematics of layer 13: choices of items in two rooms, as bits; the fullest one. The mathematics of layer 13's landed code: of each sum the least part of long ones, place by place; the choice that takes a place as soon as those behind it can fill what it leaves in both rooms is the fullest one.
-/
import Derived.Test.YtkaepadkdohmpaaSubPlain
import Derived.Test.YtkaepadkdohmpaaApiPlain
namespace Go.Proofs.Ytkaepadkdohmpaa.TwnPlain
open Go.Proofs.Ytkaepadkdohmpaa.SubPlain Go.Proofs.Ytkaepadkdohmpaa.ApiPlain
def wsOf (l : List Itm) : List Int := l.map fun x => x.width
def lsOf (l : List Itm) : List Int := l.map fun x => if x.long = true then x.width else 0
theorem ws_len (l : List Itm) : (wsOf l).length = l.length := by simp [wsOf]
theorem ls_len (l : List Itm) : (lsOf l).length = l.length := by simp [lsOf]
theorem ws_at {l : List Itm} {k : Nat} (h : k < l.length) : (wsOf l)[k]'(by rw [ws_len]; exact h) = l[k].width := by simp [wsOf]
theorem ls_at {l : List Itm} {k : Nat} (h : k < l.length) : (lsOf l)[k]'(by rw [ls_len]; exact h) = if l[k].long = true then l[k].width else 0 := by simp [lsOf]
def mayT (l : List Itm) : Bool := (wsOf l).all wideB && decide (l.length ≤ 32)
theorem mayT_all {l : List Itm} (h : mayT l = true) : (wsOf l).all wideB = true ∧ l.length ≤ 32 := by
  unfold mayT at h
  rw [Bool.and_eq_true, decide_eq_true_eq] at h
  exact h
theorem mayT_W {l : List Itm} (h : mayT l = true) : mayW (wsOf l) = true := by
  obtain ⟨h1, h2⟩ := mayT_all h
  unfold mayW
  rw [h1, ws_len, decide_eq_true (by omega)]
  rfl
theorem mayW_T {l : List Itm} (h : l.length ≤ 32) : mayW (wsOf l) = mayT l := by
  unfold mayW mayT
  rw [ws_len, decide_eq_true (p := l.length ≤ 64) (by omega), decide_eq_true h]
/-- The long ones' widths are no more than all. -/
theorem longs_le {l : List Itm} (h : (wsOf l).all wideB = true) (b : Nat) : 0 ≤ tot (lsOf l) b ∧ tot (lsOf l) b ≤ tot (wsOf l) b := by
  induction l with
  | nil => simp [wsOf, lsOf, tot]
  | cons x l ih =>
    have h0 : wideB x.width = true ∧ (wsOf l).all wideB = true := by
      unfold wsOf at h ⊢
      rw [List.map_cons, List.all_cons, Bool.and_eq_true] at h
      exact h
    obtain ⟨h1, h2⟩ := h0
    have h3 := ih h2
    unfold wideB at h1
    rw [Bool.and_eq_true, decide_eq_true_eq, decide_eq_true_eq] at h1
    have e1 : wsOf (x :: l) = x.width :: wsOf l := rfl
    have e2 : lsOf (x :: l) = (if x.long = true then x.width else 0) :: lsOf l := rfl
    rw [e1, e2]
    unfold tot
    rw [ws_len, ls_len]
    have hy : 0 ≤ (if x.long = true then x.width else 0) ∧ (if x.long = true then x.width else 0) ≤ x.width := by split <;> omega
    generalize (if x.long = true then x.width else 0) = y at *
    split <;> omega
theorem longTo_bound {l : List Itm} (h : (wsOf l).all wideB = true) (b k : Nat) (hk : k ≤ l.length) : 0 ≤ totTo (lsOf l) b k ∧ totTo (lsOf l) b k ≤ 256 * k := by
  induction k with
  | zero => rw [totTo_zero]; omega
  | succ k ih =>
    have h1 := ih (by omega)
    have hk2 : k < l.length := hk
    rw [totTo_succ b (by rw [ls_len]; omega), ls_at hk2]
    have h2 : wideB l[k].width = true := by
      rw [List.all_eq_true] at h
      exact h _ (by rw [← ws_at hk2]; exact List.getElem_mem _)
    unfold wideB at h2
    rw [Bool.and_eq_true, decide_eq_true_eq, decide_eq_true_eq] at h2
    have hy : 0 ≤ (if l[k].long = true then l[k].width else 0) ∧ (if l[k].long = true then l[k].width else 0) ≤ l[k].width := by split <;> omega
    generalize (if l[k].long = true then l[k].width else 0) = y at *
    split <;> omega
/-- The fullest of the first choices; of these the one with the greatest bits. -/
def takesT (l : List Itm) (room long : Int) (b best : Nat) : Bool := decide (tot (wsOf l) b ≤ room) && (decide (tot (lsOf l) b ≤ long) && decide (tot (wsOf l) best ≤ tot (wsOf l) b))
def bestT (l : List Itm) (room long : Int) : Nat → Nat
  | 0 => 0
  | b + 1 => if takesT l room long b (bestT l room long b) = true then b else bestT l room long b
def bestI (l : List Itm) (room long : Int) : Nat := bestT l room long (2 ^ l.length)
theorem bestT_step (l : List Itm) (room long : Int) (b : Nat) : bestT l room long (b + 1) = if takesT l room long b (bestT l room long b) = true then b else bestT l room long b := rfl
theorem bestT_le (l : List Itm) (room long : Int) : ∀ B, bestT l room long B ≤ B
  | 0 => Nat.le_refl _
  | B + 1 => by
    have h := bestT_le l room long B
    rw [bestT_step]
    split <;> omega
/-- In a long room that is as great as the room the long ones count as the others. -/
theorem best_alike {l : List Itm} (h : (wsOf l).all wideB = true) (room : Int) : ∀ B, bestT l room room B = bestTo (wsOf l) room B
  | 0 => rfl
  | B + 1 => by
    have hs : bestTo (wsOf l) room (B + 1) = if takesB (wsOf l) room B (bestTo (wsOf l) room B) = true then B else bestTo (wsOf l) room B := rfl
    rw [bestT_step, hs, best_alike h room B]
    have e : takesT l room room B (bestTo (wsOf l) room B) = takesB (wsOf l) room B (bestTo (wsOf l) room B) := by
      unfold takesT takesB
      have h1 := longs_le h B
      by_cases h2 : tot (wsOf l) B ≤ room
      · rw [decide_eq_true h2, decide_eq_true (p := tot (lsOf l) B ≤ room) (by omega), Bool.true_and, Bool.true_and]
      · rw [decide_eq_false h2, Bool.false_and, Bool.false_and]
    rw [e]
theorem bestI_alike {l : List Itm} (h : (wsOf l).all wideB = true) (room : Int) : bestI l room room = bestB (wsOf l) room := by
  unfold bestI bestB
  rw [best_alike h room, ws_len]
structure IsBestT (l : List Itm) (room long : Int) (B b : Nat) : Prop where
  lt : b < B
  fits : tot (wsOf l) b ≤ room
  longs : tot (lsOf l) b ≤ long
  most : ∀ c, c < B → tot (wsOf l) c ≤ room → tot (lsOf l) c ≤ long → tot (wsOf l) c < tot (wsOf l) b ∨ (tot (wsOf l) c = tot (wsOf l) b ∧ c ≤ b)
theorem bestT_is (l : List Itm) {room long : Int} (hr : 0 ≤ room) (hg : 0 ≤ long) (B : Nat) : IsBestT l room long (B + 1) (bestT l room long (B + 1)) := by
  induction B with
  | zero =>
    have h0 : bestT l room long (0 + 1) = 0 := by rw [bestT_step]; split <;> rfl
    rw [h0]
    refine ⟨by omega, by rw [tot_zero]; exact hr, by rw [tot_zero]; exact hg, fun c hc _ _ => ?_⟩
    have : c = 0 := by omega
    subst this
    exact .inr ⟨rfl, Nat.le_refl _⟩
  | succ B ih =>
    rw [bestT_step]
    obtain ⟨h1, h2, h2b, h3⟩ := ih
    generalize bestT l room long (B + 1) = m at *
    cases ht : takesT l room long (B + 1) m with
    | true =>
      rw [if_pos rfl]
      unfold takesT at ht
      rw [Bool.and_eq_true, Bool.and_eq_true, decide_eq_true_eq, decide_eq_true_eq, decide_eq_true_eq] at ht
      refine ⟨by omega, ht.1, ht.2.1, fun c hc hf hl => ?_⟩
      by_cases e : c = B + 1
      · subst e; exact .inr ⟨rfl, Nat.le_refl _⟩
      · rcases h3 c (by omega) hf hl with h | ⟨h, h'⟩
        · exact .inl (by omega)
        · by_cases e2 : tot (wsOf l) c = tot (wsOf l) (B + 1)
          · exact .inr ⟨e2, by omega⟩
          · exact .inl (by omega)
    | false =>
      rw [if_neg (by decide)]
      unfold takesT at ht
      rw [Bool.and_eq_false_iff, Bool.and_eq_false_iff, decide_eq_false_iff_not, decide_eq_false_iff_not, decide_eq_false_iff_not] at ht
      refine ⟨by omega, h2, h2b, fun c hc hf hl => ?_⟩
      by_cases e : c = B + 1
      · subst e
        rcases ht with ht | ht | ht
        · exact absurd hf ht
        · exact absurd hl ht
        · exact .inl (by omega)
      · exact h3 c (by omega) hf hl
theorem bestI_is (l : List Itm) {room long : Int} (hr : 0 ≤ room) (hg : 0 ≤ long) : IsBestT l room long (2 ^ l.length) (bestI l room long) := by
  unfold bestI
  have : 2 ^ l.length = (2 ^ l.length - 1) + 1 := by have := Nat.two_pow_pos l.length; omega
  rw [this]
  exact bestT_is l hr hg _
theorem bestI_one {l : List Itm} {room long : Int} {B a b : Nat} (ha : IsBestT l room long B a) (hb : IsBestT l room long B b) : a = b := by
  have h1 := ha.most b hb.lt hb.fits hb.longs
  have h2 := hb.most a ha.lt ha.fits ha.longs
  omega
/-- Any places: whether items may be, and they rise and are there; the widths. -/
def okT (l : List Itm) (ps : List Int) : Bool := mayT l && okP (wsOf l) ps
def fitsT (l : List Itm) (ps : List Int) (room long : Int) : Bool :=
  okT l ps && (decide (0 ≤ room) && (decide (room ≤ 256) && (decide (0 ≤ long) && (decide (long ≤ 256) && (decide (sumP (wsOf l) ps ≤ room) && decide (sumP (lsOf l) ps ≤ long))))))
theorem wAt_longs {l : List Itm} (h : (wsOf l).all wideB = true) (p : Int) : 0 ≤ wAt (lsOf l) p ∧ wAt (lsOf l) p ≤ 256 := by
  unfold wAt
  by_cases hp : p.toNat < l.length
  · have h2 : wideB l[p.toNat].width = true := by
      rw [List.all_eq_true] at h
      exact h _ (by rw [← ws_at hp]; exact List.getElem_mem _)
    unfold wideB at h2
    rw [Bool.and_eq_true, decide_eq_true_eq, decide_eq_true_eq] at h2
    rw [List.getD_eq_getElem?_getD, List.getElem?_eq_getElem (by rw [ls_len]; exact hp), Option.getD_some, ls_at hp]
    split <;> omega
  · rw [List.getD_eq_getElem?_getD, List.getElem?_eq_none (by rw [ls_len]; omega)]
    simp
theorem sumTo_longs {l : List Itm} (h : (wsOf l).all wideB = true) (ps : List Int) (k : Nat) : 0 ≤ sumTo (lsOf l) ps k ∧ sumTo (lsOf l) ps k ≤ 256 * k := by
  induction k with
  | zero => simp [sumTo]
  | succ k ih =>
    have := wAt_longs h (ps.getD k 0)
    unfold sumTo
    omega
theorem ex_bestI : bestI [⟨3, true⟩, ⟨3, false⟩] 6 2 = 1 := by decide +kernel
theorem ex_placesI : placesB 2 1 = [1] := by decide +kernel
theorem ex_totI : tot (wsOf [⟨3, true⟩, ⟨3, false⟩]) 1 = 3 := by decide +kernel
theorem ex_mayI : mayT [⟨3, true⟩, ⟨3, false⟩] = true := by decide +kernel
end Go.Proofs.Ytkaepadkdohmpaa.TwnPlain
namespace Go.Proofs.Ytkaepadkdohmpaa.TwnPlain
open Go.Proofs.Ytkaepadkdohmpaa.SubPlain Go.Proofs.Ytkaepadkdohmpaa.ApiPlain
/-- What an item takes of the long room. -/
def partI (x : Itm) : Int := if x.long = true then x.width else 0
/-- The least part of long ones of all choices of so many together, or 257. -/
def lst : List Itm → Nat → Int
  | [], i => if i = 0 then 0 else 257
  | x :: l, i => if x.width ≤ (i : Int) then min (lst l i) (lst l (i - x.width.toNat) + partI x) else lst l i
theorem ws_cons (x : Itm) (l : List Itm) : wsOf (x :: l) = x.width :: wsOf l := rfl
theorem ls_cons (x : Itm) (l : List Itm) : lsOf (x :: l) = partI x :: lsOf l := rfl
theorem wide_cons {x : Itm} {l : List Itm} (h : (wsOf (x :: l)).all wideB = true) : 1 ≤ x.width ∧ x.width ≤ 256 ∧ (wsOf l).all wideB = true := by
  rw [ws_cons, List.all_cons, Bool.and_eq_true] at h
  obtain ⟨h1, h2⟩ := h
  unfold wideB at h1
  rw [Bool.and_eq_true, decide_eq_true_eq, decide_eq_true_eq] at h1
  exact ⟨h1.1, h1.2, h2⟩
theorem part_bound {x : Itm} (h : 1 ≤ x.width) : 0 ≤ partI x ∧ partI x ≤ x.width := by unfold partI; split <;> omega
theorem wide_drop {l : List Itm} (h : (wsOf l).all wideB = true) (k : Nat) : (wsOf (l.drop k)).all wideB = true := by
  have := all_drop h k
  unfold wsOf at this ⊢
  rwa [List.map_drop]
theorem lst_bound {l : List Itm} (h : (wsOf l).all wideB = true) : ∀ i, 0 ≤ lst l i ∧ lst l i ≤ 257 := by
  induction l with
  | nil => intro i; unfold lst; split <;> omega
  | cons x l ih =>
    obtain ⟨h1, h2, h3⟩ := wide_cons h
    intro i
    have h4 := ih h3 i
    have h5 := ih h3 (i - x.width.toNat)
    have h6 := part_bound h1
    unfold lst
    split <;> omega
/-- No choice of so many has a lesser part; there is one that has it. -/
theorem lst_least {l : List Itm} (h : (wsOf l).all wideB = true) : ∀ {b : Nat}, b < 2 ^ l.length → ∀ {i : Nat}, tot (wsOf l) b = (i : Int) → lst l i ≤ tot (lsOf l) b := by
  induction l with
  | nil =>
    intro b _ i hi
    have e1 : tot (wsOf []) b = 0 := rfl
    have e2 : tot (lsOf []) b = 0 := rfl
    rw [e1] at hi
    rw [e2]
    unfold lst
    rw [if_pos (by omega)]
    exact Int.le_refl _
  | cons x l ih =>
    obtain ⟨h1, h2, h3⟩ := wide_cons h
    intro b hb i hi
    rw [List.length_cons, Nat.pow_succ] at hb
    rw [ws_cons] at hi
    rw [ls_cons]
    by_cases hl : b < 2 ^ l.length
    · rw [tot_low x.width (wsOf l) (by rw [ws_len]; exact hl)] at hi
      rw [tot_low (partI x) (lsOf l) (by rw [ls_len]; exact hl)]
      have := ih h3 hl hi
      unfold lst
      split <;> omega
    · have e1 := tot_high x.width (wsOf l) (b := b - 2 ^ l.length) (by rw [ws_len]; omega)
      have e2 := tot_high (partI x) (lsOf l) (b := b - 2 ^ l.length) (by rw [ls_len]; omega)
      rw [ws_len, show 2 ^ l.length + (b - 2 ^ l.length) = b by omega] at e1
      rw [ls_len, show 2 ^ l.length + (b - 2 ^ l.length) = b by omega] at e2
      rw [e1] at hi
      rw [e2]
      have hn := (tot_bound h3 (b - 2 ^ l.length)).1
      have := ih h3 (b := b - 2 ^ l.length) (by omega) (i := i - x.width.toNat) (by omega)
      unfold lst
      rw [if_pos (by omega)]
      omega
theorem lst_low {x : Itm} {l : List Itm} {i : Nat} (h5 : lst (x :: l) i = lst l i) (h : ∃ b, b < 2 ^ l.length ∧ tot (wsOf l) b = (i : Int) ∧ tot (lsOf l) b = lst l i) : ∃ b, b < 2 ^ (x :: l).length ∧ tot (wsOf (x :: l)) b = (i : Int) ∧ tot (lsOf (x :: l)) b = lst (x :: l) i := by
  obtain ⟨b, hb, e1, e2⟩ := h
  refine ⟨b, by rw [List.length_cons, Nat.pow_succ]; omega, ?_, ?_⟩
  · rw [ws_cons, tot_low x.width (wsOf l) (by rw [ws_len]; exact hb)]; exact e1
  · rw [ls_cons, tot_low (partI x) (lsOf l) (by rw [ls_len]; exact hb), h5]; exact e2
theorem lst_high {x : Itm} {l : List Itm} {i : Nat} (hx : x.width ≤ (i : Int)) (h0 : 1 ≤ x.width) (h5 : lst (x :: l) i = lst l (i - x.width.toNat) + partI x) (h : ∃ b, b < 2 ^ l.length ∧ tot (wsOf l) b = ((i - x.width.toNat : Nat) : Int) ∧ tot (lsOf l) b = lst l (i - x.width.toNat)) : ∃ b, b < 2 ^ (x :: l).length ∧ tot (wsOf (x :: l)) b = (i : Int) ∧ tot (lsOf (x :: l)) b = lst (x :: l) i := by
  obtain ⟨b, hb, e1, e2⟩ := h
  refine ⟨2 ^ l.length + b, by rw [List.length_cons, Nat.pow_succ]; omega, ?_, ?_⟩
  · have := tot_high x.width (wsOf l) (b := b) (by rw [ws_len]; exact hb)
    rw [ws_len] at this
    rw [ws_cons, this, e1]
    clear e2 h5 this
    omega
  · have := tot_high (partI x) (lsOf l) (b := b) (by rw [ls_len]; exact hb)
    rw [ls_len] at this
    rw [ls_cons, this, e2, h5]
    exact Int.add_comm _ _
theorem lst_there {l : List Itm} (h : (wsOf l).all wideB = true) : ∀ {i : Nat}, lst l i ≤ 256 → ∃ b, b < 2 ^ l.length ∧ tot (wsOf l) b = (i : Int) ∧ tot (lsOf l) b = lst l i := by
  induction l with
  | nil =>
    intro i hi
    unfold lst at hi ⊢
    by_cases e : i = 0
    · subst e
      exact ⟨0, by decide, rfl, rfl⟩
    · rw [if_neg e] at hi
      omega
  | cons x l ih =>
    obtain ⟨h1, h2, h3⟩ := wide_cons h
    have hp := part_bound h1
    intro i hi
    by_cases hx : x.width ≤ (i : Int)
    · have e : lst (x :: l) i = min (lst l i) (lst l (i - x.width.toNat) + partI x) := by
        show (if x.width ≤ (i : Int) then _ else _) = _
        rw [if_pos hx]
      rw [e] at hi
      by_cases hm : lst l i ≤ lst l (i - x.width.toNat) + partI x
      · rw [Int.min_eq_left hm] at e hi
        exact lst_low e (ih h3 hi)
      · have hm2 : lst l (i - x.width.toNat) + partI x ≤ lst l i := Int.le_of_lt (Int.not_le.1 hm)
        rw [Int.min_eq_right hm2] at e hi
        exact lst_high hx h1 e (ih h3 (by clear ih e hm hm2; omega))
    · have e : lst (x :: l) i = lst l i := by
        show (if x.width ≤ (i : Int) then _ else _) = _
        rw [if_neg hx]
      rw [e] at hi
      exact lst_low e (ih h3 hi)
/-- What the places from k on come to. -/
def lstF (l : List Itm) (k i : Nat) : Int := lst (l.drop k) i
theorem lstF_end {l : List Itm} {k : Nat} (h : l.length ≤ k) (i : Nat) : lstF l k i = if i = 0 then 0 else 257 := by
  unfold lstF
  rw [List.drop_eq_nil_of_le h]; rfl
theorem lstF_zero (l : List Itm) (i : Nat) : lstF l 0 i = lst l i := rfl
theorem lstF_at {l : List Itm} {k : Nat} (h : k < l.length) (i : Nat) : lstF l k i = if l[k].width ≤ (i : Int) then min (lstF l (k + 1) i) (lstF l (k + 1) (i - l[k].width.toNat) + partI l[k]) else lstF l (k + 1) i := by
  unfold lstF
  rw [List.drop_eq_getElem_cons h]; rfl
theorem lstF_bound {l : List Itm} (h : (wsOf l).all wideB = true) (k i : Nat) : 0 ≤ lstF l k i ∧ lstF l k i ≤ 257 := lst_bound (wide_drop h k) i
/-- What is left of the rooms; whether an item is taken of it; what is left then. -/
def takeQ (x : Itm) (l : List Itm) (s : Int × Int) : Bool := decide (x.width ≤ s.1) && decide (lst l (s.1 - x.width).toNat ≤ s.2 - partI x)
def leaveQ (x : Itm) (l : List Itm) (s : Int × Int) : Int × Int := if takeQ x l s = true then (s.1 - x.width, s.2 - partI x) else s
def leftQ : List Itm → Int × Int → Nat → Int × Int
  | _, s, 0 => s
  | [], s, _ + 1 => s
  | x :: l, s, k + 1 => leftQ l (leaveQ x l s) k
def greedyQ : List Itm → Int × Int → Nat
  | [], _ => 0
  | x :: l, s => if takeQ x l s = true then 2 ^ l.length + greedyQ l (leaveQ x l s) else greedyQ l (leaveQ x l s)
theorem greedyQ_yes {x : Itm} {l : List Itm} {s : Int × Int} (h : takeQ x l s = true) : greedyQ (x :: l) s = 2 ^ l.length + greedyQ l (leaveQ x l s) := by
  show (if takeQ x l s = true then _ else _) = _
  rw [if_pos h]
theorem greedyQ_no {x : Itm} {l : List Itm} {s : Int × Int} (h : takeQ x l s = false) : greedyQ (x :: l) s = greedyQ l (leaveQ x l s) := by
  show (if takeQ x l s = true then _ else _) = _
  rw [if_neg (by rw [h]; decide)]
theorem greedyQ_lt (l : List Itm) : ∀ s, greedyQ l s < 2 ^ l.length := by
  induction l with
  | nil => intro s; exact (by decide : (0 : Nat) < 2 ^ 0)
  | cons x l ih =>
    intro s
    unfold greedyQ
    rw [List.length_cons, Nat.pow_succ]
    have h1 := ih (leaveQ x l s)
    split <;> omega
theorem greedyQ_bit {l : List Itm} : ∀ {s : Int × Int} {k : Nat} (h : k < l.length), (greedyQ l s).testBit (l.length - 1 - k) = takeQ l[k] (l.drop (k + 1)) (leftQ l s k) := by
  induction l with
  | nil => intro s k h; exact absurd h (Nat.not_lt_zero _)
  | cons x l ih =>
    intro s k h
    have hg := greedyQ_lt l (leaveQ x l s)
    cases k with
    | zero =>
      show (greedyQ (x :: l) s).testBit (l.length + 1 - 1 - 0) = takeQ x l s
      rw [show l.length + 1 - 1 - 0 = l.length by omega]
      cases ht : takeQ x l s
      · rw [greedyQ_no ht, Nat.testBit_lt_two_pow hg]
      · rw [greedyQ_yes ht, Nat.testBit_two_pow_add_eq, Nat.testBit_lt_two_pow hg]; rfl
    | succ k =>
      rw [List.length_cons] at h
      have hk : k < l.length := by omega
      show (greedyQ (x :: l) s).testBit (l.length + 1 - 1 - (k + 1)) = takeQ l[k] (l.drop (k + 1)) (leftQ l (leaveQ x l s) k)
      rw [show l.length + 1 - 1 - (k + 1) = l.length - 1 - k by omega, ← ih hk]
      cases ht : takeQ x l s
      · rw [greedyQ_no ht]
      · rw [greedyQ_yes ht]; exact Nat.testBit_two_pow_add_gt (by omega) _
theorem leftQ_succ {l : List Itm} : ∀ {s : Int × Int} {k : Nat} (h : k < l.length), leftQ l s (k + 1) = leaveQ l[k] (l.drop (k + 1)) (leftQ l s k) := by
  induction l with
  | nil => intro s k h; exact absurd h (Nat.not_lt_zero _)
  | cons x l ih =>
    intro s k h
    cases k with
    | zero => show leftQ l (leaveQ x l s) 0 = leaveQ x l s; cases l <;> rfl
    | succ k =>
      rw [List.length_cons] at h
      exact ih (s := leaveQ x l s) (k := k) (by omega)
theorem leftQ_zero (l : List Itm) (s : Int × Int) : leftQ l s 0 = s := by cases l <;> rfl
theorem leaveQ_bound {x : Itm} {l : List Itm} {s : Int × Int} (h : (wsOf (x :: l)).all wideB = true) (h1 : 0 ≤ s.1) (h2 : 0 ≤ s.2) : (0 ≤ (leaveQ x l s).1 ∧ (leaveQ x l s).1 ≤ s.1) ∧ (0 ≤ (leaveQ x l s).2 ∧ (leaveQ x l s).2 ≤ s.2) := by
  obtain ⟨w1, w2, w3⟩ := wide_cons h
  have hp := part_bound w1
  have hb := lst_bound w3 (s.1 - x.width).toNat
  unfold leaveQ
  cases ht : takeQ x l s
  · rw [if_neg (by decide)]; omega
  · rw [if_pos rfl]
    unfold takeQ at ht
    rw [Bool.and_eq_true, decide_eq_true_eq, decide_eq_true_eq] at ht
    dsimp only
    omega
theorem leftQ_bound {l : List Itm} (h : (wsOf l).all wideB = true) : ∀ {s : Int × Int} (k : Nat), 0 ≤ s.1 → 0 ≤ s.2 → (0 ≤ (leftQ l s k).1 ∧ (leftQ l s k).1 ≤ s.1) ∧ (0 ≤ (leftQ l s k).2 ∧ (leftQ l s k).2 ≤ s.2) := by
  induction l with
  | nil => intro s k h1 h2; cases k <;> exact ⟨⟨h1, Int.le_refl _⟩, h2, Int.le_refl _⟩
  | cons x l ih =>
    intro s k h1 h2
    cases k with
    | zero => exact ⟨⟨h1, Int.le_refl _⟩, h2, Int.le_refl _⟩
    | succ k =>
      have hb := leaveQ_bound h h1 h2
      have h3 := ih (wide_cons h).2.2 (s := leaveQ x l s) k hb.1.1 hb.2.1
      show (0 ≤ (leftQ l (leaveQ x l s) k).1 ∧ (leftQ l (leaveQ x l s) k).1 ≤ s.1) ∧ (0 ≤ (leftQ l (leaveQ x l s) k).2 ∧ (leftQ l (leaveQ x l s) k).2 ≤ s.2)
      omega
theorem greedyQ_is {l : List Itm} (h : (wsOf l).all wideB = true) : ∀ {s : Int × Int}, 0 ≤ s.1 → s.2 ≤ 256 → lst l s.1.toNat ≤ s.2 →
    tot (wsOf l) (greedyQ l s) = s.1 ∧ tot (lsOf l) (greedyQ l s) ≤ s.2 ∧ ∀ c, c < 2 ^ l.length → tot (wsOf l) c = s.1 → tot (lsOf l) c ≤ s.2 → c ≤ greedyQ l s := by
  induction l with
  | nil =>
    intro s h0 h1 h2
    have e : s.1 = 0 := by
      unfold lst at h2
      by_cases e : s.1.toNat = 0
      · omega
      · rw [if_neg e] at h2; omega
    refine ⟨e.symm, ?_, fun c hc _ _ => by have : c < 1 := hc
                                           omega⟩
    unfold lst at h2
    rw [if_pos (by omega)] at h2
    exact h2
  | cons x l ih =>
    intro s h0 h1 h2
    obtain ⟨w1, w2, w3⟩ := wide_cons h
    have hp := part_bound w1
    have hlb := lst_bound w3
    have hg := greedyQ_lt l
    cases ht : takeQ x l s
    · have hno : ¬ (x.width ≤ s.1 ∧ lst l (s.1 - x.width).toNat ≤ s.2 - partI x) := by
        unfold takeQ at ht
        rw [Bool.and_eq_false_iff, decide_eq_false_iff_not, decide_eq_false_iff_not] at ht
        rintro ⟨q1, q2⟩
        rcases ht with ht | ht
        · exact ht q1
        · exact ht q2
      have eg : greedyQ (x :: l) s = greedyQ l s := by
        rw [greedyQ_no ht]
        unfold leaveQ
        rw [if_neg (by rw [ht]; decide)]
      have hlow : lst l s.1.toNat ≤ s.2 := by
        unfold lst at h2
        by_cases hx : x.width ≤ ((s.1.toNat : Nat) : Int)
        · rw [if_pos hx, show s.1.toNat - x.width.toNat = (s.1 - x.width).toNat by omega] at h2
          have : ¬ lst l (s.1 - x.width).toNat ≤ s.2 - partI x := fun q => hno ⟨by omega, q⟩
          omega
        · rw [if_neg hx] at h2; exact h2
      obtain ⟨i1, i2, i3⟩ := ih w3 h0 h1 hlow
      rw [eg]
      refine ⟨?_, ?_, fun c hc he hl => ?_⟩
      · rw [ws_cons, tot_low x.width (wsOf l) (by rw [ws_len]; exact hg s)]; exact i1
      · rw [ls_cons, tot_low (partI x) (lsOf l) (by rw [ls_len]; exact hg s)]; exact i2
      · rw [ws_cons] at he
        rw [ls_cons] at hl
        rw [List.length_cons, Nat.pow_succ] at hc
        by_cases hlo : c < 2 ^ l.length
        · rw [tot_low x.width (wsOf l) (by rw [ws_len]; exact hlo)] at he
          rw [tot_low (partI x) (lsOf l) (by rw [ls_len]; exact hlo)] at hl
          exact i3 c hlo he hl
        · exfalso
          have e1 := tot_high x.width (wsOf l) (b := c - 2 ^ l.length) (by rw [ws_len]; omega)
          have e2 := tot_high (partI x) (lsOf l) (b := c - 2 ^ l.length) (by rw [ls_len]; omega)
          rw [ws_len, show 2 ^ l.length + (c - 2 ^ l.length) = c by omega] at e1
          rw [ls_len, show 2 ^ l.length + (c - 2 ^ l.length) = c by omega] at e2
          have hn := (tot_bound w3 (c - 2 ^ l.length)).1
          have := lst_least w3 (b := c - 2 ^ l.length) (by omega) (i := (s.1 - x.width).toNat) (by omega)
          exact hno ⟨by omega, by omega⟩
    · have hyes : x.width ≤ s.1 ∧ lst l (s.1 - x.width).toNat ≤ s.2 - partI x := by
        unfold takeQ at ht
        rwa [Bool.and_eq_true, decide_eq_true_eq, decide_eq_true_eq] at ht
      have el : leaveQ x l s = (s.1 - x.width, s.2 - partI x) := by unfold leaveQ; rw [if_pos ht]
      have eg : greedyQ (x :: l) s = 2 ^ l.length + greedyQ l (s.1 - x.width, s.2 - partI x) := by
        rw [greedyQ_yes ht, el]
      obtain ⟨i1, i2, i3⟩ := ih w3 (s := (s.1 - x.width, s.2 - partI x)) (by dsimp only; omega) (by dsimp only; omega) hyes.2
      dsimp only at i1 i2 i3
      have hg2 := hg (s.1 - x.width, s.2 - partI x)
      rw [eg]
      have t1 := tot_high x.width (wsOf l) (b := greedyQ l (s.1 - x.width, s.2 - partI x)) (by rw [ws_len]; exact hg2)
      have t2 := tot_high (partI x) (lsOf l) (b := greedyQ l (s.1 - x.width, s.2 - partI x)) (by rw [ls_len]; exact hg2)
      rw [ws_len] at t1
      rw [ls_len] at t2
      refine ⟨by rw [ws_cons, t1]; omega, by rw [ls_cons, t2]; omega, fun c hc he hl => ?_⟩
      rw [ws_cons] at he
      rw [ls_cons] at hl
      rw [List.length_cons, Nat.pow_succ] at hc
      by_cases hlo : c < 2 ^ l.length
      · omega
      · have e1 := tot_high x.width (wsOf l) (b := c - 2 ^ l.length) (by rw [ws_len]; omega)
        have e2 := tot_high (partI x) (lsOf l) (b := c - 2 ^ l.length) (by rw [ls_len]; omega)
        rw [ws_len, show 2 ^ l.length + (c - 2 ^ l.length) = c by omega] at e1
        rw [ls_len, show 2 ^ l.length + (c - 2 ^ l.length) = c by omega] at e2
        have := i3 (c - 2 ^ l.length) (by omega) (by omega) (by omega)
        omega
/-- The greatest sum up to the room that fits into the long room. -/
structure IsMostT (l : List Itm) (room long most : Int) : Prop where
  ge : 0 ≤ most
  le : most ≤ room
  is : lst l most.toNat ≤ long
  none : ∀ i : Nat, most < (i : Int) → (i : Int) ≤ room → long < lst l i
theorem greedyQ_best {l : List Itm} (hw : (wsOf l).all wideB = true) {room long most : Int} (h : IsMostT l room long most) (h0 : 0 ≤ long) (h1 : long ≤ 256) : greedyQ l (most, long) = bestI l room long := by
  obtain ⟨i1, i2, i3⟩ := greedyQ_is hw (s := (most, long)) h.ge h1 h.is
  dsimp only at i1 i2 i3
  have hge := h.ge
  have hle := h.le
  refine bestI_one (B := 2 ^ l.length) ⟨greedyQ_lt l _, by omega, i2, fun c hc hf hl => ?_⟩ (bestI_is l (by omega) h0)
  rw [i1]
  have hn := (tot_bound hw c).1
  by_cases hm : most < tot (wsOf l) c
  · have q1 := h.none (tot (wsOf l) c).toNat (by omega) (by omega)
    have q2 := lst_least hw hc (i := (tot (wsOf l) c).toNat) (by omega)
    omega
  · by_cases e : tot (wsOf l) c = most
    · exact .inr ⟨e, i3 c hc e hl⟩
    · exact .inl (by omega)
theorem mostT_tot {l : List Itm} (hw : (wsOf l).all wideB = true) {room long most : Int} (h : IsMostT l room long most) (h0 : 0 ≤ long) (h1 : long ≤ 256) : tot (wsOf l) (bestI l room long) = most := by
  rw [← greedyQ_best hw h h0 h1]
  exact (greedyQ_is hw (s := (most, long)) h.ge h1 h.is).1
theorem lst_zero {l : List Itm} (hw : (wsOf l).all wideB = true) : lst l 0 = 0 := by
  have hb := (lst_bound hw 0).1
  have h := lst_least hw (Nat.two_pow_pos l.length) (i := 0) (by rw [tot_zero]; rfl)
  rw [tot_zero] at h
  omega
end Go.Proofs.Ytkaepadkdohmpaa.TwnPlain
