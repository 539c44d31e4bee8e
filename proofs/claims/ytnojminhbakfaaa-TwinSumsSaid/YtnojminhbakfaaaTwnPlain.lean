/-
  The plain mathematics of layer 13: choices of items in two rooms, as bits; the fullest one.
-/
import Derived.Test.YtnojminhbakfaaaSubPlain
import Derived.Test.YtnojminhbakfaaaApiPlain
namespace Go.Proofs.Ytnojminhbakfaaa.TwnPlain
open Go.Proofs.Ytnojminhbakfaaa.SubPlain Go.Proofs.Ytnojminhbakfaaa.ApiPlain
def wsOf (l : List Itm) : List Int := l.map fun x => x.width
def lsOf (l : List Itm) : List Int := l.map fun x => if x.long = true then x.width else 0
theorem ws_len (l : List Itm) : (wsOf l).length = l.length := by simp [wsOf]
theorem ls_len (l : List Itm) : (lsOf l).length = l.length := by simp [lsOf]
theorem ws_at {l : List Itm} {k : Nat} (h : k < l.length) : (wsOf l)[k]'(by rw [ws_len]; exact h) = l[k].width := by simp [wsOf]
theorem ls_at {l : List Itm} {k : Nat} (h : k < l.length) : (lsOf l)[k]'(by rw [ls_len]; exact h) = if l[k].long = true then l[k].width else 0 := by simp [lsOf]
def mayT (l : List Itm) : Bool := (wsOf l).all wideB && decide (l.length ≤ 32)
theorem mayT_all {l : List Itm} (h : mayT l = true) : (wsOf l).all wideB = true ∧ l.length ≤ 32 := by
  unfold mayT at h
  rw [Bool.and_eq_true, decide_eq_true_eq] at h
  exact h
theorem mayT_W {l : List Itm} (h : mayT l = true) : mayW (wsOf l) = true := by
  obtain ⟨h1, h2⟩ := mayT_all h
  unfold mayW
  rw [h1, ws_len, decide_eq_true (by omega)]
  rfl
theorem mayW_T {l : List Itm} (h : l.length ≤ 32) : mayW (wsOf l) = mayT l := by
  unfold mayW mayT
  rw [ws_len, decide_eq_true (p := l.length ≤ 64) (by omega), decide_eq_true h]
/-- The long ones' widths are no more than all. -/
theorem longs_le {l : List Itm} (h : (wsOf l).all wideB = true) (b : Nat) : 0 ≤ tot (lsOf l) b ∧ tot (lsOf l) b ≤ tot (wsOf l) b := by
  induction l with
  | nil => simp [wsOf, lsOf, tot]
  | cons x l ih =>
    have h0 : wideB x.width = true ∧ (wsOf l).all wideB = true := by
      unfold wsOf at h ⊢
      rw [List.map_cons, List.all_cons, Bool.and_eq_true] at h
      exact h
    obtain ⟨h1, h2⟩ := h0
    have h3 := ih h2
    unfold wideB at h1
    rw [Bool.and_eq_true, decide_eq_true_eq, decide_eq_true_eq] at h1
    have e1 : wsOf (x :: l) = x.width :: wsOf l := rfl
    have e2 : lsOf (x :: l) = (if x.long = true then x.width else 0) :: lsOf l := rfl
    rw [e1, e2]
    unfold tot
    rw [ws_len, ls_len]
    have hy : 0 ≤ (if x.long = true then x.width else 0) ∧ (if x.long = true then x.width else 0) ≤ x.width := by split <;> omega
    generalize (if x.long = true then x.width else 0) = y at *
    split <;> omega
theorem longTo_bound {l : List Itm} (h : (wsOf l).all wideB = true) (b k : Nat) (hk : k ≤ l.length) : 0 ≤ totTo (lsOf l) b k ∧ totTo (lsOf l) b k ≤ 256 * k := by
  induction k with
  | zero => rw [totTo_zero]; omega
  | succ k ih =>
    have h1 := ih (by omega)
    have hk2 : k < l.length := hk
    rw [totTo_succ b (by rw [ls_len]; omega), ls_at hk2]
    have h2 : wideB l[k].width = true := by
      rw [List.all_eq_true] at h
      exact h _ (by rw [← ws_at hk2]; exact List.getElem_mem _)
    unfold wideB at h2
    rw [Bool.and_eq_true, decide_eq_true_eq, decide_eq_true_eq] at h2
    have hy : 0 ≤ (if l[k].long = true then l[k].width else 0) ∧ (if l[k].long = true then l[k].width else 0) ≤ l[k].width := by split <;> omega
    generalize (if l[k].long = true then l[k].width else 0) = y at *
    split <;> omega
/-- The fullest of the first choices; of these the one with the greatest bits. -/
def takesT (l : List Itm) (room long : Int) (b best : Nat) : Bool := decide (tot (wsOf l) b ≤ room) && (decide (tot (lsOf l) b ≤ long) && decide (tot (wsOf l) best ≤ tot (wsOf l) b))
def bestT (l : List Itm) (room long : Int) : Nat → Nat
  | 0 => 0
  | b + 1 => if takesT l room long b (bestT l room long b) = true then b else bestT l room long b
def bestI (l : List Itm) (room long : Int) : Nat := bestT l room long (2 ^ l.length)
theorem bestT_step (l : List Itm) (room long : Int) (b : Nat) : bestT l room long (b + 1) = if takesT l room long b (bestT l room long b) = true then b else bestT l room long b := rfl
theorem bestT_le (l : List Itm) (room long : Int) : ∀ B, bestT l room long B ≤ B
  | 0 => Nat.le_refl _
  | B + 1 => by
    have h := bestT_le l room long B
    rw [bestT_step]
    split <;> omega
/-- In a long room that is as great as the room the long ones count as the others. -/
theorem best_alike {l : List Itm} (h : (wsOf l).all wideB = true) (room : Int) : ∀ B, bestT l room room B = bestTo (wsOf l) room B
  | 0 => rfl
  | B + 1 => by
    have hs : bestTo (wsOf l) room (B + 1) = if takesB (wsOf l) room B (bestTo (wsOf l) room B) = true then B else bestTo (wsOf l) room B := rfl
    rw [bestT_step, hs, best_alike h room B]
    have e : takesT l room room B (bestTo (wsOf l) room B) = takesB (wsOf l) room B (bestTo (wsOf l) room B) := by
      unfold takesT takesB
      have h1 := longs_le h B
      by_cases h2 : tot (wsOf l) B ≤ room
      · rw [decide_eq_true h2, decide_eq_true (p := tot (lsOf l) B ≤ room) (by omega), Bool.true_and, Bool.true_and]
      · rw [decide_eq_false h2, Bool.false_and, Bool.false_and]
    rw [e]
theorem bestI_alike {l : List Itm} (h : (wsOf l).all wideB = true) (room : Int) : bestI l room room = bestB (wsOf l) room := by
  unfold bestI bestB
  rw [best_alike h room, ws_len]
structure IsBestT (l : List Itm) (room long : Int) (B b : Nat) : Prop where
  lt : b < B
  fits : tot (wsOf l) b ≤ room
  longs : tot (lsOf l) b ≤ long
  most : ∀ c, c < B → tot (wsOf l) c ≤ room → tot (lsOf l) c ≤ long → tot (wsOf l) c < tot (wsOf l) b ∨ (tot (wsOf l) c = tot (wsOf l) b ∧ c ≤ b)
theorem bestT_is (l : List Itm) {room long : Int} (hr : 0 ≤ room) (hg : 0 ≤ long) (B : Nat) : IsBestT l room long (B + 1) (bestT l room long (B + 1)) := by
  induction B with
  | zero =>
    have h0 : bestT l room long (0 + 1) = 0 := by rw [bestT_step]; split <;> rfl
    rw [h0]
    refine ⟨by omega, by rw [tot_zero]; exact hr, by rw [tot_zero]; exact hg, fun c hc _ _ => ?_⟩
    have : c = 0 := by omega
    subst this
    exact .inr ⟨rfl, Nat.le_refl _⟩
  | succ B ih =>
    rw [bestT_step]
    obtain ⟨h1, h2, h2b, h3⟩ := ih
    generalize bestT l room long (B + 1) = m at *
    cases ht : takesT l room long (B + 1) m with
    | true =>
      rw [if_pos rfl]
      unfold takesT at ht
      rw [Bool.and_eq_true, Bool.and_eq_true, decide_eq_true_eq, decide_eq_true_eq, decide_eq_true_eq] at ht
      refine ⟨by omega, ht.1, ht.2.1, fun c hc hf hl => ?_⟩
      by_cases e : c = B + 1
      · subst e; exact .inr ⟨rfl, Nat.le_refl _⟩
      · rcases h3 c (by omega) hf hl with h | ⟨h, h'⟩
        · exact .inl (by omega)
        · by_cases e2 : tot (wsOf l) c = tot (wsOf l) (B + 1)
          · exact .inr ⟨e2, by omega⟩
          · exact .inl (by omega)
    | false =>
      rw [if_neg (by decide)]
      unfold takesT at ht
      rw [Bool.and_eq_false_iff, Bool.and_eq_false_iff, decide_eq_false_iff_not, decide_eq_false_iff_not, decide_eq_false_iff_not] at ht
      refine ⟨by omega, h2, h2b, fun c hc hf hl => ?_⟩
      by_cases e : c = B + 1
      · subst e
        rcases ht with ht | ht | ht
        · exact absurd hf ht
        · exact absurd hl ht
        · exact .inl (by omega)
      · exact h3 c (by omega) hf hl
theorem bestI_is (l : List Itm) {room long : Int} (hr : 0 ≤ room) (hg : 0 ≤ long) : IsBestT l room long (2 ^ l.length) (bestI l room long) := by
  unfold bestI
  have : 2 ^ l.length = (2 ^ l.length - 1) + 1 := by have := Nat.two_pow_pos l.length; omega
  rw [this]
  exact bestT_is l hr hg _
theorem bestI_one {l : List Itm} {room long : Int} {B a b : Nat} (ha : IsBestT l room long B a) (hb : IsBestT l room long B b) : a = b := by
  have h1 := ha.most b hb.lt hb.fits hb.longs
  have h2 := hb.most a ha.lt ha.fits ha.longs
  omega
/-- Any places: whether items may be, and they rise and are there; the widths. -/
def okT (l : List Itm) (ps : List Int) : Bool := mayT l && okP (wsOf l) ps
def fitsT (l : List Itm) (ps : List Int) (room long : Int) : Bool :=
  okT l ps && (decide (0 ≤ room) && (decide (room ≤ 256) && (decide (0 ≤ long) && (decide (long ≤ 256) && (decide (sumP (wsOf l) ps ≤ room) && decide (sumP (lsOf l) ps ≤ long))))))
theorem wAt_longs {l : List Itm} (h : (wsOf l).all wideB = true) (p : Int) : 0 ≤ wAt (lsOf l) p ∧ wAt (lsOf l) p ≤ 256 := by
  unfold wAt
  by_cases hp : p.toNat < l.length
  · have h2 : wideB l[p.toNat].width = true := by
      rw [List.all_eq_true] at h
      exact h _ (by rw [← ws_at hp]; exact List.getElem_mem _)
    unfold wideB at h2
    rw [Bool.and_eq_true, decide_eq_true_eq, decide_eq_true_eq] at h2
    rw [List.getD_eq_getElem?_getD, List.getElem?_eq_getElem (by rw [ls_len]; exact hp), Option.getD_some, ls_at hp]
    split <;> omega
  · rw [List.getD_eq_getElem?_getD, List.getElem?_eq_none (by rw [ls_len]; omega)]
    simp
theorem sumTo_longs {l : List Itm} (h : (wsOf l).all wideB = true) (ps : List Int) (k : Nat) : 0 ≤ sumTo (lsOf l) ps k ∧ sumTo (lsOf l) ps k ≤ 256 * k := by
  induction k with
  | zero => simp [sumTo]
  | succ k ih =>
    have := wAt_longs h (ps.getD k 0)
    unfold sumTo
    omega
theorem ex_bestI : bestI [⟨3, true⟩, ⟨3, false⟩] 6 2 = 1 := by decide +kernel
theorem ex_placesI : placesB 2 1 = [1] := by decide +kernel
theorem ex_totI : tot (wsOf [⟨3, true⟩, ⟨3, false⟩]) 1 = 3 := by decide +kernel
theorem ex_mayI : mayT [⟨3, true⟩, ⟨3, false⟩] = true := by decide +kernel
end Go.Proofs.Ytnojminhbakfaaa.TwnPlain
