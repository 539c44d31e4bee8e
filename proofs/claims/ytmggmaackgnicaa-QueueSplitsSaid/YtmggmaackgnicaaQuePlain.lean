/-
  The plain mathematics of layer 9: which classes may be, which widths and lengths each has, which ones meet, why classes may not be; which class has a width and a length; jobs by their classes.
-/
import Derived.Test.YtmggmaackgnicaaApiPlain
import Derived.Test.YtmggmaackgnicaaJobPlain
import Derived.Lib.Hide
namespace Go.Proofs.Ytmggmaackgnicaa.QuePlain
open Go.RowKit Go.Proofs.Ytmggmaackgnicaa.ApiPlain Go.Proofs.Ytmggmaackgnicaa.JobPlain
def mayC (c : Cl) : Bool := nameB c.name && (decide (1 ≤ c.minW) && (decide (c.minW ≤ c.maxW) && (decide (c.maxW ≤ 256) && (decide (1 ≤ c.minE) && (decide (c.minE ≤ c.maxE) && decide (c.maxE ≤ 1099511627776))))))
theorem mayC_iff (c : Cl) : mayC c = true ↔ nameB c.name = true ∧ 1 ≤ c.minW ∧ c.minW ≤ c.maxW ∧ c.maxW ≤ 256 ∧ 1 ≤ c.minE ∧ c.minE ≤ c.maxE ∧ c.maxE ≤ 1099511627776 := by
  unfold mayC
  simp only [Bool.and_eq_true, decide_eq_true_eq]
theorem mayC_ways (c : Cl) : (nameB c.name = false ∧ mayC c = false) ∨ (nameB c.name = true ∧ decide (1 ≤ c.minW) = false ∧ mayC c = false) ∨ (nameB c.name = true ∧ decide (1 ≤ c.minW) = true ∧ decide (c.minW ≤ c.maxW) = false ∧ mayC c = false) ∨
    (nameB c.name = true ∧ decide (1 ≤ c.minW) = true ∧ decide (c.minW ≤ c.maxW) = true ∧ decide (c.maxW ≤ 256) = false ∧ mayC c = false) ∨ (nameB c.name = true ∧ decide (1 ≤ c.minW) = true ∧ decide (c.minW ≤ c.maxW) = true ∧ decide (c.maxW ≤ 256) = true ∧ decide (1 ≤ c.minE) = false ∧ mayC c = false) ∨
    (nameB c.name = true ∧ decide (1 ≤ c.minW) = true ∧ decide (c.minW ≤ c.maxW) = true ∧ decide (c.maxW ≤ 256) = true ∧ decide (1 ≤ c.minE) = true ∧ decide (c.minE ≤ c.maxE) = false ∧ mayC c = false) ∨
    (nameB c.name = true ∧ decide (1 ≤ c.minW) = true ∧ decide (c.minW ≤ c.maxW) = true ∧ decide (c.maxW ≤ 256) = true ∧ decide (1 ≤ c.minE) = true ∧ decide (c.minE ≤ c.maxE) = true ∧ decide (c.maxE ≤ 1099511627776) = false ∧ mayC c = false) ∨
    (nameB c.name = true ∧ decide (1 ≤ c.minW) = true ∧ decide (c.minW ≤ c.maxW) = true ∧ decide (c.maxW ≤ 256) = true ∧ decide (1 ≤ c.minE) = true ∧ decide (c.minE ≤ c.maxE) = true ∧ decide (c.maxE ≤ 1099511627776) = true ∧ mayC c = true) := by
  unfold mayC
  cases nameB c.name <;> cases decide (1 ≤ c.minW) <;> cases decide (c.minW ≤ c.maxW) <;> cases decide (c.maxW ≤ 256) <;> cases decide (1 ≤ c.minE) <;> cases decide (c.minE ≤ c.maxE) <;> cases decide (c.maxE ≤ 1099511627776) <;> simp
def hasC (c : Cl) (w e : Int) : Bool := mayC c && (decide (c.minW ≤ w) && (decide (w ≤ c.maxW) && (decide (c.minE ≤ e) && decide (e ≤ c.maxE))))
theorem hasC_iff (c : Cl) (w e : Int) : hasC c w e = true ↔ mayC c = true ∧ c.minW ≤ w ∧ w ≤ c.maxW ∧ c.minE ≤ e ∧ e ≤ c.maxE := by
  unfold hasC
  simp only [Bool.and_eq_true, decide_eq_true_eq]
theorem hasC_ways (c : Cl) (w e : Int) : (mayC c = false ∧ hasC c w e = false) ∨ (mayC c = true ∧ decide (c.minW ≤ w) = false ∧ hasC c w e = false) ∨ (mayC c = true ∧ decide (c.minW ≤ w) = true ∧ decide (w ≤ c.maxW) = false ∧ hasC c w e = false) ∨
    (mayC c = true ∧ decide (c.minW ≤ w) = true ∧ decide (w ≤ c.maxW) = true ∧ decide (c.minE ≤ e) = false ∧ hasC c w e = false) ∨ (mayC c = true ∧ decide (c.minW ≤ w) = true ∧ decide (w ≤ c.maxW) = true ∧ decide (c.minE ≤ e) = true ∧ decide (e ≤ c.maxE) = false ∧ hasC c w e = false) ∨
    (mayC c = true ∧ decide (c.minW ≤ w) = true ∧ decide (w ≤ c.maxW) = true ∧ decide (c.minE ≤ e) = true ∧ decide (e ≤ c.maxE) = true ∧ hasC c w e = true) := by
  unfold hasC
  cases mayC c <;> cases decide (c.minW ≤ w) <;> cases decide (w ≤ c.maxW) <;> cases decide (c.minE ≤ e) <;> cases decide (e ≤ c.maxE) <;> simp
def meetC (a b : Cl) : Bool := hasC a (max a.minW b.minW) (max a.minE b.minE) && hasC b (max a.minW b.minW) (max a.minE b.minE)
theorem meet_of {a b : Cl} {w e : Int} (h1 : hasC a w e = true) (h2 : hasC b w e = true) : meetC a b = true := by
  obtain ⟨a0, a1, a2, a3, a4⟩ := (hasC_iff a w e).1 h1
  obtain ⟨b0, b1, b2, b3, b4⟩ := (hasC_iff b w e).1 h2
  unfold meetC
  rw [Bool.and_eq_true]
  exact ⟨(hasC_iff _ _ _).2 ⟨a0, by omega, by omega, by omega, by omega⟩, (hasC_iff _ _ _).2 ⟨b0, by omega, by omega, by omega, by omega⟩⟩
def clash (a b : Cl) : Bool := (a.name.toList == b.name.toList) || meetC a b
def nthC (l : List Cl) (k : Nat) : Cl := l.getD k noCl
theorem nthC_at {l : List Cl} {k : Nat} (h : k < l.length) : nthC l k = l[k] := by unfold nthC; simp [List.getD, h]
/-- The first i classes are of unlike names, and none meets another one. -/
def apartAt (l : List Cl) (i k : Nat) : Bool := (List.range k).all fun j => !clash (nthC l i) (nthC l j)
def apartTo (l : List Cl) (n : Nat) : Bool := (List.range n).all fun i => apartAt l i i
theorem apartAt_next (l : List Cl) (i k : Nat) : apartAt l i (k + 1) = (apartAt l i k && !clash (nthC l i) (nthC l k)) := by unfold apartAt; rw [List.range_succ, List.all_append]; simp
theorem apartTo_next (l : List Cl) (n : Nat) : apartTo l (n + 1) = (apartTo l n && apartAt l n n) := by unfold apartTo; rw [List.range_succ, List.all_append]; simp
theorem apartAt_no {l : List Cl} {i k n : Nat} (hk : k < n) (h : clash (nthC l i) (nthC l k) = true) : apartAt l i n = false := by
  unfold apartAt
  rw [List.all_eq_false]
  exact ⟨k, List.mem_range.2 hk, by rw [h]; decide⟩
theorem apartTo_no {l : List Cl} {i n : Nat} (hi : i < n) (h : apartAt l i i = false) : apartTo l n = false := by
  unfold apartTo
  rw [List.all_eq_false]
  exact ⟨i, List.mem_range.2 hi, by rw [h]; decide⟩
theorem apart_pair {l : List Cl} {n i k : Nat} (h : apartTo l n = true) (hi : i < n) (hk : k < i) : clash (nthC l i) (nthC l k) = false := by
  unfold apartTo at h
  rw [List.all_eq_true] at h
  have h2 := h i (List.mem_range.2 hi)
  unfold apartAt at h2
  rw [List.all_eq_true] at h2
  have h3 := h2 k (List.mem_range.2 hk)
  simpa using h3
/-- Why classes may not be; 0: they may. -/
def checkC (l : List Cl) : Int := if 20 < l.length then 4 else if l.all mayC = false then 1 else if apartTo l l.length = true then 0 else 7
theorem checkC_full {l : List Cl} (h : 20 < l.length) : checkC l = 4 := by unfold checkC; rw [if_pos h]
theorem checkC_arg {l : List Cl} (h : ¬ 20 < l.length) (h2 : l.all mayC = false) : checkC l = 1 := by unfold checkC; rw [if_neg h, if_pos h2]
theorem checkC_there {l : List Cl} (h : ¬ 20 < l.length) (h2 : l.all mayC = true) (h3 : apartTo l l.length = false) : checkC l = 7 := by unfold checkC; rw [if_neg h, if_neg (by rw [h2]; decide), if_neg (by rw [h3]; decide)]
theorem checkC_ok {l : List Cl} (h : ¬ 20 < l.length) (h2 : l.all mayC = true) (h3 : apartTo l l.length = true) : checkC l = 0 := by unfold checkC; rw [if_neg h, if_neg (by rw [h2]; decide), if_pos h3]
theorem checkC_zero {l : List Cl} (h : checkC l = 0) : l.length ≤ 20 ∧ l.all mayC = true ∧ apartTo l l.length = true := by
  unfold checkC at h
  split at h
  · omega
  · split at h
    · omega
    · split at h
      · refine ⟨by omega, ?_, by assumption⟩
        cases hb : l.all mayC with
        | true => rfl
        | false => contradiction
      · omega
theorem checkC_cases (l : List Cl) : checkC l = 4 ∨ checkC l = 1 ∨ checkC l = 7 ∨ checkC l = 0 := by
  unfold checkC
  split
  · exact .inl rfl
  · split
    · exact .inr (.inl rfl)
    · split
      · exact .inr (.inr (.inr rfl))
      · exact .inr (.inr (.inl rfl))
theorem all_no {l : List Cl} {k : Nat} (hk : k < l.length) (h : mayC (nthC l k) = false) : l.all mayC = false := by
  rw [List.all_eq_false]
  exact ⟨nthC l k, by rw [nthC_at hk]; exact List.getElem_mem hk, by rw [h]; decide⟩
def MayTo (l : List Cl) (k : Nat) : Prop := ∀ i, i < k → i < l.length → mayC (nthC l i) = true
theorem MayTo.next {l : List Cl} {k : Nat} (h : MayTo l k) (hk : mayC (nthC l k) = true) : MayTo l (k + 1) := fun i hi hl => by
  rcases Nat.lt_or_ge i k with h1 | h1
  · exact h i h1 hl
  · obtain rfl : i = k := by omega
    exact hk
theorem MayTo.all {l : List Cl} {k : Nat} (h : MayTo l k) (hk : l.length ≤ k) : l.all mayC = true := by
  rw [List.all_eq_true]
  intro c hc
  obtain ⟨i, hi, rfl⟩ := List.mem_iff_getElem.1 hc
  rw [← nthC_at hi]
  exact h i (by omega) hi
/-- The class of a width and a length: the first one from a place on; -1: none. -/
def ofFrom (l : List Cl) (w e : Int) (k : Nat) : Int := if h : k < l.length then if hasC (nthC l k) w e = true then (k : Int) else ofFrom l w e (k + 1) else -1
termination_by l.length - k
def ofC (l : List Cl) (w e : Int) : Int := ofFrom l w e 0
theorem of_yes {l : List Cl} {w e : Int} {k : Nat} (hk : k < l.length) (h : hasC (nthC l k) w e = true) : ofFrom l w e k = k := by rw [ofFrom, dif_pos hk, if_pos h]
theorem of_next {l : List Cl} {w e : Int} {k : Nat} (hk : k < l.length) (h : hasC (nthC l k) w e = false) : ofFrom l w e k = ofFrom l w e (k + 1) := by rw [ofFrom, dif_pos hk, if_neg (by rw [h]; decide)]
theorem of_end {l : List Cl} {w e : Int} {k : Nat} (hk : l.length ≤ k) : ofFrom l w e k = -1 := by rw [ofFrom, dif_neg (by omega)]
theorem of_range (l : List Cl) (w e : Int) : ∀ d k, l.length - k = d → ofFrom l w e k = -1 ∨ ∃ i : Nat, k ≤ i ∧ i < l.length ∧ ofFrom l w e k = i ∧ hasC (nthC l i) w e = true := by
  intro d
  induction d with
  | zero => intro k hk; exact .inl (of_end (by omega))
  | succ d ih =>
    intro k hk
    cases hb : hasC (nthC l k) w e with
    | true => exact .inr ⟨k, Nat.le_refl _, by omega, of_yes (by omega) hb, hb⟩
    | false =>
      rw [of_next (by omega) hb]
      rcases ih (k + 1) (by omega) with h | ⟨i, h1, h2, h3, h4⟩
      · exact .inl h
      · exact .inr ⟨i, by omega, h2, h3, h4⟩
theorem ofC_cases (l : List Cl) (w e : Int) : ofC l w e = -1 ∨ ∃ i : Nat, i < l.length ∧ ofC l w e = i ∧ hasC (nthC l i) w e = true := by
  rcases of_range l w e _ 0 rfl with h | ⟨i, _, h2, h3, h4⟩
  · exact .inl h
  · exact .inr ⟨i, h2, h3, h4⟩
/-- What Find tells. -/
def findB (l : List Cl) (w e : Int) : Bool := decide (checkC l = 0) && decide (0 ≤ ofC l w e)
def findN (l : List Cl) (w e : Int) : Int := if findB l w e = true then ofC l w e else 0
/-- How many of the first k classes have a width and a length. -/
def cntC (l : List Cl) (w e : Int) (k : Nat) : Nat := ((List.range k).filter fun i => hasC (nthC l i) w e).length
theorem cnt_next (l : List Cl) (w e : Int) (k : Nat) : cntC l w e (k + 1) = cntC l w e k + if hasC (nthC l k) w e = true then 1 else 0 := by
  unfold cntC
  rw [List.range_succ, List.filter_append, List.length_append]
  cases h : hasC (nthC l k) w e <;> simp [h]
theorem cnt_le (l : List Cl) (w e : Int) (k : Nat) : cntC l w e k ≤ k := by
  unfold cntC
  exact Nat.le_trans (List.length_filter_le _ _) (by simp)
/-- Classes that may be: one at most has a width and a length. -/
theorem cnt_one {l : List Cl} (h : checkC l = 0) (w e : Int) : ∀ k, k ≤ l.length → cntC l w e k ≤ 1 := by
  obtain ⟨_, _, hap⟩ := checkC_zero h
  intro k
  induction k with
  | zero => intro _; simp [cntC]
  | succ k ih =>
    intro hk
    rw [cnt_next]
    have h0 := ih (by omega)
    cases hb : hasC (nthC l k) w e with
    | false => simpa using h0
    | true =>
      have hz : cntC l w e k = 0 := by
        unfold cntC
        rw [List.length_eq_zero_iff, List.filter_eq_nil_iff]
        intro i hi hi2
        have hi' := List.mem_range.1 hi
        have h1 := apart_pair hap (show k < l.length by omega) hi'
        unfold clash at h1
        rw [meet_of hb hi2] at h1
        simp at h1
      simp [hz]
/-- Jobs by their classes. -/
def pickJ (l : List Cl) (c : Int) (js : List Jb) : List Jb := js.filter fun j => decide (ofC l j.width j.est = c)
def splitC (l : List Cl) (js : List Jb) : List (List Jb) := (List.range l.length).map fun (i : Nat) => pickJ l (i : Int) js
theorem split_len (l : List Cl) (js : List Jb) : (splitC l js).length = l.length := by simp [splitC]
theorem split_at (l : List Cl) (js : List Jb) {i : Nat} (hi : i < l.length) : (splitC l js)[i]? = some (pickJ l i js) := by simp [splitC, hi]
theorem pick_take (l : List Cl) (c : Int) (js : List Jb) {k : Nat} (hk : k < js.length) : pickJ l c (js.take (k + 1)) = pickJ l c (js.take k) ++ if ofC l js[k].width js[k].est = c then [js[k]] else [] := by
  unfold pickJ
  rw [List.take_succ_eq_append_getElem hk, List.filter_append]
  congr 1
  by_cases h : ofC l js[k].width js[k].est = c <;> simp [h]
end Go.Proofs.Ytmggmaackgnicaa.QuePlain
