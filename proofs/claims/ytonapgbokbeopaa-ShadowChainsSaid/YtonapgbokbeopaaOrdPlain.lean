/-
  The plain mathematics of layer 8: which job is ahead; jobs with one put in its place; jobs in order; the place of an Id.
-/
import Derived.Test.YtonapgbokbeopaaJobPlain
namespace Go.Proofs.Ytonapgbokbeopaa.OrdPlain
open Go.Proofs.Ytonapgbokbeopaa.JobPlain
def aheadB (a b : Jb) : Bool := if (a.prio != b.prio) = true then decide (b.prio < a.prio) else if (a.sub != b.sub) = true then decide (a.sub < b.sub) else decide (a.id < b.id)
theorem ahead_iff (a b : Jb) : aheadB a b = true ↔ (b.prio < a.prio ∨ (a.prio = b.prio ∧ (a.sub < b.sub ∨ (a.sub = b.sub ∧ a.id < b.id)))) := by
  unfold aheadB
  by_cases h1 : a.prio = b.prio
  · rw [if_neg (by simp [h1])]
    by_cases h2 : a.sub = b.sub
    · rw [if_neg (by simp [h2]), decide_eq_true_eq]; omega
    · rw [if_pos (by simpa using h2), decide_eq_true_eq]; omega
  · rw [if_pos (by simpa using h1), decide_eq_true_eq]; omega
theorem ahead_no (a b : Jb) : aheadB a b = false ↔ ¬ (b.prio < a.prio ∨ (a.prio = b.prio ∧ (a.sub < b.sub ∨ (a.sub = b.sub ∧ a.id < b.id)))) := by rw [← ahead_iff]; simp
theorem ahead_self (a : Jb) : aheadB a a = false := (ahead_no a a).2 (by omega)
theorem ahead_trans {a b c : Jb} (h : aheadB a b = true) (k : aheadB b c = true) : aheadB a c = true := by rw [ahead_iff] at *; omega
theorem ahead_one {a b : Jb} (h : a.id ≠ b.id) : aheadB a b = !aheadB b a := by
  cases hb : aheadB b a with
  | true => rw [ahead_iff] at hb; exact (ahead_no a b).2 (by omega)
  | false => rw [ahead_no] at hb; exact (ahead_iff a b).2 (by omega)
theorem no_trans {a b c : Jb} (h : aheadB a b = false) (k : aheadB b c = false) : aheadB a c = false := by rw [ahead_no] at *; omega
/-- One put in front of the first one that it is ahead of, or behind all. -/
def putL : List Jb → Jb → List Jb
  | [], j => [j]
  | e :: l, j => if aheadB j e = true then j :: e :: l else e :: putL l j
def sortL (l : List Jb) : List Jb := l.foldl putL []
theorem put_len (l : List Jb) (j : Jb) : (putL l j).length = l.length + 1 := by
  induction l with
  | nil => rfl
  | cons e l ih => unfold putL; split <;> simp [ih]
theorem sort_len (l : List Jb) : (sortL l).length = l.length := by
  suffices h : ∀ (l m : List Jb), (l.foldl putL m).length = m.length + l.length from by have := h l []; simpa [sortL] using this
  intro l
  induction l with
  | nil => intro m; rfl
  | cons e l ih => intro m; rw [List.foldl_cons, ih, put_len, List.length_cons]; omega
/-- None is ahead of one that stands in front of it. -/
def Sorted (l : List Jb) : Prop := l.Pairwise fun x y => aheadB y x = false
theorem put_mem {l : List Jb} {j x : Jb} (h : x ∈ putL l j) : x = j ∨ x ∈ l := by
  induction l with
  | nil => simp [putL] at h; exact .inl h
  | cons e l ih =>
    unfold putL at h
    split at h
    · rcases List.mem_cons.1 h with h | h
      · exact .inl h
      · exact .inr h
    · rcases List.mem_cons.1 h with h | h
      · exact .inr (by simp [h])
      · rcases ih h with h | h
        · exact .inl h
        · exact .inr (by simp [h])
theorem put_sorted {l : List Jb} (h : Sorted l) (j : Jb) : Sorted (putL l j) := by
  induction l with
  | nil => exact List.pairwise_singleton _ _
  | cons e l ih =>
    obtain ⟨h1, h2⟩ := List.pairwise_cons.1 h
    unfold putL
    split
    · rename_i hj
      refine List.pairwise_cons.2 ⟨fun y hy => ?_, h⟩
      rcases List.mem_cons.1 hy with rfl | hy
      · cases hyj : aheadB y j with
        | false => rfl
        | true => have := ahead_trans hj hyj; rw [ahead_self] at this; cases this
      · cases hyj : aheadB y j with
        | false => rfl
        | true => have := ahead_trans hyj hj; rw [h1 y hy] at this; cases this
    · rename_i hj
      refine List.pairwise_cons.2 ⟨fun y hy => ?_, ih h2⟩
      rcases put_mem hy with rfl | hy
      · simpa using hj
      · exact h1 y hy
theorem sort_sorted (l : List Jb) : Sorted (sortL l) := by
  suffices h : ∀ (l m : List Jb), Sorted m → Sorted (l.foldl putL m) from h l [] List.Pairwise.nil
  intro l
  induction l with
  | nil => intro m hm; exact hm
  | cons e l ih => intro m hm; exact ih _ (put_sorted hm e)
theorem sort_take {l : List Jb} {k : Nat} (hk : k < l.length) : sortL (l.take (k + 1)) = putL (sortL (l.take k)) l[k] := by
  unfold sortL
  rw [List.take_succ_eq_append_getElem hk, List.foldl_append]
  rfl
/-- How putting goes on: is it done; what stands there. -/
def doneTo (l : List Jb) (j : Jb) (k : Nat) : Bool := (l.take k).any (aheadB j)
def outTo (l : List Jb) (j : Jb) (k : Nat) : List Jb := if doneTo l j k then putL (l.take k) j else l.take k
theorem any_snoc (l : List Jb) (j e : Jb) : (l ++ [e]).any (aheadB j) = (l.any (aheadB j) || aheadB j e) := by simp
theorem put_snoc_done {l : List Jb} {j : Jb} (h : l.any (aheadB j) = true) (e : Jb) : putL (l ++ [e]) j = putL l j ++ [e] := by
  induction l with
  | nil => cases h
  | cons x l ih =>
    rw [List.cons_append]
    unfold putL
    by_cases hx : aheadB j x = true
    · rw [if_pos hx, if_pos hx]; rfl
    · rw [if_neg hx, if_neg hx]
      have : l.any (aheadB j) = true := by rw [List.any_cons] at h; simpa [hx] using h
      rw [ih this]; rfl
theorem put_snoc_now {l : List Jb} {j : Jb} (h : l.any (aheadB j) = false) {e : Jb} (he : aheadB j e = true) : putL (l ++ [e]) j = l ++ [j, e] := by
  induction l with
  | nil => show putL [e] j = [j, e]; unfold putL; rw [if_pos he]
  | cons x l ih =>
    rw [List.any_cons, Bool.or_eq_false_iff] at h
    rw [List.cons_append]
    unfold putL
    rw [if_neg (by rw [h.1]; decide), ih h.2]; rfl
theorem put_end {l : List Jb} {j : Jb} (h : l.any (aheadB j) = false) : putL l j = l ++ [j] := by
  induction l with
  | nil => rfl
  | cons x l ih =>
    rw [List.any_cons, Bool.or_eq_false_iff] at h
    unfold putL
    rw [if_neg (by rw [h.1]; decide), ih h.2]; rfl
theorem out_next {l : List Jb} {j : Jb} {k : Nat} (hk : k < l.length) :
    (doneTo l j k = true ∧ doneTo l j (k + 1) = true ∧ outTo l j (k + 1) = outTo l j k ++ [l[k]]) ∨
    (doneTo l j k = false ∧ aheadB j l[k] = true ∧ doneTo l j (k + 1) = true ∧ outTo l j (k + 1) = outTo l j k ++ [j] ++ [l[k]]) ∨
    (doneTo l j k = false ∧ aheadB j l[k] = false ∧ doneTo l j (k + 1) = false ∧ outTo l j (k + 1) = outTo l j k ++ [l[k]]) := by
  have ht := List.take_succ_eq_append_getElem hk
  unfold outTo doneTo
  rw [ht, any_snoc]
  cases hd : (l.take k).any (aheadB j) with
  | true =>
    refine .inl ⟨rfl, rfl, ?_⟩
    simp only [Bool.true_or, if_true]
    exact put_snoc_done hd _
  | false =>
    cases ha : aheadB j l[k] with
    | true =>
      refine .inr (.inl ⟨rfl, rfl, rfl, ?_⟩)
      simp only [Bool.or_true, if_true]
      rw [put_snoc_now hd ha]
      simp
    | false => exact .inr (.inr ⟨rfl, rfl, rfl, by simp⟩)
theorem out_end (l : List Jb) (j : Jb) : (doneTo l j l.length = true ∧ putL l j = outTo l j l.length) ∨ (doneTo l j l.length = false ∧ putL l j = outTo l j l.length ++ [j]) := by
  unfold outTo doneTo
  rw [List.take_length]
  cases hd : l.any (aheadB j) with
  | true => exact .inl ⟨rfl, rfl⟩
  | false => exact .inr ⟨rfl, put_end hd⟩
theorem out_len (l : List Jb) (j : Jb) (k : Nat) : (outTo l j k).length ≤ l.length + 1 := by
  unfold outTo
  split
  · rw [put_len, List.length_take]; omega
  · rw [List.length_take]; omega
/-- The place of an Id. -/
def findTo (l : List Jb) (id : Int) : Option Nat := l.findIdx? (fun j => j.id == id)
def findL (l : List Jb) (id : Int) : Int := match findTo l id with | some i => i | none => -1
theorem find_at {l : List Jb} {id : Int} {k : Nat} (hk : k < l.length) (h : ∀ i (hi : i < l.length), i < k → (l[i].id == id) = false) (hx : (l[k].id == id) = true) : findL l id = k := by
  unfold findL findTo
  have : l.findIdx? (fun j => j.id == id) = some k := by
    rw [List.findIdx?_eq_some_iff_getElem]
    exact ⟨hk, hx, fun i hi => by simpa using h i (by omega) hi⟩
  rw [this]
theorem find_none {l : List Jb} {id : Int} (h : ∀ i (hi : i < l.length), (l[i].id == id) = false) : findL l id = -1 := by
  unfold findL findTo
  have : l.findIdx? (fun j => j.id == id) = none := by
    rw [List.findIdx?_eq_none_iff]
    intro x hx
    obtain ⟨i, hi, rfl⟩ := List.mem_iff_getElem.1 hx
    exact h i hi
  rw [this]
end Go.Proofs.Ytonapgbokbeopaa.OrdPlain
