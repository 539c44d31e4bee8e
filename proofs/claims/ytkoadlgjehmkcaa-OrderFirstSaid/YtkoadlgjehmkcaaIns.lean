/-
  The plain mathematics of the library's stable sort: its insertions are puttings in place.
-/
import Derived.Test.YtkoadlgjehmkcaaStab
import Derived.Test.YtkoadlgjehmkcaaSwap
import Derived.Sort.Defs
namespace Go.Proofs.Ytkoadlgjehmkcaa.Ins
open Go.Sort Go.Proofs.Ytkoadlgjehmkcaa.Stab Go.Proofs.Ytkoadlgjehmkcaa.Swap
variable {α : Type} {lt : α → α → Bool}
theorem put_at {A B : List α} {x : α} (hA : ∀ y ∈ A, lt x y = false) (hB : ∀ y ∈ B, lt x y = true) : put lt (A ++ B) x = A ++ x :: B := by
  induction A with
  | nil =>
    cases B with
    | nil => rfl
    | cons b B => show (if lt x b = true then _ else _) = _; rw [if_pos (hB b (by simp))]; rfl
  | cons a A ih =>
    show (if lt x a = true then _ else _) = _
    rw [if_neg (by rw [hA a (by simp)]; exact Bool.false_ne_true)]
    exact congrArg (a :: ·) (ih (fun y h => hA y (by simp [h])))
theorem get_arr [Inhabited α] (l : List α) (i : Nat) : l.toArray[i]! = l[i]! := by
  by_cases h : i < l.length
  · rw [getElem!_pos l.toArray i (by simpa using h), getElem!_pos l i h]; rfl
  · rw [getElem!_neg l.toArray i (by simpa using h), getElem!_neg l i h]
theorem up_len (P L Q : List α) (x : α) (k : Nat) : (UpAt P L Q x k).length = P.length + L.length + Q.length + 1 := by
  unfold UpAt
  have := congrArg List.length (List.take_append_drop k L)
  simp only [List.length_append, List.length_cons] at this ⊢
  omega
theorem up_x [Inhabited α] (P L Q : List α) (x : α) {k : Nat} (h : k ≤ L.length) : (UpAt P L Q x k)[P.length + k]! = x := by
  have e : UpAt P L Q x k = (P ++ L.take k) ++ x :: (L.drop k ++ Q) := by unfold UpAt; simp
  rw [e]
  exact get_mid (by rw [List.length_append, List.length_take]; omega)
theorem up_y [Inhabited α] (P L Q : List α) (x : α) {k : Nat} (h : k < L.length) : (UpAt P L Q x (k + 1))[P.length + k]! = L[k] := by
  have h2 := List.take_succ_eq_append_getElem h
  have e : UpAt P L Q x (k + 1) = (P ++ L.take k) ++ L[k] :: (x :: (L.drop (k + 1) ++ Q)) := by
    unfold UpAt
    rw [h2]
    clear h2
    generalize L.take k = A
    generalize L[k] = y
    simp only [List.append_assoc, List.cons_append, List.nil_append]
  rw [e]
  exact get_mid (by rw [List.length_append, List.length_take]; omega)
theorem swp_toA [Inhabited α] (l : List α) (i j : Nat) (hi : i < l.length) (hj : j < l.length) : swp l.toArray i j = (swL l i j).toArray := by
  apply Array.ext'
  unfold swL
  simp [swp, get_arr]
theorem ins_down [Inhabited α] (hO : Swo lt) {P L Q : List α} {x : α} (hS : Srt lt L) : ∀ k, k ≤ L.length → (∀ y ∈ L.drop k, lt x y = true) → insInner lt P.length (P.length + k) (UpAt P L Q x k).toArray = (P ++ (put lt L x ++ Q)).toArray := by
  intro k
  induction k with
  | zero =>
    intro _ hB
    have hp : put lt L x = x :: L := put_at (A := []) (B := L) (fun y h => by cases h) hB
    rw [UpAt.start, hp]
    cases hn : P.length with
    | zero => rfl
    | succ n => show (if (n + 1 > n + 1 && _) = true then _ else _) = _; simp
  | succ k ih =>
    intro hk hB
    have hk1 : k < L.length := hk
    have hl := up_len P L Q x (k + 1)
    show (if (P.length + k + 1 > P.length && lt (UpAt P L Q x (k + 1)).toArray[P.length + k + 1]! (UpAt P L Q x (k + 1)).toArray[P.length + k]!) = true then insInner lt P.length (P.length + k) (swp (UpAt P L Q x (k + 1)).toArray (P.length + k + 1) (P.length + k)) else (UpAt P L Q x (k + 1)).toArray) = _
    have e1 : (UpAt P L Q x (k + 1)).toArray[P.length + k + 1]! = x := (get_arr _ _).trans (up_x P L Q x hk)
    have e2 : (UpAt P L Q x (k + 1)).toArray[P.length + k]! = L[k] := (get_arr _ _).trans (up_y P L Q x hk1)
    rw [e1, e2, swp_toA _ _ _ (by omega) (by omega), UpAt.down hk1]
    cases hc : lt x L[k]
    · rw [if_neg (by simp)]
      have hp : put lt (L.take (k + 1) ++ L.drop (k + 1)) x = L.take (k + 1) ++ x :: L.drop (k + 1) := by
        refine put_at (fun y hy => ?_) hB
        obtain ⟨i, hi, rfl⟩ := List.mem_iff_getElem.1 hy
        rw [List.getElem_take]
        have hi2 : i < k + 1 := by rw [List.length_take] at hi; omega
        by_cases he : i = k
        · subst he; exact hc
        · exact hO.ng hc (List.pairwise_iff_getElem.1 hS i k (by omega) hk1 (by omega))
      rw [List.take_append_drop] at hp
      rw [hp]
      unfold UpAt
      simp
    · rw [if_pos (by simp; omega)]
      refine ih (by omega) fun y hy => ?_
      rw [List.drop_eq_getElem_cons hk1] at hy
      rcases List.mem_cons.1 hy with rfl | hy
      · exact hc
      · exact hB y hy
theorem sort_snoc (l : List α) (x : α) : sortBy lt (l ++ [x]) = put lt (sortBy lt l) x := by unfold sortBy; rw [List.foldl_append]; rfl
theorem ins_outer [Inhabited α] (hO : Swo lt) {P B Q : List α} : ∀ m k, k + m = B.length → insOuter lt P.length (P.length + B.length) (P.length + k) (P ++ (sortBy lt (B.take k) ++ (B.drop k ++ Q))).toArray = (P ++ (sortBy lt B ++ Q)).toArray := by
  intro m
  induction m with
  | zero =>
    intro k hk
    have e : k = B.length := by omega
    subst e
    rw [insOuter, if_neg (by omega), List.take_length, List.drop_length, List.nil_append]
  | succ m ih =>
    intro k hk
    have hlt : k < B.length := by omega
    have h1 := List.drop_eq_getElem_cons hlt
    have h2 := List.take_succ_eq_append_getElem hlt
    have hl : (sortBy lt (B.take k)).length = k := by rw [sort_len, List.length_take]; omega
    have e1 : P ++ (sortBy lt (B.take k) ++ (B.drop k ++ Q)) = UpAt P (sortBy lt (B.take k)) (B.drop (k + 1) ++ Q) B[k] (sortBy lt (B.take k)).length := by
      rw [UpAt.end_, h1]; rfl
    have e2 := ins_down hO (P := P) (L := sortBy lt (B.take k)) (Q := B.drop (k + 1) ++ Q) (x := B[k]) (sort_srt hO _) (sortBy lt (B.take k)).length (Nat.le_refl _) (by rw [List.drop_length]; intro y h; cases h)
    rw [← e1, hl, ← sort_snoc, ← h2] at e2
    rw [insOuter, if_pos (by omega), e2]
    exact ih (k + 1) (by omega)
theorem ins_sort [Inhabited α] (hO : Swo lt) (P B Q : List α) : insertionSort lt (P ++ (B ++ Q)).toArray P.length (P.length + B.length) = (P ++ (sortBy lt B ++ Q)).toArray := by
  unfold insertionSort
  cases B with
  | nil => rw [insOuter, if_neg (by simp)]; rfl
  | cons b B => exact ins_outer hO (P := P) (B := b :: B) (Q := Q) B.length 1 (by simp; omega)
end Go.Proofs.Ytkoadlgjehmkcaa.Ins
