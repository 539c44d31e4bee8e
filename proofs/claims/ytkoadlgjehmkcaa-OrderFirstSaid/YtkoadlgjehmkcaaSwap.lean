/-
  The plain mathematics of exchanges in a row: two blocks, an element that goes through a block, a rotation step by step.
-/
import Derived.Below
namespace Go.Proofs.Ytkoadlgjehmkcaa.Swap
variable {α : Type}
/-- Two places exchanged. -/
def swL [Inhabited α] (l : List α) (i j : Nat) : List α := (l.set i l[j]!).set j l[i]!
theorem swL_len [Inhabited α] (l : List α) (i j : Nat) : (swL l i j).length = l.length := by simp [swL]
theorem get_mid [Inhabited α] {P R : List α} {x : α} {i : Nat} (h : i = P.length) : (P ++ x :: R)[i]! = x := by
  subst h
  rw [getElem!_pos _ _ (by simp), List.getElem_append_right (Nat.le_refl _)]
  simp
theorem set_mid {P R : List α} {x y : α} {i : Nat} (h : i = P.length) : (P ++ x :: R).set i y = P ++ y :: R := by
  subst h
  rw [List.set_append_right _ _ (Nat.le_refl _)]
  simp
theorem swL_two [Inhabited α] {P Q R : List α} {x y : α} {i j : Nat} (hi : i = P.length) (hj : j = P.length + 1 + Q.length) : swL (P ++ x :: (Q ++ y :: R)) i j = P ++ y :: (Q ++ x :: R) := by
  have e : P ++ x :: (Q ++ y :: R) = (P ++ x :: Q) ++ y :: R := by simp
  have h1 : (P ++ x :: (Q ++ y :: R))[j]! = y := by rw [e]; exact get_mid (by simp; omega)
  have h2 : (P ++ x :: (Q ++ y :: R))[i]! = x := get_mid hi
  unfold swL
  rw [h1, h2, set_mid hi]
  have e2 : P ++ y :: (Q ++ y :: R) = (P ++ y :: Q) ++ y :: R := by simp
  rw [e2, set_mid (by simp; omega)]
  simp
theorem swL_back [Inhabited α] {P Q R : List α} {x y : α} {i j : Nat} (hi : i = P.length) (hj : j = P.length + 1 + Q.length) : swL (P ++ x :: (Q ++ y :: R)) j i = P ++ y :: (Q ++ x :: R) := by
  have e : P ++ x :: (Q ++ y :: R) = (P ++ x :: Q) ++ y :: R := by simp
  have h1 : (P ++ x :: (Q ++ y :: R))[j]! = y := by rw [e]; exact get_mid (by simp; omega)
  have h2 : (P ++ x :: (Q ++ y :: R))[i]! = x := get_mid hi
  unfold swL
  rw [h1, h2, e, set_mid (by simp; omega)]
  have e2 : (P ++ x :: Q) ++ x :: R = P ++ x :: (Q ++ x :: R) := by simp
  rw [e2, set_mid hi]
/-- Two blocks of one length, exchanged place by place. -/
def swapN [Inhabited α] (l : List α) (a b : Nat) : Nat → List α
  | 0 => l
  | n + 1 => swL (swapN l a b n) (a + n) (b + n)
theorem swapN_len [Inhabited α] (l : List α) (a b n : Nat) : (swapN l a b n).length = l.length := by
  induction n with
  | zero => rfl
  | succ n ih => show (swL _ _ _).length = _; rw [swL_len, ih]
theorem swapN_to [Inhabited α] {A X M Y B : List α} {a b n : Nat} (ha : A.length = a) (hb : A.length + X.length + M.length = b) (hx : X.length = n) (hy : Y.length = n) :
    ∀ k, k ≤ n → swapN (A ++ (X ++ (M ++ (Y ++ B)))) a b k = A ++ (Y.take k ++ (X.drop k ++ (M ++ (X.take k ++ (Y.drop k ++ B))))) := by
  intro k
  induction k with
  | zero => intro _; simp [swapN]
  | succ k ih =>
    intro hk
    have hkx : k < X.length := by omega
    have hky : k < Y.length := by omega
    show swL (swapN _ a b k) (a + k) (b + k) = _
    rw [ih (by omega)]
    have h1 := List.drop_eq_getElem_cons hkx
    have h2 := List.take_succ_eq_append_getElem hkx
    have h3 := List.drop_eq_getElem_cons hky
    have h4 := List.take_succ_eq_append_getElem hky
    have l1 : (X.take k).length = k := by rw [List.length_take]; omega
    have l2 : (Y.take k).length = k := by rw [List.length_take]; omega
    have l3 : (X.drop (k + 1)).length = n - (k + 1) := by rw [List.length_drop, hx]
    rw [h1, h2, h3, h4]
    clear h1 h2 h3 h4 ih
    generalize X.take k = X1 at *
    generalize Y.take k = Y1 at *
    generalize X.drop (k + 1) = X2 at *
    generalize Y.drop (k + 1) = Y2 at *
    generalize X[k] = x
    generalize Y[k] = y
    have e : A ++ (Y1 ++ ((x :: X2) ++ (M ++ (X1 ++ ((y :: Y2) ++ B))))) = (A ++ Y1) ++ x :: ((X2 ++ M ++ X1) ++ y :: (Y2 ++ B)) := by simp
    rw [e, swL_two (by simp; omega) (by simp; omega)]
    simp
theorem swapN_blocks [Inhabited α] {A X M Y B : List α} {a b n : Nat} (ha : A.length = a) (hb : A.length + X.length + M.length = b) (hx : X.length = n) (hy : Y.length = n) :
    swapN (A ++ (X ++ (M ++ (Y ++ B)))) a b n = A ++ (Y ++ (M ++ (X ++ B))) := by
  rw [swapN_to ha hb hx hy n (Nat.le_refl _), List.take_of_length_le (by omega), List.take_of_length_le (by omega), List.drop_eq_nil_of_le (by omega), List.drop_eq_nil_of_le (by omega)]
  simp
/-- How a rotation stands: of L and R in front of each other X and Y are still to be exchanged. -/
def RotAt (P L R Q : List α) (m i j : Nat) (d : List α) : Prop := ∃ U X Y V, d = P ++ (U ++ (X ++ (Y ++ (V ++ Q)))) ∧ R ++ L = U ++ (Y ++ (X ++ V)) ∧ X.length = i ∧ Y.length = j ∧ P.length + U.length + i = m
theorem RotAt.start {P L R Q : List α} {m i j : Nat} (hm : P.length + L.length = m) (hi : L.length = i) (hj : R.length = j) : RotAt P L R Q m i j (P ++ (L ++ (R ++ Q))) :=
  ⟨[], L, R, [], by simp, by simp, hi, hj, by simp; omega⟩
theorem RotAt.left [Inhabited α] {P L R Q d : List α} {m i j : Nat} (h : RotAt P L R Q m i j d) (hij : j < i) : RotAt P L R Q m (i - j) j (swapN d (m - i) m j) := by
  obtain ⟨U, X, Y, V, rfl, e, hx, hy, hm⟩ := h
  obtain ⟨X1, X2, rfl, h1⟩ : ∃ X1 X2, X = X1 ++ X2 ∧ X1.length = j := ⟨X.take j, X.drop j, (List.take_append_drop j X).symm, by rw [List.length_take]; omega⟩
  rw [List.length_append] at hx
  refine ⟨U ++ Y, X2, X1, V, ?_, by rw [e]; simp, by omega, h1, by simp; omega⟩
  have e1 : P ++ (U ++ ((X1 ++ X2) ++ (Y ++ (V ++ Q)))) = (P ++ U) ++ (X1 ++ (X2 ++ (Y ++ (V ++ Q)))) := by simp
  rw [e1, swapN_blocks (by simp; omega) (by simp; omega) h1 hy]
  simp
theorem RotAt.right [Inhabited α] {P L R Q d : List α} {m i j : Nat} (h : RotAt P L R Q m i j d) (hij : i < j) : RotAt P L R Q m i (j - i) (swapN d (m - i) (m + j - i) i) := by
  obtain ⟨U, X, Y, V, rfl, e, hx, hy, hm⟩ := h
  obtain ⟨Y1, Y2, rfl, h1⟩ : ∃ Y1 Y2, Y = Y1 ++ Y2 ∧ Y1.length = j - i := ⟨Y.take (j - i), Y.drop (j - i), (List.take_append_drop _ Y).symm, by rw [List.length_take]; omega⟩
  rw [List.length_append] at hy
  refine ⟨U, Y2, Y1, X ++ V, ?_, by rw [e]; simp, by omega, h1, by omega⟩
  have e1 : P ++ (U ++ (X ++ ((Y1 ++ Y2) ++ (V ++ Q)))) = (P ++ U) ++ (X ++ (Y1 ++ (Y2 ++ (V ++ Q)))) := by simp
  rw [e1, swapN_blocks (by simp; omega) (by simp; omega) hx (by omega)]
  simp
theorem RotAt.end_ [Inhabited α] {P L R Q d : List α} {m i : Nat} (h : RotAt P L R Q m i i d) : swapN d (m - i) m i = P ++ (R ++ (L ++ Q)) := by
  obtain ⟨U, X, Y, V, rfl, e, hx, hy, hm⟩ := h
  have e1 : P ++ (U ++ (X ++ (Y ++ (V ++ Q)))) = (P ++ U) ++ (X ++ ([] ++ (Y ++ (V ++ Q)))) := by simp
  rw [e1, swapN_blocks (by simp; omega) (by simp; omega) hx hy]
  have e2 : P ++ (R ++ (L ++ Q)) = P ++ ((R ++ L) ++ Q) := by simp
  rw [e2, e]
  simp
theorem RotAt.fits {P L R Q d : List α} {m i j : Nat} (h : RotAt P L R Q m i j d) : i ≤ m ∧ m + j ≤ d.length ∧ d.length = P.length + L.length + R.length + Q.length := by
  obtain ⟨U, X, Y, V, rfl, e, hx, hy, hm⟩ := h
  have e2 := congrArg List.length e
  simp at e2 ⊢
  omega
/-- One that goes up through a block. -/
def UpAt (P L Q : List α) (x : α) (k : Nat) : List α := P ++ (L.take k ++ x :: (L.drop k ++ Q))
theorem UpAt.next [Inhabited α] {P L Q : List α} {x : α} {k : Nat} (h : k < L.length) : swL (UpAt P L Q x k) (P.length + k) (P.length + k + 1) = UpAt P L Q x (k + 1) := by
  have h1 := List.drop_eq_getElem_cons h
  have h2 := List.take_succ_eq_append_getElem h
  have l1 : (L.take k).length = k := by rw [List.length_take]; omega
  unfold UpAt
  rw [h1, h2]
  clear h1 h2
  generalize L.take k = L1 at *
  generalize L.drop (k + 1) = L2 at *
  generalize L[k] = y
  have e : P ++ (L1 ++ x :: ((y :: L2) ++ Q)) = (P ++ L1) ++ x :: ([] ++ y :: (L2 ++ Q)) := by simp
  rw [e, swL_two (by simp; omega) (by simp; omega)]
  simp
theorem UpAt.end_ (P L Q : List α) (x : α) : UpAt P L Q x L.length = P ++ (L ++ x :: Q) := by unfold UpAt; simp
theorem UpAt.start (P L Q : List α) (x : α) : UpAt P L Q x 0 = P ++ x :: (L ++ Q) := by unfold UpAt; simp
/-- One that goes down through a block: it stands behind the first k. -/
theorem UpAt.down [Inhabited α] {P L Q : List α} {x : α} {k : Nat} (h : k < L.length) : swL (UpAt P L Q x (k + 1)) (P.length + k + 1) (P.length + k) = UpAt P L Q x k := by
  have h1 := List.drop_eq_getElem_cons h
  have h2 := List.take_succ_eq_append_getElem h
  have l1 : (L.take k).length = k := by rw [List.length_take]; omega
  unfold UpAt
  rw [h1, h2]
  clear h1 h2
  generalize L.take k = L1 at *
  generalize L.drop (k + 1) = L2 at *
  generalize L[k] = y
  have e : P ++ ((L1 ++ [y]) ++ x :: (L2 ++ Q)) = (P ++ L1) ++ y :: ([] ++ x :: (L2 ++ Q)) := by simp
  rw [e, swL_back (by simp; omega) (by simp; omega)]
  simp
end Go.Proofs.Ytkoadlgjehmkcaa.Swap
