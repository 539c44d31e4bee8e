/-
  The plain mathematics of exchanges in a row: two blocks, an element that goes through a block, a rotation step by step. The plain mathematics of the library's stable sort: putting in place, merging, the cut of a symmetric merge, blocks that are sorted each. The plain mathematics of the library's stable sort: its insertions are puttings in place. The plain mathematics of the library's symmetric merge: where two sorted rows are cut, and that the parts' merges are the merge. The plain mathematics of the library's stable sort: its passes over blocks.
-/
import Derived.Below
import Derived.Sort.Defs
namespace Go.Proofs.Ytjegkddpaampmaa.Swap
variable {α : Type}
/-- Two places exchanged. -/
def swL [Inhabited α] (l : List α) (i j : Nat) : List α := (l.set i l[j]!).set j l[i]!
theorem swL_len [Inhabited α] (l : List α) (i j : Nat) : (swL l i j).length = l.length := by simp [swL]
theorem get_mid [Inhabited α] {P R : List α} {x : α} {i : Nat} (h : i = P.length) : (P ++ x :: R)[i]! = x := by
  subst h
  rw [getElem!_pos _ _ (by simp), List.getElem_append_right (Nat.le_refl _)]
  simp
theorem set_mid {P R : List α} {x y : α} {i : Nat} (h : i = P.length) : (P ++ x :: R).set i y = P ++ y :: R := by
  subst h
  rw [List.set_append_right _ _ (Nat.le_refl _)]
  simp
theorem swL_two [Inhabited α] {P Q R : List α} {x y : α} {i j : Nat} (hi : i = P.length) (hj : j = P.length + 1 + Q.length) : swL (P ++ x :: (Q ++ y :: R)) i j = P ++ y :: (Q ++ x :: R) := by
  have e : P ++ x :: (Q ++ y :: R) = (P ++ x :: Q) ++ y :: R := by simp
  have h1 : (P ++ x :: (Q ++ y :: R))[j]! = y := by rw [e]; exact get_mid (by simp; omega)
  have h2 : (P ++ x :: (Q ++ y :: R))[i]! = x := get_mid hi
  unfold swL
  rw [h1, h2, set_mid hi]
  have e2 : P ++ y :: (Q ++ y :: R) = (P ++ y :: Q) ++ y :: R := by simp
  rw [e2, set_mid (by simp; omega)]
  simp
theorem swL_back [Inhabited α] {P Q R : List α} {x y : α} {i j : Nat} (hi : i = P.length) (hj : j = P.length + 1 + Q.length) : swL (P ++ x :: (Q ++ y :: R)) j i = P ++ y :: (Q ++ x :: R) := by
  have e : P ++ x :: (Q ++ y :: R) = (P ++ x :: Q) ++ y :: R := by simp
  have h1 : (P ++ x :: (Q ++ y :: R))[j]! = y := by rw [e]; exact get_mid (by simp; omega)
  have h2 : (P ++ x :: (Q ++ y :: R))[i]! = x := get_mid hi
  unfold swL
  rw [h1, h2, e, set_mid (by simp; omega)]
  have e2 : (P ++ x :: Q) ++ x :: R = P ++ x :: (Q ++ x :: R) := by simp
  rw [e2, set_mid hi]
/-- Two blocks of one length, exchanged place by place. -/
def swapN [Inhabited α] (l : List α) (a b : Nat) : Nat → List α
  | 0 => l
  | n + 1 => swL (swapN l a b n) (a + n) (b + n)
theorem swapN_len [Inhabited α] (l : List α) (a b n : Nat) : (swapN l a b n).length = l.length := by
  induction n with
  | zero => rfl
  | succ n ih => show (swL _ _ _).length = _; rw [swL_len, ih]
theorem swapN_to [Inhabited α] {A X M Y B : List α} {a b n : Nat} (ha : A.length = a) (hb : A.length + X.length + M.length = b) (hx : X.length = n) (hy : Y.length = n) :
    ∀ k, k ≤ n → swapN (A ++ (X ++ (M ++ (Y ++ B)))) a b k = A ++ (Y.take k ++ (X.drop k ++ (M ++ (X.take k ++ (Y.drop k ++ B))))) := by
  intro k
  induction k with
  | zero => intro _; simp [swapN]
  | succ k ih =>
    intro hk
    have hkx : k < X.length := by omega
    have hky : k < Y.length := by omega
    show swL (swapN _ a b k) (a + k) (b + k) = _
    rw [ih (by omega)]
    have h1 := List.drop_eq_getElem_cons hkx
    have h2 := List.take_succ_eq_append_getElem hkx
    have h3 := List.drop_eq_getElem_cons hky
    have h4 := List.take_succ_eq_append_getElem hky
    have l1 : (X.take k).length = k := by rw [List.length_take]; omega
    have l2 : (Y.take k).length = k := by rw [List.length_take]; omega
    have l3 : (X.drop (k + 1)).length = n - (k + 1) := by rw [List.length_drop, hx]
    rw [h1, h2, h3, h4]
    clear h1 h2 h3 h4 ih
    generalize X.take k = X1 at *
    generalize Y.take k = Y1 at *
    generalize X.drop (k + 1) = X2 at *
    generalize Y.drop (k + 1) = Y2 at *
    generalize X[k] = x
    generalize Y[k] = y
    have e : A ++ (Y1 ++ ((x :: X2) ++ (M ++ (X1 ++ ((y :: Y2) ++ B))))) = (A ++ Y1) ++ x :: ((X2 ++ M ++ X1) ++ y :: (Y2 ++ B)) := by simp
    rw [e, swL_two (by simp; omega) (by simp; omega)]
    simp
theorem swapN_blocks [Inhabited α] {A X M Y B : List α} {a b n : Nat} (ha : A.length = a) (hb : A.length + X.length + M.length = b) (hx : X.length = n) (hy : Y.length = n) :
    swapN (A ++ (X ++ (M ++ (Y ++ B)))) a b n = A ++ (Y ++ (M ++ (X ++ B))) := by
  rw [swapN_to ha hb hx hy n (Nat.le_refl _), List.take_of_length_le (by omega), List.take_of_length_le (by omega), List.drop_eq_nil_of_le (by omega), List.drop_eq_nil_of_le (by omega)]
  simp
/-- How a rotation stands: of L and R in front of each other X and Y are still to be exchanged. -/
def RotAt (P L R Q : List α) (m i j : Nat) (d : List α) : Prop := ∃ U X Y V, d = P ++ (U ++ (X ++ (Y ++ (V ++ Q)))) ∧ R ++ L = U ++ (Y ++ (X ++ V)) ∧ X.length = i ∧ Y.length = j ∧ P.length + U.length + i = m
theorem RotAt.start {P L R Q : List α} {m i j : Nat} (hm : P.length + L.length = m) (hi : L.length = i) (hj : R.length = j) : RotAt P L R Q m i j (P ++ (L ++ (R ++ Q))) :=
  ⟨[], L, R, [], by simp, by simp, hi, hj, by simp; omega⟩
theorem RotAt.left [Inhabited α] {P L R Q d : List α} {m i j : Nat} (h : RotAt P L R Q m i j d) (hij : j < i) : RotAt P L R Q m (i - j) j (swapN d (m - i) m j) := by
  obtain ⟨U, X, Y, V, rfl, e, hx, hy, hm⟩ := h
  obtain ⟨X1, X2, rfl, h1⟩ : ∃ X1 X2, X = X1 ++ X2 ∧ X1.length = j := ⟨X.take j, X.drop j, (List.take_append_drop j X).symm, by rw [List.length_take]; omega⟩
  rw [List.length_append] at hx
  refine ⟨U ++ Y, X2, X1, V, ?_, by rw [e]; simp, by omega, h1, by simp; omega⟩
  have e1 : P ++ (U ++ ((X1 ++ X2) ++ (Y ++ (V ++ Q)))) = (P ++ U) ++ (X1 ++ (X2 ++ (Y ++ (V ++ Q)))) := by simp
  rw [e1, swapN_blocks (by simp; omega) (by simp; omega) h1 hy]
  simp
theorem RotAt.right [Inhabited α] {P L R Q d : List α} {m i j : Nat} (h : RotAt P L R Q m i j d) (hij : i < j) : RotAt P L R Q m i (j - i) (swapN d (m - i) (m + j - i) i) := by
  obtain ⟨U, X, Y, V, rfl, e, hx, hy, hm⟩ := h
  obtain ⟨Y1, Y2, rfl, h1⟩ : ∃ Y1 Y2, Y = Y1 ++ Y2 ∧ Y1.length = j - i := ⟨Y.take (j - i), Y.drop (j - i), (List.take_append_drop _ Y).symm, by rw [List.length_take]; omega⟩
  rw [List.length_append] at hy
  refine ⟨U, Y2, Y1, X ++ V, ?_, by rw [e]; simp, by omega, h1, by omega⟩
  have e1 : P ++ (U ++ (X ++ ((Y1 ++ Y2) ++ (V ++ Q)))) = (P ++ U) ++ (X ++ (Y1 ++ (Y2 ++ (V ++ Q)))) := by simp
  rw [e1, swapN_blocks (by simp; omega) (by simp; omega) hx (by omega)]
  simp
theorem RotAt.end_ [Inhabited α] {P L R Q d : List α} {m i : Nat} (h : RotAt P L R Q m i i d) : swapN d (m - i) m i = P ++ (R ++ (L ++ Q)) := by
  obtain ⟨U, X, Y, V, rfl, e, hx, hy, hm⟩ := h
  have e1 : P ++ (U ++ (X ++ (Y ++ (V ++ Q)))) = (P ++ U) ++ (X ++ ([] ++ (Y ++ (V ++ Q)))) := by simp
  rw [e1, swapN_blocks (by simp; omega) (by simp; omega) hx hy]
  have e2 : P ++ (R ++ (L ++ Q)) = P ++ ((R ++ L) ++ Q) := by simp
  rw [e2, e]
  simp
theorem RotAt.fits {P L R Q d : List α} {m i j : Nat} (h : RotAt P L R Q m i j d) : i ≤ m ∧ m + j ≤ d.length ∧ d.length = P.length + L.length + R.length + Q.length := by
  obtain ⟨U, X, Y, V, rfl, e, hx, hy, hm⟩ := h
  have e2 := congrArg List.length e
  simp at e2 ⊢
  omega
/-- One that goes up through a block. -/
def UpAt (P L Q : List α) (x : α) (k : Nat) : List α := P ++ (L.take k ++ x :: (L.drop k ++ Q))
theorem UpAt.next [Inhabited α] {P L Q : List α} {x : α} {k : Nat} (h : k < L.length) : swL (UpAt P L Q x k) (P.length + k) (P.length + k + 1) = UpAt P L Q x (k + 1) := by
  have h1 := List.drop_eq_getElem_cons h
  have h2 := List.take_succ_eq_append_getElem h
  have l1 : (L.take k).length = k := by rw [List.length_take]; omega
  unfold UpAt
  rw [h1, h2]
  clear h1 h2
  generalize L.take k = L1 at *
  generalize L.drop (k + 1) = L2 at *
  generalize L[k] = y
  have e : P ++ (L1 ++ x :: ((y :: L2) ++ Q)) = (P ++ L1) ++ x :: ([] ++ y :: (L2 ++ Q)) := by simp
  rw [e, swL_two (by simp; omega) (by simp; omega)]
  simp
theorem UpAt.end_ (P L Q : List α) (x : α) : UpAt P L Q x L.length = P ++ (L ++ x :: Q) := by unfold UpAt; simp
theorem UpAt.start (P L Q : List α) (x : α) : UpAt P L Q x 0 = P ++ x :: (L ++ Q) := by unfold UpAt; simp
/-- One that goes down through a block: it stands behind the first k. -/
theorem UpAt.down [Inhabited α] {P L Q : List α} {x : α} {k : Nat} (h : k < L.length) : swL (UpAt P L Q x (k + 1)) (P.length + k + 1) (P.length + k) = UpAt P L Q x k := by
  have h1 := List.drop_eq_getElem_cons h
  have h2 := List.take_succ_eq_append_getElem h
  have l1 : (L.take k).length = k := by rw [List.length_take]; omega
  unfold UpAt
  rw [h1, h2]
  clear h1 h2
  generalize L.take k = L1 at *
  generalize L.drop (k + 1) = L2 at *
  generalize L[k] = y
  have e : P ++ ((L1 ++ [y]) ++ x :: (L2 ++ Q)) = (P ++ L1) ++ y :: ([] ++ x :: (L2 ++ Q)) := by simp
  rw [e, swL_back (by simp; omega) (by simp; omega)]
  simp
end Go.Proofs.Ytjegkddpaampmaa.Swap
namespace Go.Proofs.Ytjegkddpaampmaa.Stab
variable {α : Type}
/-- A strict weak order, as a test. -/
structure Swo (lt : α → α → Bool) : Prop where
  irr : ∀ a, lt a a = false
  tr : ∀ {a b c}, lt a b = true → lt b c = true → lt a c = true
  ng : ∀ {a b c}, lt a b = false → lt b c = false → lt a c = false
theorem Swo.asym {lt : α → α → Bool} (h : Swo lt) {a b : α} (hab : lt a b = true) : lt b a = false := by
  cases hb : lt b a
  · rfl
  · have := h.tr hab hb; rw [h.irr] at this; cases this
theorem Swo.lt_of {lt : α → α → Bool} (h : Swo lt) {a b c : α} (hab : lt a b = true) (hcb : lt c b = false) : lt a c = true := by
  cases hc : lt a c
  · have := h.ng hc hcb; rw [hab] at this; cases this
  · rfl
theorem Swo.lt_of2 {lt : α → α → Bool} (h : Swo lt) {a b c : α} (hba : lt b a = false) (hbc : lt b c = true) : lt a c = true := by
  cases hc : lt a c
  · have := h.ng hba hc; rw [hbc] at this; cases this
  · rfl
section
variable (lt : α → α → Bool)
/-- One put in front of the first one that it is less than, or behind all. -/
def put : List α → α → List α
  | [], y => [y]
  | x :: l, y => if lt y x = true then y :: x :: l else x :: put l y
def sortBy (l : List α) : List α := l.foldl (put lt) []
/-- Two rows as one: the second one's put into the first one, one by one. -/
def mg (A B : List α) : List α := B.foldl (put lt) A
def Srt (l : List α) : Prop := l.Pairwise fun x y => lt y x = false
end
variable {lt : α → α → Bool}
theorem put_len (l : List α) (y : α) : (put lt l y).length = l.length + 1 := by
  induction l with
  | nil => rfl
  | cons x l ih => unfold put; split <;> simp [ih]
theorem mg_len (B : List α) : ∀ A : List α, (mg lt A B).length = A.length + B.length := by
  induction B with
  | nil => intro A; rfl
  | cons y B ih => intro A; show (mg lt (put lt A y) B).length = _; rw [ih, put_len, List.length_cons]; omega
theorem sort_len (l : List α) : (sortBy lt l).length = l.length := by have := mg_len (lt := lt) l []; simpa [mg, sortBy] using this
theorem put_mem {l : List α} {y x : α} (h : x ∈ put lt l y) : x = y ∨ x ∈ l := by
  induction l with
  | nil => simp [put] at h; exact .inl h
  | cons e l ih =>
    unfold put at h
    split at h
    · rcases List.mem_cons.1 h with h | h
      · exact .inl h
      · exact .inr h
    · rcases List.mem_cons.1 h with h | h
      · exact .inr (by simp [h])
      · rcases ih h with h | h
        · exact .inl h
        · exact .inr (by simp [h])
theorem mg_mem {B : List α} : ∀ {A : List α} {x : α}, x ∈ mg lt A B → x ∈ A ∨ x ∈ B := by
  induction B with
  | nil => intro A x h; exact .inl h
  | cons y B ih =>
    intro A x h
    rcases ih (show x ∈ mg lt (put lt A y) B from h) with h | h
    · rcases put_mem h with rfl | h
      · exact .inr (by simp)
      · exact .inl h
    · exact .inr (by simp [h])
theorem put_srt (hs : Swo lt) {l : List α} (h : Srt lt l) (y : α) : Srt lt (put lt l y) := by
  induction l with
  | nil => exact List.pairwise_singleton _ _
  | cons e l ih =>
    obtain ⟨h1, h2⟩ := List.pairwise_cons.1 h
    unfold put
    split
    · rename_i hy
      refine List.pairwise_cons.2 ⟨fun z hz => ?_, h⟩
      rcases List.mem_cons.1 hz with rfl | hz
      · exact hs.asym hy
      · exact hs.ng (h1 z hz) (hs.asym hy)
    · rename_i hy
      refine List.pairwise_cons.2 ⟨fun z hz => ?_, ih h2⟩
      rcases put_mem hz with rfl | hz
      · simpa using hy
      · exact h1 z hz
theorem mg_srt (hs : Swo lt) (B : List α) : ∀ {A : List α}, Srt lt A → Srt lt (mg lt A B) := by
  induction B with
  | nil => intro A h; exact h
  | cons y B ih => intro A h; exact ih (put_srt hs h y)
theorem sort_srt (hs : Swo lt) (l : List α) : Srt lt (sortBy lt l) := mg_srt hs l List.Pairwise.nil
/-- Where one is put. -/
theorem put_split {L1 L2 : List α} {y : α} (h1 : ∀ x ∈ L1, lt y x = false) (h2 : ∀ x, L2.head? = some x → lt y x = true) : put lt (L1 ++ L2) y = L1 ++ y :: L2 := by
  induction L1 with
  | nil =>
    cases L2 with
    | nil => rfl
    | cons x l => show put lt (x :: l) y = _; unfold put; rw [if_pos (h2 x rfl)]; rfl
  | cons x l ih =>
    rw [List.cons_append]
    unfold put
    rw [if_neg (by rw [h1 x (by simp)]; decide), ih (fun z hz => h1 z (by simp [hz]))]
    rfl
theorem put_front {L1 L2 : List α} {y : α} (h2 : ∀ x, L2.head? = some x → lt y x = true) : put lt (L1 ++ L2) y = put lt L1 y ++ L2 := by
  induction L1 with
  | nil =>
    cases L2 with
    | nil => rfl
    | cons x l => show put lt (x :: l) y = _; unfold put; rw [if_pos (h2 x rfl)]; rfl
  | cons x l ih =>
    rw [List.cons_append]
    unfold put
    split
    · rfl
    · rw [ih]; rfl
theorem put_back {L1 L2 : List α} {y : α} (h1 : ∀ x ∈ L1, lt y x = false) : put lt (L1 ++ L2) y = L1 ++ put lt L2 y := by
  induction L1 with
  | nil => rfl
  | cons x l ih =>
    have e : put lt (x :: (l ++ L2)) y = x :: put lt (l ++ L2) y := by rw [put, if_neg (by rw [h1 x (by simp)]; decide)]
    rw [List.cons_append, e, ih (fun z hz => h1 z (by simp [hz]))]
    rfl
theorem mg_front {L2 : List α} (R : List α) : ∀ (L1 : List α), (∀ y ∈ R, ∀ x, L2.head? = some x → lt y x = true) → mg lt (L1 ++ L2) R = mg lt L1 R ++ L2 := by
  induction R with
  | nil => intro L1 _; rfl
  | cons y R ih =>
    intro L1 h
    show mg lt (put lt (L1 ++ L2) y) R = mg lt (put lt L1 y) R ++ L2
    rw [put_front (h y (by simp)), ih _ (fun z hz => h z (by simp [hz]))]
theorem mg_back {M : List α} (R : List α) : ∀ (L2 : List α), (∀ y ∈ R, ∀ x ∈ M, lt y x = false) → mg lt (M ++ L2) R = M ++ mg lt L2 R := by
  induction R with
  | nil => intro L2 _; rfl
  | cons y R ih =>
    intro L2 h
    show mg lt (put lt (M ++ L2) y) R = M ++ mg lt (put lt L2 y) R
    rw [put_back (h y (by simp)), ih _ (fun z hz => h z (by simp [hz]))]
/-- The cut of two rows: what is merged in two parts. -/
theorem mg_split {L1 L2 R1 R2 : List α} (h1 : ∀ y ∈ R1, ∀ x ∈ L2, lt y x = true) (h2 : ∀ y ∈ R2, ∀ x ∈ L1, lt y x = false) (h3 : ∀ y ∈ R2, ∀ x ∈ R1, lt y x = false) :
    mg lt (L1 ++ L2) (R1 ++ R2) = mg lt L1 R1 ++ mg lt L2 R2 := by
  have e : mg lt (L1 ++ L2) (R1 ++ R2) = mg lt (mg lt (L1 ++ L2) R1) R2 := by unfold mg; rw [List.foldl_append]
  rw [e, mg_front R1 L1 (fun y hy x hx => h1 y hy x (List.mem_of_head? hx)), mg_back R2 L2 (fun y hy x hx => by
    rcases mg_mem hx with hx | hx
    · exact h2 y hy x hx
    · exact h3 y hy x hx)]
theorem put_comm (hs : Swo lt) {y z : α} (h : lt y z = true) (A : List α) : put lt (put lt A y) z = put lt (put lt A z) y := by
  have hzy := hs.asym h
  induction A with
  | nil =>
    show put lt [y] z = put lt [z] y
    unfold put
    rw [if_neg (by rw [hzy]; decide), if_pos h]
    rfl
  | cons x A ih =>
    by_cases hx : lt y x = true
    · have e1 : put lt (x :: A) y = y :: x :: A := by unfold put; rw [if_pos hx]
      have e2 : put lt (y :: x :: A) z = y :: put lt (x :: A) z := by rw [put, if_neg (by rw [hzy]; decide)]
      rw [e1, e2]
      by_cases hz : lt z x = true
      · have e3 : put lt (x :: A) z = z :: x :: A := by unfold put; rw [if_pos hz]
        rw [e3, put, if_pos h]
      · have e3 : put lt (x :: A) z = x :: put lt A z := by rw [put, if_neg hz]
        rw [e3, put, if_pos hx]
    · have hz : ¬ lt z x = true := fun hz => hx (hs.tr h hz)
      have e1 : put lt (x :: A) y = x :: put lt A y := by rw [put, if_neg hx]
      have e2 : put lt (x :: A) z = x :: put lt A z := by rw [put, if_neg hz]
      rw [e1, e2, put, if_neg hz, put, if_neg hx, ih]
theorem mg_put (hs : Swo lt) {y : α} (B2 : List α) : ∀ (A : List α), (∀ z ∈ B2, lt y z = true) → mg lt (put lt A y) B2 = put lt (mg lt A B2) y := by
  induction B2 with
  | nil => intro A _; rfl
  | cons z B2 ih =>
    intro A h
    show mg lt (put lt (put lt A y) z) B2 = put lt (mg lt (put lt A z) B2) y
    rw [put_comm hs (h z (by simp)), ih _ (fun x hx => h x (by simp [hx]))]
theorem put_form (hs : Swo lt) {B : List α} (h : Srt lt B) (y : α) : ∃ B1 B2, B = B1 ++ B2 ∧ put lt B y = B1 ++ y :: B2 ∧ ∀ z ∈ B2, lt y z = true := by
  induction B with
  | nil => exact ⟨[], [], rfl, rfl, fun z hz => by cases hz⟩
  | cons x B ih =>
    obtain ⟨h1, h2⟩ := List.pairwise_cons.1 h
    by_cases hx : lt y x = true
    · refine ⟨[], x :: B, rfl, by rw [put, if_pos hx]; rfl, fun z hz => ?_⟩
      rcases List.mem_cons.1 hz with rfl | hz
      · exact hx
      · exact hs.lt_of hx (h1 z hz)
    · obtain ⟨B1, B2, e1, e2, e3⟩ := ih h2
      exact ⟨x :: B1, B2, by rw [e1]; rfl, by rw [put, if_neg hx, e2]; rfl, e3⟩
theorem mg_of_put (hs : Swo lt) {B : List α} (h : Srt lt B) (A : List α) (y : α) : mg lt A (put lt B y) = put lt (mg lt A B) y := by
  obtain ⟨B1, B2, e1, e2, e3⟩ := put_form hs h y
  rw [e2, e1]
  have h1 : mg lt A (B1 ++ y :: B2) = mg lt (put lt (mg lt A B1) y) B2 := by unfold mg; rw [List.foldl_append]; rfl
  have h2 : mg lt A (B1 ++ B2) = mg lt (mg lt A B1) B2 := by unfold mg; rw [List.foldl_append]
  rw [h1, h2, mg_put hs B2 _ e3]
theorem mg_sort (hs : Swo lt) (A R : List α) : mg lt A (sortBy lt R) = mg lt A R := by
  suffices h : ∀ R B : List α, Srt lt B → mg lt A (mg lt B R) = mg lt (mg lt A B) R from h R [] List.Pairwise.nil
  intro R
  induction R with
  | nil => intro B _; rfl
  | cons y R ih =>
    intro B hB
    show mg lt A (mg lt (put lt B y) R) = mg lt (put lt (mg lt A B) y) R
    rw [ih _ (put_srt hs hB y), mg_of_put hs hB]
/-- What is sorted in two parts and merged is sorted. -/
theorem sort_append (hs : Swo lt) (L R : List α) : sortBy lt (L ++ R) = mg lt (sortBy lt L) (sortBy lt R) := by
  rw [mg_sort hs]
  unfold sortBy mg
  rw [List.foldl_append]
theorem sort_snoc (l : List α) (y : α) : sortBy lt (l ++ [y]) = put lt (sortBy lt l) y := by unfold sortBy; rw [List.foldl_append]; rfl
/-- Blocks of B, each sorted. -/
def cs (lt : α → α → Bool) (B : Nat) : Nat → List α → List α
  | 0, _ => []
  | n + 1, l => if l.length ≤ B then sortBy lt l else sortBy lt (l.take B) ++ cs lt B n (l.drop B)
def blocks (lt : α → α → Bool) (B : Nat) (l : List α) : List α := cs lt B (l.length + 1) l
theorem cs_fuel {B : Nat} (hB : 0 < B) : ∀ (n m : Nat) (l : List α), l.length < n → l.length < m → cs lt B n l = cs lt B m l
  | 0, _, _, h, _ => absurd h (by omega)
  | _ + 1, 0, _, _, h => absurd h (by omega)
  | n + 1, m + 1, l, h1, h2 => by
    unfold cs
    split
    · rfl
    · rw [cs_fuel hB n m (l.drop B) (by rw [List.length_drop]; omega) (by rw [List.length_drop]; omega)]
theorem blocks_one {B : Nat} {l : List α} (h : l.length ≤ B) : blocks lt B l = sortBy lt l := by unfold blocks cs; rw [if_pos h]
theorem blocks_more {B : Nat} (hB : 0 < B) {l : List α} (h : B < l.length) : blocks lt B l = sortBy lt (l.take B) ++ blocks lt B (l.drop B) := by
  unfold blocks
  rw [show cs lt B (l.length + 1) l = if l.length ≤ B then sortBy lt l else sortBy lt (l.take B) ++ cs lt B l.length (l.drop B) from rfl, if_neg (by omega)]
  congr 1
  exact cs_fuel hB _ _ _ (by rw [List.length_drop]; omega) (by omega)
theorem blocks_len {B : Nat} (hB : 0 < B) : ∀ (n : Nat) (l : List α), l.length = n → (blocks lt B l).length = n := by
  intro n
  induction n using Nat.strongRecOn with
  | _ n ih =>
    intro l hl
    by_cases h : l.length ≤ B
    · rw [blocks_one h, sort_len, hl]
    · rw [blocks_more hB (by omega), List.length_append, sort_len, List.length_take, ih (l.drop B).length (by rw [List.length_drop]; omega) _ rfl, List.length_drop]
      omega
/-- Two blocks that stand ahead, merged: one of twice their length. -/
theorem blocks_two (hs : Swo lt) {B : Nat} (hB : 0 < B) {l : List α} (h : B < l.length) : ∃ X Y Z, blocks lt B l = X ++ Y ++ Z ∧ X.length = B ∧ Y.length = min B (l.length - B) ∧ Srt lt X ∧ Srt lt Y ∧
    blocks lt (2 * B) l = mg lt X Y ++ (if 2 * B < l.length then blocks lt (2 * B) (l.drop (2 * B)) else []) ∧ Z = (if 2 * B < l.length then blocks lt B (l.drop (2 * B)) else []) := by
  have e1 := blocks_more (lt := lt) hB h
  by_cases h2 : 2 * B < l.length
  · have h3 : B < (l.drop B).length := by rw [List.length_drop]; omega
    have e2 := blocks_more (lt := lt) hB h3
    have e3 := blocks_more (lt := lt) (B := 2 * B) (by omega) h2
    refine ⟨sortBy lt (l.take B), sortBy lt ((l.drop B).take B), blocks lt B (l.drop (2 * B)), ?_, ?_, ?_, sort_srt hs _, sort_srt hs _, ?_, by rw [if_pos h2]⟩
    · rw [e1, e2, List.drop_drop, show B + B = 2 * B by omega, List.append_assoc]
    · rw [sort_len, List.length_take]; omega
    · rw [sort_len, List.length_take, List.length_drop]
    · rw [e3, if_pos h2, ← sort_append hs]
      congr 2
      rw [show 2 * B = B + B by omega, List.take_add]
  · have h3 : (l.drop B).length ≤ B := by rw [List.length_drop]; omega
    refine ⟨sortBy lt (l.take B), sortBy lt (l.drop B), [], ?_, ?_, ?_, sort_srt hs _, sort_srt hs _, ?_, by rw [if_neg h2]⟩
    · rw [e1, blocks_one h3, List.append_nil]
    · rw [sort_len, List.length_take]; omega
    · rw [sort_len, List.length_drop]; omega
    · rw [blocks_one (by omega), if_neg h2, List.append_nil, ← sort_append hs, List.take_append_drop]
end Go.Proofs.Ytjegkddpaampmaa.Stab
namespace Go.Proofs.Ytjegkddpaampmaa.Ins
open Go.Sort Go.Proofs.Ytjegkddpaampmaa.Stab Go.Proofs.Ytjegkddpaampmaa.Swap
variable {α : Type} {lt : α → α → Bool}
theorem put_at {A B : List α} {x : α} (hA : ∀ y ∈ A, lt x y = false) (hB : ∀ y ∈ B, lt x y = true) : put lt (A ++ B) x = A ++ x :: B := by
  induction A with
  | nil =>
    cases B with
    | nil => rfl
    | cons b B => show (if lt x b = true then _ else _) = _; rw [if_pos (hB b (by simp))]; rfl
  | cons a A ih =>
    show (if lt x a = true then _ else _) = _
    rw [if_neg (by rw [hA a (by simp)]; exact Bool.false_ne_true)]
    exact congrArg (a :: ·) (ih (fun y h => hA y (by simp [h])))
theorem get_arr [Inhabited α] (l : List α) (i : Nat) : l.toArray[i]! = l[i]! := by
  by_cases h : i < l.length
  · rw [getElem!_pos l.toArray i (by simpa using h), getElem!_pos l i h]; rfl
  · rw [getElem!_neg l.toArray i (by simpa using h), getElem!_neg l i h]
theorem up_len (P L Q : List α) (x : α) (k : Nat) : (UpAt P L Q x k).length = P.length + L.length + Q.length + 1 := by
  unfold UpAt
  have := congrArg List.length (List.take_append_drop k L)
  simp only [List.length_append, List.length_cons] at this ⊢
  omega
theorem up_x [Inhabited α] (P L Q : List α) (x : α) {k : Nat} (h : k ≤ L.length) : (UpAt P L Q x k)[P.length + k]! = x := by
  have e : UpAt P L Q x k = (P ++ L.take k) ++ x :: (L.drop k ++ Q) := by unfold UpAt; simp
  rw [e]
  exact get_mid (by rw [List.length_append, List.length_take]; omega)
theorem up_y [Inhabited α] (P L Q : List α) (x : α) {k : Nat} (h : k < L.length) : (UpAt P L Q x (k + 1))[P.length + k]! = L[k] := by
  have h2 := List.take_succ_eq_append_getElem h
  have e : UpAt P L Q x (k + 1) = (P ++ L.take k) ++ L[k] :: (x :: (L.drop (k + 1) ++ Q)) := by
    unfold UpAt
    rw [h2]
    clear h2
    generalize L.take k = A
    generalize L[k] = y
    simp only [List.append_assoc, List.cons_append, List.nil_append]
  rw [e]
  exact get_mid (by rw [List.length_append, List.length_take]; omega)
theorem swp_toA [Inhabited α] (l : List α) (i j : Nat) (hi : i < l.length) (hj : j < l.length) : swp l.toArray i j = (swL l i j).toArray := by
  apply Array.ext'
  unfold swL
  simp [swp, get_arr]
theorem ins_down [Inhabited α] (hO : Swo lt) {P L Q : List α} {x : α} (hS : Srt lt L) : ∀ k, k ≤ L.length → (∀ y ∈ L.drop k, lt x y = true) → insInner lt P.length (P.length + k) (UpAt P L Q x k).toArray = (P ++ (put lt L x ++ Q)).toArray := by
  intro k
  induction k with
  | zero =>
    intro _ hB
    have hp : put lt L x = x :: L := put_at (A := []) (B := L) (fun y h => by cases h) hB
    rw [UpAt.start, hp]
    cases hn : P.length with
    | zero => rfl
    | succ n => show (if (n + 1 > n + 1 && _) = true then _ else _) = _; simp
  | succ k ih =>
    intro hk hB
    have hk1 : k < L.length := hk
    have hl := up_len P L Q x (k + 1)
    show (if (P.length + k + 1 > P.length && lt (UpAt P L Q x (k + 1)).toArray[P.length + k + 1]! (UpAt P L Q x (k + 1)).toArray[P.length + k]!) = true then insInner lt P.length (P.length + k) (swp (UpAt P L Q x (k + 1)).toArray (P.length + k + 1) (P.length + k)) else (UpAt P L Q x (k + 1)).toArray) = _
    have e1 : (UpAt P L Q x (k + 1)).toArray[P.length + k + 1]! = x := (get_arr _ _).trans (up_x P L Q x hk)
    have e2 : (UpAt P L Q x (k + 1)).toArray[P.length + k]! = L[k] := (get_arr _ _).trans (up_y P L Q x hk1)
    rw [e1, e2, swp_toA _ _ _ (by omega) (by omega), UpAt.down hk1]
    cases hc : lt x L[k]
    · rw [if_neg (by simp)]
      have hp : put lt (L.take (k + 1) ++ L.drop (k + 1)) x = L.take (k + 1) ++ x :: L.drop (k + 1) := by
        refine put_at (fun y hy => ?_) hB
        obtain ⟨i, hi, rfl⟩ := List.mem_iff_getElem.1 hy
        rw [List.getElem_take]
        have hi2 : i < k + 1 := by rw [List.length_take] at hi; omega
        by_cases he : i = k
        · subst he; exact hc
        · exact hO.ng hc (List.pairwise_iff_getElem.1 hS i k (by omega) hk1 (by omega))
      rw [List.take_append_drop] at hp
      rw [hp]
      unfold UpAt
      simp
    · rw [if_pos (by simp; omega)]
      refine ih (by omega) fun y hy => ?_
      rw [List.drop_eq_getElem_cons hk1] at hy
      rcases List.mem_cons.1 hy with rfl | hy
      · exact hc
      · exact hB y hy
theorem sort_snoc (l : List α) (x : α) : sortBy lt (l ++ [x]) = put lt (sortBy lt l) x := by unfold sortBy; rw [List.foldl_append]; rfl
theorem ins_outer [Inhabited α] (hO : Swo lt) {P B Q : List α} : ∀ m k, k + m = B.length → insOuter lt P.length (P.length + B.length) (P.length + k) (P ++ (sortBy lt (B.take k) ++ (B.drop k ++ Q))).toArray = (P ++ (sortBy lt B ++ Q)).toArray := by
  intro m
  induction m with
  | zero =>
    intro k hk
    have e : k = B.length := by omega
    subst e
    rw [insOuter, if_neg (by omega), List.take_length, List.drop_length, List.nil_append]
  | succ m ih =>
    intro k hk
    have hlt : k < B.length := by omega
    have h1 := List.drop_eq_getElem_cons hlt
    have h2 := List.take_succ_eq_append_getElem hlt
    have hl : (sortBy lt (B.take k)).length = k := by rw [sort_len, List.length_take]; omega
    have e1 : P ++ (sortBy lt (B.take k) ++ (B.drop k ++ Q)) = UpAt P (sortBy lt (B.take k)) (B.drop (k + 1) ++ Q) B[k] (sortBy lt (B.take k)).length := by
      rw [UpAt.end_, h1]; rfl
    have e2 := ins_down hO (P := P) (L := sortBy lt (B.take k)) (Q := B.drop (k + 1) ++ Q) (x := B[k]) (sort_srt hO _) (sortBy lt (B.take k)).length (Nat.le_refl _) (by rw [List.drop_length]; intro y h; cases h)
    rw [← e1, hl, ← sort_snoc, ← h2] at e2
    rw [insOuter, if_pos (by omega), e2]
    exact ih (k + 1) (by omega)
theorem ins_sort [Inhabited α] (hO : Swo lt) (P B Q : List α) : insertionSort lt (P ++ (B ++ Q)).toArray P.length (P.length + B.length) = (P ++ (sortBy lt B ++ Q)).toArray := by
  unfold insertionSort
  cases B with
  | nil => rw [insOuter, if_neg (by simp)]; rfl
  | cons b B => exact ins_outer hO (P := P) (B := b :: B) (Q := Q) B.length 1 (by simp; omega)
end Go.Proofs.Ytjegkddpaampmaa.Ins
namespace Go.Proofs.Ytjegkddpaampmaa.Symm
open Go.Proofs.Ytjegkddpaampmaa.Stab Go.Proofs.Ytjegkddpaampmaa.Swap Go.Proofs.Ytjegkddpaampmaa.Ins
variable {α : Type} {lt : α → α → Bool}
theorem mg_app (hs : Swo lt) : ∀ (B A : List α), Srt lt (A ++ B) → mg lt A B = A ++ B := by
  intro B
  induction B with
  | nil => intro A _; simp [mg]
  | cons y B ih =>
    intro A h
    have hy : ∀ x ∈ A, lt y x = false := fun x hx => (List.pairwise_append.1 h).2.2 x hx y (by simp)
    have e : put lt A y = A ++ [y] := by have := put_split (lt := lt) (L1 := A) (L2 := []) (y := y) hy (fun x hx => by cases hx); simpa using this
    show mg lt (put lt A y) B = _
    rw [e, ih (A ++ [y]) (by simpa using h)]
    simp
theorem mg_nil (hs : Swo lt) {R : List α} (h : Srt lt R) : mg lt [] R = R := mg_app hs R [] h
theorem srt_id (hs : Swo lt) {l : List α} (h : Srt lt l) : sortBy lt l = l := mg_nil hs h
theorem srt_get [Inhabited α] (hs : Swo lt) {l : List α} (h : Srt lt l) {i j : Nat} (hij : i ≤ j) (hj : j < l.length) : lt l[j]! l[i]! = false := by
  rw [getElem!_pos l j hj, getElem!_pos l i (by omega)]
  by_cases e : i = j
  · subst e; exact hs.irr _
  · exact List.pairwise_iff_getElem.1 h i j (by omega) hj (by omega)
theorem mem_take_get [Inhabited α] {l : List α} {u : Nat} {x : α} (h : x ∈ l.take u) : ∃ i, i < u ∧ i < l.length ∧ x = l[i]! := by
  obtain ⟨i, hi, rfl⟩ := List.mem_iff_getElem.1 h
  rw [List.length_take] at hi
  exact ⟨i, by omega, by omega, by rw [List.getElem_take, getElem!_pos l i (by omega)]⟩
theorem mem_drop_get [Inhabited α] {l : List α} {u : Nat} {x : α} (h : x ∈ l.drop u) : ∃ i, u ≤ i ∧ i < l.length ∧ x = l[i]! := by
  obtain ⟨i, hi, rfl⟩ := List.mem_iff_getElem.1 h
  rw [List.length_drop] at hi
  exact ⟨u + i, by omega, by omega, by rw [List.getElem_drop, getElem!_pos l (u + i) (by omega)]⟩
/-- The cut. -/
theorem cut_mg [Inhabited α] (hs : Swo lt) {L R : List α} (hL : Srt lt L) (hR : Srt lt R) {u v : Nat} (hu : u ≤ L.length) (hv : v ≤ R.length)
    (h2 : u = 0 ∨ v = R.length ∨ lt R[v]! L[u - 1]! = false) (h1 : u = L.length ∨ v = 0 ∨ lt R[v - 1]! L[u]! = true) :
    mg lt L R = mg lt (L.take u) (R.take v) ++ mg lt (L.drop u) (R.drop v) := by
  have e : mg lt L R = mg lt (L.take u ++ L.drop u) (R.take v ++ R.drop v) := by rw [List.take_append_drop, List.take_append_drop]
  rw [e]
  refine mg_split (fun y hy x hx => ?_) (fun y hy x hx => ?_) (fun y hy x hx => ?_)
  · obtain ⟨i, hi, hi2, rfl⟩ := mem_take_get hy
    obtain ⟨j, hj, hj2, rfl⟩ := mem_drop_get hx
    rcases h1 with h1 | h1 | h1
    · omega
    · omega
    · have a1 := srt_get hs hR (i := i) (j := v - 1) (by omega) (by omega)
      have a2 := srt_get hs hL (i := u) (j := j) (by omega) (by omega)
      exact hs.lt_of (hs.lt_of2 a1 h1) a2
  · obtain ⟨i, hi, hi2, rfl⟩ := mem_drop_get hy
    obtain ⟨j, hj, hj2, rfl⟩ := mem_take_get hx
    rcases h2 with h2 | h2 | h2
    · omega
    · omega
    · have a1 := srt_get hs hR (i := v) (j := i) (by omega) (by omega)
      have a2 := srt_get hs hL (i := j) (j := u - 1) (by omega) (by omega)
      exact hs.ng (hs.ng a1 h2) a2
  · obtain ⟨i, hi, hi2, rfl⟩ := mem_drop_get hy
    obtain ⟨j, hj, hj2, rfl⟩ := mem_take_get hx
    exact srt_get hs hR (by omega) hi2
theorem srt_take {l : List α} (h : Srt lt l) (u : Nat) : Srt lt (l.take u) := List.Pairwise.sublist (List.take_sublist _ _) h
theorem srt_drop {l : List α} (h : Srt lt l) (u : Nat) : Srt lt (l.drop u) := List.Pairwise.sublist (List.drop_sublist _ _) h
/-- One in front of a row, merged: it stands behind those that are less. -/
theorem one_mg [Inhabited α] (hs : Swo lt) {x : α} {R : List α} (hR : Srt lt R) {v : Nat} (hv : v ≤ R.length) (h1 : v = 0 ∨ lt R[v - 1]! x = true) (h2 : v = R.length ∨ lt R[v]! x = false) :
    mg lt [x] R = R.take v ++ x :: R.drop v := by
  have hx : Srt lt [x] := List.pairwise_singleton _ _
  rw [cut_mg hs hx hR (u := 0) (v := v) (by simp) hv (.inl rfl) (h1.elim (fun h => .inr (.inl h)) (fun h => .inr (.inr h)))]
  have e1 : mg lt ([x].take 0) (R.take v) = R.take v := mg_nil hs (srt_take hR v)
  have e2 : mg lt ([x].drop 0) (R.drop v) = x :: R.drop v := by
    rw [List.drop_zero, cut_mg hs hx (srt_drop hR v) (u := 1) (v := 0) (by simp) (by simp) (by
      rcases h2 with h2 | h2
      · exact .inr (.inl (by simp; omega))
      · by_cases hl : v = R.length
        · exact .inr (.inl (by simp; omega))
        · refine .inr (.inr ?_)
          rw [getElem!_pos (R.drop v) 0 (by rw [List.length_drop]; omega), List.getElem_drop, ← getElem!_pos R (v + 0) (by omega)]
          exact h2) (.inl rfl)]
    show mg lt [x] [] ++ mg lt [] (R.drop v) = _
    rw [mg_nil hs (srt_drop hR v)]
    rfl
  rw [e1, e2]
/-- One behind a row, merged. -/
theorem two_mg [Inhabited α] (hs : Swo lt) {y : α} {L : List α} (hL : Srt lt L) {u : Nat} (hu : u ≤ L.length) (h1 : u = 0 ∨ lt y L[u - 1]! = false) (h2 : u = L.length ∨ lt y L[u]! = true) :
    mg lt L [y] = L.take u ++ y :: L.drop u := by
  show put lt L y = _
  have e := put_at (lt := lt) (A := L.take u) (B := L.drop u) (x := y) (fun z hz => by
    obtain ⟨i, hi, hi2, rfl⟩ := mem_take_get hz
    rcases h1 with h1 | h1
    · omega
    · exact hs.ng h1 (srt_get hs hL (i := i) (j := u - 1) (by omega) (by omega))) (fun z hz => by
    obtain ⟨i, hi, hi2, rfl⟩ := mem_drop_get hz
    rcases h2 with h2 | h2
    · omega
    · exact hs.lt_of h2 (srt_get hs hL (i := u) (j := i) (by omega) (by omega)))
  rwa [List.take_append_drop] at e
/-- Two sorted rows L and R, side by side in d from a on, m between them, b behind. -/
structure Pair (lt : α → α → Bool) (P L R Q d : List α) (a m b : Nat) : Prop where
  ed : d = P ++ (L ++ (R ++ Q))
  ea : P.length = a
  em : a + L.length = m
  eb : m + R.length = b
  sl : Srt lt L
  sr : Srt lt R
theorem get_first [Inhabited α] (P S : List α) {i k : Nat} (h : P.length + i = k) : (P ++ S)[k]! = S[i]! := by
  subst h
  by_cases hi : i < S.length
  · rw [getElem!_pos _ _ (by simp; omega), getElem!_pos S i hi, List.getElem_append_right (by omega)]
    simp
  · rw [getElem!_neg _ _ (by simp; omega), getElem!_neg S i hi]
theorem get_in [Inhabited α] (L S : List α) {i : Nat} (h : i < L.length) : (L ++ S)[i]! = L[i]! := by
  rw [getElem!_pos _ _ (by simp; omega), getElem!_pos L i h, List.getElem_append_left h]
theorem Pair.getL [Inhabited α] {P L R Q d : List α} {a m b : Nat} (h : Pair lt P L R Q d a m b) {k i : Nat} (hk : a + i = k) (hi : i < L.length) : d[k]! = L[i]! := by
  rw [h.ed, get_first P _ (by have := h.ea; omega : P.length + i = k), get_in _ _ hi]
theorem Pair.getR [Inhabited α] {P L R Q d : List α} {a m b : Nat} (h : Pair lt P L R Q d a m b) {k i : Nat} (hk : m + i = k) (hi : i < R.length) : d[k]! = R[i]! := by
  rw [h.ed, show P ++ (L ++ (R ++ Q)) = (P ++ L) ++ (R ++ Q) by simp, get_first (P ++ L) _ (by have := h.ea; have := h.em; simp; omega : (P ++ L).length + i = k), get_in _ _ hi]
theorem Pair.len {P L R Q d : List α} {a m b : Nat} (h : Pair lt P L R Q d a m b) : b + Q.length = d.length := by
  have := h.ea; have := h.em; have := h.eb; rw [h.ed]; simp; omega
/-- Where the search in the second row ended: the one goes up through those that are less. -/
theorem Pair.one [Inhabited α] (hs : Swo lt) {P L R Q d : List α} {a m b i : Nat} (h : Pair lt P L R Q d a m b) (hm : m = a + 1) (hi : m ≤ i) (hib : i ≤ b) (h1 : i = m ∨ lt d[i - 1]! d[a]! = true) (h2 : i = b ∨ lt d[i]! d[a]! = false) :
    ∃ x M T, d = UpAt P M T x 0 ∧ P ++ (mg lt L R ++ Q) = UpAt P M T x M.length ∧ M.length = i - m ∧ d.length = P.length + 1 + M.length + T.length := by
  have hl : L.length = 1 := by have := h.em; omega
  obtain ⟨x, rfl⟩ : ∃ x, L = [x] := by
    match L, hl with
    | [x], _ => exact ⟨x, rfl⟩
  have ea : d[a]! = x := h.getL (i := 0) (by omega) (by simp)
  have hb := h.eb
  have hRl := h.eb
  have e := one_mg hs (x := x) h.sr (v := i - m) (by omega) (by
    rcases h1 with h1 | h1
    · exact .inl (by omega)
    · by_cases hz : i = m
      · exact .inl (by omega)
      · refine .inr ?_
        rw [ea, h.getR (i := i - m - 1) (by omega) (by omega)] at h1
        exact h1) (by
    rcases h2 with h2 | h2
    · exact .inl (by omega)
    · by_cases hz : i = b
      · exact .inl (by omega)
      · refine .inr ?_
        rw [ea, h.getR (i := i - m) (by omega) (by omega)] at h2
        exact h2)
  have eL : (R.take (i - m)).length = i - m := by rw [List.length_take]; omega
  refine ⟨x, R.take (i - m), R.drop (i - m) ++ Q, ?_, ?_, eL, ?_⟩
  · rw [UpAt.start, h.ed]
    have : R.take (i - m) ++ (R.drop (i - m) ++ Q) = R ++ Q := by rw [← List.append_assoc, List.take_append_drop]
    rw [this]; rfl
  · rw [UpAt.end_, e]; simp
  · rw [h.ed, eL]; simp; omega
/-- Where the search in the first row ended: the one goes down through those that are greater. -/
theorem Pair.two [Inhabited α] (hs : Swo lt) {P L R Q d : List α} {a m b i : Nat} (h : Pair lt P L R Q d a m b) (hm : b = m + 1) (hi : a ≤ i) (hib : i ≤ m) (h1 : i = a ∨ lt d[m]! d[i - 1]! = false) (h2 : i = m ∨ lt d[m]! d[i]! = true) :
    ∃ y U M T, d = UpAt U M T y M.length ∧ P ++ (mg lt L R ++ Q) = UpAt U M T y 0 ∧ U.length = i ∧ M.length = m - i ∧ d.length = U.length + 1 + M.length + T.length := by
  have hl : R.length = 1 := by have := h.eb; omega
  obtain ⟨y, rfl⟩ : ∃ x, R = [x] := by
    match R, hl with
    | [x], _ => exact ⟨x, rfl⟩
  have ea : d[m]! = y := h.getR (i := 0) (by omega) (by simp)
  have hM := h.em
  have hA := h.ea
  have e := two_mg hs (y := y) h.sl (u := i - a) (by omega) (by
    rcases h1 with h1 | h1
    · exact .inl (by omega)
    · by_cases hz : i = a
      · exact .inl (by omega)
      · refine .inr ?_
        rw [ea, h.getL (i := i - a - 1) (by omega) (by omega)] at h1
        exact h1) (by
    rcases h2 with h2 | h2
    · exact .inl (by omega)
    · by_cases hz : i = m
      · exact .inl (by omega)
      · refine .inr ?_
        rw [ea, h.getL (i := i - a) (by omega) (by omega)] at h2
        exact h2)
  have eL : (L.drop (i - a)).length = m - i := by rw [List.length_drop]; omega
  have eU : (P ++ L.take (i - a)).length = i := by rw [List.length_append, List.length_take]; omega
  refine ⟨y, P ++ L.take (i - a), L.drop (i - a), Q, ?_, ?_, eU, eL, ?_⟩
  · rw [UpAt.end_, h.ed, ← List.append_assoc (P ++ L.take (i - a)), List.append_assoc P, List.take_append_drop]
    simp
  · rw [UpAt.start, e]; simp
  · rw [h.ed, eU, eL]; simp; omega
/-- Where the search of the cut ended. -/
theorem Pair.cut [Inhabited α] (hs : Swo lt) {P L R Q d : List α} {a m b s mid e : Nat} (h : Pair lt P L R Q d a m b) (hmid : mid = (a + b) / 2) (hse : s + e = mid + m) (ha : a ≤ s) (hm : s ≤ m) (hsm : s ≤ mid) (heb : e ≤ b)
    (h1 : s = a ∨ e = b ∨ lt d[e]! d[s - 1]! = false) (h2 : s = m ∨ e = m ∨ lt d[e - 1]! d[s]! = true) :
    ∃ L1 L2 R1 R2, d = (P ++ L1) ++ (L2 ++ (R1 ++ (R2 ++ Q))) ∧ (P ++ L1).length = s ∧ s + L2.length = m ∧ m + R1.length = e ∧ mg lt L R = mg lt L1 R1 ++ mg lt L2 R2 ∧ (mg lt L1 R1).length + a = mid ∧ e + R2.length = b ∧
      Srt lt L1 ∧ Srt lt L2 ∧ Srt lt R1 ∧ Srt lt R2 ∧ a + L1.length = s ∧ s + R1.length = mid ∧ mid + L2.length = e := by
  have hA := h.ea
  have hM := h.em
  have hB := h.eb
  have lu : (L.take (s - a)).length = s - a := by rw [List.length_take]; omega
  have ld : (L.drop (s - a)).length = m - s := by rw [List.length_drop]; omega
  have ru : (R.take (e - m)).length = e - m := by rw [List.length_take]; omega
  have rd : (R.drop (e - m)).length = b - e := by rw [List.length_drop]; omega
  refine ⟨L.take (s - a), L.drop (s - a), R.take (e - m), R.drop (e - m), ?_, by rw [List.length_append, lu]; omega, by rw [ld]; omega, by rw [ru]; omega, ?_, by rw [mg_len, lu, ru]; omega, by rw [rd]; omega, srt_take h.sl _, srt_drop h.sl _, srt_take h.sr _, srt_drop h.sr _, by rw [lu]; omega, by rw [ru]; omega, by rw [ld]; omega⟩
  · have x1 : L.drop (s - a) ++ (R.take (e - m) ++ (R.drop (e - m) ++ Q)) = L.drop (s - a) ++ (R ++ Q) := by rw [← List.append_assoc (R.take _), List.take_append_drop]
    rw [x1, List.append_assoc P, ← List.append_assoc (L.take _), List.take_append_drop]
    exact h.ed
  · refine cut_mg hs h.sl h.sr (by omega) (by omega) ?_ ?_
    · rcases h1 with h1 | h1 | h1
      · exact .inl (by omega)
      · exact .inr (.inl (by omega))
      · by_cases z1 : s = a
        · exact .inl (by omega)
        by_cases z2 : e = b
        · exact .inr (.inl (by omega))
        refine .inr (.inr ?_)
        rw [h.getR (i := e - m) (by omega) (by omega), h.getL (i := s - a - 1) (by omega) (by omega)] at h1
        exact h1
    · rcases h2 with h2 | h2 | h2
      · exact .inl (by omega)
      · exact .inr (.inl (by omega))
      · by_cases z1 : s = m
        · exact .inl (by omega)
        by_cases z2 : e = m
        · exact .inr (.inl (by omega))
        refine .inr (.inr ?_)
        rw [h.getR (i := e - m - 1) (by omega) (by omega), h.getL (i := s - a) (by omega) (by omega)] at h2
        exact h2
end Go.Proofs.Ytjegkddpaampmaa.Symm
namespace Go.Proofs.Ytjegkddpaampmaa.Stab
variable {α : Type} {lt : α → α → Bool}
theorem blocks_nil (B : Nat) : blocks lt B ([] : List α) = [] := by rw [blocks_one (Nat.zero_le _)]; rfl
theorem blocks_step {B : Nat} (hB : 0 < B) {X : List α} (h : B ≤ X.length) : blocks lt B X = sortBy lt (X.take B) ++ blocks lt B (X.drop B) := by
  by_cases e : X.length = B
  · rw [blocks_one (by omega), List.drop_eq_nil_of_le (by omega), List.take_of_length_le (by omega), blocks_nil, List.append_nil]
  · exact blocks_more hB (by omega)
/-- How a pass of insertions stands: P is done, X is as it was. -/
structure InsAt (lt : α → α → Bool) (l : List α) (B a : Nat) (P X : List α) : Prop where
  p : P.length = a
  x : a + X.length = l.length
  e : blocks lt B l = P ++ blocks lt B X
theorem InsAt.start (l : List α) (B : Nat) : InsAt lt l B 0 [] l := ⟨rfl, by simp, rfl⟩
theorem InsAt.next {l : List α} {B a : Nat} {P X : List α} (h : InsAt lt l B a P X) (hB : 0 < B) (hb : a + B ≤ l.length) :
    (X.take B).length = B ∧ InsAt lt l B (a + B) (P ++ sortBy lt (X.take B)) (X.drop B) := by
  have hx := h.x
  have ht : (X.take B).length = B := by rw [List.length_take]; omega
  refine ⟨ht, by rw [List.length_append, sort_len, ht, h.p], by rw [List.length_drop]; omega, ?_⟩
  rw [h.e, blocks_step hB (by omega), List.append_assoc]
theorem InsAt.end_ {l : List α} {B a : Nat} {P X : List α} (h : InsAt lt l B a P X) (hb : l.length < a + B) : blocks lt B l = P ++ sortBy lt X := by
  have hx := h.x
  rw [h.e, blocks_one (by omega)]
/-- How a pass of merges stands. -/
structure MgAt (lt : α → α → Bool) (l : List α) (B a : Nat) (P X : List α) : Prop where
  p : P.length = a
  x : a + X.length = l.length
  e : blocks lt (2 * B) l = P ++ blocks lt (2 * B) X
theorem MgAt.start (l : List α) (B : Nat) : MgAt lt l B 0 [] l := ⟨rfl, by simp, rfl⟩
theorem MgAt.len {l : List α} {B a : Nat} {P X : List α} (h : MgAt lt l B a P X) (hB : 0 < B) : (P ++ blocks lt B X).length = l.length := by
  rw [List.length_append, blocks_len hB _ _ rfl, h.p, h.x]
theorem MgAt.next (hs : Swo lt) {l : List α} {B a : Nat} {P X : List α} (h : MgAt lt l B a P X) (hB : 0 < B) (hb : a + 2 * B ≤ l.length) :
    ∃ L R, P ++ blocks lt B X = P ++ (L ++ (R ++ blocks lt B (X.drop (2 * B)))) ∧ L.length = B ∧ R.length = B ∧ Srt lt L ∧ Srt lt R ∧
      P ++ (mg lt L R ++ blocks lt B (X.drop (2 * B))) = (P ++ mg lt L R) ++ blocks lt B (X.drop (2 * B)) ∧ MgAt lt l B (a + 2 * B) (P ++ mg lt L R) (X.drop (2 * B)) := by
  have hx := h.x
  obtain ⟨L, R, Z, e1, l1, l2, s1, s2, e2, e3⟩ := blocks_two hs hB (l := X) (by omega)
  have hZ : Z = blocks lt B (X.drop (2 * B)) := by
    rw [e3]
    split
    · rfl
    · rw [List.drop_eq_nil_of_le (by omega), blocks_nil]
  have hY : (if 2 * B < X.length then blocks lt (2 * B) (X.drop (2 * B)) else []) = blocks lt (2 * B) (X.drop (2 * B)) := by
    split
    · rfl
    · rw [List.drop_eq_nil_of_le (by omega), blocks_nil]
  rw [hY] at e2
  refine ⟨L, R, by rw [e1, hZ, List.append_assoc], l1, by omega, s1, s2, by rw [List.append_assoc], ⟨?_, ?_, ?_⟩⟩
  · rw [List.length_append, mg_len, h.p, l1, l2]; omega
  · rw [List.length_drop]; omega
  · rw [h.e, e2, List.append_assoc]
theorem MgAt.last (hs : Swo lt) {l : List α} {B a : Nat} {P X : List α} (h : MgAt lt l B a P X) (hB : 0 < B) (hb : l.length < a + 2 * B) (hm : a + B < l.length) :
    ∃ L R, P ++ blocks lt B X = P ++ (L ++ (R ++ [])) ∧ L.length = B ∧ a + B + R.length = l.length ∧ Srt lt L ∧ Srt lt R ∧ P ++ (mg lt L R ++ []) = blocks lt (2 * B) l := by
  have hx := h.x
  obtain ⟨L, R, Z, e1, l1, l2, s1, s2, e2, e3⟩ := blocks_two hs hB (l := X) (by omega)
  rw [if_neg (by omega)] at e2 e3
  refine ⟨L, R, by rw [e1, e3, List.append_assoc], l1, by omega, s1, s2, by rw [h.e, e2]⟩
theorem MgAt.rest {l : List α} {B a : Nat} {P X : List α} (h : MgAt lt l B a P X) (hm : ¬ a + B < l.length) : P ++ blocks lt B X = blocks lt (2 * B) l := by
  have hx := h.x
  rw [h.e, blocks_one (by omega), blocks_one (by omega)]
end Go.Proofs.Ytjegkddpaampmaa.Stab
