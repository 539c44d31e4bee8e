/-
  The plain mathematics of the library's stable sort: putting in place, merging, the cut of a symmetric merge, blocks that are sorted each.
-/
import Derived.Below
namespace Go.Proofs.Ytkoadlgjehmkcaa.Stab
variable {α : Type}
/-- A strict weak order, as a test. -/
structure Swo (lt : α → α → Bool) : Prop where
  irr : ∀ a, lt a a = false
  tr : ∀ {a b c}, lt a b = true → lt b c = true → lt a c = true
  ng : ∀ {a b c}, lt a b = false → lt b c = false → lt a c = false
theorem Swo.asym {lt : α → α → Bool} (h : Swo lt) {a b : α} (hab : lt a b = true) : lt b a = false := by
  cases hb : lt b a
  · rfl
  · have := h.tr hab hb; rw [h.irr] at this; cases this
theorem Swo.lt_of {lt : α → α → Bool} (h : Swo lt) {a b c : α} (hab : lt a b = true) (hcb : lt c b = false) : lt a c = true := by
  cases hc : lt a c
  · have := h.ng hc hcb; rw [hab] at this; cases this
  · rfl
theorem Swo.lt_of2 {lt : α → α → Bool} (h : Swo lt) {a b c : α} (hba : lt b a = false) (hbc : lt b c = true) : lt a c = true := by
  cases hc : lt a c
  · have := h.ng hba hc; rw [hbc] at this; cases this
  · rfl
section
variable (lt : α → α → Bool)
/-- One put in front of the first one that it is less than, or behind all. -/
def put : List α → α → List α
  | [], y => [y]
  | x :: l, y => if lt y x = true then y :: x :: l else x :: put l y
def sortBy (l : List α) : List α := l.foldl (put lt) []
/-- Two rows as one: the second one's put into the first one, one by one. -/
def mg (A B : List α) : List α := B.foldl (put lt) A
def Srt (l : List α) : Prop := l.Pairwise fun x y => lt y x = false
end
variable {lt : α → α → Bool}
theorem put_len (l : List α) (y : α) : (put lt l y).length = l.length + 1 := by
  induction l with
  | nil => rfl
  | cons x l ih => unfold put; split <;> simp [ih]
theorem mg_len (B : List α) : ∀ A : List α, (mg lt A B).length = A.length + B.length := by
  induction B with
  | nil => intro A; rfl
  | cons y B ih => intro A; show (mg lt (put lt A y) B).length = _; rw [ih, put_len, List.length_cons]; omega
theorem sort_len (l : List α) : (sortBy lt l).length = l.length := by have := mg_len (lt := lt) l []; simpa [mg, sortBy] using this
theorem put_mem {l : List α} {y x : α} (h : x ∈ put lt l y) : x = y ∨ x ∈ l := by
  induction l with
  | nil => simp [put] at h; exact .inl h
  | cons e l ih =>
    unfold put at h
    split at h
    · rcases List.mem_cons.1 h with h | h
      · exact .inl h
      · exact .inr h
    · rcases List.mem_cons.1 h with h | h
      · exact .inr (by simp [h])
      · rcases ih h with h | h
        · exact .inl h
        · exact .inr (by simp [h])
theorem mg_mem {B : List α} : ∀ {A : List α} {x : α}, x ∈ mg lt A B → x ∈ A ∨ x ∈ B := by
  induction B with
  | nil => intro A x h; exact .inl h
  | cons y B ih =>
    intro A x h
    rcases ih (show x ∈ mg lt (put lt A y) B from h) with h | h
    · rcases put_mem h with rfl | h
      · exact .inr (by simp)
      · exact .inl h
    · exact .inr (by simp [h])
theorem put_srt (hs : Swo lt) {l : List α} (h : Srt lt l) (y : α) : Srt lt (put lt l y) := by
  induction l with
  | nil => exact List.pairwise_singleton _ _
  | cons e l ih =>
    obtain ⟨h1, h2⟩ := List.pairwise_cons.1 h
    unfold put
    split
    · rename_i hy
      refine List.pairwise_cons.2 ⟨fun z hz => ?_, h⟩
      rcases List.mem_cons.1 hz with rfl | hz
      · exact hs.asym hy
      · exact hs.ng (h1 z hz) (hs.asym hy)
    · rename_i hy
      refine List.pairwise_cons.2 ⟨fun z hz => ?_, ih h2⟩
      rcases put_mem hz with rfl | hz
      · simpa using hy
      · exact h1 z hz
theorem mg_srt (hs : Swo lt) (B : List α) : ∀ {A : List α}, Srt lt A → Srt lt (mg lt A B) := by
  induction B with
  | nil => intro A h; exact h
  | cons y B ih => intro A h; exact ih (put_srt hs h y)
theorem sort_srt (hs : Swo lt) (l : List α) : Srt lt (sortBy lt l) := mg_srt hs l List.Pairwise.nil
/-- Where one is put. -/
theorem put_split {L1 L2 : List α} {y : α} (h1 : ∀ x ∈ L1, lt y x = false) (h2 : ∀ x, L2.head? = some x → lt y x = true) : put lt (L1 ++ L2) y = L1 ++ y :: L2 := by
  induction L1 with
  | nil =>
    cases L2 with
    | nil => rfl
    | cons x l => show put lt (x :: l) y = _; unfold put; rw [if_pos (h2 x rfl)]; rfl
  | cons x l ih =>
    rw [List.cons_append]
    unfold put
    rw [if_neg (by rw [h1 x (by simp)]; decide), ih (fun z hz => h1 z (by simp [hz]))]
    rfl
theorem put_front {L1 L2 : List α} {y : α} (h2 : ∀ x, L2.head? = some x → lt y x = true) : put lt (L1 ++ L2) y = put lt L1 y ++ L2 := by
  induction L1 with
  | nil =>
    cases L2 with
    | nil => rfl
    | cons x l => show put lt (x :: l) y = _; unfold put; rw [if_pos (h2 x rfl)]; rfl
  | cons x l ih =>
    rw [List.cons_append]
    unfold put
    split
    · rfl
    · rw [ih]; rfl
theorem put_back {L1 L2 : List α} {y : α} (h1 : ∀ x ∈ L1, lt y x = false) : put lt (L1 ++ L2) y = L1 ++ put lt L2 y := by
  induction L1 with
  | nil => rfl
  | cons x l ih =>
    have e : put lt (x :: (l ++ L2)) y = x :: put lt (l ++ L2) y := by rw [put, if_neg (by rw [h1 x (by simp)]; decide)]
    rw [List.cons_append, e, ih (fun z hz => h1 z (by simp [hz]))]
    rfl
theorem mg_front {L2 : List α} (R : List α) : ∀ (L1 : List α), (∀ y ∈ R, ∀ x, L2.head? = some x → lt y x = true) → mg lt (L1 ++ L2) R = mg lt L1 R ++ L2 := by
  induction R with
  | nil => intro L1 _; rfl
  | cons y R ih =>
    intro L1 h
    show mg lt (put lt (L1 ++ L2) y) R = mg lt (put lt L1 y) R ++ L2
    rw [put_front (h y (by simp)), ih _ (fun z hz => h z (by simp [hz]))]
theorem mg_back {M : List α} (R : List α) : ∀ (L2 : List α), (∀ y ∈ R, ∀ x ∈ M, lt y x = false) → mg lt (M ++ L2) R = M ++ mg lt L2 R := by
  induction R with
  | nil => intro L2 _; rfl
  | cons y R ih =>
    intro L2 h
    show mg lt (put lt (M ++ L2) y) R = M ++ mg lt (put lt L2 y) R
    rw [put_back (h y (by simp)), ih _ (fun z hz => h z (by simp [hz]))]
/-- The cut of two rows: what is merged in two parts. -/
theorem mg_split {L1 L2 R1 R2 : List α} (h1 : ∀ y ∈ R1, ∀ x ∈ L2, lt y x = true) (h2 : ∀ y ∈ R2, ∀ x ∈ L1, lt y x = false) (h3 : ∀ y ∈ R2, ∀ x ∈ R1, lt y x = false) :
    mg lt (L1 ++ L2) (R1 ++ R2) = mg lt L1 R1 ++ mg lt L2 R2 := by
  have e : mg lt (L1 ++ L2) (R1 ++ R2) = mg lt (mg lt (L1 ++ L2) R1) R2 := by unfold mg; rw [List.foldl_append]
  rw [e, mg_front R1 L1 (fun y hy x hx => h1 y hy x (List.mem_of_head? hx)), mg_back R2 L2 (fun y hy x hx => by
    rcases mg_mem hx with hx | hx
    · exact h2 y hy x hx
    · exact h3 y hy x hx)]
theorem put_comm (hs : Swo lt) {y z : α} (h : lt y z = true) (A : List α) : put lt (put lt A y) z = put lt (put lt A z) y := by
  have hzy := hs.asym h
  induction A with
  | nil =>
    show put lt [y] z = put lt [z] y
    unfold put
    rw [if_neg (by rw [hzy]; decide), if_pos h]
    rfl
  | cons x A ih =>
    by_cases hx : lt y x = true
    · have e1 : put lt (x :: A) y = y :: x :: A := by unfold put; rw [if_pos hx]
      have e2 : put lt (y :: x :: A) z = y :: put lt (x :: A) z := by rw [put, if_neg (by rw [hzy]; decide)]
      rw [e1, e2]
      by_cases hz : lt z x = true
      · have e3 : put lt (x :: A) z = z :: x :: A := by unfold put; rw [if_pos hz]
        rw [e3, put, if_pos h]
      · have e3 : put lt (x :: A) z = x :: put lt A z := by rw [put, if_neg hz]
        rw [e3, put, if_pos hx]
    · have hz : ¬ lt z x = true := fun hz => hx (hs.tr h hz)
      have e1 : put lt (x :: A) y = x :: put lt A y := by rw [put, if_neg hx]
      have e2 : put lt (x :: A) z = x :: put lt A z := by rw [put, if_neg hz]
      rw [e1, e2, put, if_neg hz, put, if_neg hx, ih]
theorem mg_put (hs : Swo lt) {y : α} (B2 : List α) : ∀ (A : List α), (∀ z ∈ B2, lt y z = true) → mg lt (put lt A y) B2 = put lt (mg lt A B2) y := by
  induction B2 with
  | nil => intro A _; rfl
  | cons z B2 ih =>
    intro A h
    show mg lt (put lt (put lt A y) z) B2 = put lt (mg lt (put lt A z) B2) y
    rw [put_comm hs (h z (by simp)), ih _ (fun x hx => h x (by simp [hx]))]
theorem put_form (hs : Swo lt) {B : List α} (h : Srt lt B) (y : α) : ∃ B1 B2, B = B1 ++ B2 ∧ put lt B y = B1 ++ y :: B2 ∧ ∀ z ∈ B2, lt y z = true := by
  induction B with
  | nil => exact ⟨[], [], rfl, rfl, fun z hz => by cases hz⟩
  | cons x B ih =>
    obtain ⟨h1, h2⟩ := List.pairwise_cons.1 h
    by_cases hx : lt y x = true
    · refine ⟨[], x :: B, rfl, by rw [put, if_pos hx]; rfl, fun z hz => ?_⟩
      rcases List.mem_cons.1 hz with rfl | hz
      · exact hx
      · exact hs.lt_of hx (h1 z hz)
    · obtain ⟨B1, B2, e1, e2, e3⟩ := ih h2
      exact ⟨x :: B1, B2, by rw [e1]; rfl, by rw [put, if_neg hx, e2]; rfl, e3⟩
theorem mg_of_put (hs : Swo lt) {B : List α} (h : Srt lt B) (A : List α) (y : α) : mg lt A (put lt B y) = put lt (mg lt A B) y := by
  obtain ⟨B1, B2, e1, e2, e3⟩ := put_form hs h y
  rw [e2, e1]
  have h1 : mg lt A (B1 ++ y :: B2) = mg lt (put lt (mg lt A B1) y) B2 := by unfold mg; rw [List.foldl_append]; rfl
  have h2 : mg lt A (B1 ++ B2) = mg lt (mg lt A B1) B2 := by unfold mg; rw [List.foldl_append]
  rw [h1, h2, mg_put hs B2 _ e3]
theorem mg_sort (hs : Swo lt) (A R : List α) : mg lt A (sortBy lt R) = mg lt A R := by
  suffices h : ∀ R B : List α, Srt lt B → mg lt A (mg lt B R) = mg lt (mg lt A B) R from h R [] List.Pairwise.nil
  intro R
  induction R with
  | nil => intro B _; rfl
  | cons y R ih =>
    intro B hB
    show mg lt A (mg lt (put lt B y) R) = mg lt (put lt (mg lt A B) y) R
    rw [ih _ (put_srt hs hB y), mg_of_put hs hB]
/-- What is sorted in two parts and merged is sorted. -/
theorem sort_append (hs : Swo lt) (L R : List α) : sortBy lt (L ++ R) = mg lt (sortBy lt L) (sortBy lt R) := by
  rw [mg_sort hs]
  unfold sortBy mg
  rw [List.foldl_append]
theorem sort_snoc (l : List α) (y : α) : sortBy lt (l ++ [y]) = put lt (sortBy lt l) y := by unfold sortBy; rw [List.foldl_append]; rfl
/-- Blocks of B, each sorted. -/
def cs (lt : α → α → Bool) (B : Nat) : Nat → List α → List α
  | 0, _ => []
  | n + 1, l => if l.length ≤ B then sortBy lt l else sortBy lt (l.take B) ++ cs lt B n (l.drop B)
def blocks (lt : α → α → Bool) (B : Nat) (l : List α) : List α := cs lt B (l.length + 1) l
theorem cs_fuel {B : Nat} (hB : 0 < B) : ∀ (n m : Nat) (l : List α), l.length < n → l.length < m → cs lt B n l = cs lt B m l
  | 0, _, _, h, _ => absurd h (by omega)
  | _ + 1, 0, _, _, h => absurd h (by omega)
  | n + 1, m + 1, l, h1, h2 => by
    unfold cs
    split
    · rfl
    · rw [cs_fuel hB n m (l.drop B) (by rw [List.length_drop]; omega) (by rw [List.length_drop]; omega)]
theorem blocks_one {B : Nat} {l : List α} (h : l.length ≤ B) : blocks lt B l = sortBy lt l := by unfold blocks cs; rw [if_pos h]
theorem blocks_more {B : Nat} (hB : 0 < B) {l : List α} (h : B < l.length) : blocks lt B l = sortBy lt (l.take B) ++ blocks lt B (l.drop B) := by
  unfold blocks
  rw [show cs lt B (l.length + 1) l = if l.length ≤ B then sortBy lt l else sortBy lt (l.take B) ++ cs lt B l.length (l.drop B) from rfl, if_neg (by omega)]
  congr 1
  exact cs_fuel hB _ _ _ (by rw [List.length_drop]; omega) (by omega)
theorem blocks_len {B : Nat} (hB : 0 < B) : ∀ (n : Nat) (l : List α), l.length = n → (blocks lt B l).length = n := by
  intro n
  induction n using Nat.strongRecOn with
  | _ n ih =>
    intro l hl
    by_cases h : l.length ≤ B
    · rw [blocks_one h, sort_len, hl]
    · rw [blocks_more hB (by omega), List.length_append, sort_len, List.length_take, ih (l.drop B).length (by rw [List.length_drop]; omega) _ rfl, List.length_drop]
      omega
/-- Two blocks that stand ahead, merged: one of twice their length. -/
theorem blocks_two (hs : Swo lt) {B : Nat} (hB : 0 < B) {l : List α} (h : B < l.length) : ∃ X Y Z, blocks lt B l = X ++ Y ++ Z ∧ X.length = B ∧ Y.length = min B (l.length - B) ∧ Srt lt X ∧ Srt lt Y ∧
    blocks lt (2 * B) l = mg lt X Y ++ (if 2 * B < l.length then blocks lt (2 * B) (l.drop (2 * B)) else []) ∧ Z = (if 2 * B < l.length then blocks lt B (l.drop (2 * B)) else []) := by
  have e1 := blocks_more (lt := lt) hB h
  by_cases h2 : 2 * B < l.length
  · have h3 : B < (l.drop B).length := by rw [List.length_drop]; omega
    have e2 := blocks_more (lt := lt) hB h3
    have e3 := blocks_more (lt := lt) (B := 2 * B) (by omega) h2
    refine ⟨sortBy lt (l.take B), sortBy lt ((l.drop B).take B), blocks lt B (l.drop (2 * B)), ?_, ?_, ?_, sort_srt hs _, sort_srt hs _, ?_, by rw [if_pos h2]⟩
    · rw [e1, e2, List.drop_drop, show B + B = 2 * B by omega, List.append_assoc]
    · rw [sort_len, List.length_take]; omega
    · rw [sort_len, List.length_take, List.length_drop]
    · rw [e3, if_pos h2, ← sort_append hs]
      congr 2
      rw [show 2 * B = B + B by omega, List.take_add]
  · have h3 : (l.drop B).length ≤ B := by rw [List.length_drop]; omega
    refine ⟨sortBy lt (l.take B), sortBy lt (l.drop B), [], ?_, ?_, ?_, sort_srt hs _, sort_srt hs _, ?_, by rw [if_neg h2]⟩
    · rw [e1, blocks_one h3, List.append_nil]
    · rw [sort_len, List.length_take]; omega
    · rw [sort_len, List.length_drop]; omega
    · rw [blocks_one (by omega), if_neg h2, List.append_nil, ← sort_append hs, List.take_append_drop]
end Go.Proofs.Ytkoadlgjehmkcaa.Stab
