/-
  The plain mathematics of the library's stable sort: its passes over blocks.
-/
import Derived.Test.YtkoadlgjehmkcaaSymm
namespace Go.Proofs.Ytkoadlgjehmkcaa.Stab
variable {α : Type} {lt : α → α → Bool}
theorem blocks_nil (B : Nat) : blocks lt B ([] : List α) = [] := by rw [blocks_one (Nat.zero_le _)]; rfl
theorem blocks_step {B : Nat} (hB : 0 < B) {X : List α} (h : B ≤ X.length) : blocks lt B X = sortBy lt (X.take B) ++ blocks lt B (X.drop B) := by
  by_cases e : X.length = B
  · rw [blocks_one (by omega), List.drop_eq_nil_of_le (by omega), List.take_of_length_le (by omega), blocks_nil, List.append_nil]
  · exact blocks_more hB (by omega)
/-- How a pass of insertions stands: P is done, X is as it was. -/
structure InsAt (lt : α → α → Bool) (l : List α) (B a : Nat) (P X : List α) : Prop where
  p : P.length = a
  x : a + X.length = l.length
  e : blocks lt B l = P ++ blocks lt B X
theorem InsAt.start (l : List α) (B : Nat) : InsAt lt l B 0 [] l := ⟨rfl, by simp, rfl⟩
theorem InsAt.next {l : List α} {B a : Nat} {P X : List α} (h : InsAt lt l B a P X) (hB : 0 < B) (hb : a + B ≤ l.length) :
    (X.take B).length = B ∧ InsAt lt l B (a + B) (P ++ sortBy lt (X.take B)) (X.drop B) := by
  have hx := h.x
  have ht : (X.take B).length = B := by rw [List.length_take]; omega
  refine ⟨ht, by rw [List.length_append, sort_len, ht, h.p], by rw [List.length_drop]; omega, ?_⟩
  rw [h.e, blocks_step hB (by omega), List.append_assoc]
theorem InsAt.end_ {l : List α} {B a : Nat} {P X : List α} (h : InsAt lt l B a P X) (hb : l.length < a + B) : blocks lt B l = P ++ sortBy lt X := by
  have hx := h.x
  rw [h.e, blocks_one (by omega)]
/-- How a pass of merges stands. -/
structure MgAt (lt : α → α → Bool) (l : List α) (B a : Nat) (P X : List α) : Prop where
  p : P.length = a
  x : a + X.length = l.length
  e : blocks lt (2 * B) l = P ++ blocks lt (2 * B) X
theorem MgAt.start (l : List α) (B : Nat) : MgAt lt l B 0 [] l := ⟨rfl, by simp, rfl⟩
theorem MgAt.len {l : List α} {B a : Nat} {P X : List α} (h : MgAt lt l B a P X) (hB : 0 < B) : (P ++ blocks lt B X).length = l.length := by
  rw [List.length_append, blocks_len hB _ _ rfl, h.p, h.x]
theorem MgAt.next (hs : Swo lt) {l : List α} {B a : Nat} {P X : List α} (h : MgAt lt l B a P X) (hB : 0 < B) (hb : a + 2 * B ≤ l.length) :
    ∃ L R, P ++ blocks lt B X = P ++ (L ++ (R ++ blocks lt B (X.drop (2 * B)))) ∧ L.length = B ∧ R.length = B ∧ Srt lt L ∧ Srt lt R ∧
      P ++ (mg lt L R ++ blocks lt B (X.drop (2 * B))) = (P ++ mg lt L R) ++ blocks lt B (X.drop (2 * B)) ∧ MgAt lt l B (a + 2 * B) (P ++ mg lt L R) (X.drop (2 * B)) := by
  have hx := h.x
  obtain ⟨L, R, Z, e1, l1, l2, s1, s2, e2, e3⟩ := blocks_two hs hB (l := X) (by omega)
  have hZ : Z = blocks lt B (X.drop (2 * B)) := by
    rw [e3]
    split
    · rfl
    · rw [List.drop_eq_nil_of_le (by omega), blocks_nil]
  have hY : (if 2 * B < X.length then blocks lt (2 * B) (X.drop (2 * B)) else []) = blocks lt (2 * B) (X.drop (2 * B)) := by
    split
    · rfl
    · rw [List.drop_eq_nil_of_le (by omega), blocks_nil]
  rw [hY] at e2
  refine ⟨L, R, by rw [e1, hZ, List.append_assoc], l1, by omega, s1, s2, by rw [List.append_assoc], ⟨?_, ?_, ?_⟩⟩
  · rw [List.length_append, mg_len, h.p, l1, l2]; omega
  · rw [List.length_drop]; omega
  · rw [h.e, e2, List.append_assoc]
theorem MgAt.last (hs : Swo lt) {l : List α} {B a : Nat} {P X : List α} (h : MgAt lt l B a P X) (hB : 0 < B) (hb : l.length < a + 2 * B) (hm : a + B < l.length) :
    ∃ L R, P ++ blocks lt B X = P ++ (L ++ (R ++ [])) ∧ L.length = B ∧ a + B + R.length = l.length ∧ Srt lt L ∧ Srt lt R ∧ P ++ (mg lt L R ++ []) = blocks lt (2 * B) l := by
  have hx := h.x
  obtain ⟨L, R, Z, e1, l1, l2, s1, s2, e2, e3⟩ := blocks_two hs hB (l := X) (by omega)
  rw [if_neg (by omega)] at e2 e3
  refine ⟨L, R, by rw [e1, e3, List.append_assoc], l1, by omega, s1, s2, by rw [h.e, e2]⟩
theorem MgAt.rest {l : List α} {B a : Nat} {P X : List α} (h : MgAt lt l B a P X) (hm : ¬ a + B < l.length) : P ++ blocks lt B X = blocks lt (2 * B) l := by
  have hx := h.x
  rw [h.e, blocks_one (by omega), blocks_one (by omega)]
end Go.Proofs.Ytkoadlgjehmkcaa.Stab
