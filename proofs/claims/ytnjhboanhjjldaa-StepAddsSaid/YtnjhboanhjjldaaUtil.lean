/-
  Small plain lemmas that lack: induction from a list's end.
-/
import Derived.Below
namespace Go.Proofs.Ytnjhboanhjjldaa.Util
theorem snoc_ind {α : Type} {p : List α → Prop} (h0 : p []) (hs : ∀ l a, p l → p (l ++ [a])) : ∀ l, p l := by
  suffices h : ∀ (n : Nat) (l : List α), l.length = n → p l from fun l => h _ l rfl
  intro n
  induction n with
  | zero => intro l hl; rw [List.eq_nil_of_length_eq_zero hl]; exact h0
  | succ n ih =>
    intro l hl
    have hne : l ≠ [] := fun e => by rw [e] at hl; simp at hl
    rw [← List.dropLast_concat_getLast hne]
    exact hs _ _ (ih _ (by simp; omega))
end Go.Proofs.Ytnjhboanhjjldaa.Util
