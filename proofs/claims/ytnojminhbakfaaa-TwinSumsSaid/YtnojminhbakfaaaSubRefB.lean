/-
  The walks of the document's answers for layer 12: Best, Places; layer 1's Same.
-/
import Derived.Test.YtnojminhbakfaaaSubRefA
namespace Go.Proofs.Ytnojminhbakfaaa.SubRef
open Go.RowKit Go.Proofs.Ytnojminhbakfaaa.SubPlain Go.Proofs.Ytnojminhbakfaaa.Mem
theorem bestTo_le (ws : List Int) (room : Int) : ∀ B, bestTo ws room B ≤ B
  | 0 => Nat.le_refl _
  | B + 1 => by
    have h := bestTo_le ws room B
    show (if takesB ws room B (bestTo ws room B) = true then B else bestTo ws room B) ≤ B + 1
    split <;> omega
theorem takes_ways (ws : List Int) (room : Int) (b best : Nat) : (decide (tot ws b ≤ room) = false ∧ takesB ws room b best = false) ∨ (decide (tot ws b ≤ room) = true ∧ decide (tot ws best ≤ tot ws b) = false ∧ takesB ws room b best = false) ∨
    (decide (tot ws b ≤ room) = true ∧ decide (tot ws best ≤ tot ws b) = true ∧ takesB ws room b best = true) := by
  unfold takesB
  cases decide (tot ws b ≤ room) <;> cases decide (tot ws best ≤ tot ws b) <;> simp
theorem bestTo_step (ws : List Int) (room : Int) (B : Nat) : bestTo ws room (B + 1) = if takesB ws room B (bestTo ws room B) = true then B else bestTo ws room B := rfl
end Go.Proofs.Ytnojminhbakfaaa.SubRef
