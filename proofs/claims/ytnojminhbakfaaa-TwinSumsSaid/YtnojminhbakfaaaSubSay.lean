/-
  What layer 12's functions answer: the posts that the law texts name.
-/
import Derived.Test.YtnojminhbakfaaaSubRefC
namespace Go.Proofs.Ytnojminhbakfaaa.SubWalk
open Go.RowKit Go.Proofs.Ytnojminhbakfaaa.SubPlain Go.Proofs.Ytnojminhbakfaaa.Mem Go.Proofs.Ytnojminhbakfaaa.SubRef
def TrueIs (w : World) (e : Ending) (w' : World) : Prop := e = .returned (.bool true) ∧ Below w.heap.size w w'
def IntsFit (l : List Int) : Prop := ∀ x ∈ l, -9223372036854775808 ≤ x ∧ x ≤ 9223372036854775807
/-- Bools in memory. -/
def BoolsAt (n : Nat) (f : Nat → Bool) (w : World) (v : Value) : Prop := ∃ A c, v = .slice A n c ∧ n ≤ c ∧ Cells w A n (fun i => .bool (f i))
theorem BoolsAt.below {n : Nat} {f : Nat → Bool} {w w' : World} {v : Value} (h : BoolsAt n f w v) (hb : Below w.heap.size w w') : BoolsAt n f w' v := by
  obtain ⟨A, c, e, hc, hA⟩ := h
  exact ⟨A, c, e, hc, hA.below hb⟩
def bad (ws : List Int) (room : Int) : Bool := !mayW ws || decide (room < 0) || decide (256 < room)
def bestL (ws : List Int) (room : Int) : List Int := if bad ws room = true then [] else placesB ws.length (bestB ws room)
def bestN (ws : List Int) (room : Int) : Int := if bad ws room = true then 0 else tot ws (bestB ws room)
def badE (ws : List Int) (room : Int) : Int := if bad ws room = true then 1 else 0
def reachN (ws : List Int) (room : Int) : Nat := if bad ws room = true then 0 else (room + 1).toNat
def BestSays (ws : List Int) (room : Int) (w : World) (e : Ending) (w' : World) : Prop := ∃ u, e = .returned (.tuple #[u, .int .i64 (bestN ws room), .int .i64 (badE ws room)]) ∧ IntsAt (bestL ws room) w' u ∧ FreshV w.heap.size u ∧ Below w.heap.size w w'
def ReachSays (ws : List Int) (room : Int) (w : World) (e : Ending) (w' : World) : Prop := ∃ u, e = .returned (.tuple #[u, .int .i64 (badE ws room)]) ∧ BoolsAt (reachN ws room) (fun i => reachB ws (i : Int)) w' u ∧ FreshV w.heap.size u ∧ Below w.heap.size w w'
def totalN (ws ps : List Int) : Int := if okP ws ps = true then sumP ws ps else 0
def TotalSays (ws ps : List Int) (w : World) (e : Ending) (w' : World) : Prop := e = .returned (.tuple #[.int .i64 (totalN ws ps), .bool (okP ws ps)]) ∧ Below w.heap.size w w'
theorem bad_ways (ws : List Int) (room : Int) : (mayW ws = false ∧ bad ws room = true) ∨ (mayW ws = true ∧ decide (room < 0) = true ∧ bad ws room = true) ∨ (mayW ws = true ∧ decide (room < 0) = false ∧ decide (256 < room) = true ∧ bad ws room = true) ∨ (mayW ws = true ∧ decide (room < 0) = false ∧ decide (256 < room) = false ∧ bad ws room = false) := by
  unfold bad
  cases mayW ws <;> cases decide (room < 0) <;> cases decide (256 < room) <;> simp
theorem ex_bad : bad [3, 5, 2] 7 = false := by decide +kernel
theorem ex_l : bestL [3, 5, 2] 7 = [1, 2] := by unfold bestL; rw [ex_bad, if_neg (by decide), ex_best]; exact ex_places
theorem ex_n : bestN [3, 5, 2] 7 = 7 := by unfold bestN; rw [ex_bad, if_neg (by decide), ex_best]; exact ex_tot
theorem ex_e : badE [3, 5, 2] 7 = 0 := by unfold badE; rw [ex_bad, if_neg (by decide)]
end Go.Proofs.Ytnojminhbakfaaa.SubWalk
