/-
  What layer 13's functions answer: the posts that the law texts name.
-/
import Derived.Test.YtnojminhbakfaaaTwnRefB
import Derived.Test.YtnojminhbakfaaaSubSay
namespace Go.Proofs.Ytnojminhbakfaaa.TwnWalk
open Go.RowKit Go.Proofs.Ytnojminhbakfaaa.SubPlain Go.Proofs.Ytnojminhbakfaaa.ApiPlain Go.Proofs.Ytnojminhbakfaaa.TwnPlain Go.Proofs.Ytnojminhbakfaaa.Mem Go.Proofs.Ytnojminhbakfaaa.ApiMem Go.Proofs.Ytnojminhbakfaaa.SubRef Go.Proofs.Ytnojminhbakfaaa.TwnRef Go.Proofs.Ytnojminhbakfaaa.SubWalk
def ItmsFit (l : List Itm) : Prop := ∀ x ∈ l, -9223372036854775808 ≤ x.width ∧ x.width ≤ 9223372036854775807
def BoolB (b : Bool) (w : World) (e : Ending) (w' : World) : Prop := e = .returned (.bool b) ∧ Below w.heap.size w w'
def badT (l : List Itm) (room long : Int) : Bool := !mayT l || decide (room < 0) || decide (256 < room) || decide (long < 0) || decide (256 < long)
def bestLT (l : List Itm) (room long : Int) : List Int := if badT l room long = true then [] else placesB l.length (bestI l room long)
def bestNT (l : List Itm) (room long : Int) : Int := if badT l room long = true then 0 else tot (wsOf l) (bestI l room long)
def badET (l : List Itm) (room long : Int) : Int := if badT l room long = true then 1 else 0
def TBestSays (l : List Itm) (room long : Int) (w : World) (e : Ending) (w' : World) : Prop := ∃ u, e = .returned (.tuple #[u, .int .i64 (bestNT l room long), .int .i64 (badET l room long)]) ∧ IntsAt (bestLT l room long) w' u ∧ FreshV w.heap.size u ∧ Below w.heap.size w w'
def sumA (l : List Itm) (ps : List Int) : Int := if okT l ps = true then sumP (wsOf l) ps else 0
def sumB (l : List Itm) (ps : List Int) : Int := if okT l ps = true then sumP (lsOf l) ps else 0
def SumsSays (l : List Itm) (ps : List Int) (w : World) (e : Ending) (w' : World) : Prop := e = .returned (.tuple #[.int .i64 (sumA l ps), .int .i64 (sumB l ps), .bool (okT l ps)]) ∧ Below w.heap.size w w'
theorem badT_ways (l : List Itm) (room long : Int) : (mayT l = false ∧ badT l room long = true) ∨ (mayT l = true ∧ decide (room < 0) = true ∧ badT l room long = true) ∨ (mayT l = true ∧ decide (room < 0) = false ∧ decide (256 < room) = true ∧ badT l room long = true) ∨
    (mayT l = true ∧ decide (room < 0) = false ∧ decide (256 < room) = false ∧ decide (long < 0) = true ∧ badT l room long = true) ∨ (mayT l = true ∧ decide (room < 0) = false ∧ decide (256 < room) = false ∧ decide (long < 0) = false ∧ decide (256 < long) = true ∧ badT l room long = true) ∨
    (mayT l = true ∧ decide (room < 0) = false ∧ decide (256 < room) = false ∧ decide (long < 0) = false ∧ decide (256 < long) = false ∧ badT l room long = false) := by
  unfold badT
  cases mayT l <;> cases decide (room < 0) <;> cases decide (256 < room) <;> cases decide (long < 0) <;> cases decide (256 < long) <;> simp
theorem badT_l {l : List Itm} {room long : Int} (h : badT l room long = true) : bestLT l room long = [] ∧ bestNT l room long = 0 ∧ badET l room long = 1 := by
  unfold bestLT bestNT badET
  rw [if_pos h, if_pos h, if_pos h]
  exact ⟨rfl, rfl, rfl⟩
theorem goodT_l {l : List Itm} {room long : Int} (h : badT l room long = false) : bestLT l room long = placesB l.length (bestI l room long) ∧ bestNT l room long = tot (wsOf l) (bestI l room long) ∧ badET l room long = 0 := by
  unfold bestLT bestNT badET
  rw [if_neg (by rw [h]; decide), if_neg (by rw [h]; decide), if_neg (by rw [h]; decide)]
  exact ⟨rfl, rfl, rfl⟩
def exL : List Itm := [⟨3, true⟩, ⟨3, false⟩]
theorem ex_badT : badT exL 6 2 = false := by decide +kernel
theorem ex_lT : bestLT exL 6 2 = [1] := by rw [(goodT_l ex_badT).1, show bestI exL 6 2 = 1 from ex_bestI]; exact ex_placesI
theorem ex_nT : bestNT exL 6 2 = 3 := by rw [(goodT_l ex_badT).2.1, show bestI exL 6 2 = 1 from ex_bestI]; exact ex_totI
theorem ex_eT : badET exL 6 2 = 0 := (goodT_l ex_badT).2.2
theorem may_lenT {l : List Itm} (h : 32 < l.length) : mayT l = false := by
  cases hm : mayT l
  · rfl
  · have := (mayT_all hm).2; omega
end Go.Proofs.Ytnojminhbakfaaa.TwnWalk
